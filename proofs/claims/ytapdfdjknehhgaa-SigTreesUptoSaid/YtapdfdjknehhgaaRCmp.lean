/- The reference's order and Compare. -/
import Derived.Test.YtapdfdjknehhgaaCmp
import Derived.Test.YtapdfdjknehhgaaSn
import Derived.Deep.CutRange
import Derived.Deep.RegionHeld3
import Derived.Deep.QuietTactic
import Derived.BigQuiet
namespace Go.Proofs.Ytapdfdjknehhgaa
open Go.RowKit Go.Tr

theorem order_any (x y : Int) (w : World) : Calls Try.prog 58 #[.int .i64 x, .int .i64 y] w fun e w' => e = .returned (.int .i64 (cmpI x y)) ∧ w' = w := by
  unfold cmpI
  by_cases h1 : x < y
  · rw [if_pos h1]
    go_enter Try.func58, Try.ntmps58
    go_wp2
    go_ret
    exact ⟨rfl, rfl⟩
  · rw [if_neg h1]
    by_cases h2 : y < x
    · rw [if_pos h2]
      have h3 : y ≤ x := by omega
      clear h1
      go_enter Try.func58, Try.ntmps58
      go_wp2
      go_ret
      exact ⟨rfl, rfl⟩
    · rw [if_neg h2]
      have h3 : x = y := by omega
      subst h3
      clear h1 h2
      go_enter Try.func58, Try.ntmps58
      go_wp2
      go_ret
      exact ⟨rfl, rfl⟩
theorem order_is {x y n : Int} (h : cmpI x y = n) (w : World) : Calls Try.prog 58 #[.int .i64 x, .int .i64 y] w fun e w' => e = .returned (.int .i64 n) ∧ w' = w := by
  have := order_any x y w
  rw [h] at this; exact this
set_option maxRecDepth 100000 in
set_option maxHeartbeats 1000000 in
theorem rcompare_n (N : Nat) : ∀ a, sz a ≤ N → ∀ b va vb w, TrV w (· < w.heap.size) a va → TrV w (· < w.heap.size) b vb →
    Calls Try.prog 20 #[va, vb] w fun e w' => e = .returned (.int .i64 (cmpT a b)) ∧ Below w.heap.size w w' := by
  induction N with
  | zero => intro a h; have := sz_pos a; omega
  | succ N ih =>
    intro a hN b va vb w ha hb
    obtain ⟨sa, rfl, -, -, hsa⟩ := trV_iff.1 ha
    obtain ⟨oa, ca, ba, qa, rfl, hla, hma, hoa, hea⟩ := trS_at hsa
    obtain ⟨sb, rfl, -, -, hsb⟩ := trV_iff.1 hb
    obtain ⟨ob, cb, bb, qb, rfl, hlb, hmb, hob, heb⟩ := trS_at hsb
    have HA := Lib.hid (And.intro hoa hea)
    have HB := Lib.hid (And.intro hob heb)
    have IH := Lib.hid ih
    have hsz := sz_l a
    have HZ := Lib.hid (And.intro hN hsz)
    have HC := Lib.hid (cmpT_h a b)
    clear ha hb hsa hsb hoa hea hob heb ih hN hsz
    go_enter Try.func20, Try.ntmps20
    go_upto_region 1 with fail
    generalize hW : (w.alloc _).alloc _ = w0
    have hbw : Below w.heap.size w w0 := by rw [← hW]; exact bA (bA (bZ w) _) _
    have h0 : Has w0 w.heap.size (.cells #[.int .i64 a.k, .int .i64 a.n, .slice oa a.l.length ca] 24) := by rw [← hW]; show _ = _; (simp only [heap_alloc, alloc_size]; repeat (first | rw [if_pos trivial] | rw [if_pos (by omega)] | rw [if_neg (by omega)]))
    have h1 : Has w0 (w.heap.size + 1) (.cells #[.int .i64 b.k, .int .i64 b.n, .slice ob b.l.length cb] 24) := by rw [← hW]; show _ = _; (simp only [heap_alloc, alloc_size]; repeat (first | rw [if_pos trivial] | rw [if_pos (by omega)] | rw [if_neg (by omega)]))
    clear hW
    generalize w.heap.size + 1 = pb at h1 ⊢
    have HQ := Lib.hid (show ∀ W, Below w0.heap.size w0 W → W.cell? ⟨w.heap.size, 0, none⟩ = some (.int .i64 a.k) ∧ W.cell? ⟨w.heap.size, 1, none⟩ = some (.int .i64 a.n) ∧ W.cell? ⟨w.heap.size, 2, none⟩ = some (.slice oa a.l.length ca) ∧ W.cell? ⟨pb, 0, none⟩ = some (.int .i64 b.k) ∧ W.cell? ⟨pb, 1, none⟩ = some (.int .i64 b.n) ∧ W.cell? ⟨pb, 2, none⟩ = some (.slice ob b.l.length cb) from fun W hW => by
      have r0 := has_call hW h0
      have r1 := has_call hW h1
      exact ⟨(cells_of r0 0).1, (cells_of r0 1).1, (cells_of r0 2).1, (cells_of r1 0).1, (cells_of r1 1).1, (cells_of r1 2).1⟩)
    clear h0 h1
    generalize hpa : w.heap.size = pa at HQ ⊢
    have HW := Lib.hid (And.intro hbw hpa)
    clear hbw hpa
    obtain ⟨s0, s1, s2, s3, s4, s5⟩ := HQ.out _ (bZ w0)
    obtain ⟨c1, hc1⟩ : ∃ c, cmpI a.k b.k = c := ⟨_, rfl⟩
    obtain ⟨c2, hc2⟩ : ∃ c, cmpI a.n b.n = c := ⟨_, rfl⟩
    obtain ⟨c3, hc3⟩ : ∃ c, cmpI a.l.length b.l.length = c := ⟨_, rfl⟩
    obtain ⟨c4, hc4⟩ : ∃ c, (if c1 ≠ 0 then c1 else c2) = c := ⟨_, rfl⟩
    obtain ⟨c5, hc5⟩ : ∃ c, (if c4 ≠ 0 then c4 else c3) = c := ⟨_, rfl⟩
    have hh : cmpH a.k a.n a.l.length b.k b.n b.l.length = c5 := by
      unfold cmpH
      rw [hc1, hc2, hc3, ← hc5, ← hc4]
      by_cases e1 : c1 = 0 <;> by_cases e2 : c2 = 0 <;> simp [e1, e2]
    have hr1 := cmpI_range a.k b.k
    have hr2 := cmpI_range a.n b.n
    have hr3 := cmpI_range a.l.length b.l.length
    have hlz : c5 = 0 → a.l.length = b.l.length := by
      intro h
      have h3 := cmpI_zero a.l.length b.l.length
      rw [hc3] at h3
      rw [← hc5] at h
      split at h
      · omega
      · have := h3.1 h; omega
    have hr5 : -1 ≤ c5 ∧ c5 ≤ 1 := by
      rw [hc1] at hr1; rw [hc2] at hr2; rw [hc3] at hr3
      rw [← hc5, ← hc4]
      split <;> (try split) <;> omega
    have HC5 := Lib.hid (And.intro (show cmpT a b = if c5 ≠ 0 then c5 else cmpL a.l b.l by rw [HC.out, hh]) (And.intro hlz hr5))
    have HO := Lib.hid (And.intro hc1 (And.intro hc2 (And.intro hc3 (And.intro hc4 hc5))))
    clear hc1 hc2 hc3 hc4 hc5 hh hr1 hr2 hr3 hlz hr5
    go_upto_if 13 with (go_at_call 58; refine (order_is HO.out.1 _).mono ?_; rintro e w1 ⟨rfl, hw1⟩; have hw1' := hw1.symm; subst hw1')
    go_cut [5] from 7 to 18 (fun c wx => c = .int .i64 c4 ∧ Hid (wx = w0))
    case first =>
      have h4 := HO.out.2.2.2.1
      by_cases e1 : c1 = 0
      · rw [if_neg (by simp [e1])] at h4
        subst h4
        go_wp2_with (go_at_call 58; refine (order_is HO.out.2.1 _).mono ?_; rintro e w1 ⟨rfl, hw1⟩; have hw1' := hw1.symm; subst hw1')
        go_meet
        exact ⟨rfl, rfl⟩
      · rw [if_pos e1] at h4
        subst h4
        go_wp2_with fail
        go_meet
        exact ⟨rfl, rfl⟩
    case rest =>
      obtain ⟨rfl, hwc⟩ := hcut
      have hwc2 := hwc.out.symm
      subst hwc2
      go_upto_if 20 with fail
      go_cut [5] from 7 to 27 (fun c wx => c = .int .i64 c5 ∧ Hid (wx = w0))
      case first =>
        have h5 := HO.out.2.2.2.2
        by_cases e1 : c4 = 0
        · rw [if_neg (by simp [e1])] at h5
          subst h5
          go_wp2_with (go_at_call 58; refine (order_is HO.out.2.2.1 _).mono ?_; rintro e w1 ⟨rfl, hw1⟩; have hw1' := hw1.symm; subst hw1')
          go_meet
          exact ⟨rfl, rfl⟩
        · rw [if_pos e1] at h5
          subst h5
          go_wp2_with fail
          go_meet
          exact ⟨rfl, rfl⟩
      case rest =>
        obtain ⟨rfl, hwc⟩ := hcut
        have hwc2 := hwc.out.symm
        subst hwc2
        clear s0 s1 s2 s3 s4 s5
        go_wp2_with fail
        go_loopw [5, 6] (fun cv i wr => ∃ (j : Nat) (cj : Int), j ≤ a.l.length ∧ i = .int .i64 j ∧ cv = .int .i64 cj ∧ Hid (cmpT a b = (if cj ≠ 0 then cj else cmpL (a.l.drop j) (b.l.drop j)) ∧ (cj = 0 → a.l.length = b.l.length) ∧ (-1 ≤ cj ∧ cj ≤ 1) ∧ Below w0.heap.size w0 wr)) (fun _ i _ => a.l.length - (intOf i).toNat)
        case atStart => exact ⟨0, c5, by omega, rfl, rfl, HC5.out.1, HC5.out.2.1, HC5.out.2.2, bZ w0⟩
        case round =>
          obtain ⟨j, cj, hj, rfl, rfl, HR⟩ := hrel
          obtain ⟨s0, s1, s2, s3, s4, s5⟩ := HQ.out _ HR.out.2.2.2
          by_cases hz : cj = 0
          · subst hz
            by_cases hlt : j < a.l.length
            · have hle := HR.out.2.1 rfl
              have hltb : j < b.l.length := by omega
              obtain ⟨rfl, hQa⟩ := HA.out.1 (by omega)
              obtain ⟨rfl, hQb⟩ := HB.out.1 (by omega)
              obtain ⟨oa2, ca2, e0, e1, e2, e3⟩ := HA.out.2 j hlt
              obtain ⟨ob2, cb2, f0, f1, f2, f3⟩ := HB.out.2 j hltb
              have HX := Lib.hid (show ∀ W, Below wr.heap.size wr W → (W.cell? ⟨pa, 2, none⟩ = some (.slice (some ⟨ba, qa, none⟩) a.l.length ca) ∧ W.cell? ⟨pb, 2, none⟩ = some (.slice (some ⟨bb, qb, none⟩) b.l.length cb) ∧ W.cell? ⟨ba, qa + j * 3, none⟩ = some (.int .i64 a.l[j].k) ∧ W.cell? ⟨ba, qa + j * 3 + 1, none⟩ = some (.int .i64 a.l[j].n) ∧ W.cell? ⟨ba, qa + j * 3 + 2, none⟩ = some (.slice oa2 a.l[j].l.length ca2) ∧ W.cell? ⟨bb, qb + j * 3, none⟩ = some (.int .i64 b.l[j].k) ∧ W.cell? ⟨bb, qb + j * 3 + 1, none⟩ = some (.int .i64 b.l[j].n) ∧ W.cell? ⟨bb, qb + j * 3 + 2, none⟩ = some (.slice ob2 b.l[j].l.length cb2)) ∧ TrV W (· < W.heap.size) a.l[j] (.agg #[.int .i64 a.l[j].k, .int .i64 a.l[j].n, .slice oa2 a.l[j].l.length ca2]) ∧ TrV W (· < W.heap.size) b.l[j] (.agg #[.int .i64 b.l[j].k, .int .i64 b.l[j].n, .slice ob2 b.l[j].l.length cb2]) from fun W hW => by
                have hw0 := below_next HR.out.2.2.2 hW
                have hww := below_next HW.out.1 hw0
                obtain ⟨-, -, r2, -, -, r5⟩ := HQ.out _ hw0
                have k1 := hww.block ba hQa
                have k2 := hww.block bb hQb
                exact ⟨⟨r2, r5, (World.cell?_of_block (a := ⟨ba, qa + j * 3, none⟩) k1).trans e0, (World.cell?_of_block (a := ⟨ba, qa + j * 3 + 1, none⟩) k1).trans e1, (World.cell?_of_block (a := ⟨ba, qa + j * 3 + 2, none⟩) k1).trans e2, (World.cell?_of_block (a := ⟨bb, qb + j * 3, none⟩) k2).trans f0, (World.cell?_of_block (a := ⟨bb, qb + j * 3 + 1, none⟩) k2).trans f1, (World.cell?_of_block (a := ⟨bb, qb + j * 3 + 2, none⟩) k2).trans f2⟩, trV_up hww e3, trV_up hww f3⟩)
              have hIH := IH.out a.l[j] (by have h1 := HZ.out.1; have h2 := HZ.out.2; have := sz_mem (List.getElem_mem hlt); omega) b.l[j]
              have HIH := Lib.hid hIH
              obtain ⟨cn, hcn⟩ : ∃ c, cmpT a.l[j] b.l[j] = c := ⟨_, rfl⟩
              have hnew : cmpT a b = if cn ≠ 0 then cn else cmpL (a.l.drop (j + 1)) (b.l.drop (j + 1)) := by
                have h1 := HR.out.1
                rw [if_neg (by simp), List.drop_eq_getElem_cons hlt, List.drop_eq_getElem_cons hltb] at h1
                simp only [cmpL] at h1
                rw [hcn] at h1
                exact h1
              have hrn := (ord a.l[j]).1 b.l[j]
              rw [hcn] at hrn
              have HN := Lib.hid (And.intro hnew (And.intro hle (And.intro hcn (And.intro hrn.2.1 hrn.2.2.1))))
              clear e0 e1 e2 e3 f0 f1 f2 f3 hIH hcn hnew hrn hle
              have i0 : (0 : Int) ≤ (j : Int) := Int.natCast_nonneg _
              have i1 : (j : Int) < (a.l.length : Int) := by omega
              have i2 : (j : Int) < (b.l.length : Int) := by omega
              go_upto_region 9 with fail
              go_region_held3 (fun W => W.cell? ⟨pa, 2, none⟩ = some (.slice (some ⟨ba, qa, none⟩) a.l.length ca) ∧ W.cell? ⟨pb, 2, none⟩ = some (.slice (some ⟨bb, qb, none⟩) b.l.length cb) ∧ W.cell? ⟨ba, qa + j * 3, none⟩ = some (.int .i64 a.l[j].k) ∧ W.cell? ⟨ba, qa + j * 3 + 1, none⟩ = some (.int .i64 a.l[j].n) ∧ W.cell? ⟨ba, qa + j * 3 + 2, none⟩ = some (.slice oa2 a.l[j].l.length ca2) ∧ W.cell? ⟨bb, qb + j * 3, none⟩ = some (.int .i64 b.l[j].k) ∧ W.cell? ⟨bb, qb + j * 3 + 1, none⟩ = some (.int .i64 b.l[j].n) ∧ W.cell? ⟨bb, qb + j * 3 + 2, none⟩ = some (.slice ob2 b.l[j].l.length cb2)) (first | (refine (HX.out _ ?_).1; (repeat (first | with_reducible assumption | with_reducible exact bZ _ | with_reducible apply bA | with_reducible apply bD)); done)) (first
                | (go_at_call 20; (with_reducible refine (HIH.out _ _ _ ?_ ?_).mono ?_); (focus (exact (HX.out _ (show Below wr.heap.size wr _ from by (repeat (first | with_reducible assumption | with_reducible exact bZ _ | with_reducible apply bA | with_reducible apply bD)))).2.1)); (focus (exact (HX.out _ (show Below wr.heap.size wr _ from by (repeat (first | with_reducible assumption | with_reducible exact bZ _ | with_reducible apply bA | with_reducible apply bD)))).2.2)); rintro e wz ⟨rfl, hbz⟩; rw [HN.out.2.2.1]; have hcz := below_next (show Below wr.heap.size wr _ from by (repeat (first | with_reducible assumption | with_reducible exact bZ _ | with_reducible apply bA | with_reducible apply bD))) hbz; clear hbz))
              all_goals
                have HF := Lib.hid (below_next HR.out.2.2.2 hcz)
                go_wp2_with fail
                go_roundw
                case rel => exact ⟨j + 1, cn, by omega, by go_num, rfl, HN.out.1, fun _ => HN.out.2.1, HN.out.2.2.2, HF.out⟩
                case measure => simp [intOf]; omega
            · have hres : cmpT a b = 0 := by
                have h1 := HR.out.1
                rw [if_neg (by simp), List.drop_eq_nil_of_le (by omega), List.drop_eq_nil_of_le (by have := HR.out.2.1 rfl; omega)] at h1
                exact h1
              have HS := Lib.hid hres
              clear hres
              go_wp2_with fail
              go_ret
              rw [HS.out]
              exact ⟨rfl, below_next HW.out.1 HR.out.2.2.2⟩
          · have hres : cmpT a b = cj := by
              have h1 := HR.out.1
              rw [if_pos hz] at h1
              exact h1
            have HS := Lib.hid hres
            clear hres
            by_cases hlt : j < a.l.length
            · go_wp2_with fail
              go_ret
              rw [HS.out]
              exact ⟨rfl, below_next HW.out.1 HR.out.2.2.2⟩
            · go_wp2_with fail
              go_ret
              rw [HS.out]
              exact ⟨rfl, below_next HW.out.1 HR.out.2.2.2⟩
end Go.Proofs.Ytapdfdjknehhgaa
