/- SigIdempotent: true at every two trees. -/
import Derived.Test.YtapdfdjknehhgaaUniC
import Derived.Deep.CutRange
import Derived.Deep.RegionHeld3
import Derived.Deep.QuietTactic
import Derived.BigQuiet
namespace Go.Proofs.Ytapdfdjknehhgaa
open Go.RowKit Go.Tr

theorem ex_swap (A B : Tm) : (∃ σ : Int → Tm, repT σ B = repT σ A) ↔ ∃ σ : Int → Tm, repT σ A = repT σ B := ⟨fun ⟨σ, h⟩ => ⟨σ, h.symm⟩, fun ⟨σ, h⟩ => ⟨σ, h.symm⟩⟩
/-- Whether something makes both trees equal. -/
def UnifB (q : Bool) (A B : Tm) : Prop := q = true ↔ ∃ σ : Int → Tm, repT σ A = repT σ B
theorem unifB_is {q q' : Bool} {A B : Tm} (h : UnifB q A B) (h' : q' = true ↔ ∃ σ : Int → Tm, repT σ B = repT σ A) : q' = q := by
  rw [Bool.eq_iff_iff]
  exact (h'.trans (ex_swap A B)).trans h.symm
theorem most_part (A B : Tm) : most (vars [A]) ≤ most (vars [A, B]) := by
  have g2 := most_ge (vars [A, B])
  rcases most_in (vars [A]) with h | h
  · omega
  · refine most_mem ?_
    rw [vars_mem]
    rw [vars_one] at h
    simp [occL, h]
theorem most_swap (A B : Tm) : most (vars [B, A]) = most (vars [A, B]) := by
  have h1 : ∀ n, n ∈ vars [B, A] ↔ n ∈ vars [A, B] := fun n => by rw [vars_mem, vars_mem]; simp only [occL, Bool.or_false]; rw [Bool.or_comm]
  have g1 := most_ge (vars [A, B])
  have g2 := most_ge (vars [B, A])
  rcases most_in (vars [A, B]) with h | h <;> rcases most_in (vars [B, A]) with h' | h'
  · omega
  · have := most_mem ((h1 _).1 h'); omega
  · have := most_mem ((h1 _).2 h); omega
  · have := most_mem ((h1 _).1 h'); have := most_mem ((h1 _).2 h); omega
theorem var_w (w : World) (P : Nat → Prop) {n : Int} (hn : inI n) : TrV w P (var n) (.agg #[.int .i64 1, .int .i64 n, .slice none 0 0]) :=
  trV_iff.2 ⟨_, rfl, by unfold inI; show -9223372036854775808 ≤ (1 : Int) ∧ (1 : Int) ≤ _; omega, hn, none, 0, 0, 0, rfl, Nat.le_refl _, by decide, fun h => absurd rfl h, trivial⟩
set_option maxRecDepth 100000 in
set_option maxHeartbeats 4000000 in
theorem SigIdempotent_any (A B : Tm) (va vb : Value) (w : World) (ha : TrV w (· < w.heap.size) A va) (hb : TrV w (· < w.heap.size) B vb) :
    Calls Try.prog 12 #[va, vb] w fun e w' => e = .returned (.bool true) ∧ Below w.heap.size w w' := by
  obtain ⟨ka, na, la⟩ := A
  obtain ⟨kb, nb, lb⟩ := B
  generalize hA : Tm.node ka na la = A at *
  generalize hB : Tm.node kb nb lb = B at *
  obtain ⟨sa, rfl⟩ := node_w (hA.symm ▸ ha)
  obtain ⟨sb, rfl⟩ := node_w (hB.symm ▸ hb)
  have HI := Lib.hid (And.intro ha hb)
  clear ha hb
  go_enter Try.func12, Try.ntmps12
  go_wp2_with fail
  generalize hW : (w.alloc _).alloc _ = w0
  have hbw : Below w.heap.size w w0 := by rw [← hW]; exact bA (bA (bZ w) _) _
  have h0 : Has w0 w.heap.size (.cells #[.int .i64 ka, .int .i64 na, sa] 24) := by rw [← hW]; show _ = _; (simp only [heap_alloc, alloc_size]; repeat (first | rw [if_pos trivial] | rw [if_pos (by omega)] | rw [if_neg (by omega)]))
  have h1 : Has w0 (w.heap.size + 1) (.cells #[.int .i64 kb, .int .i64 nb, sb] 24) := by rw [← hW]; show _ = _; (simp only [heap_alloc, alloc_size]; repeat (first | rw [if_pos trivial] | rw [if_pos (by omega)] | rw [if_neg (by omega)]))
  clear hW
  have HT := Lib.hid (show ∀ W, Below w0.heap.size w0 W → TrV W (· < W.heap.size) A (.agg #[.int .i64 ka, .int .i64 na, sa]) ∧ TrV W (· < W.heap.size) B (.agg #[.int .i64 kb, .int .i64 nb, sb]) from
    fun W hW => ⟨trV_up (below_next hbw hW) HI.out.1, trV_up (below_next hbw hW) HI.out.2⟩)
  have hQ : ∀ W, Below w0.heap.size w0 W → W.cell? ⟨w.heap.size, 0, none⟩ = some (.int .i64 ka) ∧ W.cell? ⟨w.heap.size, 1, none⟩ = some (.int .i64 na) ∧ W.cell? ⟨w.heap.size, 2, none⟩ = some sa ∧
      W.cell? ⟨w.heap.size + 1, 0, none⟩ = some (.int .i64 kb) ∧ W.cell? ⟨w.heap.size + 1, 1, none⟩ = some (.int .i64 nb) ∧ W.cell? ⟨w.heap.size + 1, 2, none⟩ = some sb := by
    intro W hW
    have r0 := has_call hW h0
    have r1 := has_call hW h1
    exact ⟨(cells_of r0 0).1, (cells_of r0 1).1, (cells_of r0 2).1, (cells_of r1 0).1, (cells_of r1 1).1, (cells_of r1 2).1⟩
  clear h0 h1
  generalize w.heap.size + 1 = pb at hQ ⊢
  generalize hpa : w.heap.size = pa at hQ ⊢
  have HW := Lib.hid (And.intro hbw hpa)
  have HQ := Lib.hid hQ
  clear hQ hbw hpa
  refine (sane_any _).mono ?_
  rintro e w1 ⟨rfl, hb1⟩
  obtain ⟨s0, s1, s2, s3, s4, s5⟩ := HQ.out _ hb1
  go_wp2_with fail
  refine (few_any [A, B] _ _ ?_).mono ?_
  · subst hA hB
    refine sN2 (by (repeat (first | (with_reducible refine has_new ?_; first | with_reducible rfl | (simp; done)) | with_reducible refine has_drew ?_ | with_reducible refine has_old ?_))) ?_ ?_
    · exact (HT.out _ (show Below w0.heap.size w0 _ from by (repeat (first | with_reducible assumption | with_reducible exact bZ _ | with_reducible apply bA | with_reducible apply bD)))).1
    · exact (HT.out _ (show Below w0.heap.size w0 _ from by (repeat (first | with_reducible assumption | with_reducible exact bZ _ | with_reducible apply bA | with_reducible apply bD)))).2
  rintro e w2 ⟨rfl, hb2⟩
  have hc2 := below_next (show Below w0.heap.size w0 _ from by (repeat (first | with_reducible assumption | with_reducible exact bZ _ | with_reducible apply bA | with_reducible apply bD))) hb2
  clear hb2 s0 s1 s2 s3 s4 s5 hb1
  obtain ⟨s0, s1, s2, s3, s4, s5⟩ := HQ.out _ hc2
  obtain ⟨fq, hfq⟩ : ∃ q, few [A, B] = q := ⟨_, rfl⟩
  rw [hfq]
  cases fq
  · go_wp2_with fail
    go_ret
    exact ⟨rfl, below_next HW.out.1 hc2⟩
  have HF := Lib.hid ((few_iff _).1 hfq)
  clear hfq
  go_wp2_with fail
  refine (RIs_any A _ _ (HT.out _ hc2).1).mono ?_
  rintro e w3 ⟨rfl, hb3⟩
  have hc3 := below_next hc2 hb3
  clear hb3 s0 s1 s2 s3 s4 s5 hc2
  obtain ⟨s0, s1, s2, s3, s4, s5⟩ := HQ.out _ hc3
  obtain ⟨qa, hqa⟩ : ∃ q, good A = q := ⟨_, rfl⟩
  rw [hqa]
  cases qa
  · go_wp2_with fail
    go_ret
    exact ⟨rfl, below_next HW.out.1 hc3⟩
  have HGA := Lib.hid hqa
  clear hqa
  go_wp2_with fail
  refine (RIs_any B _ _ (HT.out _ hc3).2).mono ?_
  rintro e w4 ⟨rfl, hb4⟩
  have hc4 := below_next hc3 hb4
  clear hb4 s0 s1 s2 s3 s4 s5 hc3
  obtain ⟨s0, s1, s2, s3, s4, s5⟩ := HQ.out _ hc4
  obtain ⟨qb, hqb⟩ : ∃ q, good B = q := ⟨_, rfl⟩
  rw [hqb]
  cases qb
  · go_wp2_with fail
    go_ret
    exact ⟨rfl, below_next HW.out.1 hc4⟩
  have HGB := Lib.hid hqb
  clear hqb
  have hvg : varsG [A, B] = vars [A, B] := by unfold varsG; rw [if_pos (by simp [HGA.out, HGB.out])]
  have HVG := Lib.hid hvg
  clear hvg
  go_wp2_with fail
  refine (greatest_l [A, B] _ _ ?_ (by have := HF.out.1; omega)).mono ?_
  · subst hA hB
    refine sN2 (by (repeat (first | (with_reducible refine has_new ?_; first | with_reducible rfl | (simp; done)) | with_reducible refine has_drew ?_ | with_reducible refine has_old ?_))) ?_ ?_
    · exact (HT.out _ (show Below w0.heap.size w0 _ from by (repeat (first | with_reducible assumption | with_reducible exact bZ _ | with_reducible apply bA | with_reducible apply bD)))).1
    · exact (HT.out _ (show Below w0.heap.size w0 _ from by (repeat (first | with_reducible assumption | with_reducible exact bZ _ | with_reducible apply bA | with_reducible apply bD)))).2
  rintro e w5 ⟨rfl, hb5⟩
  have hc5 := below_next (show Below w0.heap.size w0 _ from by (repeat (first | with_reducible assumption | with_reducible exact bZ _ | with_reducible apply bA | with_reducible apply bD))) hb5
  rw [HVG.out]
  clear hb5 s0 s1 s2 s3 s4 s5 hc4
  obtain ⟨s0, s1, s2, s3, s4, s5⟩ := HQ.out _ hc5
  obtain ⟨mx, hmx⟩ : ∃ m, most (vars [A, B]) = m := ⟨_, rfl⟩
  rw [hmx]
  by_cases hgt : 200 < mx
  · go_wp2_with fail
    go_ret
    exact ⟨rfl, below_next HW.out.1 hc5⟩
  have HMX := Lib.hid (show most (vars [A, B]) ≤ 200 by omega)
  have hgt' : mx ≤ 200 := by omega
  clear hmx hgt
  go_wp2_with fail
  refine (unify_m HGA.out HGB.out (by have := HMX.out; omega) _ _ _ (HT.out _ hc5).1 (HT.out _ hc5).2).mono ?_
  rintro e w6 ⟨hb6, rfl | ⟨o6, c6, R, q, rfl, ht6, hu1, hu2, hu3⟩⟩
  · have hc6 := below_next hc5 hb6
    clear hb6
    go_wp2_with fail
    go_ret
    exact ⟨rfl, below_next HW.out.1 hc6⟩
  have hc6 := below_next hc5 hb6
  have HU := Lib.hid (And.intro ht6 (And.intro hu1 (And.intro hu2 (show UnifB q A B from hu3))))
  clear hb6 ht6 hu1 hu2 hu3 s0 s1 s2 s3 s4 s5 hc5 hgt'
  cases q
  · go_upto_region 16 with fail
    obtain ⟨s0, s1, s2, s3, s4, s5⟩ := HQ.out _ hc6
    have hma : most (vars [A]) ≤ 200 := by have := most_part A B; have := HMX.out; omega
    have HMA := Lib.hid hma
    clear hma
    go_wp2_with fail
    refine (unify_self HGA.out (by have := HMA.out; omega) _ _ _ (HT.out _ hc6).1 (HT.out _ hc6).1).mono ?_
    rintro e w7 ⟨hb7, o7, c7, R7, rfl, ht7, hn7, he7⟩
    have hc7 := below_next hc6 hb7
    have HR7 := Lib.hid (And.intro ht7 (And.intro hn7 he7))
    have hlen7 : (R7.length : Int) ≤ 201 := by have := HMA.out; omega
    have hg7 : most (varsG [A]) = (R7.length : Int) - 1 := by
      unfold varsG
      rw [if_pos (by simp [HGA.out])]
      omega
    have HG7 := Lib.hid hg7
    clear hb7 ht7 hn7 he7 hg7 s0 s1 s2 s3 s4 s5
    obtain ⟨s0, s1, s2, s3, s4, s5⟩ := HQ.out _ hc7
    go_wp2_with fail
    refine (greatest_l [A] _ _ ?_ (by have := HF.out.1; simp only [szL] at this ⊢; omega)).mono ?_
    · subst hA
      refine sN1 (by (repeat (first | (with_reducible refine has_new ?_; first | with_reducible rfl | (simp; done)) | with_reducible refine has_drew ?_ | with_reducible refine has_old ?_))) ?_
      exact (HT.out _ (show Below w0.heap.size w0 _ from by (repeat (first | with_reducible assumption | with_reducible exact bZ _ | with_reducible apply bA | with_reducible apply bD)))).1
    rintro e w8 ⟨rfl, hb8⟩
    rw [HG7.out]
    have hd8 := below_next (show Below w7.heap.size w7 _ from by (repeat (first | with_reducible assumption | with_reducible exact bZ _ | with_reducible apply bA | with_reducible apply bD))) hb8
    have hc8 := below_next hc7 hd8
    obtain ⟨oa7, ca7, b7, q7, e7, -, -, ho7, hel7⟩ := trS_at (trS_up hd8 HR7.out.1)
    simp only [Value.slice.injEq] at e7
    obtain ⟨rfl, -, rfl⟩ := e7
    have HE7 := Lib.hid (And.intro ho7 hel7)
    have h00 : (0 : Int) ≤ (R7.length : Int) := Int.natCast_nonneg _
    clear hb8 ho7 hel7 s0 s1 s2 s3 s4 s5 hc7 hd8
    go_upto_region 19 with fail
    go_wp2_with fail
    go_loopw [99] (fun i wr => ∃ (j : Nat), j ≤ R7.length ∧ i = .int .i64 j ∧ Hid (Below w8.heap.size w8 wr)) (fun i _ => R7.length - (intOf i).toNat)
    case atStart => exact ⟨0, by omega, rfl, bZ w8⟩
    case round =>
      obtain ⟨j, hj, rfl, HR⟩ := hrel
      have hcr := below_next hc8 HR.out
      by_cases hlt : j < R7.length
      · obtain ⟨rfl, hQ7⟩ := HE7.out.1 (by omega)
        obtain ⟨oe, ce, e0, e1, e2, e3⟩ := HE7.out.2 j hlt
        rw [HR7.out.2.2 j hlt] at e0 e1 e2 e3
        have hbl := HR.out.block b7 hQ7
        have d0 : wr.cell? ⟨b7, q7 + j * 3, none⟩ = some (.int .i64 1) := (World.cell?_of_block (w := w8) (a := ⟨b7, q7 + j * 3, none⟩) hbl).trans e0
        have d1 : wr.cell? ⟨b7, q7 + j * 3 + 1, none⟩ = some (.int .i64 j) := (World.cell?_of_block (w := w8) (a := ⟨b7, q7 + j * 3 + 1, none⟩) hbl).trans e1
        have d2 : wr.cell? ⟨b7, q7 + j * 3 + 2, none⟩ = some (.slice oe 0 ce) := (World.cell?_of_block (w := w8) (a := ⟨b7, q7 + j * 3 + 2, none⟩) hbl).trans e2
        have hv : TrV wr (· < wr.heap.size) (var (j : Int)) (.agg #[.int .i64 1, .int .i64 j, .slice oe 0 ce]) := trV_up HR.out e3
        have HV := Lib.hid hv
        clear e0 e1 e2 e3 hbl hv
        have i0 : (0 : Int) ≤ (j : Int) := Int.natCast_nonneg _
        have i1 : (j : Int) < (R7.length : Int) := by omega
        go_upto_region 22 with fail
        generalize hw9 : wr.alloc _ = w9
        have hd9 : Below wr.heap.size wr w9 := by rw [← hw9]; exact bA (bZ wr) _
        have h9 : Has w9 wr.heap.size (.cells #[.int .i64 1, .int .i64 j, .slice oe 0 ce] 24) := by rw [← hw9]; exact has_new rfl
        clear hw9 d0 d1 d2
        generalize wr.heap.size = pt at h9 ⊢
        have H9 := Lib.hid (show ∀ W, Below w9.heap.size w9 W → (W.cell? ⟨pt, 0, none⟩ = some (.int .i64 1) ∧ W.cell? ⟨pt, 1, none⟩ = some (.int .i64 j) ∧ W.cell? ⟨pt, 2, none⟩ = some (.slice oe 0 ce)) ∧ TrV W (· < W.heap.size) (var (j : Int)) (.agg #[.int .i64 1, .int .i64 j, .slice oe 0 ce]) from fun W hW => by
          have r := has_call hW h9
          exact ⟨⟨(cells_of r 0).1, (cells_of r 1).1, (cells_of r 2).1⟩, trV_up (below_next hd9 hW) HV.out⟩)
        have HD9 := Lib.hid hd9
        clear h9 hd9
        go_cut [108] from 104 to 107 (fun a wx => a = .bool false ∧ Hid (Below w9.heap.size w9 wx))
        case first =>
          go_region_held3 (fun W => W.cell? ⟨pt, 0, none⟩ = some (.int .i64 1) ∧ W.cell? ⟨pt, 1, none⟩ = some (.int .i64 j) ∧ W.cell? ⟨pt, 2, none⟩ = some (.slice oe 0 ce)) (first | (refine (H9.out _ ?_).1; (repeat (first | with_reducible assumption | with_reducible exact bZ _ | with_reducible apply bA | with_reducible apply bD)); done)) (first
            | (go_at_call 31; (with_reducible refine (lvariable_any _ _).mono ?_); rintro e wq ⟨rfl, rfl⟩)
            | (go_at_call 18; (with_reducible refine (rsame_q ((eqT_iff (var (j : Int)) (var (j : Int))).2 rfl) _ _ _ ?_ ?_).mono ?_); (focus (exact (H9.out _ (show Below w9.heap.size w9 _ from by (repeat (first | with_reducible assumption | with_reducible exact bZ _ | with_reducible apply bA | with_reducible apply bD)))).2)); (focus (exact var_w _ _ (by unfold inI; omega))); rintro e wz ⟨rfl, hbz⟩; have hcz := below_next (show Below w9.heap.size w9 _ from by (repeat (first | with_reducible assumption | with_reducible exact bZ _ | with_reducible apply bA | with_reducible apply bD))) hbz; clear hbz))
          all_goals
            go_wp2_with fail
            go_meet
            exact ⟨rfl, (show Below w9.heap.size w9 _ from by (repeat (first | with_reducible assumption | with_reducible exact bZ _ | with_reducible apply bA | with_reducible apply bD)))⟩
        case rest =>
          obtain ⟨rfl, HB22⟩ := hcut
          have HF2 := Lib.hid (below_next HR.out (below_next HD9.out HB22.out))
          go_wp2_with fail
          go_roundw
          case rel => exact ⟨j + 1, by omega, by go_num, HF2.out⟩
          case measure => simp [intOf]; omega
      · obtain ⟨s0, s1, s2, s3, s4, s5⟩ := HQ.out _ hcr
        go_wp2_with fail
        refine (unify_m HGB.out HGA.out (by rw [most_swap]; have := HMX.out; omega) _ _ _ (HT.out _ hcr).2 (HT.out _ hcr).1).mono ?_
        rintro e w12 ⟨hb12, rfl | ⟨o12, c12, R12, q12, rfl, ht12, hv1, hv2, hv3⟩⟩
        · have hc12 := below_next hcr hb12
          clear hb12
          go_wp2_with fail
          go_ret
          exact ⟨rfl, below_next HW.out.1 hc12⟩
        · have hc12 := below_next hcr hb12
          have hqq : q12 = false := unifB_is HU.out.2.2.2 hv3
          subst hqq
          clear hb12 ht12 hv1 hv2 hv3
          go_wp2_with fail
          go_ret
          exact ⟨rfl, below_next HW.out.1 hc12⟩
  · obtain ⟨oaR, caR, bR, qR, eR, -, -, hoR, helR⟩ := trS_at HU.out.1
    simp only [Value.slice.injEq] at eR
    obtain ⟨rfl, -, rfl⟩ := eR
    have HER := Lib.hid (And.intro hoR (And.intro helR (HU.out.2.1 rfl)))
    have hRl : R.length ≤ 201 := by
      have h1 := (HU.out.2.1 rfl).len
      have h2 := HMX.out
      omega
    clear hoR helR
    go_upto_if 53 with fail
    go_cut [9] from 54 to 74 (fun _ wx => Hid (Below w0.heap.size w0 wx))
    case first =>
      go_wp2_with fail
      go_loopw [56] (fun i wr => ∃ (j : Nat), j ≤ R.length ∧ i = .int .i64 j ∧ Hid (Below w6.heap.size w6 wr)) (fun i _ => R.length - (intOf i).toNat)
      case atStart => exact ⟨0, by omega, rfl, bZ w6⟩
      case round =>
        obtain ⟨j, hj, rfl, HR⟩ := hrel
        by_cases hlt : j < R.length
        · obtain ⟨rfl, hQR⟩ := HER.out.1 (by omega)
          obtain ⟨oe, ce, e0, e1, e2, e3⟩ := HER.out.2.1 j hlt
          have hbl := HR.out.block bR hQR
          have d0 := (World.cell?_of_block (w := w6) (a := ⟨bR, qR + j * 3, none⟩) hbl).trans e0
          have d1 := (World.cell?_of_block (w := w6) (a := ⟨bR, qR + j * 3 + 1, none⟩) hbl).trans e1
          have d2 := (World.cell?_of_block (w := w6) (a := ⟨bR, qR + j * 3 + 2, none⟩) hbl).trans e2
          have HX := Lib.hid (And.intro (trV_up HR.out e3) (And.intro (trS_up HR.out HU.out.1) (HER.out.2.2.idem R[j] (List.getElem_mem hlt))))
          clear e0 e1 e2 e3 hbl
          generalize R[j] = x at *
          have i0 : (0 : Int) ≤ (j : Int) := Int.natCast_nonneg _
          have i1 : (j : Int) < (R.length : Int) := by omega
          go_upto_region 12 with fail
          generalize hw9 : wr.alloc _ = w9
          have hd9 : Below wr.heap.size wr w9 := by rw [← hw9]; exact bA (bZ wr) _
          have h9 : Has w9 wr.heap.size (.cells #[.int .i64 x.k, .int .i64 x.n, .slice oe x.l.length ce] 24) := by rw [← hw9]; exact has_new rfl
          have t0 := (cells_of h9 0).1
          have t1 := (cells_of h9 1).1
          have t2 := (cells_of h9 2).1
          simp only [List.getElem?_toArray, List.getElem?_cons_zero, List.getElem?_cons_succ] at t0 t1 t2
          clear hw9 d0 d1 d2
          generalize wr.heap.size = pt at h9 t0 t1 t2 ⊢
          have H9 := Lib.hid h9
          clear h9
          go_wp2_with fail
          refine (subst_ok HX.out.2.2.1 HX.out.2.2.2.1 _ _ _ (trV_up hd9 HX.out.1) (trS_up hd9 HX.out.2.1)).mono ?_
          rintro e w10 ⟨ox, cx, rfl, hx, hb10⟩
          have hd10 := below_next hd9 hb10
          have h10 := has_call hb10 H9.out
          have u0 : ∀ o, (w10.alloc o).cell? ⟨pt, 0, none⟩ = some (.int .i64 x.k) := fun o => (cells_of (has_old h10) 0).1
          have u1 : ∀ o, (w10.alloc o).cell? ⟨pt, 1, none⟩ = some (.int .i64 x.n) := fun o => (cells_of (has_old h10) 1).1
          have u2 : ∀ o, (w10.alloc o).cell? ⟨pt, 2, none⟩ = some (.slice oe x.l.length ce) := fun o => (cells_of (has_old h10) 2).1
          have HXV := Lib.hid (trV_new hx)
          clear hx hb10 h10 t0 t1 t2
          go_wp2_with fail
          refine (rsame_q ((eqT_iff x x).2 rfl) _ _ _ ?_ ?_).mono ?_
          · exact trV_up (show Below w10.heap.size w10 _ from by (repeat (first | with_reducible assumption | with_reducible exact bZ _ | with_reducible apply bA | with_reducible apply bD))) HXV.out
          · exact trV_up (show Below wr.heap.size wr _ from by (repeat (first | with_reducible assumption | with_reducible exact bZ _ | with_reducible apply bA | with_reducible apply bD))) HX.out.1
          rintro e w11 ⟨rfl, hb11⟩
          have hd11 := below_next (show Below wr.heap.size wr _ from by (repeat (first | with_reducible assumption | with_reducible exact bZ _ | with_reducible apply bA | with_reducible apply bD))) hb11
          have HF2 := Lib.hid (below_next HR.out hd11)
          clear hb11 hd11 hd9 hd10 u0 u1 u2
          go_wp2_with fail
          go_roundw
          case rel => exact ⟨j + 1, by omega, by go_num, HF2.out⟩
          case measure => simp [intOf]; omega
        · have HF2 := Lib.hid (below_next hc6 HR.out)
          go_wp2_with fail
          go_meet
          exact HF2.out
    case rest =>
      have HB6 := Lib.hid (And.intro hc6 hcut.out)
      clear hc6
      have hc6 := HB6.out.2
      go_upto_region 16 with fail
      obtain ⟨s0, s1, s2, s3, s4, s5⟩ := HQ.out _ hc6
      have hma : most (vars [A]) ≤ 200 := by have := most_part A B; have := HMX.out; omega
      have HMA := Lib.hid hma
      clear hma
      go_wp2_with fail
      refine (unify_self HGA.out (by have := HMA.out; omega) _ _ _ (HT.out _ hc6).1 (HT.out _ hc6).1).mono ?_
      rintro e w7 ⟨hb7, o7, c7, R7, rfl, ht7, hn7, he7⟩
      have hc7 := below_next hc6 hb7
      have HR7 := Lib.hid (And.intro ht7 (And.intro hn7 he7))
      have hlen7 : (R7.length : Int) ≤ 201 := by have := HMA.out; omega
      have hg7 : most (varsG [A]) = (R7.length : Int) - 1 := by
        unfold varsG
        rw [if_pos (by simp [HGA.out])]
        omega
      have HG7 := Lib.hid hg7
      clear hb7 ht7 hn7 he7 hg7 s0 s1 s2 s3 s4 s5
      obtain ⟨s0, s1, s2, s3, s4, s5⟩ := HQ.out _ hc7
      go_wp2_with fail
      refine (greatest_l [A] _ _ ?_ (by have := HF.out.1; simp only [szL] at this ⊢; omega)).mono ?_
      · subst hA
        refine sN1 (by (repeat (first | (with_reducible refine has_new ?_; first | with_reducible rfl | (simp; done)) | with_reducible refine has_drew ?_ | with_reducible refine has_old ?_))) ?_
        exact (HT.out _ (show Below w0.heap.size w0 _ from by (repeat (first | with_reducible assumption | with_reducible exact bZ _ | with_reducible apply bA | with_reducible apply bD)))).1
      rintro e w8 ⟨rfl, hb8⟩
      rw [HG7.out]
      have hd8 := below_next (show Below w7.heap.size w7 _ from by (repeat (first | with_reducible assumption | with_reducible exact bZ _ | with_reducible apply bA | with_reducible apply bD))) hb8
      have hc8 := below_next hc7 hd8
      obtain ⟨oa7, ca7, b7, q7, e7, -, -, ho7, hel7⟩ := trS_at (trS_up hd8 HR7.out.1)
      simp only [Value.slice.injEq] at e7
      obtain ⟨rfl, -, rfl⟩ := e7
      have HE7 := Lib.hid (And.intro ho7 hel7)
      have h00 : (0 : Int) ≤ (R7.length : Int) := Int.natCast_nonneg _
      clear hb8 ho7 hel7 s0 s1 s2 s3 s4 s5 hc7 hd8
      go_upto_region 19 with fail
      go_wp2_with fail
      go_loopw [99] (fun i wr => ∃ (j : Nat), j ≤ R7.length ∧ i = .int .i64 j ∧ Hid (Below w8.heap.size w8 wr)) (fun i _ => R7.length - (intOf i).toNat)
      case atStart => exact ⟨0, by omega, rfl, bZ w8⟩
      case round =>
        obtain ⟨j, hj, rfl, HR⟩ := hrel
        have hcr := below_next hc8 HR.out
        by_cases hlt : j < R7.length
        · obtain ⟨rfl, hQ7⟩ := HE7.out.1 (by omega)
          obtain ⟨oe, ce, e0, e1, e2, e3⟩ := HE7.out.2 j hlt
          rw [HR7.out.2.2 j hlt] at e0 e1 e2 e3
          have hbl := HR.out.block b7 hQ7
          have d0 : wr.cell? ⟨b7, q7 + j * 3, none⟩ = some (.int .i64 1) := (World.cell?_of_block (w := w8) (a := ⟨b7, q7 + j * 3, none⟩) hbl).trans e0
          have d1 : wr.cell? ⟨b7, q7 + j * 3 + 1, none⟩ = some (.int .i64 j) := (World.cell?_of_block (w := w8) (a := ⟨b7, q7 + j * 3 + 1, none⟩) hbl).trans e1
          have d2 : wr.cell? ⟨b7, q7 + j * 3 + 2, none⟩ = some (.slice oe 0 ce) := (World.cell?_of_block (w := w8) (a := ⟨b7, q7 + j * 3 + 2, none⟩) hbl).trans e2
          have hv : TrV wr (· < wr.heap.size) (var (j : Int)) (.agg #[.int .i64 1, .int .i64 j, .slice oe 0 ce]) := trV_up HR.out e3
          have HV := Lib.hid hv
          clear e0 e1 e2 e3 hbl hv
          have i0 : (0 : Int) ≤ (j : Int) := Int.natCast_nonneg _
          have i1 : (j : Int) < (R7.length : Int) := by omega
          go_upto_region 22 with fail
          generalize hw9 : wr.alloc _ = w9
          have hd9 : Below wr.heap.size wr w9 := by rw [← hw9]; exact bA (bZ wr) _
          have h9 : Has w9 wr.heap.size (.cells #[.int .i64 1, .int .i64 j, .slice oe 0 ce] 24) := by rw [← hw9]; exact has_new rfl
          clear hw9 d0 d1 d2
          generalize wr.heap.size = pt at h9 ⊢
          have H9 := Lib.hid (show ∀ W, Below w9.heap.size w9 W → (W.cell? ⟨pt, 0, none⟩ = some (.int .i64 1) ∧ W.cell? ⟨pt, 1, none⟩ = some (.int .i64 j) ∧ W.cell? ⟨pt, 2, none⟩ = some (.slice oe 0 ce)) ∧ TrV W (· < W.heap.size) (var (j : Int)) (.agg #[.int .i64 1, .int .i64 j, .slice oe 0 ce]) from fun W hW => by
            have r := has_call hW h9
            exact ⟨⟨(cells_of r 0).1, (cells_of r 1).1, (cells_of r 2).1⟩, trV_up (below_next hd9 hW) HV.out⟩)
          have HD9 := Lib.hid hd9
          clear h9 hd9
          go_cut [108] from 104 to 107 (fun a wx => a = .bool false ∧ Hid (Below w9.heap.size w9 wx))
          case first =>
            go_region_held3 (fun W => W.cell? ⟨pt, 0, none⟩ = some (.int .i64 1) ∧ W.cell? ⟨pt, 1, none⟩ = some (.int .i64 j) ∧ W.cell? ⟨pt, 2, none⟩ = some (.slice oe 0 ce)) (first | (refine (H9.out _ ?_).1; (repeat (first | with_reducible assumption | with_reducible exact bZ _ | with_reducible apply bA | with_reducible apply bD)); done)) (first
              | (go_at_call 31; (with_reducible refine (lvariable_any _ _).mono ?_); rintro e wq ⟨rfl, rfl⟩)
              | (go_at_call 18; (with_reducible refine (rsame_q ((eqT_iff (var (j : Int)) (var (j : Int))).2 rfl) _ _ _ ?_ ?_).mono ?_); (focus (exact (H9.out _ (show Below w9.heap.size w9 _ from by (repeat (first | with_reducible assumption | with_reducible exact bZ _ | with_reducible apply bA | with_reducible apply bD)))).2)); (focus (exact var_w _ _ (by unfold inI; omega))); rintro e wz ⟨rfl, hbz⟩; have hcz := below_next (show Below w9.heap.size w9 _ from by (repeat (first | with_reducible assumption | with_reducible exact bZ _ | with_reducible apply bA | with_reducible apply bD))) hbz; clear hbz))
            all_goals
              go_wp2_with fail
              go_meet
              exact ⟨rfl, (show Below w9.heap.size w9 _ from by (repeat (first | with_reducible assumption | with_reducible exact bZ _ | with_reducible apply bA | with_reducible apply bD)))⟩
          case rest =>
            obtain ⟨rfl, HB22⟩ := hcut
            have HF2 := Lib.hid (below_next HR.out (below_next HD9.out HB22.out))
            go_wp2_with fail
            go_roundw
            case rel => exact ⟨j + 1, by omega, by go_num, HF2.out⟩
            case measure => simp [intOf]; omega
        · obtain ⟨s0, s1, s2, s3, s4, s5⟩ := HQ.out _ hcr
          go_wp2_with fail
          refine (unify_m HGB.out HGA.out (by rw [most_swap]; have := HMX.out; omega) _ _ _ (HT.out _ hcr).2 (HT.out _ hcr).1).mono ?_
          rintro e w12 ⟨hb12, rfl | ⟨o12, c12, R12, q12, rfl, ht12, hv1, hv2, hv3⟩⟩
          · have hc12 := below_next hcr hb12
            clear hb12
            go_wp2_with fail
            go_ret
            exact ⟨rfl, below_next HW.out.1 hc12⟩
          · have hc12 := below_next hcr hb12
            have hqq : q12 = true := unifB_is HU.out.2.2.2 hv3
            subst hqq
            clear hb12 ht12 hv1 hv2 hv3
            go_wp2_with fail
            go_ret
            exact ⟨rfl, below_next HW.out.1 hc12⟩
end Go.Proofs.Ytapdfdjknehhgaa
