/- SigTrees: true at every two trees and lists (not too long). -/
import Derived.Test.YtapdfdjknehhgaaLc
import Derived.Test.YtapdfdjknehhgaaSiz
import Derived.Test.YtapdfdjknehhgaaRCmp
import Derived.Test.YtapdfdjknehhgaaRInts
namespace Go.Tr
theorem no_occ (t : Tm) : allN okN t = true → (allN (fun t => t.k == 2) t = true ↔ ∀ n, occ n t = false) := by
  induction t using Tm.ind with
  | h k n c ih =>
    intro h1
    obtain ⟨a1, a2⟩ := kids_ok h1
    rw [allN_t, Bool.and_eq_true, allNL_iff]
    constructor
    · rintro ⟨hk, hc⟩ m
      have hk2 : k = 2 := by simpa [Tm.k] using hk
      rw [occ_op (by omega), Bool.eq_false_iff]
      intro ho
      obtain ⟨x, hx, hox⟩ := (occL_iff m c).1 ho
      rw [(ih x hx (a2 x hx)).1 (hc x hx) m] at hox
      cases hox
    · intro h
      have hk1 : k ≠ 1 := by
        rintro rfl
        have := h n
        rw [occ_var] at this
        simp at this
      have hk2 : k = 2 := by
        have h2 := a1
        simp only [okN, Tm.k, Tm.n, Tm.l, Bool.or_eq_true, Bool.and_eq_true, beq_iff_eq] at h2
        omega
      refine ⟨by simp [Tm.k, hk2], fun x hx => (ih x hx (a2 x hx)).2 fun m => ?_⟩
      rw [Bool.eq_false_iff]
      intro ho
      have := h m
      rw [occ_kid (show x ∈ c from hx) ho] at this
      cases this
theorem grd_vars {t : Tm} (h : good t = true) : decide ((vars [t]).length = 0) = allN (fun t => t.k == 2) t := by
  rw [Bool.eq_iff_iff, decide_eq_true_eq, no_occ t ((good_fit t).1 h).2]
  constructor
  · intro h2 n
    rw [Bool.eq_false_iff]
    intro ho
    have := (vars_one t n).2 ho
    rw [List.eq_nil_of_length_eq_zero h2] at this
    cases this
  · intro h2
    refine List.length_eq_zero_iff.2 (List.eq_nil_iff_forall_not_mem.2 fun n hn => ?_)
    have := (vars_one t n).1 hn
    rw [h2 n] at this
    cases this
end Go.Tr
namespace Go.Proofs.Ytapdfdjknehhgaa
open Go.RowKit Go.Tr

theorem RGround_any (t : Tm) (v : Value) (w : World) (hv : TrV w (· < w.heap.size) t v) (hsz : sz t ≤ 900000000) :
    Calls Try.prog 25 #[v] w fun e w' => e = .returned (.bool (grd t)) ∧ Below w.heap.size w w' := by
  obtain ⟨k, n, l⟩ := t
  generalize hA : Tm.node k n l = t at *
  obtain ⟨s, rfl⟩ := node_w (hA.symm ▸ hv)
  obtain ⟨q, hq⟩ : ∃ q, good t = q := ⟨_, rfl⟩
  obtain ⟨g, hg⟩ : ∃ g, grd t = g := ⟨_, rfl⟩
  rw [hg]
  have HG := Lib.hid (And.intro hq (And.intro hg (And.intro hv hsz)))
  clear hq hg hv hsz
  go_enter Try.func25, Try.ntmps25
  go_wp2_with fail
  refine (RIs_any t _ _ (trV_up (bA (bZ w) _) HG.out.2.2.1)).mono ?_
  rintro e w2 ⟨rfl, hb2⟩
  have c := cells_of ((hb2.block _ (by simp only [alloc_size]; omega)).trans (heap_alloc_new w _))
  have c0 := (c 0).1
  have c1 := (c 1).1
  have c2 := (c 2).1
  simp only [List.getElem?_toArray, List.getElem?_cons_zero, List.getElem?_cons_succ] at c0 c1 c2
  have HB2 := Lib.hid (below_next (bA (bZ w) _) hb2)
  clear hb2 c
  rw [HG.out.1]
  cases q
  · have hg0 : g = false := by
      have h1 := HG.out.2.1
      unfold grd at h1
      rw [HG.out.1, Bool.false_and] at h1
      exact h1.symm
    subst hg0
    go_wp2_with fail
    go_ret
    exact ⟨rfl, HB2.out⟩
  · go_wp2_with fail
    refine (RVars_any [t] _ _ ?_ (by have := HG.out.2.2.2; simp only [szL]; omega)).mono ?_
    · subst hA
      refine sN1 (by (repeat (first | (with_reducible refine has_new ?_; first | with_reducible rfl | (simp; done)) | with_reducible refine has_drew ?_ | with_reducible refine has_old ?_))) ?_
      exact trV_up (below_next HB2.out (show Below w2.heap.size w2 _ from by (repeat (first | with_reducible assumption | with_reducible exact bZ _ | with_reducible apply bA | with_reducible apply bD)))) HG.out.2.2.1
    rintro e w3 ⟨v3, rfl, h3, hb3⟩
    rw [if_pos (by simp [HG.out.1])] at h3
    obtain ⟨o3, c3, -, -, rfl, -⟩ := h3
    have HB3 := Lib.hid (below_next HB2.out (below_next (show Below w2.heap.size w2 _ from by (repeat (first | with_reducible assumption | with_reducible exact bZ _ | with_reducible apply bA | with_reducible apply bD))) hb3))
    have hg1 : g = decide ((vars [t]).length = 0) := by
      have h1 := HG.out.2.1
      unfold grd at h1
      rw [HG.out.1, Bool.true_and] at h1
      rw [grd_vars HG.out.1]
      exact h1.symm
    clear hb3
    generalize (vars [t]).length = m at hg1 ⊢
    by_cases hm : m = 0
    · subst hm
      have hg2 : g = true := by rw [hg1]; rfl
      subst hg2
      clear hg1
      go_wp2_with fail
      go_ret
      exact ⟨rfl, HB3.out⟩
    · have hg2 : g = false := by rw [hg1]; simp [hm]
      subst hg2
      clear hg1
      go_wp2_with fail
      go_ret
      exact ⟨ret_bool (by simp; omega), HB3.out⟩
theorem ownT_two {w : World} {B : Nat} {t t' : Tm} {k n s k' n' s' : Value} (hB : B ≤ w.heap.size) (h : TrV w (· < w.heap.size) t (.agg #[k, n, s])) (h' : TrV w (· < w.heap.size) t' (.agg #[k', n', s'])) : OwnT (w.alloc (.cells #[k, n, s, k', n', s'] 24)) B (.slice (some ⟨w.heap.size, 0, none⟩) 2 2) [t, t'] := by
  refine ⟨[k, n, s, k', n', s'], ⟨rfl, .inr ⟨w.heap.size, 2, #[k, n, s, k', n', s'], rfl, hB, heap_alloc_new w _, Nat.le_refl _, by unfold maxLen; omega, rfl, rfl⟩⟩, ?_⟩
  have hm : ∀ {x : Tm} {v : Value}, TrV w (· < w.heap.size) x v → TrV (w.alloc (.cells #[k, n, s, k', n', s'] 24)) (fun b => b < (w.alloc (.cells #[k, n, s, k', n', s'] 24)).heap.size ∧ (Value.slice (some ⟨w.heap.size, 0, none⟩) 2 2).ownBlock ≠ some b) x v := fun h => trV_mono (fun b hb => ⟨by rw [alloc_size]; omega, fun e => by
    have : w.heap.size = b := Option.some.inj e
    omega⟩) (fun b hb => (below_alloc w _).block b hb) _ h
  exact elP_append (elP_one (hm h)) (elP_one (hm h'))
theorem two_ints {l : List Int} {s s' : Value} {w : World} (h : IntS w (· < w.heap.size) l s) (h' : IntS w (· < w.heap.size) l s') : Calls Try.prog 21 #[s, s'] w fun e w' => e = .returned (.bool true) ∧ Below w.heap.size w w' := ints_c l s s' w h h'
theorem same_v {t t' : Tm} {q : Bool} (hc : eqT t t' = q) (v v' : Value) (w : World) (h : TrV w (· < w.heap.size) t v) (h' : TrV w (· < w.heap.size) t' v') : Calls Try.prog 17 #[v, v'] w fun e w' => e = .returned (.bool q) ∧ Below w.heap.size w w' := by
  have h := Same_any t t' v v' w h h'
  rw [hc] at h; exact h
theorem cmp_v {t t' : Tm} {n : Int} (hc : cmpT t t' = n) (v v' : Value) (w : World) (h : TrV w (· < w.heap.size) t v) (h' : TrV w (· < w.heap.size) t' v') : Calls Try.prog 19 #[v, v'] w fun e w' => e = .returned (.int .i64 n) ∧ Below w.heap.size w w' := by
  have h := Compare_any t t' v v' w h h'
  rw [hc] at h; exact h
theorem rcmp_v {t t' : Tm} {n : Int} (hc : cmpT t t' = n) (v v' : Value) (w : World) (h : TrV w (· < w.heap.size) t v) (h' : TrV w (· < w.heap.size) t' v') : Calls Try.prog 20 #[v, v'] w fun e w' => e = .returned (.int .i64 n) ∧ Below w.heap.size w w' := by
  have h := rcompare_n (sz t) t (Nat.le_refl _) t' v v' w h h'
  rw [hc] at h; exact h
theorem ground_v {t : Tm} {q : Bool} (hc : grd t = q) (v : Value) (w : World) (h : TrV w (· < w.heap.size) t v) : Calls Try.prog 24 #[v] w fun e w' => e = .returned (.bool q) ∧ Below w.heap.size w w' := by
  have h := Ground_any t v w h
  rw [hc] at h; exact h
theorem rground_v {t : Tm} {q : Bool} (hc : grd t = q) (v : Value) (w : World) (h : TrV w (· < w.heap.size) t v) (hsz : sz t ≤ 900000000) : Calls Try.prog 25 #[v] w fun e w' => e = .returned (.bool q) ∧ Below w.heap.size w w' := by
  have h := RGround_any t v w h hsz
  rw [hc] at h; exact h
theorem size_v {t : Tm} {z : Int × Int} (hc : sizE t = z) (v : Value) (w : World) (h : TrV w (· < w.heap.size) t v) : Calls Try.prog 15 #[v] w fun e w' => e = .returned (.tuple #[.int .i64 z.1, .int .i64 z.2]) ∧ Below w.heap.size w w' := by
  have h := Size_any t v w h
  rw [hc] at h; exact h
theorem rsize_v {t : Tm} {z : Int × Int} (hc : sizE t = z) (v : Value) (w : World) (h : TrV w (· < w.heap.size) t v) : Calls Try.prog 16 #[v] w fun e w' => e = .returned (.tuple #[.int .i64 z.1, .int .i64 z.2]) ∧ Below w.heap.size w w' := by
  have h := RSize_any t v w h
  rw [hc] at h; exact h
theorem rvars_v (l : List Tm) (s : Value) (w : World) (hs : TrS w (· < w.heap.size) l s) (hsz : szL l ≤ 1000000000) :
    Calls Try.prog 23 #[s] w fun e w' => ∃ v, e = .returned v ∧ IntS w' (· < w'.heap.size) (varsG l) v ∧ Below w.heap.size w w' := RVars_any l s w hs hsz
set_option maxRecDepth 100000 in
set_option maxHeartbeats 8000000 in
theorem SigTrees_any (A B : Tm) (l : List Tm) (va vb vl : Value) (w : World) (ha : TrV w (· < w.heap.size) A va) (hb : TrV w (· < w.heap.size) B vb) (hl : TrS w (· < w.heap.size) l vl) (nl : NilS vl) (hlen : l.length ≤ 900000000) :
    Calls Try.prog 3 #[va, vb, vl] w fun e w' => e = .returned (.bool true) ∧ Below w.heap.size w w' := by
  obtain ⟨ka, na, la⟩ := A
  obtain ⟨kb, nb, lb⟩ := B
  generalize hA : Tm.node ka na la = A at *
  generalize hB : Tm.node kb nb lb = B at *
  obtain ⟨sa, rfl⟩ := node_w (hA.symm ▸ ha)
  obtain ⟨sb, rfl⟩ := node_w (hB.symm ▸ hb)
  have HI := Lib.hid (And.intro ha (And.intro hb hl))
  have HL := Lib.hid (And.intro nl hlen)
  clear ha hb hl nl hlen
  go_enter Try.func3, Try.ntmps3
  go_wp2_with fail
  generalize hW : (w.alloc _).alloc _ = w0
  have hbw : Below w.heap.size w w0 := by rw [← hW]; exact bA (bA (bZ w) _) _
  have h0 : Has w0 w.heap.size (.cells #[.int .i64 ka, .int .i64 na, sa] 24) := by rw [← hW]; show _ = _; (simp only [heap_alloc, alloc_size]; repeat (first | rw [if_pos trivial] | rw [if_pos (by omega)] | rw [if_neg (by omega)]))
  have h1 : Has w0 (w.heap.size + 1) (.cells #[.int .i64 kb, .int .i64 nb, sb] 24) := by rw [← hW]; show _ = _; (simp only [heap_alloc, alloc_size]; repeat (first | rw [if_pos trivial] | rw [if_pos (by omega)] | rw [if_neg (by omega)]))
  clear hW
  have HT := Lib.hid (show ∀ W, Below w0.heap.size w0 W → TrV W (· < W.heap.size) A (.agg #[.int .i64 ka, .int .i64 na, sa]) ∧ TrV W (· < W.heap.size) B (.agg #[.int .i64 kb, .int .i64 nb, sb]) ∧ TrS W (· < W.heap.size) l vl ∧ TrS W (· < w0.heap.size) l vl from
    fun W hW => ⟨trV_up (below_next hbw hW) HI.out.1, trV_up (below_next hbw hW) HI.out.2.1, trS_up (below_next hbw hW) HI.out.2.2, trS_mono (fun _ h => h) (fun b h => hW.block b h) (trS_up hbw HI.out.2.2)⟩)
  have hQ : ∀ W, Below w0.heap.size w0 W → W.cell? ⟨w.heap.size, 0, none⟩ = some (.int .i64 ka) ∧ W.cell? ⟨w.heap.size, 1, none⟩ = some (.int .i64 na) ∧ W.cell? ⟨w.heap.size, 2, none⟩ = some sa ∧
      W.cell? ⟨w.heap.size + 1, 0, none⟩ = some (.int .i64 kb) ∧ W.cell? ⟨w.heap.size + 1, 1, none⟩ = some (.int .i64 nb) ∧ W.cell? ⟨w.heap.size + 1, 2, none⟩ = some sb := by
    intro W hW
    have r0 := has_call hW h0
    have r1 := has_call hW h1
    exact ⟨(cells_of r0 0).1, (cells_of r0 1).1, (cells_of r0 2).1, (cells_of r1 0).1, (cells_of r1 1).1, (cells_of r1 2).1⟩
  clear h0 h1
  generalize w.heap.size + 1 = pb at hQ ⊢
  generalize hpa : w.heap.size = pa at hQ ⊢
  have HW := Lib.hid (And.intro hbw hpa)
  have HQ := Lib.hid hQ
  clear hQ hbw hpa
  refine (sane_any _).mono ?_
  rintro e w1 ⟨rfl, hb1⟩
  obtain ⟨s0, s1, s2, s3, s4, s5⟩ := HQ.out _ hb1
  go_wp2_with (at_builtin; refine app_trees rfl _ _ rfl rfl rfl (ownT_two (B := w0.heap.size) (t := A) (t' := B) hb1.size (HT.out _ hb1).1 (HT.out _ hb1).2.1) (by rw [alloc_size]; have := hb1.size; omega) (HT.out _ (bA hb1 _)).2.2.2 (fun b hb => ⟨by rw [alloc_size]; have := hb1.size; omega, fun e => by have : w1.heap.size = b := Option.some.inj e; have := hb1.size; omega⟩) HL.out.1 (by have := HL.out.2; simp; omega) ?_)
  intro v1 w2 hv1 hg2
  have hc2 := below_grown (bA hb1 _) (Nat.le_refl _) hg2 (fun g hg => by have e : w1.heap.size = g := Option.some.inj hg; have := hb1.size; omega)
  have HV1 := Lib.hid hv1
  clear s0 s1 s2 s3 s4 s5 hg2 hv1
  go_wp2_with fail
  refine (few_any ([A, B] ++ l) _ _ (ownT_trS HV1.out)).mono ?_
  rintro e w3 ⟨rfl, hb3⟩
  have hc3 := below_next hc2 hb3
  clear hb3 hc2 HV1
  obtain ⟨fq, hfq⟩ : ∃ q, few ([A, B] ++ l) = q := ⟨_, rfl⟩
  rw [hfq]
  obtain ⟨s0, s1, s2, s3, s4, s5⟩ := HQ.out _ hc3
  cases fq
  · go_wp2_with fail
    go_ret
    exact ⟨rfl, below_next HW.out.1 hc3⟩
  have hfw := ((few_iff _).1 hfq).1
  have hfa : sz A ≤ 900000000 ∧ szL l ≤ 1000000000 := by
    have e : szL ([A, B] ++ l) = sz A + (sz B + szL l) := rfl
    rw [e] at hfw
    omega
  have HSZ := Lib.hid hfa.1
  obtain ⟨q0, hq0⟩ : ∃ q, eqT A B = q := ⟨_, rfl⟩
  obtain ⟨c0, hc0⟩ : ∃ q, cmpT A B = q := ⟨_, rfl⟩
  obtain ⟨g0, hg0⟩ : ∃ q, grd A = q := ⟨_, rfl⟩
  obtain ⟨⟨z1, z2⟩, hz⟩ : ∃ q, sizE A = q := ⟨_, rfl⟩
  have HO := Lib.hid (And.intro hq0 (And.intro hc0 (And.intro hg0 hfa.2)))
  have HZ := Lib.hid hz
  clear hfq hfw hfa hq0 hc0 hg0 hz
  go_wp2_with fail
  refine (size_v HZ.out _ _ (HT.out _ hc3).1).mono ?_
  rintro e w4 ⟨rfl, hb4⟩
  have hc4 := below_next hc3 hb4
  clear s0 s1 s2 s3 s4 s5 hb4 hc3
  obtain ⟨s0, s1, s2, s3, s4, s5⟩ := HQ.out _ hc4
  go_wp2_with fail
  refine (rsize_v HZ.out _ _ (HT.out _ hc4).1).mono ?_
  rintro e w5 ⟨rfl, hb5⟩
  have hc5 := below_next hc4 hb5
  clear s0 s1 s2 s3 s4 s5 hb5 hc4
  go_upto_region 7 with fail
  go_region_held3 (fun W => W.cell? ⟨pa, 0, none⟩ = some (.int .i64 ka) ∧ W.cell? ⟨pa, 1, none⟩ = some (.int .i64 na) ∧ W.cell? ⟨pa, 2, none⟩ = some sa ∧ W.cell? ⟨pb, 0, none⟩ = some (.int .i64 kb) ∧ W.cell? ⟨pb, 1, none⟩ = some (.int .i64 nb) ∧ W.cell? ⟨pb, 2, none⟩ = some sb) (first | (refine HQ.out _ ?_; (repeat (first | with_reducible assumption | with_reducible exact bZ _ | with_reducible apply bA | with_reducible apply bD)); done)) (first
        | (go_at_call 17; (with_reducible refine (same_v HO.out.1 _ _ _ ?_ ?_).mono ?_); (focus (exact (HT.out _ (show Below w0.heap.size w0 _ from by (repeat (first | with_reducible assumption | with_reducible exact bZ _ | with_reducible apply bA | with_reducible apply bD)))).1)); (focus (exact (HT.out _ (show Below w0.heap.size w0 _ from by (repeat (first | with_reducible assumption | with_reducible exact bZ _ | with_reducible apply bA | with_reducible apply bD)))).2.1)); rintro e wz1 ⟨rfl, hbz1⟩; have hcz1 := below_next (show Below w0.heap.size w0 _ from by (repeat (first | with_reducible assumption | with_reducible exact bZ _ | with_reducible apply bA | with_reducible apply bD))) hbz1; clear hbz1)
        | (go_at_call 18; (with_reducible refine (rsame_q HO.out.1 _ _ _ ?_ ?_).mono ?_); (focus (exact (HT.out _ (show Below w0.heap.size w0 _ from by (repeat (first | with_reducible assumption | with_reducible exact bZ _ | with_reducible apply bA | with_reducible apply bD)))).1)); (focus (exact (HT.out _ (show Below w0.heap.size w0 _ from by (repeat (first | with_reducible assumption | with_reducible exact bZ _ | with_reducible apply bA | with_reducible apply bD)))).2.1)); rintro e wz2 ⟨rfl, hbz2⟩; have hcz2 := below_next (show Below w0.heap.size w0 _ from by (repeat (first | with_reducible assumption | with_reducible exact bZ _ | with_reducible apply bA | with_reducible apply bD))) hbz2; clear hbz2)
        | (go_at_call 19; (with_reducible refine (cmp_v HO.out.2.1 _ _ _ ?_ ?_).mono ?_); (focus (exact (HT.out _ (show Below w0.heap.size w0 _ from by (repeat (first | with_reducible assumption | with_reducible exact bZ _ | with_reducible apply bA | with_reducible apply bD)))).1)); (focus (exact (HT.out _ (show Below w0.heap.size w0 _ from by (repeat (first | with_reducible assumption | with_reducible exact bZ _ | with_reducible apply bA | with_reducible apply bD)))).2.1)); rintro e wz3 ⟨rfl, hbz3⟩; have hcz3 := below_next (show Below w0.heap.size w0 _ from by (repeat (first | with_reducible assumption | with_reducible exact bZ _ | with_reducible apply bA | with_reducible apply bD))) hbz3; clear hbz3)
        | (go_at_call 20; (with_reducible refine (rcmp_v HO.out.2.1 _ _ _ ?_ ?_).mono ?_); (focus (exact (HT.out _ (show Below w0.heap.size w0 _ from by (repeat (first | with_reducible assumption | with_reducible exact bZ _ | with_reducible apply bA | with_reducible apply bD)))).1)); (focus (exact (HT.out _ (show Below w0.heap.size w0 _ from by (repeat (first | with_reducible assumption | with_reducible exact bZ _ | with_reducible apply bA | with_reducible apply bD)))).2.1)); rintro e wz4 ⟨rfl, hbz4⟩; have hcz4 := below_next (show Below w0.heap.size w0 _ from by (repeat (first | with_reducible assumption | with_reducible exact bZ _ | with_reducible apply bA | with_reducible apply bD))) hbz4; clear hbz4)
        | (go_at_call 22; (with_reducible refine (Vars_any l _ _ ?_ HO.out.2.2.2).mono ?_); (focus (exact (HT.out _ (show Below w0.heap.size w0 _ from by (repeat (first | with_reducible assumption | with_reducible exact bZ _ | with_reducible apply bA | with_reducible apply bD)))).2.2.1)); rintro e wz5 ⟨v5, rfl, hi5, hbz5⟩; have hcz5 := below_next (show Below w0.heap.size w0 _ from by (repeat (first | with_reducible assumption | with_reducible exact bZ _ | with_reducible apply bA | with_reducible apply bD))) hbz5; have Hi5 := Lib.hid hi5; clear hi5; clear hbz5)
        | (go_at_call 23; (with_reducible refine (rvars_v l _ _ ?_ HO.out.2.2.2).mono ?_); (focus (exact (HT.out _ (show Below w0.heap.size w0 _ from by (repeat (first | with_reducible assumption | with_reducible exact bZ _ | with_reducible apply bA | with_reducible apply bD)))).2.2.1)); rintro e wz6 ⟨v6, rfl, hi6, hbz6⟩; have hcz6 := below_next (show Below w0.heap.size w0 _ from by (repeat (first | with_reducible assumption | with_reducible exact bZ _ | with_reducible apply bA | with_reducible apply bD))) hbz6; have Hi6 := Lib.hid (And.intro hi6 (intS_up (below_next (show Below wz5.heap.size wz5 _ from by (repeat (first | with_reducible assumption | with_reducible exact bZ _ | with_reducible apply bA | with_reducible apply bD))) hbz6) Hi5.out)); clear hi6; clear hbz6)
        | (go_at_call 21; (with_reducible refine (two_ints (l := varsG l) ?_ ?_).mono ?_); (focus (exact (intS_up (show Below wz6.heap.size wz6 _ from by (repeat (first | with_reducible assumption | with_reducible exact bZ _ | with_reducible apply bA | with_reducible apply bD))) Hi6.out.2))); (focus (exact (intS_up (show Below wz6.heap.size wz6 _ from by (repeat (first | with_reducible assumption | with_reducible exact bZ _ | with_reducible apply bA | with_reducible apply bD))) Hi6.out.1))); rintro e wz7 ⟨rfl, hbz7⟩; have hcz7 := below_next (show Below w0.heap.size w0 _ from by (repeat (first | with_reducible assumption | with_reducible exact bZ _ | with_reducible apply bA | with_reducible apply bD))) hbz7; clear hbz7)
        | (go_at_call 24; (with_reducible refine (ground_v HO.out.2.2.1 _ _ ?_).mono ?_); (focus (exact (HT.out _ (show Below w0.heap.size w0 _ from by (repeat (first | with_reducible assumption | with_reducible exact bZ _ | with_reducible apply bA | with_reducible apply bD)))).1)); rintro e wz8 ⟨rfl, hbz8⟩; have hcz8 := below_next (show Below w0.heap.size w0 _ from by (repeat (first | with_reducible assumption | with_reducible exact bZ _ | with_reducible apply bA | with_reducible apply bD))) hbz8; clear hbz8)
        | (go_at_call 25; (with_reducible refine (rground_v HO.out.2.2.1 _ _ ?_ HSZ.out).mono ?_); (focus (exact (HT.out _ (show Below w0.heap.size w0 _ from by (repeat (first | with_reducible assumption | with_reducible exact bZ _ | with_reducible apply bA | with_reducible apply bD)))).1)); rintro e wz9 ⟨rfl, hbz9⟩; have hcz9 := below_next (show Below w0.heap.size w0 _ from by (repeat (first | with_reducible assumption | with_reducible exact bZ _ | with_reducible apply bA | with_reducible apply bD))) hbz9; clear hbz9))
  all_goals
    go_wp2_with fail
    go_ret
    exact ⟨rfl, below_next HW.out.1 (show Below w0.heap.size w0 _ from by (repeat (first | with_reducible assumption | with_reducible exact bZ _ | with_reducible apply bA | with_reducible apply bD)))⟩
end Go.Proofs.Ytapdfdjknehhgaa
