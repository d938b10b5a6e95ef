/- SigOrder: true at every three trees. -/
import Derived.Test.YtapdfdjknehhgaaSane
import Derived.Test.YtapdfdjknehhgaaFew
namespace Go.Proofs.Ytapdfdjknehhgaa
open Go.RowKit Go.Tr

theorem cmp_is {t t' : Tm} {n : Int} (hc : cmpT t t' = n) (v v' : Value) (w : World) (h : TrV w (· < w.heap.size) t v) (h' : TrV w (· < w.heap.size) t' v') : Calls Try.prog 19 #[v, v'] w fun e w' => e = .returned (.int .i64 n) ∧ Below w.heap.size w w' := by
  have h := Compare_any t t' v v' w h h'
  rw [hc] at h; exact h
theorem same_is {t t' : Tm} {q : Bool} (hc : eqT t t' = q) (v v' : Value) (w : World) (h : TrV w (· < w.heap.size) t v) (h' : TrV w (· < w.heap.size) t' v') : Calls Try.prog 17 #[v, v'] w fun e w' => e = .returned (.bool q) ∧ Below w.heap.size w w' := by
  have h := Same_any t t' v v' w h h'
  rw [hc] at h; exact h
theorem node_v {w : World} {P : Nat → Prop} {k n : Int} {l : List Tm} {v : Value} (h : TrV w P (.node k n l) v) : ∃ s, v = .agg #[.int .i64 k, .int .i64 n, s] := by
  obtain ⟨s, rfl, -⟩ := trV_iff.1 h
  exact ⟨s, rfl⟩
set_option maxRecDepth 100000 in
theorem SigOrder_any (A B C : Tm) (va vb vc : Value) (w : World) (ha : TrV w (· < w.heap.size) A va) (hb : TrV w (· < w.heap.size) B vb) (hc : TrV w (· < w.heap.size) C vc) :
    Calls Try.prog 5 #[va, vb, vc] w fun e w' => e = .returned (.bool true) ∧ Below w.heap.size w w' := by
  have hAB := (ord A).1 B
  have hBC := (ord B).1 C
  have hAC := (ord A).1 C
  have hAA := ((ord A).1 A).1.2 rfl
  have hT := (ord A).2 B C
  have hE := eqT_cmp A B
  obtain ⟨ka, na, la⟩ := A
  obtain ⟨kb, nb, lb⟩ := B
  obtain ⟨kc, nc, lc⟩ := C
  generalize hA : Tm.node ka na la = A at *
  generalize hB : Tm.node kb nb lb = B at *
  generalize hC : Tm.node kc nc lc = C at *
  obtain ⟨sa, rfl⟩ := node_v (hA.symm ▸ ha)
  obtain ⟨sb, rfl⟩ := node_v (hB.symm ▸ hb)
  obtain ⟨sc, rfl⟩ := node_v (hC.symm ▸ hc)
  have HI := Lib.hid (And.intro ha (And.intro hb hc))
  have HO := Lib.hid (And.intro hAB (And.intro hBC (And.intro hAC (And.intro hAA (And.intro hT hE)))))
  clear ha hb hc hAB hBC hAC hAA hT hE
  go_enter Try.func5, Try.ntmps5
  go_wp2_with fail
  generalize hW : ((w.alloc _).alloc _).alloc _ = w0
  have hbw : Below w.heap.size w w0 := by rw [← hW]; exact bA (bA (bA (bZ w) _) _) _
  have h0 : Has w0 w.heap.size (.cells #[.int .i64 ka, .int .i64 na, sa] 24) := by rw [← hW]; show _ = _; (simp only [heap_alloc, alloc_size]; repeat (first | rw [if_pos trivial] | rw [if_pos (by omega)] | rw [if_neg (by omega)]))
  have h1 : Has w0 (w.heap.size + 1) (.cells #[.int .i64 kb, .int .i64 nb, sb] 24) := by rw [← hW]; show _ = _; (simp only [heap_alloc, alloc_size]; repeat (first | rw [if_pos trivial] | rw [if_pos (by omega)] | rw [if_neg (by omega)]))
  have h2 : Has w0 (w.heap.size + 1 + 1) (.cells #[.int .i64 kc, .int .i64 nc, sc] 24) := by rw [← hW]; show _ = _; (simp only [heap_alloc, alloc_size]; repeat (first | rw [if_pos trivial] | rw [if_pos (by omega)] | rw [if_neg (by omega)]))
  clear hW
  have hQ : ∀ W, Below w0.heap.size w0 W → W.cell? ⟨w.heap.size, 0, none⟩ = some (.int .i64 ka) ∧ W.cell? ⟨w.heap.size, 1, none⟩ = some (.int .i64 na) ∧ W.cell? ⟨w.heap.size, 2, none⟩ = some sa ∧
      W.cell? ⟨w.heap.size + 1, 0, none⟩ = some (.int .i64 kb) ∧ W.cell? ⟨w.heap.size + 1, 1, none⟩ = some (.int .i64 nb) ∧ W.cell? ⟨w.heap.size + 1, 2, none⟩ = some sb ∧
      W.cell? ⟨w.heap.size + 1 + 1, 0, none⟩ = some (.int .i64 kc) ∧ W.cell? ⟨w.heap.size + 1 + 1, 1, none⟩ = some (.int .i64 nc) ∧ W.cell? ⟨w.heap.size + 1 + 1, 2, none⟩ = some sc := by
    intro W hW
    have r0 := has_call hW h0
    have r1 := has_call hW h1
    have r2 := has_call hW h2
    exact ⟨(cells_of r0 0).1, (cells_of r0 1).1, (cells_of r0 2).1, (cells_of r1 0).1, (cells_of r1 1).1, (cells_of r1 2).1, (cells_of r2 0).1, (cells_of r2 1).1, (cells_of r2 2).1⟩
  clear h0 h1 h2
  have HW := Lib.hid hbw
  have HT := Lib.hid (show ∀ W, Below w0.heap.size w0 W → TrV W (· < W.heap.size) A (.agg #[.int .i64 ka, .int .i64 na, sa]) ∧ TrV W (· < W.heap.size) B (.agg #[.int .i64 kb, .int .i64 nb, sb]) ∧ TrV W (· < W.heap.size) C (.agg #[.int .i64 kc, .int .i64 nc, sc]) from
    fun W hW => ⟨trV_up (below_next hbw hW) HI.out.1, trV_up (below_next hbw hW) HI.out.2.1, trV_up (below_next hbw hW) HI.out.2.2⟩)
  generalize w.heap.size + 1 + 1 = pc at hQ ⊢
  generalize w.heap.size + 1 = pb at hQ ⊢
  generalize w.heap.size = pa at hQ ⊢
  have HQ := Lib.hid hQ
  clear hQ hbw
  refine (sane_any _).mono ?_
  rintro e w1 ⟨rfl, hb1⟩
  obtain ⟨s0, s1, s2, s3, s4, s5, s6, s7, s8⟩ := HQ.out _ hb1
  go_wp2_with fail
  refine (few_any [A, B, C] _ _ ?_).mono ?_
  · subst hA hB hC
    refine sN3 (by (repeat (first | (with_reducible refine has_new ?_; first | with_reducible rfl | (simp; done)) | with_reducible refine has_drew ?_ | with_reducible refine has_old ?_))) ?_ ?_ ?_
    · exact (HT.out _ (show Below w0.heap.size w0 _ from by (repeat (first | with_reducible assumption | with_reducible exact bZ _ | with_reducible apply bA | with_reducible apply bD)))).1
    · exact (HT.out _ (show Below w0.heap.size w0 _ from by (repeat (first | with_reducible assumption | with_reducible exact bZ _ | with_reducible apply bA | with_reducible apply bD)))).2.1
    · exact (HT.out _ (show Below w0.heap.size w0 _ from by (repeat (first | with_reducible assumption | with_reducible exact bZ _ | with_reducible apply bA | with_reducible apply bD)))).2.2
  rintro e w2 ⟨rfl, hb2⟩
  have hc2 := below_next (show Below w0.heap.size w0 _ from by (repeat (first | with_reducible assumption | with_reducible exact bZ _ | with_reducible apply bA | with_reducible apply bD))) hb2
  clear hb2 s0 s1 s2 s3 s4 s5 s6 s7 s8
  obtain ⟨s0, s1, s2, s3, s4, s5, s6, s7, s8⟩ := HQ.out _ hc2
  generalize few [A, B, C] = fq
  cases fq
  · go_wp2_with fail
    go_ret
    exact ⟨rfl, below_next HW.out hc2⟩
  · go_upto_region 5 with fail
    go_cut [7, 8, 9] from 18 to 26 (fun x y z wx => x = .int .i64 (cmpT A B) ∧ y = .int .i64 (cmpT B C) ∧ z = .int .i64 (cmpT A C) ∧ Hid (Below w0.heap.size w0 wx))
    case first =>
      go_region_held3 (fun W => W.cell? ⟨pa, 0, none⟩ = some (.int .i64 ka) ∧ W.cell? ⟨pa, 1, none⟩ = some (.int .i64 na) ∧ W.cell? ⟨pa, 2, none⟩ = some sa ∧
        W.cell? ⟨pb, 0, none⟩ = some (.int .i64 kb) ∧ W.cell? ⟨pb, 1, none⟩ = some (.int .i64 nb) ∧ W.cell? ⟨pb, 2, none⟩ = some sb ∧
        W.cell? ⟨pc, 0, none⟩ = some (.int .i64 kc) ∧ W.cell? ⟨pc, 1, none⟩ = some (.int .i64 nc) ∧ W.cell? ⟨pc, 2, none⟩ = some sc) (first | (refine HQ.out _ ?_; (repeat (first | with_reducible assumption | with_reducible exact bZ _ | with_reducible apply bA | with_reducible apply bD)); done)) (first
        | (go_at_call 19; (with_reducible refine (Compare_any A B _ _ _ ?_ ?_).mono ?_); (focus (exact (HT.out _ (show Below w0.heap.size w0 _ from by (repeat (first | with_reducible assumption | with_reducible exact bZ _ | with_reducible apply bA | with_reducible apply bD)))).1)); (focus (exact (HT.out _ (show Below w0.heap.size w0 _ from by (repeat (first | with_reducible assumption | with_reducible exact bZ _ | with_reducible apply bA | with_reducible apply bD)))).2.1)); rintro e wz1 ⟨rfl, hbz1⟩; have hcz1 := below_next (show Below w0.heap.size w0 _ from by (repeat (first | with_reducible assumption | with_reducible exact bZ _ | with_reducible apply bA | with_reducible apply bD))) hbz1; clear hbz1)
        | (go_at_call 19; (with_reducible refine (Compare_any B C _ _ _ ?_ ?_).mono ?_); (focus (exact (HT.out _ (show Below w0.heap.size w0 _ from by (repeat (first | with_reducible assumption | with_reducible exact bZ _ | with_reducible apply bA | with_reducible apply bD)))).2.1)); (focus (exact (HT.out _ (show Below w0.heap.size w0 _ from by (repeat (first | with_reducible assumption | with_reducible exact bZ _ | with_reducible apply bA | with_reducible apply bD)))).2.2)); rintro e wz2 ⟨rfl, hbz2⟩; have hcz2 := below_next (show Below w0.heap.size w0 _ from by (repeat (first | with_reducible assumption | with_reducible exact bZ _ | with_reducible apply bA | with_reducible apply bD))) hbz2; clear hbz2)
        | (go_at_call 19; (with_reducible refine (Compare_any A C _ _ _ ?_ ?_).mono ?_); (focus (exact (HT.out _ (show Below w0.heap.size w0 _ from by (repeat (first | with_reducible assumption | with_reducible exact bZ _ | with_reducible apply bA | with_reducible apply bD)))).1)); (focus (exact (HT.out _ (show Below w0.heap.size w0 _ from by (repeat (first | with_reducible assumption | with_reducible exact bZ _ | with_reducible apply bA | with_reducible apply bD)))).2.2)); rintro e wz3 ⟨rfl, hbz3⟩; have hcz3 := below_next (show Below w0.heap.size w0 _ from by (repeat (first | with_reducible assumption | with_reducible exact bZ _ | with_reducible apply bA | with_reducible apply bD))) hbz3; clear hbz3))
      all_goals
        go_wp2_with fail
        go_meet
        exact ⟨rfl, rfl, rfl, (show Below w0.heap.size w0 _ from by (repeat (first | with_reducible assumption | with_reducible exact bZ _ | with_reducible apply bA | with_reducible apply bD)))⟩
    case rest =>
      obtain ⟨rfl, rfl, rfl, HB5⟩ := hcut
      obtain ⟨v5, hv5⟩ : ∃ v, v = wc := ⟨_, rfl⟩
      subst hv5
      have hb5 := HB5.out
      clear s0 s1 s2 s3 s4 s5 s6 s7 s8
      obtain ⟨s0, s1, s2, s3, s4, s5, s6, s7, s8⟩ := HQ.out _ hb5
      obtain ⟨hAB, hBC, hAC, hAA, hT, hE⟩ := HO.out
      have hx : cmpT A B = -1 ∨ cmpT A B = 0 ∨ cmpT A B = 1 := by omega
      have hy : cmpT B C = -1 ∨ cmpT B C = 0 ∨ cmpT B C = 1 := by omega
      have hz : cmpT A C = -1 ∨ cmpT A C = 0 ∨ cmpT A C = 1 := by omega
      have HY := Lib.hid (And.intro hy (And.intro hz hT))
      clear hy hz hT hBC hAC
      rcases hx with hx | hx | hx
      all_goals
        have HX := Lib.hid hx
        obtain ⟨nx, hnx⟩ : ∃ nx, cmpT B A = nx := ⟨_, rfl⟩
        rw [hx] at hE hAB
        obtain ⟨qe, hqe⟩ : ∃ q, eqT A B = q := ⟨_, rfl⟩
        have hnv : nx = -cmpT A B := by omega
        rw [hx] at hnv
        rw [hqe] at hE
        try simp at hE
        try simp at hnv
        subst hnv hE
        rw [hx]
        clear hx hAB
        go_upto_region 8 with (first
          | (go_at_call 19; refine (cmp_is hnx _ _ _ ?_ ?_).mono ?_; (focus (exact (HT.out _ (show Below w0.heap.size w0 _ from by (repeat (first | with_reducible assumption | with_reducible exact bZ _ | with_reducible apply bA | with_reducible apply bD)))).2.1)); (focus (exact (HT.out _ (show Below w0.heap.size w0 _ from by (repeat (first | with_reducible assumption | with_reducible exact bZ _ | with_reducible apply bA | with_reducible apply bD)))).1)); rintro e w61 ⟨rfl, hb61⟩; have hc61 := below_next (show Below w0.heap.size w0 _ from by (repeat (first | with_reducible assumption | with_reducible exact bZ _ | with_reducible apply bA | with_reducible apply bD))) hb61; clear hb61; obtain ⟨q0, q1, q2, q3, q4, q5, q6, q7, q8⟩ := HQ.out _ hc61)
          | (go_at_call 17; refine (same_is hqe _ _ _ ?_ ?_).mono ?_; (focus (exact (HT.out _ (show Below w0.heap.size w0 _ from by (repeat (first | with_reducible assumption | with_reducible exact bZ _ | with_reducible apply bA | with_reducible apply bD)))).1)); (focus (exact (HT.out _ (show Below w0.heap.size w0 _ from by (repeat (first | with_reducible assumption | with_reducible exact bZ _ | with_reducible apply bA | with_reducible apply bD)))).2.1)); rintro e w62 ⟨rfl, hb62⟩; have hc62 := below_next (show Below w0.heap.size w0 _ from by (repeat (first | with_reducible assumption | with_reducible exact bZ _ | with_reducible apply bA | with_reducible apply bD))) hb62; clear hb62; obtain ⟨q0, q1, q2, q3, q4, q5, q6, q7, q8⟩ := HQ.out _ hc62)
          | (go_at_call 19; refine (cmp_is hAA _ _ _ ?_ ?_).mono ?_; (focus (exact (HT.out _ (show Below w0.heap.size w0 _ from by (repeat (first | with_reducible assumption | with_reducible exact bZ _ | with_reducible apply bA | with_reducible apply bD)))).1)); (focus (exact (HT.out _ (show Below w0.heap.size w0 _ from by (repeat (first | with_reducible assumption | with_reducible exact bZ _ | with_reducible apply bA | with_reducible apply bD)))).1)); rintro e w63 ⟨rfl, hb63⟩; have hc63 := below_next (show Below w0.heap.size w0 _ from by (repeat (first | with_reducible assumption | with_reducible exact bZ _ | with_reducible apply bA | with_reducible apply bD))) hb63; clear hb63; obtain ⟨q0, q1, q2, q3, q4, q5, q6, q7, q8⟩ := HQ.out _ hc63))
        have hx := HX.out
        obtain ⟨hy, hz, hT⟩ := HY.out
        rw [hx] at hT
        rcases hy with hy | hy | hy
        all_goals
          rw [hy] at hT ⊢
          rcases hz with hz | hz | hz
          all_goals
            rw [hz] at hT ⊢
            first
              | (exfalso; omega)
              | (clear hT; go_wp2_with fail; go_ret; exact ⟨rfl, below_next HW.out (show Below w0.heap.size w0 _ from by (repeat (first | with_reducible assumption | with_reducible exact bZ _ | with_reducible apply bA | with_reducible apply bD)))⟩)
end Go.Proofs.Ytapdfdjknehhgaa
