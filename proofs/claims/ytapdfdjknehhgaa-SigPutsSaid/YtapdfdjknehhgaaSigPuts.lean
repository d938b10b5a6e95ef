/- SigPuts: true at every two trees and every number. -/
import Derived.Test.YtapdfdjknehhgaaLc
import Derived.Test.YtapdfdjknehhgaaSiz
import Derived.Test.YtapdfdjknehhgaaBeg
import Derived.Deep.CutRange
import Derived.Deep.RegionHeld3
import Derived.Deep.QuietTactic
import Derived.BigQuiet
namespace Go.Proofs.Ytapdfdjknehhgaa
open Go.RowKit Go.Tr

theorem size_g {t : Tm} (hg : good t = true) (v : Value) (w : World) (h : TrV w (· < w.heap.size) t v) : Calls Try.prog 15 #[v] w fun e w' => e = .returned (.tuple #[.int .i64 (sz t : Nat), .int .i64 (dp t : Nat)]) ∧ Below w.heap.size w w' := by
  have h := Size_any t v w h
  have e : sizE t = ((sz t : Int), (dp t : Int)) := by
    obtain ⟨h1, h2, -⟩ := (good_iff t).1 hg
    unfold sizE fit
    rw [if_pos (by simp [h1, h2])]
  rw [e] at h
  exact h
theorem pick_at (c : Int) {N : Nat} (h0 : 0 < N) (h1 : N ≤ 2000) : ∃ j : Nat, wrap64 ((IntKind.u64.wrap c).tmod (N : Int)) = (j : Int) ∧ j < N := by
  have h2 : 0 ≤ IntKind.u64.wrap c := by simp [IntKind.wrap, IntKind.bits, IntKind.signed]; omega
  have h3 := Int.tmod_nonneg (N : Int) h2
  have h4 := Int.tmod_lt_of_pos (IntKind.u64.wrap c) (show (0 : Int) < (N : Int) by omega)
  generalize (IntKind.u64.wrap c).tmod (N : Int) = m at *
  refine ⟨m.toNat, ?_, by omega⟩
  unfold wrap64
  omega
theorem box_kept {w : World} {t : Tm} {oc : Option Addr} {cc : Nat} (hv : TrV w (· < w.heap.size) t (.agg #[.int .i64 t.k, .int .i64 t.n, .slice oc t.l.length cc])) :
    ∀ W, Below (w.alloc (.cells #[.int .i64 t.k, .int .i64 t.n, .slice oc t.l.length cc] 24)).heap.size (w.alloc (.cells #[.int .i64 t.k, .int .i64 t.n, .slice oc t.l.length cc] 24)) W →
      (W.cell? ⟨w.heap.size, 0, none⟩ = some (.int .i64 t.k) ∧ W.cell? ⟨w.heap.size, 1, none⟩ = some (.int .i64 t.n) ∧ W.cell? ⟨w.heap.size, 2, none⟩ = some (.slice oc t.l.length cc)) ∧ TrV W (· < W.heap.size) t (.agg #[.int .i64 t.k, .int .i64 t.n, .slice oc t.l.length cc]) := fun W hW => by
  have r := has_call hW (has_new (w := w) (b := w.heap.size) (o := .cells #[.int .i64 t.k, .int .i64 t.n, .slice oc t.l.length cc] 24) rfl)
  exact ⟨⟨(cells_of r 0).1, (cells_of r 1).1, (cells_of r 2).1⟩, trV_up (below_next (bA (bZ w) _) hW) hv⟩
set_option maxRecDepth 100000 in
set_option maxHeartbeats 4000000 in
theorem SigPuts_any (A B : Tm) (va vb : Value) (c : Int) (w : World) (ha : TrV w (· < w.heap.size) A va) (hb : TrV w (· < w.heap.size) B vb) :
    Calls Try.prog 6 #[va, vb, .int .i64 c] w fun e w' => e = .returned (.bool true) ∧ Below w.heap.size w w' := by
  obtain ⟨ka, na, la⟩ := A
  obtain ⟨kb, nb, lb⟩ := B
  generalize hA : Tm.node ka na la = A at *
  generalize hB : Tm.node kb nb lb = B at *
  obtain ⟨sa, rfl⟩ := node_w (hA.symm ▸ ha)
  obtain ⟨sb, rfl⟩ := node_w (hB.symm ▸ hb)
  have HI := Lib.hid (And.intro ha hb)
  clear ha hb
  go_enter Try.func6, Try.ntmps6
  go_wp2_with fail
  generalize hW : (w.alloc _).alloc _ = w0
  have hbw : Below w.heap.size w w0 := by rw [← hW]; exact bA (bA (bZ w) _) _
  have h0 : Has w0 w.heap.size (.cells #[.int .i64 ka, .int .i64 na, sa] 24) := by rw [← hW]; show _ = _; (simp only [heap_alloc, alloc_size]; repeat (first | rw [if_pos trivial] | rw [if_pos (by omega)] | rw [if_neg (by omega)]))
  have h1 : Has w0 (w.heap.size + 1) (.cells #[.int .i64 kb, .int .i64 nb, sb] 24) := by rw [← hW]; show _ = _; (simp only [heap_alloc, alloc_size]; repeat (first | rw [if_pos trivial] | rw [if_pos (by omega)] | rw [if_neg (by omega)]))
  clear hW
  have HT := Lib.hid (show ∀ W, Below w0.heap.size w0 W → TrV W (· < W.heap.size) A (.agg #[.int .i64 ka, .int .i64 na, sa]) ∧ TrV W (· < W.heap.size) B (.agg #[.int .i64 kb, .int .i64 nb, sb]) from
    fun W hW => ⟨trV_up (below_next hbw hW) HI.out.1, trV_up (below_next hbw hW) HI.out.2⟩)
  have hQ : ∀ W, Below w0.heap.size w0 W → W.cell? ⟨w.heap.size, 0, none⟩ = some (.int .i64 ka) ∧ W.cell? ⟨w.heap.size, 1, none⟩ = some (.int .i64 na) ∧ W.cell? ⟨w.heap.size, 2, none⟩ = some sa ∧
      W.cell? ⟨w.heap.size + 1, 0, none⟩ = some (.int .i64 kb) ∧ W.cell? ⟨w.heap.size + 1, 1, none⟩ = some (.int .i64 nb) ∧ W.cell? ⟨w.heap.size + 1, 2, none⟩ = some sb := by
    intro W hW
    have r0 := has_call hW h0
    have r1 := has_call hW h1
    exact ⟨(cells_of r0 0).1, (cells_of r0 1).1, (cells_of r0 2).1, (cells_of r1 0).1, (cells_of r1 1).1, (cells_of r1 2).1⟩
  clear h0 h1
  generalize w.heap.size + 1 = pb at hQ ⊢
  generalize hpa : w.heap.size = pa at hQ ⊢
  have HW := Lib.hid (And.intro hbw hpa)
  have HQ := Lib.hid hQ
  clear hQ hbw hpa
  refine (sane_any _).mono ?_
  rintro e w1 ⟨rfl, hb1⟩
  obtain ⟨s0, s1, s2, s3, s4, s5⟩ := HQ.out _ hb1
  go_wp2_with fail
  refine (few_any [A, B] _ _ ?_).mono ?_
  · subst hA hB
    refine sN2 (by (repeat (first | (with_reducible refine has_new ?_; first | with_reducible rfl | (simp; done)) | with_reducible refine has_drew ?_ | with_reducible refine has_old ?_))) ?_ ?_
    · exact (HT.out _ (show Below w0.heap.size w0 _ from by (repeat (first | with_reducible assumption | with_reducible exact bZ _ | with_reducible apply bA | with_reducible apply bD)))).1
    · exact (HT.out _ (show Below w0.heap.size w0 _ from by (repeat (first | with_reducible assumption | with_reducible exact bZ _ | with_reducible apply bA | with_reducible apply bD)))).2
  rintro e w2 ⟨rfl, hb2⟩
  have hc2 := below_next (show Below w0.heap.size w0 _ from by (repeat (first | with_reducible assumption | with_reducible exact bZ _ | with_reducible apply bA | with_reducible apply bD))) hb2
  clear hb2 s0 s1 s2 s3 s4 s5 hb1
  obtain ⟨s0, s1, s2, s3, s4, s5⟩ := HQ.out _ hc2
  obtain ⟨fq, hfq⟩ : ∃ q, few [A, B] = q := ⟨_, rfl⟩
  rw [hfq]
  cases fq
  · go_wp2_with fail
    go_ret
    exact ⟨rfl, below_next HW.out.1 hc2⟩
  clear hfq
  go_wp2_with fail
  refine (RIs_any A _ _ (HT.out _ hc2).1).mono ?_
  rintro e w3 ⟨rfl, hb3⟩
  have hc3 := below_next hc2 hb3
  clear hb3 s0 s1 s2 s3 s4 s5 hc2
  obtain ⟨s0, s1, s2, s3, s4, s5⟩ := HQ.out _ hc3
  obtain ⟨qa, hqa⟩ : ∃ q, good A = q := ⟨_, rfl⟩
  rw [hqa]
  cases qa
  · go_wp2_with fail
    go_ret
    exact ⟨rfl, below_next HW.out.1 hc3⟩
  have HGA := Lib.hid hqa
  clear hqa
  go_wp2_with fail
  refine (RIs_any B _ _ (HT.out _ hc3).2).mono ?_
  rintro e w4 ⟨rfl, hb4⟩
  have hc4 := below_next hc3 hb4
  clear hb4 s0 s1 s2 s3 s4 s5 hc3
  obtain ⟨s0, s1, s2, s3, s4, s5⟩ := HQ.out _ hc4
  obtain ⟨qb, hqb⟩ : ∃ q, good B = q := ⟨_, rfl⟩
  rw [hqb]
  cases qb
  · go_wp2_with fail
    go_ret
    exact ⟨rfl, below_next HW.out.1 hc4⟩
  have HGB := Lib.hid hqb
  clear hqb
  go_wp2_with fail
  refine (paths_q HGA.out _ _ (HT.out _ hc4).1).mono ?_
  rintro e w5 ⟨rb, rc, rfl, hps, hb5⟩
  have hc5 := below_next hc4 hb5
  clear hb5 s0 s1 s2 s3 s4 s5 hc4
  obtain ⟨s0, s1, s2, s3, s4, s5⟩ := HQ.out _ hc5
  go_wp2_with fail
  refine (size_g HGA.out _ _ (HT.out _ hc5).1).mono ?_
  rintro e w6 ⟨rfl, hb6⟩
  have hps6 := pthR_up hb6 hps
  have hc6 := below_next hc5 hb6
  clear hb6 s0 s1 s2 s3 s4 s5 hc5 hps
  have hnz := sz_pos A
  have hn2 := ((good_iff A).1 HGA.out).1
  obtain ⟨s0, s1, s2, s3, s4, s5⟩ := HQ.out _ hc6
  generalize hN : sz A = N at *
  have z0 : (0 : Int) < (N : Int) := by omega
  have z1 : (N : Int) ≤ 2000 := by omega
  have z2 : ¬ (N : Int) = 0 := by omega
  obtain ⟨j, hj, hjN⟩ := pick_at c (show 0 < N from hnz) (show N ≤ 2000 from hn2)
  have hpl := pathsT_len A []
  rw [hN] at hpl
  have hjl : j < (pathsT A []).length := by omega
  obtain ⟨sp, p0, hsp⟩ := hps6.2 j hjl
  obtain ⟨x0, hx0⟩ := paths_node (List.getElem_mem hjl)
  generalize hpp : (pathsT A [])[j] = pp at *
  obtain ⟨oap, capp, bp, op, rfl, -⟩ := id hsp
  have j0 : (0 : Int) ≤ (j : Int) := Int.natCast_nonneg _
  have j1 : (j : Int) < (N : Int) := by omega
  have HP6 := Lib.hid (And.intro hps6 (And.intro hc6 (And.intro hsp (And.intro hx0 hpl))))
  clear hps6 hsp hx0 hpl hpp
  go_wp2_with fail
  refine (at_q HGA.out HP6.out.2.2.2.1 _ _ _ (HT.out _ hc6).1 HP6.out.2.2.1).mono ?_
  rintro e w7 ⟨o7, c7, rfl, hv7, hb7⟩
  have hbx7 := box_kept hv7
  have hd7 : Below w6.heap.size w6 (w7.alloc (.cells #[.int .i64 x0.k, .int .i64 x0.n, .slice o7 x0.l.length c7] 24)) := bA hb7 _
  have hc7 := below_next hc6 hd7
  obtain ⟨s0, s1, s2, s3, s4, s5⟩ := HQ.out _ hc7
  clear hb7 hv7 p0
  go_wp2_with fail
  generalize (w7.alloc (.cells #[.int .i64 x0.k, .int .i64 x0.n, .slice o7 x0.l.length c7] 24)) = v7 at *
  generalize w7.heap.size = po at *
  have HO := Lib.hid hbx7
  have hbeg := intS_up hd7 HP6.out.2.2.1
  have hp7 := pthR_up hd7 HP6.out.1
  refine (put_q HGA.out HGB.out HP6.out.2.2.2.1 _ _ _ _ (HT.out _ hc7).1 hbeg (HT.out _ hc7).2).mono ?_
  clear hbx7 hd7 s0 s1 s2 s3 s4 s5 hc6
  have HP7 := Lib.hid (And.intro hp7 (And.intro hbeg HP6.out.2.2.2))
  clear hp7 hbeg HP6
  rintro e w8 ⟨hb8, ⟨hg8, rfl⟩ | ⟨hg8, o8, c8, rfl, hv8⟩⟩
  · have hc8 := below_next hc7 hb8
    clear hb8
    go_wp2_with fail
    go_ret
    exact ⟨rfl, below_next HW.out.1 (show Below w0.heap.size w0 _ from by (repeat (first | with_reducible assumption | with_reducible exact bZ _ | with_reducible apply bA | with_reducible apply bD)))⟩
  have HGX := Lib.hid hg8
  clear hg8
  have hX : nodeT (putT A pp B) pp = some B := put_at pp A x0 B HP7.out.2.2.1
  have hY : putT (putT A pp B) pp x0 = A := put_back pp A x0 B HP7.out.2.2.1
  have HX := Lib.hid (And.intro hX (And.intro hY (show ∀ q, ¬ pp <+: q → ¬ q <+: pp → nodeT (putT A pp B) q = nodeT A q from fun q => put_else pp q A x0 B HP7.out.2.2.1)))
  clear hX hY
  generalize putT A pp B = X at *
  have hbx8 := box_kept hv8
  have hd8 : Below v7.heap.size v7 (w8.alloc (.cells #[.int .i64 X.k, .int .i64 X.n, .slice o8 X.l.length c8] 24)) := bA hb8 _
  have hc8 := below_next hc7 hd8
  obtain ⟨⟨q0, q1, q2⟩, hvx⟩ := hbx8 _ (bZ _)
  clear hb8 hv8
  go_wp2_with fail
  generalize (w8.alloc (.cells #[.int .i64 X.k, .int .i64 X.n, .slice o8 X.l.length c8] 24)) = v8 at *
  generalize w8.heap.size = px at *
  have HV := Lib.hid (show ∀ W, Below v8.heap.size v8 W → ((W.cell? ⟨po, 0, none⟩ = some (.int .i64 x0.k) ∧ W.cell? ⟨po, 1, none⟩ = some (.int .i64 x0.n) ∧ W.cell? ⟨po, 2, none⟩ = some (.slice o7 x0.l.length c7)) ∧ TrV W (· < W.heap.size) x0 (.agg #[.int .i64 x0.k, .int .i64 x0.n, .slice o7 x0.l.length c7])) ∧
      ((W.cell? ⟨px, 0, none⟩ = some (.int .i64 X.k) ∧ W.cell? ⟨px, 1, none⟩ = some (.int .i64 X.n) ∧ W.cell? ⟨px, 2, none⟩ = some (.slice o8 X.l.length c8)) ∧ TrV W (· < W.heap.size) X (.agg #[.int .i64 X.k, .int .i64 X.n, .slice o8 X.l.length c8])) ∧ IntS W (· < W.heap.size) pp (.slice oap pp.length capp) ∧ PthR W rb (pathsT A []) from
    fun W hW => ⟨HO.out W (below_next hd8 hW), hbx8 W hW, intS_up (below_next hd8 hW) HP7.out.2.1, pthR_up (below_next hd8 hW) HP7.out.1⟩)
  clear q0 q1 q2 hbx8 hd8 HO
  refine (at_q HGX.out HX.out.1 _ _ _ hvx (HV.out _ (bZ v8)).2.2.1).mono ?_
  clear hvx
  rintro e w9 ⟨o9, c9, rfl, hv9, hb9⟩
  have hbx9 := box_kept hv9
  have hd9 : Below v8.heap.size v8 (w9.alloc (.cells #[.int .i64 B.k, .int .i64 B.n, .slice o9 B.l.length c9] 24)) := bA hb9 _
  have hc9 := below_next hc8 hd9
  obtain ⟨⟨⟨y0, y1, y2⟩, hvo⟩, ⟨⟨q0, q1, q2⟩, hvx⟩, his, hpt⟩ := HV.out _ hd9
  clear hb9 hv9
  go_wp2_with fail
  generalize (w9.alloc (.cells #[.int .i64 B.k, .int .i64 B.n, .slice o9 B.l.length c9] 24)) = v9 at *
  generalize w9.heap.size = py at *
  have HY9 := Lib.hid (And.intro hbx9 hd9)
  have hput := put_q HGX.out (node_good pp A x0 HP7.out.2.2.1 HGA.out) HX.out.1 _ _ _ _ hvx his hvo
  rw [HX.out.2.1] at hput
  refine hput.mono ?_
  clear hput hvx his hpt hvo hbx9 hd9 y0 y1 y2 q0 q1 q2
  rintro e w10 ⟨hb10, ⟨hg10, rfl⟩ | ⟨-, o10, c10, rfl, hv10⟩⟩
  · rw [HGA.out] at hg10; cases hg10
  have hbx10 := box_kept hv10
  have hd10 : Below v9.heap.size v9 (w10.alloc (.cells #[.int .i64 A.k, .int .i64 A.n, .slice o10 A.l.length c10] 24)) := bA hb10 _
  have hc10 := below_next hc9 hd10
  obtain ⟨s0, s1, s2, s3, s4, s5⟩ := HQ.out _ hc10
  obtain ⟨⟨y0, y1, y2⟩, hvy⟩ := HY9.out.1 _ hd10
  obtain ⟨⟨z3, z4, z5⟩, hvz⟩ := hbx10 _ (bZ _)
  clear hb10 hv10
  go_wp2_with fail
  generalize (w10.alloc (.cells #[.int .i64 A.k, .int .i64 A.n, .slice o10 A.l.length c10] 24)) = v10 at *
  generalize w10.heap.size = pz at *
  have HZ := Lib.hid hbx10
  have he10 := below_next HY9.out.2 hd10
  clear hbx10 hd10 hvz
  refine (rsame_q ((eqT_iff B B).2 rfl) _ _ _ hvy (HT.out _ hc10).2).mono ?_
  clear hvy y0 y1 y2 z3 z4 z5 s0 s1 s2 s3 s4 s5 HY9
  rintro e w11 ⟨rfl, hb11⟩
  have hc11 := below_next hc10 hb11
  obtain ⟨s0, s1, s2, s3, s4, s5⟩ := HQ.out _ hc11
  obtain ⟨⟨z3, z4, z5⟩, hvz⟩ := HZ.out _ hb11
  go_wp2_with fail
  refine (rsame_q ((eqT_iff A A).2 rfl) _ _ _ hvz (HT.out _ hc11).1).mono ?_
  rintro e w12 ⟨rfl, hb12⟩
  have hc12 := below_next hc11 hb12
  have he12 := below_next he10 (below_next hb11 hb12)
  have HV12 := Lib.hid (show ∀ W, Below w12.heap.size w12 W → ((W.cell? ⟨px, 0, none⟩ = some (.int .i64 X.k) ∧ W.cell? ⟨px, 1, none⟩ = some (.int .i64 X.n) ∧ W.cell? ⟨px, 2, none⟩ = some (.slice o8 X.l.length c8)) ∧ TrV W (· < W.heap.size) X (.agg #[.int .i64 X.k, .int .i64 X.n, .slice o8 X.l.length c8])) ∧ IntS W (· < W.heap.size) pp (.slice oap pp.length capp) ∧ PthR W rb (pathsT A []) from
    fun W hW => (HV.out W (below_next he12 hW)).2)
  have hpl := HP7.out.2.2.2
  have HC := Lib.hid (And.intro hc12 hpl)
  clear hvz z3 z4 z5 s0 s1 s2 s3 s4 s5 hb11 hb12 he10 he12 hc11 hc10 hc9 hc8 hc7 HV HZ j0 j1 hj hjN z0 z1 z2 hnz hpl
  go_wp2_with fail
  go_loopw [124] (fun i wr => ∃ (k : Nat), k ≤ N ∧ i = .int .i64 k ∧ Hid (Below w12.heap.size w12 wr)) (fun i _ => N - (intOf i).toNat)
  case atStart => exact ⟨0, by omega, rfl, bZ w12⟩
  case round =>
    obtain ⟨k, hk, rfl, HR⟩ := hrel
    have hcr := below_next HC.out.1 HR.out
    have i0 : (0 : Int) ≤ (k : Int) := Int.natCast_nonneg _
    by_cases hlt : k < N
    · have i1 : (k : Int) < (N : Int) := by omega
      have i2 : (k : Int) ≤ 2000 := by omega
      obtain ⟨hq, hps⟩ := (HV12.out _ HR.out).2
      have hkl : k < (pathsT A []).length := by have := HC.out.2; omega
      obtain ⟨sq, c0, hsq⟩ := hps.2 k hkl
      obtain ⟨y, hy⟩ := paths_node (List.getElem_mem hkl)
      generalize (pathsT A [])[k] = q at *
      obtain ⟨oq, cq, bq, oqo, rfl, -⟩ := id hsq
      have HS := Lib.hid (And.intro hsq (And.intro hq hy))
      clear hq hps hsq hy hkl
      by_cases hbig : (100 : Int) < (k : Int)
      · go_wp2_with fail
        go_ret
        exact ⟨rfl, below_next HW.out.1 hcr⟩
      go_wp2_with fail
      obtain ⟨b1, hb1⟩ : ∃ b, decide (q = pp.take q.length) = b := ⟨_, rfl⟩
      refine (begins_q hb1 _ _ _ HS.out.1 HS.out.2.1).mono ?_
      rintro e w13 ⟨rfl, hb13⟩
      have hd13 := below_next HR.out hb13
      cases b1
      · have hn1 : ¬ q <+: pp := fun h => by
          rw [List.prefix_iff_eq_take] at h
          exact absurd h (of_decide_eq_false hb1)
        have HN1 := Lib.hid hn1
        clear hn1 hb1
        go_wp2_with fail
        obtain ⟨b2, hb2⟩ : ∃ b, decide (pp = q.take pp.length) = b := ⟨_, rfl⟩
        refine (begins_q hb2 _ _ _ (intS_up hb13 HS.out.2.1) (intS_up hb13 HS.out.1)).mono ?_
        rintro e w14 ⟨rfl, hb14⟩
        have hd14 := below_next hd13 hb14
        have he14 := below_next hb13 hb14
        clear hb13 hb14
        cases b2
        · have hn2' : ¬ pp <+: q := fun h => by
            rw [List.prefix_iff_eq_take] at h
            exact absurd h (of_decide_eq_false hb2)
          have hXq : nodeT X q = some y := (HX.out.2.2 q hn2' HN1.out).trans HS.out.2.2
          have HXQ := Lib.hid hXq
          have HD := Lib.hid (And.intro hd14 (intS_up he14 HS.out.1))
          clear hn2' hXq hb2 hcr hd13 hd14 he14 c0
          have hc14 := below_next HC.out.1 HD.out.1
          obtain ⟨s0, s1, s2, s3, s4, s5⟩ := HQ.out _ hc14
          go_wp2_with fail
          refine (at_q HGA.out HS.out.2.2 _ _ _ (HT.out _ hc14).1 HD.out.2).mono ?_
          rintro e w15 ⟨o15, c15, rfl, hv15, hb15⟩
          have hbx15 := box_kept hv15
          have hd15 : Below w14.heap.size w14 (w15.alloc (.cells #[.int .i64 y.k, .int .i64 y.n, .slice o15 y.l.length c15] 24)) := bA hb15 _
          have hf15 := below_next HD.out.1 hd15
          obtain ⟨⟨q0, q1, q2⟩, hvx⟩ := (HV12.out _ hf15).1
          have hsq := intS_up hd15 HD.out.2
          clear hv15 hb15 s0 s1 s2 s3 s4 s5 hc14
          go_wp2_with fail
          generalize (w15.alloc (.cells #[.int .i64 y.k, .int .i64 y.n, .slice o15 y.l.length c15] 24)) = v15 at *
          generalize w15.heap.size = p15 at *
          refine (at_q HGX.out HXQ.out _ _ _ hvx hsq).mono ?_
          rintro e w16 ⟨o16, c16, rfl, hv16, hb16⟩
          have hbx16 := box_kept hv16
          have hd16 : Below v15.heap.size v15 (w16.alloc (.cells #[.int .i64 y.k, .int .i64 y.n, .slice o16 y.l.length c16] 24)) := bA hb16 _
          obtain ⟨⟨y0, y1, y2⟩, hva⟩ := hbx15 _ hd16
          obtain ⟨⟨z0, z1, z2⟩, hvb⟩ := hbx16 _ (bZ _)
          have hf16 := below_next hf15 hd16
          clear hv16 hb16 q0 q1 q2 hvx hsq hbx15 hbx16
          go_wp2_with fail
          generalize (w16.alloc (.cells #[.int .i64 y.k, .int .i64 y.n, .slice o16 y.l.length c16] 24)) = v16 at *
          generalize w16.heap.size = p16 at *
          refine (rsame_q ((eqT_iff y y).2 rfl) _ _ _ hva hvb).mono ?_
          rintro e w17 ⟨rfl, hb17⟩
          have HF := Lib.hid (below_next hf16 hb17)
          clear hva hvb y0 y1 y2 z0 z1 z2 hb17 hf16 hd16 hf15 hd15
          go_wp2_with fail
          go_roundw
          case rel => exact ⟨k + 1, by omega, by go_num, HF.out⟩
          case measure => simp [intOf]; omega
        · have HF := Lib.hid hd14
          clear hb2 hd13 hd14 he14 c0 hcr
          go_wp2_with fail
          go_roundw
          case rel => exact ⟨k + 1, by omega, by go_num, HF.out⟩
          case measure => simp [intOf]; omega
      · have HF := Lib.hid hd13
        clear hb1 hd13 hb13 c0 hcr
        go_wp2_with fail
        go_roundw
        case rel => exact ⟨k + 1, by omega, by go_num, HF.out⟩
        case measure => simp [intOf]; omega
    · have hke : k = N := by omega
      subst hke
      go_wp2_with fail
      go_ret
      exact ⟨rfl, below_next HW.out.1 hcr⟩
end Go.Proofs.Ytapdfdjknehhgaa
