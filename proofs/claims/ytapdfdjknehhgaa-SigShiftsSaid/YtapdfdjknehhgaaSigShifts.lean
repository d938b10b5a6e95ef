/- SigShifts: true at every tree and numbers. -/
import Derived.Test.YtapdfdjknehhgaaSigOrder
import Derived.Test.YtapdfdjknehhgaaShift
import Derived.Test.YtapdfdjknehhgaaRSame
import Derived.Test.YtapdfdjknehhgaaShP
namespace Go.Proofs.Ytapdfdjknehhgaa
open Go.RowKit Go.Tr

theorem rsame_is {t t' : Tm} {q : Bool} (hc : eqT t t' = q) (v v' : Value) (w : World) (h : TrV w (· < w.heap.size) t v) (h' : TrV w (· < w.heap.size) t' v') : Calls Try.prog 18 #[v, v'] w fun e w' => e = .returned (.bool q) ∧ Below w.heap.size w w' := by
  have h := RSame_any t t' v v' w h h'
  rw [hc] at h; exact h
/-- Shift, where it shifts: the tree's three cells told. -/
theorem shift_ok {t x : Tm} {f b : Int} (hc : shiftE t f b = 0) (hx : shiftT f b t = x) (v : Value) (hf : inI f) (hb : inI b) (w : World) (hv : TrV w (· < w.heap.size) t v) :
    Calls Try.prog 44 #[v, .int .i64 f, .int .i64 b] w fun e w' => ∃ o c, e = .returned (.tuple #[.agg #[.int .i64 x.k, .int .i64 x.n, .slice o x.l.length c], .int .i64 0]) ∧ TrV w' (· < w'.heap.size) x (.agg #[.int .i64 x.k, .int .i64 x.n, .slice o x.l.length c]) ∧ Below w.heap.size w w' := by
  refine (Shift_any t v f b hf hb w hv).mono ?_
  rintro e w' ⟨v', rfl, h1, -, h3⟩
  have h4 := h1 hc
  rw [hx] at h4
  rw [hc]
  have h5 := trV_new h4
  obtain ⟨s, rfl, -, -, hs⟩ := trV_iff.1 h5
  obtain ⟨o, c, b, o', rfl, -, -, -, -⟩ := trS_at hs
  exact ⟨o, c, rfl, h5, h3⟩
/-- Shift, where it does not. -/
theorem shift_no {t : Tm} {f b n : Int} (hc : shiftE t f b = n) (hn : n ≠ 0) (v : Value) (hf : inI f) (hb : inI b) (w : World) (hv : TrV w (· < w.heap.size) t v) :
    Calls Try.prog 44 #[v, .int .i64 f, .int .i64 b] w fun e w' => e = .returned (.tuple #[.agg #[.int .i64 0, .int .i64 0, .slice none 0 0], .int .i64 n]) ∧ Below w.heap.size w w' := by
  refine (Shift_any t v f b hf hb w hv).mono ?_
  rintro e w' ⟨v', rfl, -, h2, h3⟩
  rw [h2 (by rw [hc]; exact hn), hc]
  exact ⟨rfl, h3⟩
/-- Shift, whatever comes of it. -/
theorem shift_some (t : Tm) (f b : Int) (v : Value) (hf : inI f) (hb : inI b) (w : World) (hv : TrV w (· < w.heap.size) t v) :
    Calls Try.prog 44 #[v, .int .i64 f, .int .i64 b] w fun e w' => ∃ (k n : Int) (o : Option Addr) (m c : Nat) (r : Int), e = .returned (.tuple #[.agg #[.int .i64 k, .int .i64 n, .slice o m c], .int .i64 r]) ∧ Below w.heap.size w w' := by
  by_cases h : shiftE t f b = 0
  · refine (shift_ok h rfl v hf hb w hv).mono ?_
    rintro e w' ⟨o, c, rfl, -, h3⟩
    exact ⟨_, _, _, _, _, _, rfl, h3⟩
  · refine (shift_no rfl h v hf hb w hv).mono ?_
    rintro e w' ⟨rfl, h3⟩
    exact ⟨_, _, _, _, _, _, rfl, h3⟩
theorem shiftE_is (t : Tm) (f b : Int) : shiftE t f b = 0 ∨ shiftE t f b = 1 ∨ shiftE t f b = 4 := by
  unfold shiftE; (repeat' split) <;> simp
set_option maxRecDepth 100000 in
set_option maxHeartbeats 2000000 in
theorem SigShifts_any (T : Tm) (v : Value) (f a b : Int) (hf : inI f) (ha : inI a) (hb : inI b) (w : World) (hv : TrV w (· < w.heap.size) T v) :
    Calls Try.prog 11 #[v, .int .i64 f, .int .i64 a, .int .i64 b] w fun e w' => e = .returned (.bool true) ∧ Below w.heap.size w w' := by
  obtain ⟨k, n, l⟩ := T
  generalize hA : Tm.node k n l = T at *
  obtain ⟨sa, rfl⟩ := node_v (hA.symm ▸ hv)
  have HI := Lib.hid hv
  have HN := Lib.hid (And.intro hf (And.intro ha hb))
  clear hv hf ha hb
  go_enter Try.func11, Try.ntmps11
  go_wp2_with fail
  generalize hW : w.alloc _ = w0
  have hbw : Below w.heap.size w w0 := by rw [← hW]; exact bA (bZ w) _
  have h0 : Has w0 w.heap.size (.cells #[.int .i64 k, .int .i64 n, sa] 24) := by rw [← hW]; exact has_new rfl
  clear hW
  have HT := Lib.hid (show ∀ W, Below w0.heap.size w0 W → TrV W (· < W.heap.size) T (.agg #[.int .i64 k, .int .i64 n, sa]) from fun W hW => trV_up (below_next hbw hW) HI.out)
  have hQ : ∀ W, Below w0.heap.size w0 W → W.cell? ⟨w.heap.size, 0, none⟩ = some (.int .i64 k) ∧ W.cell? ⟨w.heap.size, 1, none⟩ = some (.int .i64 n) ∧ W.cell? ⟨w.heap.size, 2, none⟩ = some sa := by
    intro W hW
    have r0 := has_call hW h0
    exact ⟨(cells_of r0 0).1, (cells_of r0 1).1, (cells_of r0 2).1⟩
  generalize w.heap.size = pa at hQ ⊢
  clear h0
  have HW := Lib.hid hbw
  have HQ := Lib.hid hQ
  clear hQ hbw
  refine (sane_any _).mono ?_
  rintro e w1 ⟨rfl, hb1⟩
  obtain ⟨s0, s1, s2⟩ := HQ.out _ hb1
  go_wp2_with fail
  refine (few_any [T] _ _ ?_).mono ?_
  · subst hA
    refine sN1 (by (repeat (first | (with_reducible refine has_new ?_; first | with_reducible rfl | (simp; done)) | with_reducible refine has_drew ?_ | with_reducible refine has_old ?_))) ?_
    exact HT.out _ (show Below w0.heap.size w0 _ from by (repeat (first | with_reducible assumption | with_reducible exact bZ _ | with_reducible apply bA | with_reducible apply bD)))
  rintro e w2 ⟨rfl, hb2⟩
  have hc2 := below_next (show Below w0.heap.size w0 _ from by (repeat (first | with_reducible assumption | with_reducible exact bZ _ | with_reducible apply bA | with_reducible apply bD))) hb2
  clear hb2 s0 s1 s2
  obtain ⟨s0, s1, s2⟩ := HQ.out _ hc2
  generalize few [T] = fq
  cases fq
  · go_wp2_with fail
    go_ret
    exact ⟨rfl, below_next HW.out hc2⟩
  · by_cases c1 : a < -2000000
    · go_wp2_with fail
      go_ret
      exact ⟨rfl, below_next HW.out hc2⟩
    by_cases c2 : 2000000 < a
    · have c1' : -2000000 ≤ a := by omega
      clear c1
      go_wp2_with fail
      go_ret
      exact ⟨rfl, below_next HW.out hc2⟩
    by_cases c3 : b < -2000000
    · have c1' : -2000000 ≤ a := by omega
      have c2' : a ≤ 2000000 := by omega
      clear c1 c2
      go_wp2_with fail
      go_ret
      exact ⟨rfl, below_next HW.out hc2⟩
    by_cases c4 : 2000000 < b
    · have c1' : -2000000 ≤ a := by omega
      have c2' : a ≤ 2000000 := by omega
      have c3' : -2000000 ≤ b := by omega
      clear c1 c2 c3
      go_wp2_with fail
      go_ret
      exact ⟨rfl, below_next HW.out hc2⟩
    have c1' : -2000000 ≤ a := by omega
    have c2' : a ≤ 2000000 := by omega
    have c3' : -2000000 ≤ b := by omega
    have c4' : b ≤ 2000000 := by omega
    clear c1 c2 c3 c4
    rcases shiftE_is T f a with hE | hE | hE
    rotate_left
    all_goals try
      go_wp2_with fail
      refine (shift_no hE (by decide) _ HN.out.1 HN.out.2.1 _ ?_).mono ?_
      · exact HT.out _ (show Below w0.heap.size w0 _ from by (repeat (first | with_reducible assumption | with_reducible exact bZ _ | with_reducible apply bA | with_reducible apply bD)))
      rintro e w3 ⟨rfl, hb3⟩
      have hc3 := below_next (show Below w0.heap.size w0 _ from by (repeat (first | with_reducible assumption | with_reducible exact bZ _ | with_reducible apply bA | with_reducible apply bD))) hb3
      clear hb3
      go_wp2_with fail
      go_ret
      exact ⟨rfl, below_next HW.out (show Below w0.heap.size w0 _ from by (repeat (first | with_reducible assumption | with_reducible exact bZ _ | with_reducible apply bA | with_reducible apply bD)))⟩
    obtain ⟨X, hX⟩ : ∃ X, shiftT f a T = X := ⟨_, rfl⟩
    go_wp2_with fail
    refine (shift_ok hE hX _ HN.out.1 HN.out.2.1 _ ?_).mono ?_
    · exact HT.out _ (show Below w0.heap.size w0 _ from by (repeat (first | with_reducible assumption | with_reducible exact bZ _ | with_reducible apply bA | with_reducible apply bD)))
    rintro e w3 ⟨ox, cx, rfl, hx3, hb3⟩
    have hc3 := below_next (show Below w0.heap.size w0 _ from by (repeat (first | with_reducible assumption | with_reducible exact bZ _ | with_reducible apply bA | with_reducible apply bD))) hb3
    have HX3 := Lib.hid hx3
    clear hb3 s0 s1 s2 hx3
    obtain ⟨s0, s1, s2⟩ := HQ.out _ hc3
    go_upto_region 8 with fail
    generalize hw4 : w3.alloc _ = w4
    have hc4 : Below w0.heap.size w0 w4 := by rw [← hw4]; exact bA hc3 _
    have hx4 : TrV w4 (· < w4.heap.size) X (.agg #[.int .i64 X.k, .int .i64 X.n, .slice ox X.l.length cx]) := by rw [← hw4]; exact trV_up (bA (bZ w3) _) HX3.out
    have h4 : Has w4 w3.heap.size (.cells #[.int .i64 X.k, .int .i64 X.n, .slice ox X.l.length cx] 24) := by rw [← hw4]; exact has_new rfl
    clear hw4
    generalize w3.heap.size = pb at h4 ⊢
    have HX := Lib.hid (show ∀ W, Below w4.heap.size w4 W → TrV W (· < W.heap.size) X (.agg #[.int .i64 X.k, .int .i64 X.n, .slice ox X.l.length cx]) ∧ W.cell? ⟨pb, 0, none⟩ = some (.int .i64 X.k) ∧ W.cell? ⟨pb, 1, none⟩ = some (.int .i64 X.n) ∧ W.cell? ⟨pb, 2, none⟩ = some (.slice ox X.l.length cx) from fun W hW =>
      ⟨trV_up hW hx4, (cells_of (has_call hW h4) 0).1, (cells_of (has_call hW h4) 1).1, (cells_of (has_call hW h4) 2).1⟩)
    clear h4 hx4 s0 s1 s2
    obtain ⟨s0, s1, s2⟩ := HQ.out _ hc4
    obtain ⟨-, q0, q1, q2⟩ := HX.out _ (bZ w4)
    have HE := Lib.hid hE
    have HB := Lib.hid (fun h0 : 0 ≤ a => shift_back hE h0)
    have hna : inI (-a) := by unfold inI; omega
    have hnb : inI (a + b) := by unfold inI; omega
    have HM := Lib.hid (And.intro hna hnb)
    clear hE hna hnb
    by_cases ha0 : 0 ≤ a
    · obtain ⟨hk1, hk2⟩ := HB.out ha0
      rw [hX] at hk1 hk2
      have HK := Lib.hid (And.intro hk1 hk2)
      clear hk1 hk2
      go_wp2_with fail
      refine (shift_ok HK.out.1 HK.out.2 _ HN.out.1 HM.out.1 _ ?_).mono ?_
      · exact (HX.out _ (show Below w4.heap.size w4 _ from by (repeat (first | with_reducible assumption | with_reducible exact bZ _ | with_reducible apply bA | with_reducible apply bD)))).1
      rintro e w5 ⟨oy, cy, rfl, hy5, hb5⟩
      have hd5 := below_next (show Below w4.heap.size w4 _ from by (repeat (first | with_reducible assumption | with_reducible exact bZ _ | with_reducible apply bA | with_reducible apply bD))) hb5
      have hc5 := below_next hc4 hd5
      have HY5 := Lib.hid hy5
      clear hb5 s0 s1 s2 q0 q1 q2 hy5
      obtain ⟨s0, s1, s2⟩ := HQ.out _ hc5
      obtain ⟨-, q0, q1, q2⟩ := HX.out _ hd5
      have u0 : ∀ o, (w5.alloc o).cell? ⟨pa, 0, none⟩ = some (.int .i64 k) := fun o => (HQ.out _ (bA hc5 o)).1
      have u1 : ∀ o, (w5.alloc o).cell? ⟨pa, 1, none⟩ = some (.int .i64 n) := fun o => (HQ.out _ (bA hc5 o)).2.1
      have u2 : ∀ o, (w5.alloc o).cell? ⟨pa, 2, none⟩ = some sa := fun o => (HQ.out _ (bA hc5 o)).2.2
      go_wp2_with fail
      refine (rsame_is ((eqT_iff T T).2 rfl) _ _ _ ?_ ?_).mono ?_
      · exact trV_up (show Below w5.heap.size w5 _ from by (repeat (first | with_reducible assumption | with_reducible exact bZ _ | with_reducible apply bA | with_reducible apply bD))) HY5.out
      · exact HT.out _ (show Below w0.heap.size w0 _ from by (repeat (first | with_reducible assumption | with_reducible exact bZ _ | with_reducible apply bA | with_reducible apply bD)))
      rintro e w6 ⟨rfl, hb6⟩
      have hd6 := below_next (show Below w4.heap.size w4 _ from by (repeat (first | with_reducible assumption | with_reducible exact bZ _ | with_reducible apply bA | with_reducible apply bD))) hb6
      have hc6 := below_next hc4 hd6
      clear hb6 s0 s1 s2 q0 q1 q2 u0 u1 u2
      obtain ⟨s0, s1, s2⟩ := HQ.out _ hc6
      obtain ⟨-, q0, q1, q2⟩ := HX.out _ hd6
      go_upto_region 12 with fail
      obtain ⟨Y, hY⟩ : ∃ Y, shiftT f b X = Y := ⟨_, rfl⟩
      rcases shiftE_is X f b with h2 | h2 | h2
      rotate_left
      · go_wp2_with fail
        refine (shift_no h2 (by decide) _ HN.out.1 HN.out.2.2 _ ?_).mono ?_
        · exact (HX.out _ (show Below w4.heap.size w4 _ from by (repeat (first | with_reducible assumption | with_reducible exact bZ _ | with_reducible apply bA | with_reducible apply bD)))).1
        rintro e w7 ⟨rfl, hb7⟩
        have hd7 := below_next (show Below w4.heap.size w4 _ from by (repeat (first | with_reducible assumption | with_reducible exact bZ _ | with_reducible apply bA | with_reducible apply bD))) hb7
        have hc7 := below_next hc4 hd7
        clear hb7 s0 s1 s2 q0 q1 q2
        obtain ⟨s0, s1, s2⟩ := HQ.out _ hc7
        have u0 : ∀ o, (w7.alloc o).cell? ⟨pa, 0, none⟩ = some (.int .i64 k) := fun o => (HQ.out _ (bA hc7 o)).1
        have u1 : ∀ o, (w7.alloc o).cell? ⟨pa, 1, none⟩ = some (.int .i64 n) := fun o => (HQ.out _ (bA hc7 o)).2.1
        have u2 : ∀ o, (w7.alloc o).cell? ⟨pa, 2, none⟩ = some sa := fun o => (HQ.out _ (bA hc7 o)).2.2
        go_wp2_with fail
        refine (shift_some T f (a + b) _ HN.out.1 HM.out.2 _ ?_).mono ?_
        · exact HT.out _ (show Below w0.heap.size w0 _ from by (repeat (first | with_reducible assumption | with_reducible exact bZ _ | with_reducible apply bA | with_reducible apply bD)))
        rintro e w8 ⟨k8, n8, o8, m8, c8, r8, rfl, hb8⟩
        have hc8 := below_next (show Below w0.heap.size w0 _ from by (repeat (first | with_reducible assumption | with_reducible exact bZ _ | with_reducible apply bA | with_reducible apply bD))) hb8
        clear hb8 s0 s1 s2
        go_wp2_with fail
        go_ret
        exact ⟨rfl, below_next HW.out (show Below w0.heap.size w0 _ from by (repeat (first | with_reducible assumption | with_reducible exact bZ _ | with_reducible apply bA | with_reducible apply bD)))⟩
      · go_wp2_with fail
        refine (shift_no h2 (by decide) _ HN.out.1 HN.out.2.2 _ ?_).mono ?_
        · exact (HX.out _ (show Below w4.heap.size w4 _ from by (repeat (first | with_reducible assumption | with_reducible exact bZ _ | with_reducible apply bA | with_reducible apply bD)))).1
        rintro e w7 ⟨rfl, hb7⟩
        have hd7 := below_next (show Below w4.heap.size w4 _ from by (repeat (first | with_reducible assumption | with_reducible exact bZ _ | with_reducible apply bA | with_reducible apply bD))) hb7
        have hc7 := below_next hc4 hd7
        clear hb7 s0 s1 s2 q0 q1 q2
        obtain ⟨s0, s1, s2⟩ := HQ.out _ hc7
        have u0 : ∀ o, (w7.alloc o).cell? ⟨pa, 0, none⟩ = some (.int .i64 k) := fun o => (HQ.out _ (bA hc7 o)).1
        have u1 : ∀ o, (w7.alloc o).cell? ⟨pa, 1, none⟩ = some (.int .i64 n) := fun o => (HQ.out _ (bA hc7 o)).2.1
        have u2 : ∀ o, (w7.alloc o).cell? ⟨pa, 2, none⟩ = some sa := fun o => (HQ.out _ (bA hc7 o)).2.2
        go_wp2_with fail
        refine (shift_some T f (a + b) _ HN.out.1 HM.out.2 _ ?_).mono ?_
        · exact HT.out _ (show Below w0.heap.size w0 _ from by (repeat (first | with_reducible assumption | with_reducible exact bZ _ | with_reducible apply bA | with_reducible apply bD)))
        rintro e w8 ⟨k8, n8, o8, m8, c8, r8, rfl, hb8⟩
        have hc8 := below_next (show Below w0.heap.size w0 _ from by (repeat (first | with_reducible assumption | with_reducible exact bZ _ | with_reducible apply bA | with_reducible apply bD))) hb8
        clear hb8 s0 s1 s2
        go_wp2_with fail
        go_ret
        exact ⟨rfl, below_next HW.out (show Below w0.heap.size w0 _ from by (repeat (first | with_reducible assumption | with_reducible exact bZ _ | with_reducible apply bA | with_reducible apply bD)))⟩
      obtain ⟨hk1, hk2⟩ := shift_sum (b := b) HE.out (by rw [hX]; exact h2)
      rw [hX, hY] at hk2
      have HS := Lib.hid (And.intro h2 (And.intro hk1 hk2.symm))
      clear h2 hk1 hk2
      go_wp2_with fail
      refine (shift_ok HS.out.1 hY _ HN.out.1 HN.out.2.2 _ ?_).mono ?_
      · exact (HX.out _ (show Below w4.heap.size w4 _ from by (repeat (first | with_reducible assumption | with_reducible exact bZ _ | with_reducible apply bA | with_reducible apply bD)))).1
      rintro e w7 ⟨oy7, cy7, rfl, hy7, hb7⟩
      have hd7 := below_next (show Below w4.heap.size w4 _ from by (repeat (first | with_reducible assumption | with_reducible exact bZ _ | with_reducible apply bA | with_reducible apply bD))) hb7
      have hc7 := below_next hc4 hd7
      have HY7 := Lib.hid hy7
      clear hb7 s0 s1 s2 q0 q1 q2 hy7
      obtain ⟨s0, s1, s2⟩ := HQ.out _ hc7
      have u0 : ∀ o, (w7.alloc o).cell? ⟨pa, 0, none⟩ = some (.int .i64 k) := fun o => (HQ.out _ (bA hc7 o)).1
      have u1 : ∀ o, (w7.alloc o).cell? ⟨pa, 1, none⟩ = some (.int .i64 n) := fun o => (HQ.out _ (bA hc7 o)).2.1
      have u2 : ∀ o, (w7.alloc o).cell? ⟨pa, 2, none⟩ = some sa := fun o => (HQ.out _ (bA hc7 o)).2.2
      go_wp2_with fail
      refine (shift_ok HS.out.2.1 HS.out.2.2 _ HN.out.1 HM.out.2 _ ?_).mono ?_
      · exact HT.out _ (show Below w0.heap.size w0 _ from by (repeat (first | with_reducible assumption | with_reducible exact bZ _ | with_reducible apply bA | with_reducible apply bD)))
      rintro e w8 ⟨oz8, cz8, rfl, hz8, hb8⟩
      have hc8 := below_next (show Below w0.heap.size w0 _ from by (repeat (first | with_reducible assumption | with_reducible exact bZ _ | with_reducible apply bA | with_reducible apply bD))) hb8
      have he8 := below_next (show Below w7.heap.size w7 _ from by (repeat (first | with_reducible assumption | with_reducible exact bZ _ | with_reducible apply bA | with_reducible apply bD))) hb8
      have r8 := has_call hb8 (has_new rfl)
      have y0 : ∀ o, (w8.alloc o).cell? ⟨w7.heap.size, 0, none⟩ = some (.int .i64 Y.k) := fun o => (cells_of (has_old r8) 0).1
      have y1 : ∀ o, (w8.alloc o).cell? ⟨w7.heap.size, 1, none⟩ = some (.int .i64 Y.n) := fun o => (cells_of (has_old r8) 1).1
      have y2 : ∀ o, (w8.alloc o).cell? ⟨w7.heap.size, 2, none⟩ = some (.slice oy7 Y.l.length cy7) := fun o => (cells_of (has_old r8) 2).1
      have HZ8 := Lib.hid (And.intro hz8 (trV_up he8 HY7.out))
      clear hb8 s0 s1 s2 r8 hz8 he8
      go_wp2_with fail
      refine (rsame_is ((eqT_iff Y Y).2 rfl) _ _ _ ?_ ?_).mono ?_
      · exact trV_up (show Below w8.heap.size w8 _ from by (repeat (first | with_reducible assumption | with_reducible exact bZ _ | with_reducible apply bA | with_reducible apply bD))) HZ8.out.2
      · exact trV_up (show Below w8.heap.size w8 _ from by (repeat (first | with_reducible assumption | with_reducible exact bZ _ | with_reducible apply bA | with_reducible apply bD))) HZ8.out.1
      rintro e w9 ⟨rfl, hb9⟩
      have hc9 := below_next (show Below w0.heap.size w0 _ from by (repeat (first | with_reducible assumption | with_reducible exact bZ _ | with_reducible apply bA | with_reducible apply bD))) hb9
      go_wp2_with fail
      go_ret
      exact ⟨rfl, below_next HW.out hc9⟩
    · have ha1 : a < 0 := by omega
      clear ha0
      have hd6 := bZ w4
      have hc6 := hc4
      go_upto_region 12 with fail
      obtain ⟨Y, hY⟩ : ∃ Y, shiftT f b X = Y := ⟨_, rfl⟩
      rcases shiftE_is X f b with h2 | h2 | h2
      rotate_left
      · go_wp2_with fail
        refine (shift_no h2 (by decide) _ HN.out.1 HN.out.2.2 _ ?_).mono ?_
        · exact (HX.out _ (show Below w4.heap.size w4 _ from by (repeat (first | with_reducible assumption | with_reducible exact bZ _ | with_reducible apply bA | with_reducible apply bD)))).1
        rintro e w7 ⟨rfl, hb7⟩
        have hd7 := below_next (show Below w4.heap.size w4 _ from by (repeat (first | with_reducible assumption | with_reducible exact bZ _ | with_reducible apply bA | with_reducible apply bD))) hb7
        have hc7 := below_next hc4 hd7
        clear hb7 s0 s1 s2 q0 q1 q2
        obtain ⟨s0, s1, s2⟩ := HQ.out _ hc7
        have u0 : ∀ o, (w7.alloc o).cell? ⟨pa, 0, none⟩ = some (.int .i64 k) := fun o => (HQ.out _ (bA hc7 o)).1
        have u1 : ∀ o, (w7.alloc o).cell? ⟨pa, 1, none⟩ = some (.int .i64 n) := fun o => (HQ.out _ (bA hc7 o)).2.1
        have u2 : ∀ o, (w7.alloc o).cell? ⟨pa, 2, none⟩ = some sa := fun o => (HQ.out _ (bA hc7 o)).2.2
        go_wp2_with fail
        refine (shift_some T f (a + b) _ HN.out.1 HM.out.2 _ ?_).mono ?_
        · exact HT.out _ (show Below w0.heap.size w0 _ from by (repeat (first | with_reducible assumption | with_reducible exact bZ _ | with_reducible apply bA | with_reducible apply bD)))
        rintro e w8 ⟨k8, n8, o8, m8, c8, r8, rfl, hb8⟩
        have hc8 := below_next (show Below w0.heap.size w0 _ from by (repeat (first | with_reducible assumption | with_reducible exact bZ _ | with_reducible apply bA | with_reducible apply bD))) hb8
        clear hb8 s0 s1 s2
        go_wp2_with fail
        go_ret
        exact ⟨rfl, below_next HW.out (show Below w0.heap.size w0 _ from by (repeat (first | with_reducible assumption | with_reducible exact bZ _ | with_reducible apply bA | with_reducible apply bD)))⟩
      · go_wp2_with fail
        refine (shift_no h2 (by decide) _ HN.out.1 HN.out.2.2 _ ?_).mono ?_
        · exact (HX.out _ (show Below w4.heap.size w4 _ from by (repeat (first | with_reducible assumption | with_reducible exact bZ _ | with_reducible apply bA | with_reducible apply bD)))).1
        rintro e w7 ⟨rfl, hb7⟩
        have hd7 := below_next (show Below w4.heap.size w4 _ from by (repeat (first | with_reducible assumption | with_reducible exact bZ _ | with_reducible apply bA | with_reducible apply bD))) hb7
        have hc7 := below_next hc4 hd7
        clear hb7 s0 s1 s2 q0 q1 q2
        obtain ⟨s0, s1, s2⟩ := HQ.out _ hc7
        have u0 : ∀ o, (w7.alloc o).cell? ⟨pa, 0, none⟩ = some (.int .i64 k) := fun o => (HQ.out _ (bA hc7 o)).1
        have u1 : ∀ o, (w7.alloc o).cell? ⟨pa, 1, none⟩ = some (.int .i64 n) := fun o => (HQ.out _ (bA hc7 o)).2.1
        have u2 : ∀ o, (w7.alloc o).cell? ⟨pa, 2, none⟩ = some sa := fun o => (HQ.out _ (bA hc7 o)).2.2
        go_wp2_with fail
        refine (shift_some T f (a + b) _ HN.out.1 HM.out.2 _ ?_).mono ?_
        · exact HT.out _ (show Below w0.heap.size w0 _ from by (repeat (first | with_reducible assumption | with_reducible exact bZ _ | with_reducible apply bA | with_reducible apply bD)))
        rintro e w8 ⟨k8, n8, o8, m8, c8, r8, rfl, hb8⟩
        have hc8 := below_next (show Below w0.heap.size w0 _ from by (repeat (first | with_reducible assumption | with_reducible exact bZ _ | with_reducible apply bA | with_reducible apply bD))) hb8
        clear hb8 s0 s1 s2
        go_wp2_with fail
        go_ret
        exact ⟨rfl, below_next HW.out (show Below w0.heap.size w0 _ from by (repeat (first | with_reducible assumption | with_reducible exact bZ _ | with_reducible apply bA | with_reducible apply bD)))⟩
      obtain ⟨hk1, hk2⟩ := shift_sum (b := b) HE.out (by rw [hX]; exact h2)
      rw [hX, hY] at hk2
      have HS := Lib.hid (And.intro h2 (And.intro hk1 hk2.symm))
      clear h2 hk1 hk2
      go_wp2_with fail
      refine (shift_ok HS.out.1 hY _ HN.out.1 HN.out.2.2 _ ?_).mono ?_
      · exact (HX.out _ (show Below w4.heap.size w4 _ from by (repeat (first | with_reducible assumption | with_reducible exact bZ _ | with_reducible apply bA | with_reducible apply bD)))).1
      rintro e w7 ⟨oy7, cy7, rfl, hy7, hb7⟩
      have hd7 := below_next (show Below w4.heap.size w4 _ from by (repeat (first | with_reducible assumption | with_reducible exact bZ _ | with_reducible apply bA | with_reducible apply bD))) hb7
      have hc7 := below_next hc4 hd7
      have HY7 := Lib.hid hy7
      clear hb7 s0 s1 s2 q0 q1 q2 hy7
      obtain ⟨s0, s1, s2⟩ := HQ.out _ hc7
      have u0 : ∀ o, (w7.alloc o).cell? ⟨pa, 0, none⟩ = some (.int .i64 k) := fun o => (HQ.out _ (bA hc7 o)).1
      have u1 : ∀ o, (w7.alloc o).cell? ⟨pa, 1, none⟩ = some (.int .i64 n) := fun o => (HQ.out _ (bA hc7 o)).2.1
      have u2 : ∀ o, (w7.alloc o).cell? ⟨pa, 2, none⟩ = some sa := fun o => (HQ.out _ (bA hc7 o)).2.2
      go_wp2_with fail
      refine (shift_ok HS.out.2.1 HS.out.2.2 _ HN.out.1 HM.out.2 _ ?_).mono ?_
      · exact HT.out _ (show Below w0.heap.size w0 _ from by (repeat (first | with_reducible assumption | with_reducible exact bZ _ | with_reducible apply bA | with_reducible apply bD)))
      rintro e w8 ⟨oz8, cz8, rfl, hz8, hb8⟩
      have hc8 := below_next (show Below w0.heap.size w0 _ from by (repeat (first | with_reducible assumption | with_reducible exact bZ _ | with_reducible apply bA | with_reducible apply bD))) hb8
      have he8 := below_next (show Below w7.heap.size w7 _ from by (repeat (first | with_reducible assumption | with_reducible exact bZ _ | with_reducible apply bA | with_reducible apply bD))) hb8
      have r8 := has_call hb8 (has_new rfl)
      have y0 : ∀ o, (w8.alloc o).cell? ⟨w7.heap.size, 0, none⟩ = some (.int .i64 Y.k) := fun o => (cells_of (has_old r8) 0).1
      have y1 : ∀ o, (w8.alloc o).cell? ⟨w7.heap.size, 1, none⟩ = some (.int .i64 Y.n) := fun o => (cells_of (has_old r8) 1).1
      have y2 : ∀ o, (w8.alloc o).cell? ⟨w7.heap.size, 2, none⟩ = some (.slice oy7 Y.l.length cy7) := fun o => (cells_of (has_old r8) 2).1
      have HZ8 := Lib.hid (And.intro hz8 (trV_up he8 HY7.out))
      clear hb8 s0 s1 s2 r8 hz8 he8
      go_wp2_with fail
      refine (rsame_is ((eqT_iff Y Y).2 rfl) _ _ _ ?_ ?_).mono ?_
      · exact trV_up (show Below w8.heap.size w8 _ from by (repeat (first | with_reducible assumption | with_reducible exact bZ _ | with_reducible apply bA | with_reducible apply bD))) HZ8.out.2
      · exact trV_up (show Below w8.heap.size w8 _ from by (repeat (first | with_reducible assumption | with_reducible exact bZ _ | with_reducible apply bA | with_reducible apply bD))) HZ8.out.1
      rintro e w9 ⟨rfl, hb9⟩
      have hc9 := below_next (show Below w0.heap.size w0 _ from by (repeat (first | with_reducible assumption | with_reducible exact bZ _ | with_reducible apply bA | with_reducible apply bD))) hb9
      go_wp2_with fail
      go_ret
      exact ⟨rfl, below_next HW.out hc9⟩
end Go.Proofs.Ytapdfdjknehhgaa
