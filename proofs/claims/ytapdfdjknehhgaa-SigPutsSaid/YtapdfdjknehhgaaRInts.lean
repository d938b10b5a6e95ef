/- The reference's SameInts and SameAll. -/
import Derived.Test.YtapdfdjknehhgaaRSame
import Derived.Test.YtapdfdjknehhgaaVars
namespace Go.Proofs.Ytapdfdjknehhgaa
open Go.RowKit Go.Tr

theorem take_eq_snoc {α : Type} {l m : List α} {k : Nat} (h : l.take k = m.take k) (hl : k < l.length) (hm : k < m.length) (e : l[k] = m[k]) : l.take (k + 1) = m.take (k + 1) := by
  rw [List.take_succ_eq_append_getElem hl, List.take_succ_eq_append_getElem hm, h, e]
theorem ne_of_at {α : Type} {l m : List α} {k : Nat} (hl : k < l.length) (hm : k < m.length) (e : l[k] ≠ m[k]) : l ≠ m := fun h => by subst h; exact e rfl
set_option maxRecDepth 100000 in
theorem RSameInts_any (l m : List Int) (s s' : Value) (w : World) (h : IntS w (· < w.heap.size) l s) (h' : IntS w (· < w.heap.size) m s') :
    Calls Try.prog 21 #[s, s'] w fun e w' => e = .returned (.bool (decide (l = m))) ∧ Below w.heap.size w w' := by
  obtain ⟨oa, cap, b, o, rfl, hlc, hcm, hoa, hel⟩ := h
  obtain ⟨oa', cap', b', o', rfl, hlc', hcm', hoa', hel'⟩ := h'
  have H := Lib.hid (And.intro hoa (And.intro hel (And.intro hoa' hel')))
  clear hoa hel hoa' hel'
  obtain ⟨n, hn⟩ : ∃ n, n = l.length := ⟨_, rfl⟩
  obtain ⟨n', hn'⟩ : ∃ n', n' = m.length := ⟨_, rfl⟩
  rw [← hn] at hlc ⊢
  rw [← hn'] at hlc' ⊢
  have HN := Lib.hid (And.intro hn hn')
  clear hn hn'
  by_cases hlen : n = n'
  · subst hlen
    go_enter Try.func21, Try.ntmps21
    go_wp2_with fail
    go_loopw [5] (fun i wr => ∃ k : Nat, k ≤ n ∧ i = .int .i64 k ∧ Hid (l.take k = m.take k ∧ Below w.heap.size w wr)) (fun i _ => n - (intOf i).toNat)
    case atStart => exact ⟨0, by omega, rfl, by simp, bZ w⟩
    case round =>
      obtain ⟨k, hk, rfl, HI⟩ := hrel
      by_cases hlt : k < n
      · have hl1 : k < l.length := by have := HN.out.1; omega
        have hl2 : k < m.length := by have := HN.out.2; omega
        obtain ⟨rfl, hb1⟩ := H.out.1 (by omega)
        obtain ⟨rfl, hb2⟩ := H.out.2.2.1 (by omega)
        have d0 := (World.cell?_of_block (w := w) (a := ⟨b, o + k, none⟩) (HI.out.2.block b hb1)).trans (H.out.2.1 k hl1)
        have d1 := (World.cell?_of_block (w := w) (a := ⟨b', o' + k, none⟩) (HI.out.2.block b' hb2)).trans (H.out.2.2.2 k hl2)
        have i0 : (0 : Int) ≤ (k : Int) := Int.natCast_nonneg _
        have i1 : (k : Int) < (n : Int) := by omega
        obtain ⟨x, hx⟩ : ∃ x, x = l[k] := ⟨_, rfl⟩
        obtain ⟨y, hy⟩ : ∃ y, y = m[k] := ⟨_, rfl⟩
        rw [← hx] at d0
        rw [← hy] at d1
        have HXY := Lib.hid (And.intro hx hy)
        clear hx hy
        by_cases he : x = y
        · subst he
          have HT := Lib.hid (take_eq_snoc HI.out.1 hl1 hl2 (HXY.out.1.symm.trans HXY.out.2))
          go_wp2_with fail
          go_region_held3 (fun W => W.cell? ⟨b, o + k, none⟩ = some (.int .i64 x) ∧ W.cell? ⟨b', o' + k, none⟩ = some (.int .i64 x))
            (first | exact ⟨d0, d1⟩)
            (fail)
          all_goals
            go_wp2_with fail
            go_roundw
            case rel => exact ⟨k + 1, by omega, by go_num, HT.out, HI.out.2.drew⟩
            case measure => simp [intOf]; omega
        · have hb1 : (x != y) = true := by simp [he]
          have hne : decide (l = m) = false := by
            rw [decide_eq_false_iff_not]
            exact ne_of_at hl1 hl2 (fun e => he (HXY.out.1.trans (e.trans HXY.out.2.symm)))
          have HE := Lib.hid hne
          clear he hne
          go_wp2_with fail
          go_region_held3 (fun W => W.cell? ⟨b, o + k, none⟩ = some (.int .i64 x) ∧ W.cell? ⟨b', o' + k, none⟩ = some (.int .i64 y))
            (first | exact ⟨d0, d1⟩)
            (fail)
          all_goals
            go_wp2_with fail
            go_ret
            rw [HE.out]
            exact ⟨rfl, HI.out.2.drew⟩
      · have he : decide (l = m) = true := by
          rw [decide_eq_true_iff]
          have h := HI.out.1
          rw [List.take_of_length_le (by have := HN.out.1; omega), List.take_of_length_le (by have := HN.out.2; omega)] at h
          exact h
        have HE := Lib.hid he
        clear he
        go_wp2_with fail
        go_ret
        rw [HE.out]
        exact ⟨rfl, HI.out.2⟩
  · have hb1 : ((n : Int) != (n' : Int)) = true := by simp; omega
    have hne : decide (l = m) = false := by
      rw [decide_eq_false_iff_not]
      intro e
      subst e
      exact hlen (HN.out.1.trans HN.out.2.symm)
    have HE := Lib.hid hne
    clear hne hlen
    go_enter Try.func21, Try.ntmps21
    go_wp2_with fail
    go_ret
    rw [HE.out]
    exact ⟨rfl, bZ w⟩
/-- Are two lists of trees equal? -/
def eqAll (l m : List Tm) : Bool := decide (l.length = m.length) && (l.zip m).all (fun x => eqT x.1 x.2)
set_option maxRecDepth 100000 in
set_option maxHeartbeats 400000 in
theorem RSameAll_any (l m : List Tm) (s s' : Value) (w : World) (h : TrS w (· < w.heap.size) l s) (h' : TrS w (· < w.heap.size) m s') :
    Calls Try.prog 43 #[s, s'] w fun e w' => e = .returned (.bool (eqAll l m)) ∧ Below w.heap.size w w' := by
  obtain ⟨oa, cap, b, o, rfl, hlc, hcm, hoa, hel⟩ := trS_at h
  obtain ⟨oa', cap', b', o', rfl, hlc', hcm', hoa', hel'⟩ := trS_at h'
  have H := Lib.hid (And.intro hoa (And.intro hel (And.intro hoa' hel')))
  clear hoa hel hoa' hel' h h'
  obtain ⟨n, hn⟩ : ∃ n, n = l.length := ⟨_, rfl⟩
  obtain ⟨n', hn'⟩ : ∃ n', n' = m.length := ⟨_, rfl⟩
  rw [← hn] at hlc ⊢
  rw [← hn'] at hlc' ⊢
  have HN := Lib.hid (And.intro hn hn')
  clear hn hn'
  by_cases hlen : n = n'
  · subst hlen
    go_enter Try.func43, Try.ntmps43
    go_wp2_with fail
    go_loopw [5] (fun i wr => ∃ k : Nat, k ≤ n ∧ i = .int .i64 k ∧ Hid (eqAll l m = ((l.drop k).zip (m.drop k)).all (fun x => eqT x.1 x.2) ∧ Below w.heap.size w wr)) (fun i _ => n - (intOf i).toNat)
    case atStart => exact ⟨0, by omega, rfl, by simp [eqAll, HN.out.1.symm.trans HN.out.2], bZ w⟩
    case round =>
      obtain ⟨k, hk, rfl, HI⟩ := hrel
      by_cases hlt : k < n
      · have hl1 : k < l.length := by have := HN.out.1; omega
        have hl2 : k < m.length := by have := HN.out.2; omega
        obtain ⟨rfl, hb1⟩ := H.out.1 (by omega)
        obtain ⟨rfl, hb2⟩ := H.out.2.2.1 (by omega)
        obtain ⟨oa2, cap2, e0, e1, e2, e3⟩ := H.out.2.1 k hl1
        obtain ⟨oa4, cap4, f0, f1, f2, f3⟩ := H.out.2.2.2 k hl2
        have hS : ∀ W, Below wr.heap.size wr W → W.cell? ⟨b, o + k * 3, none⟩ = some (.int .i64 l[k].k) ∧ W.cell? ⟨b, o + k * 3 + 1, none⟩ = some (.int .i64 l[k].n) ∧ W.cell? ⟨b, o + k * 3 + 2, none⟩ = some (.slice oa2 l[k].l.length cap2) ∧ W.cell? ⟨b', o' + k * 3, none⟩ = some (.int .i64 m[k].k) ∧ W.cell? ⟨b', o' + k * 3 + 1, none⟩ = some (.int .i64 m[k].n) ∧ W.cell? ⟨b', o' + k * 3 + 2, none⟩ = some (.slice oa4 m[k].l.length cap4) := fun W hW => by
          have hbW := below_next HI.out.2 hW
          have e : ∀ j, W.cell? ⟨b, j, none⟩ = _ := fun j => World.cell?_of_block (w := w) (hbW.block b hb1)
          have e' : ∀ j, W.cell? ⟨b', j, none⟩ = _ := fun j => World.cell?_of_block (w := w) (hbW.block b' hb2)
          rw [e, e, e, e', e', e']
          exact ⟨e0, e1, e2, f0, f1, f2⟩
        have hC : ∀ W, Below wr.heap.size wr W → Calls Try.prog 18 #[.agg #[.int .i64 l[k].k, .int .i64 l[k].n, .slice oa2 l[k].l.length cap2], .agg #[.int .i64 m[k].k, .int .i64 m[k].n, .slice oa4 m[k].l.length cap4]] W fun e w' => e = .returned (.bool (eqT l[k] m[k])) ∧ Below W.heap.size W w' := fun W hW =>
          RSame_any l[k] m[k] _ _ W (trV_up (below_next HI.out.2 hW) e3) (trV_up (below_next HI.out.2 hW) f3)
        have hdr : eqAll l m = (eqT l[k] m[k] && ((l.drop (k + 1)).zip (m.drop (k + 1))).all (fun x => eqT x.1 x.2)) := by
          rw [HI.out.1, List.drop_eq_getElem_cons hl1, List.drop_eq_getElem_cons hl2]; rfl
        obtain ⟨d0, d1, d2, d3, d4, d5⟩ := hS wr.drew (bD (bZ wr))
        have HK := Lib.hid (And.intro hS hC)
        have i0 : (0 : Int) ≤ (k : Int) := Int.natCast_nonneg _
        have i1 : (k : Int) < (n : Int) := by omega
        clear hS hC e0 e1 e2 e3 f0 f1 f2 f3
        obtain ⟨q, hq⟩ : ∃ q, q = eqT l[k] m[k] := ⟨_, rfl⟩
        rw [← hq] at HK hdr
        clear hq
        cases q with
        | true =>
          have HD := Lib.hid hdr
          clear hdr
          go_wp2_with fail
          go_region_held3 (fun W => W.cell? ⟨b, o + k * 3, none⟩ = some (.int .i64 l[k].k) ∧ W.cell? ⟨b, o + k * 3 + 1, none⟩ = some (.int .i64 l[k].n) ∧ W.cell? ⟨b, o + k * 3 + 2, none⟩ = some (.slice oa2 l[k].l.length cap2) ∧ W.cell? ⟨b', o' + k * 3, none⟩ = some (.int .i64 m[k].k) ∧ W.cell? ⟨b', o' + k * 3 + 1, none⟩ = some (.int .i64 m[k].n) ∧ W.cell? ⟨b', o' + k * 3 + 2, none⟩ = some (.slice oa4 m[k].l.length cap4))
            (first | with_reducible assumption | (refine HK.out.1 _ ?_; (repeat (first | with_reducible assumption | with_reducible exact bZ _ | with_reducible apply bA | with_reducible apply bD)); done))
            (first
              | (go_at_call 18; (with_reducible refine (HK.out.2 _ (bD (bZ _))).mono ?_); rintro e w6 ⟨rfl, hb6⟩; have hb7 := below_next (bD (bZ wr)) hb6; clear hb6))
          all_goals
            have HB := Lib.hid hb7
            clear hb7
            go_wp2_with fail
            go_roundw
            case rel => exact ⟨k + 1, by omega, by go_num, by rw [HD.out]; simp, below_next HI.out.2 HB.out⟩
            case measure => simp [intOf]; omega
        | false =>
          have HD := Lib.hid hdr
          clear hdr
          go_wp2_with fail
          go_region_held3 (fun W => W.cell? ⟨b, o + k * 3, none⟩ = some (.int .i64 l[k].k) ∧ W.cell? ⟨b, o + k * 3 + 1, none⟩ = some (.int .i64 l[k].n) ∧ W.cell? ⟨b, o + k * 3 + 2, none⟩ = some (.slice oa2 l[k].l.length cap2) ∧ W.cell? ⟨b', o' + k * 3, none⟩ = some (.int .i64 m[k].k) ∧ W.cell? ⟨b', o' + k * 3 + 1, none⟩ = some (.int .i64 m[k].n) ∧ W.cell? ⟨b', o' + k * 3 + 2, none⟩ = some (.slice oa4 m[k].l.length cap4))
            (first | with_reducible assumption | (refine HK.out.1 _ ?_; (repeat (first | with_reducible assumption | with_reducible exact bZ _ | with_reducible apply bA | with_reducible apply bD)); done))
            (first
              | (go_at_call 18; (with_reducible refine (HK.out.2 _ (bD (bZ _))).mono ?_); rintro e w6 ⟨rfl, hb6⟩; have hb7 := below_next (bD (bZ wr)) hb6; clear hb6))
          all_goals
            have HB := Lib.hid hb7
            clear hb7
            go_wp2_with fail
            go_ret
            rw [HD.out]
            exact ⟨by simp, below_next HI.out.2 HB.out⟩
      · have he : eqAll l m = true := by
          rw [HI.out.1, List.drop_eq_nil_of_le (by have := HN.out.1; omega)]; simp
        have HE := Lib.hid he
        clear he
        go_wp2_with fail
        go_ret
        rw [HE.out]
        exact ⟨rfl, HI.out.2⟩
  · have hb1 : ((n : Int) != (n' : Int)) = true := by simp; omega
    have hne : eqAll l m = false := by
      unfold eqAll
      rw [show decide (l.length = m.length) = false from by rw [decide_eq_false_iff_not]; intro e; exact hlen (HN.out.1.trans (e.trans HN.out.2.symm))]
      rfl
    have HE := Lib.hid hne
    clear hne hlen
    go_enter Try.func43, Try.ntmps43
    go_wp2_with fail
    go_ret
    rw [HE.out]
    exact ⟨rfl, bZ w⟩
end Go.Proofs.Ytapdfdjknehhgaa
