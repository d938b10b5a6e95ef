/- Trees as arguments: opened. -/
import Derived.Test.YtapdfdjknehhgaaVars
import Derived.OpenShut
import Derived.SizedLaws
import Derived.Carry
import Derived.Deep.Slices
namespace Go.Proofs.Ytapdfdjknehhgaa
open Go.ChangeShapes Go.ChangeMaps Go.WideShapes Go.RowKit Go.Tr

theorem add_at {a : Addr} (h : a.spot = none) (i : Nat) : a.add i = ⟨a.block, a.off + i, none⟩ := by
  obtain ⟨b, o, s⟩ := a
  simp only at h
  subst h
  unfold Addr.add
  by_cases h0 : i = 0
  · subst h0; rfl
  · rw [if_neg h0]
theorem spot_of {w : World} {a : Addr} {v : Value} (h : w.cell? a = some v) : a.spot = none ∧ a.block < w.heap.size := by
  constructor
  · cases e : a.spot with
    | none => rfl
    | some q =>
      exfalso
      unfold World.cell? at h
      split at h
      · rw [e] at h; simp at h
      · cases h
  · rcases Nat.lt_or_ge a.block w.heap.size with h' | h'
    · exact h'
    · unfold World.cell? at h
      rw [Array.getElem?_eq_none h'] at h
      cases h

set_option maxRecDepth 100000 in
theorem open_termS {H : Type} {enc : TypeId × Value → H} {w : World} {base : Nat} {spare : Nat → Bool} {held : Bool} (N : Nat)
    (ih : ∀ (cs : List Value) (x : DataW H × List MemPlace), DataW.trod enc Try.prog w base spare held N 24 cs = some x → ∃ t : Tm, TrV w (· < w.heap.size) t (.agg cs.toArray))
    (cs : List Value) (x : DataW H × List MemPlace) (h : DataW.trod enc Try.prog w base spare held (N + 1) 22 cs = some x) : ∃ (l : List Tm) (v : Value), cs = [v] ∧ TrS w (· < w.heap.size) l v := by
  have c38 : Try.prog.cellsOf 24 = 3 := by kernel_rfl
  rcases DataW.trod_slice Try.underlying22 h with ⟨rfl, -⟩ | ⟨a, len, cap, elems, rest, n, hn, rfl, -, -, hl, hm, hlen, hel, -, -⟩
  · exact ⟨[], _, rfl, none, 0, 0, 0, rfl, Nat.le_refl _, by decide, (fun h => absurd rfl h), trivial⟩
  · obtain rfl : N = n := by omega
    rw [c38] at hel
    have hspot : 0 < len → a.spot = none ∧ a.block < w.heap.size := by
      intro hi
      have h1 := hel 0 hi
      rw [List.getElem?_eq_getElem (by omega)] at h1
      obtain ⟨cs, h2, h3⟩ := Option.bind_eq_some_iff.1 h1
      obtain ⟨_, hlc, hcell⟩ := World.cells?_some h2
      have q0 := hcell 0 (by omega)
      rw [Go.Deep.add_add, List.getElem?_eq_getElem (by omega)] at q0
      exact spot_of q0
    have each : ∀ i, i < len → ∃ t : Tm, a.spot = none ∧ a.block < w.heap.size ∧ ∃ s, w.cell? ⟨a.block, a.off + i * 3, none⟩ = some (.int .i64 t.k) ∧ w.cell? ⟨a.block, a.off + i * 3 + 1, none⟩ = some (.int .i64 t.n) ∧ w.cell? ⟨a.block, a.off + i * 3 + 2, none⟩ = some s ∧ TrV w (· < w.heap.size) t (.agg #[.int .i64 t.k, .int .i64 t.n, s]) := by
      intro i hi
      have h1 := hel i hi
      rw [List.getElem?_eq_getElem (by omega)] at h1
      obtain ⟨cs, h2, h3⟩ := Option.bind_eq_some_iff.1 h1
      obtain ⟨_, hlc, hcell⟩ := World.cells?_some h2
      obtain ⟨t, ht⟩ := ih cs _ h3
      obtain ⟨s, hs, -, -, -⟩ := trV_iff.1 ht
      have hcs : cs = [.int .i64 t.k, .int .i64 t.n, s] := by
        have e : cs.toArray = #[.int .i64 t.k, .int .i64 t.n, s] := by simpa using hs
        have e' := congrArg Array.toList e
        simpa using e'
      subst hcs
      have q0 := hcell 0 (by omega)
      have q1 := hcell 1 (by omega)
      have q2 := hcell 2 (by omega)
      rw [Go.Deep.add_add] at q0 q1 q2
      simp only [List.getElem?_cons_zero, List.getElem?_cons_succ] at q0 q1 q2
      obtain ⟨hs0, hb0⟩ := hspot (by omega)
      rw [add_at hs0] at q0 q1 q2
      exact ⟨t, hs0, hb0, s, q0, q1, q2, ht⟩
    obtain ⟨T, hT⟩ := Go.Deep.choose_lt each
    refine ⟨(List.range len).map T, _, rfl, some a, cap, a.block, a.off, by simp, by simpa using hl, by unfold maxLen at hm; omega, fun hne => ?_, trC_iff.2 fun i hi => ?_⟩
    · have hpos : 0 < len := by
        rcases Nat.eq_zero_or_pos len with h0 | h0
        · subst h0; simp at hne
        · exact h0
      obtain ⟨b, o, s⟩ := a
      have := hT 0 hpos
      simp only at this
      obtain ⟨rfl, hb, -⟩ := this
      exact ⟨rfl, hb⟩
    · have hi' : i < len := by simpa using hi
      obtain ⟨-, -, s, c0, c1, c2, ht⟩ := hT i hi'
      simp only [List.getElem_map, List.getElem_range]
      exact ⟨s, c0, c1, c2, ht⟩
set_option maxRecDepth 100000 in
theorem open_term_n {H : Type} {enc : TypeId × Value → H} {w : World} {base : Nat} {spare : Nat → Bool} {held : Bool} (N : Nat) : ∀ (n : Nat), n ≤ N →
    ∀ (cs : List Value) (x : DataW H × List MemPlace), DataW.trod enc Try.prog w base spare held n 24 cs = some x → ∃ t : Tm, TrV w (· < w.heap.size) t (.agg cs.toArray) := by
  have c3 : Try.prog.cellsOf 3 = 1 := by kernel_rfl
  have c38 : Try.prog.cellsOf 24 = 3 := by kernel_rfl
  have cs1 : Try.prog.cellsOf 22 = 1 := by kernel_rfl
  induction N with
  | zero =>
    intro n hn cs x h
    obtain ⟨xs, m, hm, -⟩ := DataW.trod_struct Try.underlying24 h
    omega
  | succ N ih =>
    intro n hn cs x h
    obtain ⟨xs, m, hm, hx, hsz, hlen, hfs⟩ := DataW.trod_struct Try.underlying24 h
    rw [c38] at hsz
    match cs, hsz with
    | [x0, x1, x2], _ =>
    match xs, hlen with
    | [y0, y1, y2], _ =>
    have h0 : DataW.trod enc Try.prog w base spare held m 3 ([x0, x1, x2].take (Try.prog.cellsOf 3)) = some y0 := hfs 0 _ rfl
    have h1 : DataW.trod enc Try.prog w base spare held m 3 ([x1, x2].take (Try.prog.cellsOf 3)) = some y1 := hfs 1 _ rfl
    have h2 : DataW.trod enc Try.prog w base spare held m 22 ([x2].take (Try.prog.cellsOf 22)) = some y2 := hfs 2 _ rfl
    rw [c3] at h0 h1
    rw [cs1] at h2
    obtain ⟨k, e0, -, wa⟩ := DataW.trod_int Try.underlying3 h0
    obtain ⟨q, e1, -, wb⟩ := DataW.trod_int Try.underlying3 h1
    simp at e0 e1
    subst e0 e1
    cases m with
    | zero => simp [DataW.trod] at h2
    | succ m =>
      obtain ⟨l, v, hv, hl⟩ := open_termS m (fun cs x h => ih m (by omega) cs x h) _ _ h2
      have hv' : x2 = v := by simpa using hv
      subst hv'
      have i1 := bounds_i64 wa
      have i2 := bounds_i64 wb
      exact ⟨.node k q l, trV_iff.2 ⟨x2, by simp [Tm.k, Tm.n], by unfold inI; simp only [Tm.k]; omega, by unfold inI; simp only [Tm.n]; omega, hl⟩⟩
set_option maxRecDepth 100000 in
theorem open_term {H : Type} {enc : TypeId × Value → H} {w : World} {base b0 : Nat} {spare : Nat → Bool} {held : Bool} {r : Reach} {v : Value} {d : DataW H} {ps : List MemPlace} (hval : Value.okWide Try.prog w r b0 24 v) (hd : DataW.Trod enc Try.prog w base spare held 24 v d ps) :
    ∃ t : Tm, TrV w (· < w.heap.size) t v := by
  obtain ⟨cs, rfl, hsz⟩ := okWide_struct Try.underlying24 hval
  obtain ⟨fuel, hf⟩ := hd
  obtain ⟨t, ht⟩ := open_term_n fuel fuel (Nat.le_refl _) _ _ hf
  exact ⟨t, by simpa [Value.cells] using ht⟩
set_option maxRecDepth 100000 in
theorem open_terms {H : Type} {enc : TypeId × Value → H} {w : World} {base b0 : Nat} {spare : Nat → Bool} {held : Bool} {r : Reach} {v : Value} {d : DataW H} {ps : List MemPlace} (hval : Value.okWide Try.prog w r b0 22 v) (hd : DataW.Trod enc Try.prog w base spare held 22 v d ps) :
    ∃ l : List Tm, TrS w (· < w.heap.size) l v := by
  obtain ⟨fuel, hf⟩ := hd
  obtain ⟨oa, len, cap, rfl⟩ := okWide_slice Try.underlying22 hval
  cases fuel with
  | zero => simp [DataW.trod] at hf
  | succ n =>
    obtain ⟨l, v, hv, hl⟩ := open_termS n (fun cs x h => open_term_n n n (Nat.le_refl _) cs x h) _ _ hf
    have hv' : Value.slice oa len cap = v := by simpa [Value.cells] using hv
    subst hv'
    exact ⟨l, hl⟩
end Go.Proofs.Ytapdfdjknehhgaa
