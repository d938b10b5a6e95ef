/- Trees put into trees, plainly: no program. -/
import Derived.Test.YtapdfdjknehhgaaAt
import Derived.Test.YtapdfdjknehhgaaPth
namespace Go.Proofs.Ytapdfdjknehhgaa
open Go.RowKit Go.Tr

/-- The tree with another one at a place. -/
def putT : Tm → List Int → Tm → Tm
  | _, [], u => u
  | t, i :: r, u => .node t.k t.n (t.l.set i.toNat (putT (t.l.getD i.toNat default) r u))
theorem nodeT_c (k n : Int) (l : List Tm) (i : Int) (r : List Int) : nodeT (.node k n l) (i :: r) = if 0 ≤ i then (l[i.toNat]?).bind (fun x => nodeT x r) else none := by
  rw [nodeT]
  by_cases h : 0 ≤ i
  · rw [if_pos h]
    by_cases h2 : i.toNat < l.length
    · rw [dif_pos ⟨h, h2⟩, List.getElem?_eq_getElem h2]
      rfl
    · rw [dif_neg (fun hh => h2 hh.2), List.getElem?_eq_none (by omega)]
      rfl
  · rw [if_neg h, dif_neg (fun hh => h hh.1)]
theorem nodeT_i {k n : Int} {l : List Tm} {i : Int} {r : List Int} {x : Tm} (h : nodeT (.node k n l) (i :: r) = some x) : 0 ≤ i ∧ ∃ h : i.toNat < l.length, nodeT l[i.toNat] r = some x ∧ l.getD i.toNat default = l[i.toNat] := by
  rw [nodeT_c] at h
  split at h
  · rename_i h0
    refine ⟨h0, ?_⟩
    cases he : l[i.toNat]? with
    | none => rw [he] at h; cases h
    | some y =>
      obtain ⟨h1, h2⟩ := List.getElem?_eq_some_iff.1 he
      rw [he] at h
      refine ⟨h1, ?_, ?_⟩
      · rw [h2]; exact h
      · rw [List.getD_eq_getElem?_getD, he, h2]; rfl
  · cases h
theorem put_at : ∀ (p : List Int) (t x u : Tm), nodeT t p = some x → nodeT (putT t p u) p = some u
  | [], t, x, u, _ => by rw [putT, nodeT]
  | i :: r, .node k n l, x, u, h => by
    obtain ⟨h0, h1, h2, h3⟩ := nodeT_i h
    rw [putT, nodeT_c, if_pos h0]
    show ((l.set i.toNat (putT (l.getD i.toNat default) r u))[i.toNat]?).bind _ = _
    rw [List.getElem?_set_self h1, h3]
    exact put_at r _ x u h2
theorem put_back : ∀ (p : List Int) (t x u : Tm), nodeT t p = some x → putT (putT t p u) p x = t
  | [], t, x, u, h => by rw [nodeT] at h; rw [putT]; exact (Option.some.inj h).symm
  | i :: r, .node k n l, x, u, h => by
    obtain ⟨h0, h1, h2, h3⟩ := nodeT_i h
    rw [putT, putT]
    show Tm.node k n ((l.set i.toNat (putT (l.getD i.toNat default) r u)).set i.toNat (putT ((l.set i.toNat (putT (l.getD i.toNat default) r u)).getD i.toNat default) r x)) = .node k n l
    have e2 : (l.set i.toNat (putT (l.getD i.toNat default) r u)).getD i.toNat default = putT (l.getD i.toNat default) r u := by
      rw [List.getD_eq_getElem?_getD, List.getElem?_set_self h1]; rfl
    rw [List.set_set, e2, h3, put_back r _ x u h2, List.set_getElem_self]
/-- Elsewhere nothing has changed. -/
theorem put_else : ∀ (p q : List Int) (t x u : Tm), nodeT t p = some x → ¬ p <+: q → ¬ q <+: p → nodeT (putT t p u) q = nodeT t q
  | [], q, t, x, u, _, h1, _ => absurd (List.nil_prefix) h1
  | _ :: _, [], t, x, u, _, _, h2 => absurd (List.nil_prefix) h2
  | i :: r, j :: s, .node k n l, x, u, h, h1, h2 => by
    obtain ⟨h0, h3, h4, h5⟩ := nodeT_i h
    rw [putT, nodeT_c, nodeT_c]
    by_cases hj : 0 ≤ j
    · rw [if_pos hj, if_pos hj]
      show ((l.set i.toNat (putT (l.getD i.toNat default) r u))[j.toNat]?).bind _ = _
      by_cases he : i = j
      · subst he
        have g1 : ¬ r <+: s := fun hp => h1 (List.cons_prefix_cons.2 ⟨rfl, hp⟩)
        have g2 : ¬ s <+: r := fun hp => h2 (List.cons_prefix_cons.2 ⟨rfl, hp⟩)
        rw [List.getElem?_set_self h3, h5, List.getElem?_eq_getElem h3]
        exact put_else r s _ x u h4 g1 g2
      · rw [List.getElem?_set_ne (by omega)]
    · rw [if_neg hj, if_neg hj]
theorem pathsL_in : ∀ (l : List Tm) (p : List Int) (i : Nat), (∀ x ∈ l, ∀ p, ∀ q ∈ pathsT x p, ∃ s y, q = p ++ s ∧ nodeT x s = some y) → ∀ q ∈ pathsL l p i, ∃ j, ∃ h : j < l.length, ∃ s y, q = p ++ ((i + j : Nat) : Int) :: s ∧ nodeT l[j] s = some y
  | [], p, i, _, q, hq => by simp [pathsL] at hq
  | a :: r, p, i, h, q, hq => by
    rw [pathsL_cons, List.mem_append] at hq
    rcases hq with hq | hq
    · obtain ⟨s, y, h1, h2⟩ := h a (by simp) _ q hq
      exact ⟨0, by simp, s, y, by rw [h1]; simp, h2⟩
    · obtain ⟨j, hj, s, y, h1, h2⟩ := pathsL_in r p (i + 1) (fun x hx => h x (by simp [hx])) q hq
      exact ⟨j + 1, by simpa using hj, s, y, by rw [h1]; congr 3; omega, by simpa using h2⟩
theorem pathsT_in (t : Tm) : ∀ p, ∀ q ∈ pathsT t p, ∃ s y, q = p ++ s ∧ nodeT t s = some y := by
  induction t using Tm.ind with
  | h k n l ih =>
    intro p q hq
    rw [pathsT_t, List.mem_cons] at hq
    rcases hq with rfl | hq
    · exact ⟨[], _, by simp, by rw [nodeT]⟩
    · obtain ⟨j, hj, s, y, h1, h2⟩ := pathsL_in l p 0 ih q hq
      refine ⟨((0 + j : Nat) : Int) :: s, y, h1, ?_⟩
      rw [nodeT_c, if_pos (by omega)]
      have e : ((0 + j : Nat) : Int).toNat = j := by omega
      rw [e, List.getElem?_eq_getElem hj]
      exact h2
theorem paths_node {t : Tm} {q : List Int} (h : q ∈ pathsT t []) : ∃ y, nodeT t q = some y := by
  obtain ⟨s, y, h1, h2⟩ := pathsT_in t [] q h
  rw [List.nil_append] at h1
  exact ⟨y, by rw [h1]; exact h2⟩
end Go.Proofs.Ytapdfdjknehhgaa
