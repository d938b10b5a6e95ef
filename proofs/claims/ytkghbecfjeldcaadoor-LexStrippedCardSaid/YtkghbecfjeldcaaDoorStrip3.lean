/- Strip: what it does to a text, and to its tokens. -/
import Derived.Test.YtkghbecfjeldcaaDoorStrip2
namespace Go.Proofs.YtkghbecfjeldcaaDoor
open Go.RowKit

/-- A comment's bytes, made blanks. -/
def whit (l : Lx.Bs) : Lx.Bs := l.map fun c => if c ≠ 10 then 32 else c
theorem whit_blank (l : Lx.Bs) : ∀ c ∈ whit l, Lx.blank c = true := by
  intro c hc
  obtain ⟨d, _, rfl⟩ := List.mem_map.1 hc
  by_cases h : d = 10
  · rw [if_neg (by simpa using h), h]; decide
  · rw [if_pos h]; decide
/-- A text with blanks in the place of its comments, as long as it can be cut. -/
def S (l : Lx.Bs) : Lx.Bs :=
  match l with
  | [] => []
  | c :: r =>
    match Lx.step (c :: r) with
    | .bad => c :: r
    | .fill n => (if Lx.opens (c :: r) then whit ((c :: r).take n) else (c :: r).take n) ++ S (r.drop (n - 1))
    | .tok _ _ _ len => (c :: r).take len ++ S (r.drop (len - 1))
termination_by l.length
decreasing_by all_goals (simp; omega)
theorem S_nil : S [] = [] := by rw [S]
theorem S_bad {l : Lx.Bs} (h : Lx.step l = .bad) : S l = l := by
  cases l with
  | nil => exact S_nil
  | cons c r => rw [S, h]
theorem S_fill {l : Lx.Bs} {n : Nat} (h : Lx.step l = .fill n) : S l = (if Lx.opens l then whit (l.take n) else l.take n) ++ S (l.drop n) := by
  cases l with
  | nil => rw [Lx.step_nil] at h; cases h
  | cons c r =>
    have := Lx.step_fill h
    rw [S, h]
    obtain ⟨m, rfl⟩ : ∃ m, n = m + 1 := ⟨n - 1, by omega⟩
    simp
theorem S_tok {l : Lx.Bs} {k n : Nat} {s : Lx.Bs} {len : Nat} (h : Lx.step l = .tok k n s len) : S l = l.take len ++ S (l.drop len) := by
  cases l with
  | nil => rw [Lx.step_nil] at h; cases h
  | cons c r =>
    have := Lx.step_tok h
    rw [S, h]
    obtain ⟨m, rfl⟩ : ∃ m, len = m + 1 := ⟨len - 1, by omega⟩
    simp
theorem whit_len (l : Lx.Bs) : (whit l).length = l.length := by simp [whit]
theorem fill_part (l : Lx.Bs) (n : Nat) : (if Lx.opens l then whit (l.take n) else l.take n).length = min n l.length := by
  split <;> simp [whit_len]
theorem S_len (l : Lx.Bs) : (S l).length = l.length := by
  induction l using Lx.step_induct with
  | h0 => rw [S_nil]
  | hbad l hl hs => rw [S_bad hs]
  | hfill l n hs ih => have := Lx.step_fill hs; rw [S_fill hs, List.length_append, ih, fill_part, List.length_drop]; omega
  | htok l k n s len hs ih => have := Lx.step_tok hs; rw [S_tok hs, List.length_append, ih, List.length_take, List.length_drop]; omega
theorem S_fits (l : Lx.Bs) : Lx.Fits l (S l) := by
  intro c hc
  cases l with
  | nil => rw [S_nil] at hc; cases hc
  | cons d r =>
    cases hs : Lx.step (d :: r) with
    | bad => rw [S_bad hs] at hc; exact .inl hc
    | fill n =>
      have hn := (Lx.step_fill hs).1
      obtain ⟨m, rfl⟩ : ∃ m, n = m + 1 := ⟨n - 1, by omega⟩
      rw [S_fill hs] at hc
      by_cases ho : Lx.opens (d :: r) = true
      · rw [if_pos ho, List.take_succ_cons] at hc
        simp only [whit, List.map_cons, List.cons_append, List.head?_cons, Option.some.injEq] at hc
        exact .inr (hc ▸ whit_blank [d] _ (by simp [whit]))
      · rw [if_neg ho, List.take_succ_cons] at hc
        exact .inl hc
    | tok k n s len =>
      have hn := (Lx.step_tok hs).1
      obtain ⟨m, rfl⟩ : ∃ m, len = m + 1 := ⟨len - 1, by omega⟩
      rw [S_tok hs, List.take_succ_cons] at hc
      exact .inl hc
/-- Blanks in front. -/
theorem T_front (x : Lx.Bs) : ∀ (f : Lx.Bs) (a : Nat), (∀ c ∈ f, Lx.blank c = true) → Lx.T (f ++ x) a = Lx.T x (a + f.length)
  | [], a, _ => by simp
  | c :: f, a, h => by
    have hs : Lx.step (c :: (f ++ x)) = .fill 1 := by unfold Lx.step; rw [Lx.kd_blank (h c (by simp))]
    rw [List.cons_append, Lx.T_fill hs, List.drop_succ_cons, List.drop_zero, T_front x f _ (fun d hd => h d (by simp [hd])), List.length_cons]
    congr 1; omega
theorem not_open {c : UInt8} {r : Lx.Bs} (h : Lx.blank c = true) : Lx.opens (c :: r) = false := by
  cases ho : Lx.opens (c :: r) with
  | false => rfl
  | true => have := Lx.kd_comm ho; rw [Lx.kd_blank h] at this; cases this
theorem S_front (x : Lx.Bs) : ∀ (f : Lx.Bs), (∀ c ∈ f, Lx.blank c = true) → S (f ++ x) = f ++ S x
  | [], _ => by simp
  | c :: f, h => by
    have hs : Lx.step (c :: (f ++ x)) = .fill 1 := by unfold Lx.step; rw [Lx.kd_blank (h c (by simp))]
    rw [List.cons_append, S_fill hs, not_open (h c (by simp)), if_neg (by simp), List.drop_succ_cons, List.drop_zero, S_front x f (fun d hd => h d (by simp [hd]))]
    simp
theorem fill_blanks {l : Lx.Bs} {n : Nat} (h : Lx.step l = .fill n) : ∀ c ∈ (if Lx.opens l then whit (l.take n) else l.take n), Lx.blank c = true := by
  rcases Lx.step_fill_iff.1 h with ⟨hk, rfl⟩ | ⟨hk, _⟩
  · obtain ⟨c, r, rfl, hb⟩ := (Lx.kd_blank_iff l).1 hk
    rw [not_open hb, if_neg (by simp)]
    intro d hd; simp at hd; subst hd; exact hb
  · have ho : Lx.opens l = true := by
      cases hx : Lx.opens l with
      | true => rfl
      | false =>
        exfalso
        cases l with
        | nil => cases hk
        | cons c r =>
          rw [kd_cons, hx] at hk
          revert hk
          cases Lx.blank c <;> cases Lx.letter c <;> cases Lx.digit c <;> cases Lx.symb c <;> simp
    rw [if_pos ho]; exact whit_blank _
theorem tok_S {l : Lx.Bs} {k n : Nat} {s : Lx.Bs} {len : Nat} (h : Lx.step l = .tok k n s len) : Lx.step (S l) = .tok k n s len ∧ (S l).take len = l.take len ∧ (S l).drop len = S (l.drop len) := by
  have hl := Lx.step_tok h
  have hw : (l.take len).length = len := by rw [List.length_take]; omega
  have h' : Lx.step (l.take len ++ l.drop len) = .tok k n s (l.take len).length := by rw [List.take_append_drop, hw]; exact h
  have := Lx.step_fits h' (S_fits (l.drop len))
  rw [← S_tok h, hw] at this
  refine ⟨this, ?_, ?_⟩
  · rw [S_tok h, List.take_left' hw]
  · rw [S_tok h, List.drop_left' hw]
theorem T_S (l : Lx.Bs) : ∀ (a : Nat) (ts : List Lx.Tok), Lx.T l a = .good ts → Lx.T (S l) a = .good ts := by
  induction l using Lx.step_induct with
  | h0 => intro a ts h; rw [S_nil]; exact h
  | hbad l hl hs => intro a ts h; rw [Lx.T_bad hl hs] at h; cases h
  | hfill l n hs ih =>
    intro a ts h
    rw [Lx.T_fill hs] at h
    have hn := Lx.step_fill hs
    rw [S_fill hs, T_front _ _ _ (fill_blanks hs), fill_part, Nat.min_eq_left hn.2]
    exact ih _ _ h
  | htok l k n s len hs ih =>
    intro a ts h
    obtain ⟨h1, h2, h3⟩ := tok_S hs
    rw [Lx.T_tok hs, Lx.Res.pre_good] at h
    obtain ⟨l', hl', rfl⟩ := h
    rw [Lx.T_tok h1, h3, ih _ _ hl']; rfl
theorem S_S (l : Lx.Bs) : ∀ (a : Nat) (ts : List Lx.Tok), Lx.T l a = .good ts → S (S l) = S l := by
  induction l using Lx.step_induct with
  | h0 => intro a ts h; rw [S_nil, S_nil]
  | hbad l hl hs => intro a ts h; rw [Lx.T_bad hl hs] at h; cases h
  | hfill l n hs ih =>
    intro a ts h
    rw [Lx.T_fill hs] at h
    rw [S_fill hs, S_front _ _ (fill_blanks hs), ih _ _ h]
  | htok l k n s len hs ih =>
    intro a ts h
    obtain ⟨h1, h2, h3⟩ := tok_S hs
    rw [Lx.T_tok hs, Lx.Res.pre_good] at h
    obtain ⟨l', hl', rfl⟩ := h
    rw [S_tok h1, h2, h3, ih _ _ hl', S_tok hs]
theorem whit_count (l : Lx.Bs) : (whit l).count 10 = l.count 10 := by
  induction l with
  | nil => rfl
  | cons c l ih =>
    simp only [whit, List.map_cons] at ih ⊢
    rw [List.count_cons, List.count_cons, ih]
    by_cases h : c = 10
    · subst h; rfl
    · rw [if_pos h]; simp [h]
theorem S_count (l : Lx.Bs) : (S l).count 10 = l.count 10 := by
  induction l using Lx.step_induct with
  | h0 => rw [S_nil]
  | hbad l hl hs => rw [S_bad hs]
  | hfill l n hs ih =>
    rw [S_fill hs, List.count_append, ih]
    have : (if Lx.opens l then whit (l.take n) else l.take n).count 10 = (l.take n).count 10 := by split; exact whit_count _; rfl
    rw [this, ← List.count_append, List.take_append_drop]
  | htok l k n s len hs ih => rw [S_tok hs, List.count_append, ih, ← List.count_append, List.take_append_drop]
theorem S_blank_run (l : Lx.Bs) : S l = l.take (Lx.run Lx.blank l) ++ S (l.drop (Lx.run Lx.blank l)) := by
  have h := S_front (l.drop (Lx.run Lx.blank l)) (l.take (Lx.run Lx.blank l)) (take_run_all Lx.blank l)
  rwa [List.take_append_drop] at h

theorem blot1_comm (a b c d : Nat) (l : Lx.Bs) : blot1 a b (blot1 c d l) = blot1 c d (blot1 a b l) := by
  apply List.ext_getElem
  · simp [blot1_len]
  · intro i h1 h2
    simp only [blot1, List.getElem_mapIdx]
    by_cases p : a ≤ i ∧ i < b <;> by_cases q : c ≤ i ∧ i < d <;> by_cases r : l[i]'(by simpa [blot1_len] using h1) = 10 <;> simp [p, q, r] <;> first | rfl | (intros; simp_all)
theorem blot_blot1 (cs : List (Nat × Nat)) (a b : Nat) : ∀ l : Lx.Bs, blot cs (blot1 a b l) = blot1 a b (blot cs l) := by
  induction cs with
  | nil => intro l; rfl
  | cons c cs ih => intro l; show blot cs (blot1 c.1 c.2 (blot1 a b l)) = blot1 a b (blot cs (blot1 c.1 c.2 l)); rw [blot1_comm, ih]
theorem blot1_mid (p m q : Lx.Bs) : blot1 p.length (p.length + m.length) (p ++ m ++ q) = p ++ whit m ++ q := by
  unfold blot1
  rw [List.mapIdx_append, List.mapIdx_append]
  congr 1
  · congr 1
    · apply List.ext_getElem
      · simp
      · intro i h1 h2; simp at h1; simp only [List.getElem_mapIdx]; rw [if_neg (by omega)]
    · apply List.ext_getElem
      · simp [whit]
      · intro i h1 h2; simp at h1; simp only [List.getElem_mapIdx, whit, List.getElem_map]
        by_cases h : m[i] = 10
        · rw [if_neg (fun e => e.2.2 h), if_neg (by simpa using h)]
        · rw [if_pos ⟨by omega, by omega, h⟩, if_pos h]
  · apply List.ext_getElem
    · simp
    · intro i h1 h2; simp at h1; simp only [List.getElem_mapIdx]; rw [if_neg (by simp; omega)]
end Go.Proofs.YtkghbecfjeldcaaDoor
