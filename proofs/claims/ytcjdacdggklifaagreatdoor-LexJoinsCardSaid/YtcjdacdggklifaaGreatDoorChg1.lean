/- Edits: the plain mathematics. The tokens ahead of an edit stay, and so do those behind it. -/
import Derived.Test.YtcjdacdggklifaaGreatDoorPure
namespace Go.Lx

/-- Where the last of some tokens ends. -/
def endOf : Nat → List Tok → Nat
  | x, [] => x
  | _, t :: ts => endOf t.fin ts
theorem endOf_append (x : Nat) (a b : List Tok) : endOf x (a ++ b) = endOf (endOf x a) b := by
  induction a generalizing x with
  | nil => rfl
  | cons t a ih => exact ih t.fin
theorem endOf_snoc (x : Nat) (a : List Tok) (t : Tok) : endOf x (a ++ [t]) = t.fin := by rw [endOf_append]; rfl
theorem endOf_take (x : Nat) (ts : List Tok) (k : Nat) (h : k < ts.length) : endOf x (ts.take (k + 1)) = (ts[k]).fin := by
  rw [List.take_succ_eq_append_getElem h, endOf_snoc]

/-- Each token has a byte. -/
theorem chain_count : ∀ (ts1 ts2 : List Tok) (l : Bs) (x : Nat), Chain l x (ts1 ++ ts2) → x + ts1.length ≤ endOf x ts1 ∧ endOf x ts1 ≤ x + l.length
  | [], _, l, x, _ => ⟨Nat.le_refl _, Nat.le_add_right _ _⟩
  | t :: ts1, ts2, l, x, h => by
    obtain ⟨f, w, r, rfl, hf, ha, hfin, hst, hT, hc⟩ := h
    have ih := chain_count ts1 ts2 r t.fin hc
    have hp := step_tok hst
    show x + (ts1.length + 1) ≤ endOf t.fin ts1 ∧ endOf t.fin ts1 ≤ _
    simp only [List.length_append]
    omega
/-- The beginnings grow. -/
theorem chain_tok (ts : List Tok) (l : Bs) (x : Nat) (h : Chain l x ts) (i : Nat) (hi : i < ts.length) : x ≤ (ts[i]).at_ ∧ (ts[i]).at_ < (ts[i]).fin ∧ (ts[i]).fin ≤ x + l.length := by
  induction ts generalizing l x i with
  | nil => simp at hi
  | cons t ts ih =>
    obtain ⟨f, w, r, rfl, hf, ha, hfin, hst, hT, hc⟩ := h
    have hp := step_tok hst
    cases i with
    | zero => simp only [List.getElem_cons_zero, List.length_append]; omega
    | succ i =>
      simp only [List.getElem_cons_succ]
      have := ih r t.fin hc i (by simpa using hi)
      simp only [List.length_append]; omega

/-- The ends grow. -/
theorem chain_ends (ts : List Tok) (l : Bs) (x : Nat) (h : Chain l x ts) (i j : Nat) (hij : i < j) (hj : j < ts.length) : (ts[i]'(by omega)).fin < (ts[j]).fin ∧ (ts[i]'(by omega)).fin ≤ (ts[j]).at_ := by
  induction ts generalizing l x i j with
  | nil => simp at hj
  | cons t ts ih =>
    obtain ⟨f, w, r, rfl, hf, ha, hfin, hst, hT, hc⟩ := h
    obtain ⟨j, rfl⟩ : ∃ k, j = k + 1 := ⟨j - 1, by omega⟩
    have hk : j < ts.length := by simpa using hj
    cases i with
    | zero =>
      simp only [List.getElem_cons_zero, List.getElem_cons_succ]
      have := chain_tok ts r t.fin hc j hk
      omega
    | succ i =>
      simp only [List.getElem_cons_succ]
      exact ih r t.fin hc i j (by omega) hk
/-- The first tokens stay while the bytes up to the one behind the last of them do. -/
theorem T_keep : ∀ (ts1 ts2 : List Tok) (l l' : Bs) (x : Nat), Chain l x (ts1 ++ ts2) → (ts1 ≠ [] → l.take (endOf x ts1 - x + 1) = l'.take (endOf x ts1 - x + 1)) →
    T l' x = (T (l'.drop (endOf x ts1 - x)) (endOf x ts1)).pre ts1
  | [], _, l, l', x, _, _ => by simp [endOf, Res.pre_nil]
  | t :: ts1, ts2, l, l', x, h, he => by
    have he := he (by simp)
    obtain ⟨f, w, r, rfl, hf, ha, hfin, hst, hT, hc⟩ := h
    have hcnt := chain_count ts1 ts2 r t.fin hc
    have hE : endOf x (t :: ts1) = endOf t.fin ts1 := rfl
    rw [hE] at he ⊢
    generalize hEE : endOf t.fin ts1 = E at *
    have hle : f.length + w.length + 1 ≤ E - x + 1 := by omega
    have hpre : l'.take (f.length + w.length) = f ++ w := by
      have h1 : (l'.take (E - x + 1)).take (f.length + w.length) = l'.take (f.length + w.length) := by rw [List.take_take]; congr 1; omega
      rw [← h1, ← he, List.take_take, show min (f.length + w.length) (E - x + 1) = (f ++ w).length from by simp; omega, ← List.append_assoc, List.take_left]
    have hl' : l' = f ++ (w ++ l'.drop (f.length + w.length)) := by
      have := List.take_append_drop (f.length + w.length) l'
      rw [hpre, List.append_assoc] at this; exact this.symm
    generalize hr' : l'.drop (f.length + w.length) = r' at *
    have htk : r.take (E - t.fin + 1) = r'.take (E - t.fin + 1) := by
      rw [hl', ← List.append_assoc, ← List.append_assoc] at he
      have := congrArg (List.drop (f ++ w).length) he
      rw [List.drop_take, List.drop_take, List.drop_left, List.drop_left] at this
      rw [show E - x + 1 - (f ++ w).length = E - t.fin + 1 from by simp; omega] at this
      exact this
    have hfits : Fits r r' := by
      intro c hcc
      left
      have h1 : (r'.take (E - t.fin + 1)).head? = some c := by
        cases r' with
        | nil => simp at hcc
        | cons d q => simpa using hcc
      rw [← htk] at h1
      cases r with
      | nil => simp at h1
      | cons d q => simpa using h1
    have hst' := step_fits hst hfits
    have ih := T_keep ts1 ts2 r r' t.fin hc (fun _ => by rw [hEE]; exact htk)
    rw [hEE] at ih
    have hdrop : l'.drop (E - x) = r'.drop (E - t.fin) := by
      rw [← hr', List.drop_drop]; congr 1; omega
    rw [hdrop]
    conv => lhs; rw [hl']
    rw [T_filling f x hf, T_tok hst', List.drop_left, show x + f.length + w.length = t.fin from by omega, ih, Res.pre_pre]
    congr 1
    simp only [List.cons_append, List.nil_append, List.cons.injEq, and_true]
    obtain ⟨tk, tn, tst, ta, tf⟩ := t
    simp only at ha hfin ⊢
    rw [hfin, ha]

/-- From where a token begins on the tokens are those from it on. -/
theorem T_at (ts : List Tok) (l : Bs) (x : Nat) (h : Chain l x ts) (hT : T l x = .good ts) (i : Nat) (hi : i < ts.length) : T (l.drop ((ts[i]).at_ - x)) (ts[i]).at_ = .good (ts.drop i) := by
  induction ts generalizing l x i with
  | nil => simp at hi
  | cons t ts ih =>
    have ht := chain_tok _ _ _ h i hi
    obtain ⟨f, w, r, rfl, hf, ha, hfin, hst, hTr, hc⟩ := h
    cases i with
    | zero =>
      simp only [List.getElem_cons_zero, List.drop_zero]
      rw [ha, Nat.add_sub_cancel_left, List.drop_left]
      rw [T_filling f x hf] at hT; exact hT
    | succ i =>
      simp only [List.getElem_cons_succ, List.drop_succ_cons] at *
      have hi' : i < ts.length := by simpa using hi
      have h2 := chain_tok _ _ _ hc i hi'
      rw [← ih r t.fin hc hTr i hi']
      congr 1
      rw [← List.append_assoc, show (ts[i]).at_ - x = (f ++ w).length + ((ts[i]).at_ - t.fin) from by simp; omega, ← List.drop_drop, List.drop_left]
/-- .. and they are the same ones at another place. -/
theorem T_shift {l : Bs} {y : Nat} {ts : List Tok} (h : T l y = .good ts) (z : Nat) : ∃ u : List Tok, ts = u.map (Tok.up y) ∧ T l z = .good (u.map (Tok.up z)) := by
  have h1 := T_up l 0 y
  have h2 := T_up l 0 z
  rw [Nat.zero_add] at h1 h2
  rw [h1] at h
  cases hT : T l 0 with
  | bad a => rw [hT] at h; cases h
  | good u =>
    rw [hT] at h h2
    simp only [Res.up, Res.good.injEq] at h h2
    exact ⟨u, h.symm, h2⟩
end Go.Lx
namespace Go.Lx

/-- One token of many. -/
theorem chain_at : ∀ (ts : List Tok) (l : Bs) (x : Nat), Chain l x ts → ∀ (i : Nat) (hi : i < ts.length), ∃ f w r, l.drop (endOf x (ts.take i) - x) = f ++ (w ++ r) ∧ T f 0 = .good [] ∧
    x ≤ endOf x (ts.take i) ∧ (ts[i]).at_ = endOf x (ts.take i) + f.length ∧ (ts[i]).fin = (ts[i]).at_ + w.length ∧ step (w ++ r) = .tok (ts[i]).k (ts[i]).n (ts[i]).s w.length
  | [], _, _, _, i, hi => by simp at hi
  | t :: ts, l, x, h, i, hi => by
    obtain ⟨f, w, r, rfl, hf, ha, hfin, hst, hT, hc⟩ := h
    cases i with
    | zero => exact ⟨f, w, r, by simp [endOf], filling_up hf 0, by simp [endOf], by simpa [endOf] using ha, by simpa using hfin, by simpa using hst⟩
    | succ i =>
      have hi' : i < ts.length := by simpa using hi
      obtain ⟨f2, w2, r2, h1, h2, h3, h4, h5, h6⟩ := chain_at ts r t.fin hc i hi'
      have hE : endOf x ((t :: ts).take (i + 1)) = endOf t.fin (ts.take i) := rfl
      rw [hE]
      simp only [List.getElem_cons_succ]
      refine ⟨f2, w2, r2, ?_, h2, by omega, h4, h5, h6⟩
      rw [← h1, ← List.append_assoc, show endOf t.fin (ts.take i) - x = (f ++ w).length + (endOf t.fin (ts.take i) - t.fin) from by simp; omega, ← List.drop_drop, List.drop_left]
theorem chain_last : ∀ (ts : List Tok) (l : Bs) (x : Nat), Chain l x ts → T (l.drop (endOf x ts - x)) 0 = .good [] ∧ x ≤ endOf x ts ∧ endOf x ts ≤ x + l.length
  | [], l, x, h => ⟨by simpa [endOf] using filling_up (f := l) h 0, Nat.le_refl _, Nat.le_add_right _ _⟩
  | t :: ts, l, x, h => by
    obtain ⟨f, w, r, rfl, hf, ha, hfin, hst, hT, hc⟩ := h
    have ih := chain_last ts r t.fin hc
    have hE : endOf x (t :: ts) = endOf t.fin ts := rfl
    rw [hE]
    refine ⟨?_, by omega, by simp only [List.length_append]; omega⟩
    rw [← List.append_assoc, show endOf t.fin ts - x = (f ++ w).length + (endOf t.fin ts - t.fin) from by simp; omega, ← List.drop_drop, List.drop_left]
    exact ih.1
end Go.Lx
