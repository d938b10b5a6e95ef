/- Blanks and comments between the tokens of a text: the plain mathematics. -/
import Derived.Test.YtkghbecfjeldcaaDoorChg1
namespace Go.Lx

/-- The first tokens stay while their bytes do, and the one behind them stays, or is none, or a blank. -/
theorem T_keepF : ∀ (ts1 ts2 : List Tok) (l l' : Bs) (x : Nat), Chain l x (ts1 ++ ts2) → l.take (endOf x ts1 - x) = l'.take (endOf x ts1 - x) → Fits (l.drop (endOf x ts1 - x)) (l'.drop (endOf x ts1 - x)) →
    T l' x = (T (l'.drop (endOf x ts1 - x)) (endOf x ts1)).pre ts1
  | [], _, l, l', x, _, _, _ => by simp [endOf, Res.pre_nil]
  | t :: ts1, ts2, l, l', x, h, he, hF => by
    obtain ⟨f, w, r, rfl, hf, ha, hfin, hst, hT, hc⟩ := h
    have hcnt := chain_count ts1 ts2 r t.fin hc
    have hE : endOf x (t :: ts1) = endOf t.fin ts1 := rfl
    rw [hE] at he hF ⊢
    generalize hEE : endOf t.fin ts1 = E at *
    have hle : f.length + w.length ≤ E - x := by omega
    have hpre : l'.take (f.length + w.length) = f ++ w := by
      have h1 : (l'.take (E - x)).take (f.length + w.length) = l'.take (f.length + w.length) := by rw [List.take_take]; congr 1; omega
      rw [← h1, ← he, List.take_take, show min (f.length + w.length) (E - x) = (f ++ w).length from by simp; omega, ← List.append_assoc, List.take_left]
    have hl' : l' = f ++ (w ++ l'.drop (f.length + w.length)) := by
      have := List.take_append_drop (f.length + w.length) l'
      rw [hpre, List.append_assoc] at this; exact this.symm
    generalize hr' : l'.drop (f.length + w.length) = r' at *
    have htk : r.take (E - t.fin) = r'.take (E - t.fin) := by
      rw [hl', ← List.append_assoc, ← List.append_assoc] at he
      have := congrArg (List.drop (f ++ w).length) he
      rw [List.drop_take, List.drop_take, List.drop_left, List.drop_left] at this
      rw [show E - x - (f ++ w).length = E - t.fin from by simp; omega] at this
      exact this
    have hdr : (f ++ (w ++ r)).drop (E - x) = r.drop (E - t.fin) := by
      rw [← List.append_assoc, show E - x = (f ++ w).length + (E - t.fin) from by simp; omega, ← List.drop_drop, List.drop_left]
    have hdrop : l'.drop (E - x) = r'.drop (E - t.fin) := by
      rw [← hr', List.drop_drop]; congr 1; omega
    rw [hdr, hdrop] at hF
    have hfits : Fits r r' := by
      by_cases h0 : E - t.fin = 0
      · rw [h0, List.drop_zero, List.drop_zero] at hF; exact hF
      · obtain ⟨m, hm⟩ : ∃ m, E - t.fin = m + 1 := ⟨E - t.fin - 1, by omega⟩
        rw [hm] at htk
        intro c hcc
        left
        cases r' with
        | nil => simp at hcc
        | cons d q =>
          cases r with
          | nil => simp at htk
          | cons d' q' => simp at htk hcc; rw [← hcc, htk.1]; rfl
    have hst' := step_fits hst hfits
    have ih := T_keepF ts1 ts2 r r' t.fin hc (by rw [hEE]; exact htk) (by rw [hEE]; exact hF)
    rw [hEE] at ih
    rw [hdrop]
    conv => lhs; rw [hl']
    rw [T_filling f x hf, T_tok hst', List.drop_left, show x + f.length + w.length = t.fin from by omega, ih, Res.pre_pre]
    congr 1
    simp only [List.cons_append, List.nil_append, List.cons.injEq, and_true]
    obtain ⟨tk, tn, tst, ta, tf⟩ := t
    simp only at ha hfin ⊢
    rw [hfin, ha]

/-- Where a filling may be put in: ahead of a token, or at the end. -/
def spot (a : Bs) (l : List Tok) (k : Nat) : Nat := match l[k]? with | some t => t.at_ | none => a.length
theorem T_put {a : Bs} {l : List Tok} (hT : T a 0 = .good l) {f : Bs} (hf : T f 0 = .good []) (k : Nat) (hk : k ≤ l.length) :
    spot a l k ≤ a.length ∧ T (a.take (spot a l k) ++ 32 :: (f ++ 32 :: a.drop (spot a l k))) 0 = .good (l.take k ++ (l.drop k).map (Tok.up (f.length + 2))) := by
  have hc := chain _ _ _ hT
  have key : ∃ g, T g 0 = .good [] ∧ endOf 0 (l.take k) + g.length = spot a l k ∧ spot a l k ≤ a.length ∧ (a.drop (endOf 0 (l.take k))).take g.length = g ∧ T (a.drop (spot a l k)) (spot a l k) = .good (l.drop k) := by
    by_cases hlt : k < l.length
    · have hsp : spot a l k = (l[k]).at_ := by unfold spot; rw [List.getElem?_eq_getElem hlt]
      obtain ⟨g, w, r, h1, h2, h3, h4, h5, h6⟩ := chain_at l a 0 hc k hlt
      have h7 := chain_tok l a 0 hc k hlt
      have h8 := T_at l a 0 hc hT k hlt
      rw [Nat.sub_zero] at h1 h8
      rw [hsp]
      exact ⟨g, h2, h4.symm, by omega, by rw [h1, List.take_left], h8⟩
    · have hkl : k = l.length := by omega
      have hsp : spot a l k = a.length := by unfold spot; rw [List.getElem?_eq_none (by omega)]
      obtain ⟨h1, h2, h3⟩ := chain_last l a 0 hc
      rw [Nat.sub_zero, Nat.zero_add] at *
      rw [hsp, hkl, List.take_length]
      exact ⟨a.drop (endOf 0 l), h1, by simp; omega, Nat.le_refl _, by rw [List.take_length], by rw [List.drop_length, T_nil, List.drop_length]⟩
  obtain ⟨g, hg, hE, hle, hgt, hTs⟩ := key
  generalize spot a l k = p at *
  generalize hEE : endOf 0 (l.take k) = E at *
  refine ⟨hle, ?_⟩
  have hap : a.take p = a.take E ++ g := by rw [← hE, List.take_add, hgt]
  have hbe : (a.take p ++ 32 :: (f ++ 32 :: a.drop p)) = a.take E ++ (g ++ 32 :: (f ++ 32 :: a.drop p)) := by rw [hap, List.append_assoc]
  have hEl : (a.take E).length = E := by simp; omega
  obtain ⟨Y, hY⟩ : ∃ Y, Y = g ++ 32 :: (f ++ 32 :: a.drop p) := ⟨_, rfl⟩
  have hdE : (a.take E ++ Y).drop E = Y := List.drop_left' hEl
  have hTE : (a.take E ++ Y).take E = a.take E := List.take_left' hEl
  have hk2 := T_keepF (l.take k) (l.drop k) a (a.take E ++ Y) 0 (by rw [List.take_append_drop]; exact hc)
    (by rw [hEE, Nat.sub_zero, hTE])
    (by
      rw [hEE, Nat.sub_zero, hdE, hY]
      intro c hcc
      cases g with
      | nil => simp at hcc; subst hcc; exact .inr (by decide)
      | cons d q =>
        left
        simp at hcc
        subst hcc
        cases hd : a.drop E with
        | nil => rw [hd] at hgt; simp at hgt
        | cons d' q' => rw [hd] at hgt; simp at hgt; rw [hgt.1]; rfl)
  rw [hbe, ← hY, hk2, hEE, Nat.sub_zero, hdE, hY, T_filling g E (filling_up hg E), T_blanks _ hf, hE, T_up, hTs]
  rfl
end Go.Lx
