/- The tokens of a text, where they stand. -/
import Derived.Test.YtkghbecfjeldcaaDoorShort
import Derived.Test.YtkghbecfjeldcaaDoorChg1
namespace Go.Proofs.YtkghbecfjeldcaaDoor
open Go.RowKit

theorem tok_facts (text : ByteArray) (l : List Lx.Tok) (hT : Lx.T (bts text) 0 = .good l) (i : Nat) (hi : i < l.length) (x : Nat) (hx : x = Lx.endOf 0 (l.take i)) :
    x ≤ (l[i]).at_ ∧ (l[i]).at_ < (l[i]).fin ∧ (l[i]).fin ≤ text.size ∧ (l[i]).k ≠ 0 ∧ Lx.T (bts (text.extract x (l[i]).at_)) 0 = .good [] ∧
    Lx.kindOf (bts (text.extract (l[i]).at_ (l[i]).fin)) = (l[i]).k ∧ ((l[i]).k ≠ 3 → ofB (l[i]).s = text.extract (l[i]).at_ (l[i]).fin) ∧
    ((l[i]).fin < text.size → Lx.kindOf (bts (text.extract (l[i]).at_ ((l[i]).fin + 1))) = 0) := by
  have hc := Lx.chain _ _ _ hT
  obtain ⟨f, w, r, h1, h2, h3, h4, h5, h6⟩ := Lx.chain_at l (bts text) 0 hc i hi
  have ht := Lx.chain_tok _ _ _ hc i hi
  rw [Nat.sub_zero, ← hx] at h1
  rw [← hx] at h3 h4
  rw [bts_length] at ht
  have hp := Lx.step_tok h6
  generalize l[i] = t at *
  obtain ⟨k, n, s, a, b⟩ := t
  simp only at *
  have hd : (bts text).drop a = w ++ r := by rw [h4, ← List.drop_drop, h1, List.drop_left]
  have hw : bts (text.extract a b) = w := by rw [bts_extract, hd, show b - a = w.length from by omega, List.take_left]
  refine ⟨by omega, by omega, by omega, Lx.step_k_pos h6, ?_, ?_, fun hk => ?_, fun hlt => ?_⟩
  · rw [bts_extract, h1, show a - x = f.length from by omega, List.take_left]; exact h2
  · rw [hw]
    have := Lx.step_alone h6
    rw [List.take_left] at this
    exact Lx.kindOf_tok this
  · rcases Lx.tok_text h6 with ⟨e, _⟩ | ⟨_, e⟩
    · exact absurd e hk
    · rw [e, ← hw, ofB_bts]
  · have hl : (w ++ r).length = text.size - a := by rw [← hd, List.length_drop, bts_length]
    cases r with
    | nil => simp at hl; omega
    | cons c r =>
      rw [bts_extract, hd, show b + 1 - a = (w ++ [c]).length from by simp; omega, show w ++ c :: r = (w ++ [c]) ++ r from by simp, List.take_left]
      exact Lx.longest h6
theorem last_facts (text : ByteArray) (l : List Lx.Tok) (hT : Lx.T (bts text) 0 = .good l) : Lx.endOf 0 l ≤ text.size ∧ Lx.T (bts (text.extract (Lx.endOf 0 l) text.size)) 0 = .good [] := by
  have h := Lx.chain_last _ _ _ (Lx.chain _ _ _ hT)
  rw [Nat.sub_zero, Nat.zero_add, bts_length] at h
  refine ⟨h.2.2, ?_⟩
  rw [bts_extract, List.take_of_length_le (by rw [List.length_drop, bts_length]; omega)]
  exact h.1
theorem endOf_next (l : List Lx.Tok) (i : Nat) (hi : i < l.length) : (l[i]).fin = Lx.endOf 0 (l.take (i + 1)) := (Lx.endOf_take 0 l i hi).symm
end Go.Proofs.YtkghbecfjeldcaaDoor
