/- Strip: the comments that are blotted are all there are. -/
import Derived.Test.YtkghbecfjeldcaaDoorStrip3
namespace Go.Proofs.YtkghbecfjeldcaaDoor
open Go.RowKit

theorem runs_S {b : Lx.Bs} {st : St} {r : Sum Nat St} (h : Runs b dNever st r) : Good b st → ∀ s, r = .inr s → ∃ new, s.cs = st.cs ++ new ∧ blot new b = b.take st.at_ ++ S (b.drop st.at_) := by
  induction h with
  | over st h => intro _ s e; cases e; exact ⟨[], by simp, by rw [List.drop_eq_nil_of_le h, S_nil, List.take_of_length_le h]; simp [blot]⟩
  | done st h hd => cases hd
  | bad st h hd hn => intro _ s e; cases e
  | step st st' r h hd hn hr ih =>
    intro hg s e
    obtain ⟨new, h1, h2⟩ := ih (next_good hg h hn).1 s e
    have tk : ∀ x, Lx.step (b.drop st.at_) = x → stTok st x = some st' → ∃ new, s.cs = st.cs ++ new ∧ blot new b = b.take st.at_ ++ S (b.drop st.at_) := by
      intro x hx ht
      cases x with
      | bad => cases ht
      | fill n => cases ht
      | tok k n q len =>
        simp only [stTok, Option.some.injEq] at ht
        subst ht
        refine ⟨new, h1, ?_⟩
        rw [h2, S_tok hx, List.take_add, List.drop_drop, List.append_assoc]
    unfold nextSt at hn
    cases hk : Lx.kd (b.drop st.at_) with
    | blank =>
      rw [hk] at hn; simp only [Option.some.injEq] at hn
      subst hn
      refine ⟨new, h1, ?_⟩
      rw [h2, S_blank_run (b.drop st.at_), List.take_add, List.drop_drop, List.append_assoc]
    | comm =>
      rw [hk] at hn; simp only at hn
      cases hm : Lx.comm 0 (b.drop st.at_) with
      | none => rw [hm] at hn; cases hn
      | some n =>
        rw [hm] at hn; simp only [Option.map_some, Option.some.injEq] at hn
        have hs : Lx.step (b.drop st.at_) = .fill n := Lx.step_fill_iff.2 (.inr ⟨hk, hm⟩)
        have hnl := Lx.step_fill hs
        rw [List.length_drop] at hnl
        have ho : Lx.opens (b.drop st.at_) = true := by
          have := fill_blanks hs
          cases hx : Lx.opens (b.drop st.at_) with
          | true => rfl
          | false =>
            exfalso
            cases hd : b.drop st.at_ with
            | nil => rw [hd] at hk; cases hk
            | cons c q =>
              rw [hd] at hk hx
              rw [kd_cons, hx] at hk
              revert hk
              cases Lx.blank c <;> cases Lx.letter c <;> cases Lx.digit c <;> cases Lx.symb c <;> simp
        subst hn
        refine ⟨(st.at_, st.at_ + n) :: new, by rw [h1]; simp, ?_⟩
        show blot new (blot1 st.at_ (st.at_ + n) b) = _
        rw [blot_blot1, h2, S_fill hs, if_pos ho, List.take_add, List.drop_drop]
        have e1 : (b.take st.at_).length = st.at_ := by rw [List.length_take]; omega
        have e2 : ((b.drop st.at_).take n).length = n := by rw [List.length_take, List.length_drop]; omega
        have := blot1_mid (b.take st.at_) ((b.drop st.at_).take n) (S (b.drop (st.at_ + n)))
        rw [e1, e2] at this
        rw [this, List.append_assoc]
    | letter => rw [hk] at hn; exact tk _ rfl hn
    | digit => rw [hk] at hn; exact tk _ rfl hn
    | symb => rw [hk] at hn; exact tk _ rfl hn
    | other => rw [hk] at hn; exact tk _ rfl hn

/-- What 'Strip' hands back, in the words of the cutting. -/
theorem strip_is {text : ByteArray} {e : Ending} (hs : text.size ≤ 20000) (h : StripR text e) :
    (∃ a, Lx.T (bts text) 0 = .bad a ∧ e = tup2 ⟨#[]⟩ 10) ∨ ∃ l, Lx.T (bts text) 0 = .good l ∧ e = tup2 (ofB (S (bts text))) 0 := by
  rcases h with ⟨h, _⟩ | ⟨_, r, hr, h⟩
  · omega
  · have hc := runs_never hr
    rw [List.drop_zero] at hc
    rcases h with ⟨a, rfl, rfl⟩ | ⟨st, rfl, h⟩
    · exact .inl ⟨a, hc, rfl⟩
    · obtain ⟨new, hx, hy⟩ := hc
      have hg : Good (bts text) ⟨0, [], []⟩ := ⟨Nat.zero_le _, Nat.le_refl _, Nat.le_refl _⟩
      have hgd := runs_good hr hg st rfl
      have hl : st.ts.length ≤ 20000 := by have h1 := hgd.1; have h2 := hgd.2.1; rw [bts_length] at h1; omega
      rcases h with ⟨h, _⟩ | ⟨_, rfl⟩
      · omega
      · obtain ⟨cs, h1, h2⟩ := runs_S hr hg st rfl
        refine .inr ⟨new, hx, ?_⟩
        have h1 : st.cs = cs := h1
        rw [h1, h2]
        simp
end Go.Proofs.YtkghbecfjeldcaaDoor
