/- Edits: what the cutting of the changed text comes to. -/
import Derived.Test.YtkghbecfjeldcaaDoorToks
import Derived.Test.YtkghbecfjeldcaaDoorChg1
namespace Go.Proofs.YtkghbecfjeldcaaDoor
open Go.RowKit

theorem cnt_split (q : Nat → Bool) : ∀ (n : Nat), (∀ a b, a ≤ b → b < n → q a = true → q b = true) →
    (List.range n).countP (fun i => !q i) ≤ n ∧ (∀ i, i < (List.range n).countP (fun i => !q i) → q i = false) ∧ (∀ i, (List.range n).countP (fun i => !q i) ≤ i → i < n → q i = true)
  | 0, _ => ⟨by simp, fun i h => by simp at h, fun i _ h => by omega⟩
  | n + 1, hm => by
    obtain ⟨h1, h2, h3⟩ := cnt_split q n fun a b hab hb => hm a b hab (by omega)
    rw [List.range_succ, List.countP_append]
    cases hq : q n with
    | true =>
      simp only [List.countP_cons, List.countP_nil, hq, Bool.not_true, Bool.false_eq_true, if_false, Nat.add_zero]
      refine ⟨by omega, h2, fun i hi hi2 => ?_⟩
      by_cases e : i = n
      · rw [e]; exact hq
      · exact h3 i hi (by omega)
    | false =>
      have hall : ∀ i, i < n → q i = false := fun i hi => by
        cases h : q i with
        | false => rfl
        | true => have := hm i n (by omega) (by omega) h; rw [hq] at this; cases this
      have hk : (List.range n).countP (fun i => !q i) = n := by
        refine Nat.le_antisymm h1 (Nat.le_of_not_lt fun hlt => ?_)
        have := h3 _ (Nat.le_refl _) hlt
        rw [hall _ hlt] at this; cases this
      rw [hk]
      simp only [List.countP_cons, List.countP_nil, hq, Bool.not_false, if_true, Nat.zero_add]
      refine ⟨Nat.le_refl _, fun i hi => ?_, fun i hi hi2 => by omega⟩
      by_cases e : i = n
      · rw [e]; exact hq
      · exact hall i (by omega)

def tok0 : Lx.Tok := ⟨0, 0, [], 0, 0⟩
/-- How many tokens end ahead of a byte; how many begin ahead of one. -/
def endsQ (old : List Lx.Tok) (p : Nat) (i : Nat) : Bool := decide (p ≤ (old.getD i tok0).fin)
def begsQ (old : List Lx.Tok) (y : Nat) (i : Nat) : Bool := decide (y ≤ (old.getD i tok0).at_)
def keptN (old : List Lx.Tok) (p : Nat) : Nat := (List.range old.length).countP (fun i => !endsQ old p i)
def nextN (old : List Lx.Tok) (y : Nat) : Nat := (List.range old.length).countP (fun i => !begsQ old y i)
theorem getD_lt (old : List Lx.Tok) (i : Nat) (h : i < old.length) : old.getD i tok0 = old[i] := by rw [List.getD_eq_getElem?_getD, List.getElem?_eq_getElem h]; rfl
theorem ends_mono {l : Lx.Bs} {old : List Lx.Tok} (hc : Lx.Chain l 0 old) (p : Nat) : ∀ a b, a ≤ b → b < old.length → endsQ old p a = true → endsQ old p b = true := by
  intro a b hab hb h
  unfold endsQ at *
  rw [getD_lt old a (by omega)] at h
  rw [getD_lt old b hb]
  simp only [decide_eq_true_eq] at *
  by_cases e : a = b
  · subst e; exact h
  · have := (Lx.chain_ends old l 0 hc a b (by omega) hb).1; omega
theorem begs_mono {l : Lx.Bs} {old : List Lx.Tok} (hc : Lx.Chain l 0 old) (y : Nat) : ∀ a b, a ≤ b → b < old.length → begsQ old y a = true → begsQ old y b = true := by
  intro a b hab hb h
  unfold begsQ at *
  rw [getD_lt old a (by omega)] at h
  rw [getD_lt old b hb]
  simp only [decide_eq_true_eq] at *
  by_cases e : a = b
  · subst e; exact h
  · have h1 := (Lx.chain_ends old l 0 hc a b (by omega) hb).2
    have h2 := (Lx.chain_tok old l 0 hc a (by omega)).2.1
    omega

/-- A token behind the edit, moved on. -/
def movedT (c s : Nat) (t : Lx.Tok) : Lx.Tok := { t with at_ := t.at_ + s - c, fin := t.fin + s - c }
/-- What 'resume' does with a state. -/
def dRes (n : Nat) (old : List Lx.Tok) (p c s : Nat) (st : St) : Bool × St :=
  if st.at_ < p + s then (false, st) else
  if nextN old (st.at_ + c - s) = old.length ∨ (old.getD (nextN old (st.at_ + c - s)) tok0).at_ ≠ st.at_ + c - s then (false, st) else
  (true, ⟨n, st.ts ++ (old.drop (nextN old (st.at_ + c - s))).map (movedT c s), st.cs⟩)
theorem dRes_same (n : Nat) (old : List Lx.Tok) (p c s : Nat) (st : St) (h : (dRes n old p c s st).1 = false) : (dRes n old p c s st).2 = st := by
  unfold dRes at *
  split
  · rfl
  · rename_i h1
    rw [if_neg h1] at h
    split
    · rfl
    · rename_i h2
      rw [if_neg h2] at h; cases h

/-- The changed text. -/
def edited (a : Lx.Bs) (p c : Nat) (S : Lx.Bs) : Lx.Bs := a.take p ++ S ++ a.drop (p + c)
theorem edited_drop (a : Lx.Bs) (p c : Nat) (S : Lx.Bs) (hp : p + c ≤ a.length) (x : Nat) (hx : p + S.length ≤ x) : (edited a p c S).drop x = a.drop (x + c - S.length) := by
  unfold edited
  have hl : (a.take p ++ S).length = p + S.length := by simp; omega
  rw [show x = (a.take p ++ S).length + (x - (p + S.length)) from by omega, ← List.drop_drop, List.drop_left, List.drop_drop]
  congr 1; omega
theorem edited_take (a : Lx.Bs) (p c : Nat) (S : Lx.Bs) (hp : p + c ≤ a.length) (x : Nat) (hx : x ≤ p) : (edited a p c S).take x = a.take x := by
  unfold edited
  rw [List.append_assoc, List.take_append_of_le_length (by simp; omega), List.take_take]
  congr 1; omega
theorem edited_len (a : Lx.Bs) (p c : Nat) (S : Lx.Bs) (hp : p + c ≤ a.length) : (edited a p c S).length = a.length + S.length - c := by
  unfold edited; simp; omega

theorem dRes_true {a : Lx.Bs} {old : List Lx.Tok} (hT : Lx.T a 0 = .good old) (p c : Nat) (S : Lx.Bs) (hp : p + c ≤ a.length) (n : Nat) (st : St) (h : (dRes n old p c S.length st).1 = true) :
    ∃ new, Lx.T ((edited a p c S).drop st.at_) st.at_ = .good new ∧ (dRes n old p c S.length st).2.ts = st.ts ++ new := by
  have hc := Lx.chain _ _ _ hT
  unfold dRes at *
  by_cases h1 : st.at_ < p + S.length
  · rw [if_pos h1] at h; cases h
  · rw [if_neg h1] at h ⊢
    generalize hy : st.at_ + c - S.length = y at *
    generalize hN : nextN old y = N at *
    by_cases h2 : N = old.length ∨ (old.getD N tok0).at_ ≠ y
    · rw [if_pos h2] at h; cases h
    · rw [if_neg h2] at h ⊢
      have hN2 : N < old.length := by
        have := (cnt_split (begsQ old y) old.length (begs_mono hc y)).1
        have h3 : nextN old y ≤ old.length := this
        omega
      have hat : (old[N]).at_ = y := by
        have : ¬ (old.getD N tok0).at_ ≠ y := fun e => h2 (.inr e)
        rw [getD_lt old N hN2] at this; omega
      have hTa := Lx.T_at old a 0 hc hT N hN2
      rw [hat, Nat.sub_zero] at hTa
      obtain ⟨u, hu, hz⟩ := Lx.T_shift hTa st.at_
      refine ⟨u.map (Lx.Tok.up st.at_), ?_, ?_⟩
      · rw [edited_drop a p c S hp st.at_ (by omega), hy]; exact hz
      · show st.ts ++ (old.drop N).map (movedT c S.length) = _
        rw [hu, List.map_map]
        congr 1
        refine List.map_congr_left fun t _ => ?_
        simp only [Function.comp, movedT, Lx.Tok.up, Lx.Tok.mk.injEq, true_and]
        omega

theorem runs_done {b : Lx.Bs} {D : St → Bool × St} (hD : ∀ st, (D st).1 = true → ∃ new, Lx.T (b.drop st.at_) st.at_ = .good new ∧ (D st).2.ts = st.ts ++ new) {st : St} {r : Sum Nat St} (h : Runs b D st r) :
    Comes st.ts (Lx.T (b.drop st.at_) st.at_) r := by
  induction h with
  | over st h => exact ⟨[], by rw [List.drop_eq_nil_of_le h, Lx.T_nil], by simp⟩
  | done st h hd => exact hD st hd
  | bad st h hd hn => exact (next_none h hn).1
  | step st st' r h hd hn hr ih =>
    obtain ⟨new, h1, _, h2, _⟩ := next_some hn
    cases r with
    | inl a => show _ = _; rw [h2, Lx.Res.pre_bad]; exact ih
    | inr s =>
      obtain ⟨new', h3, h4⟩ := ih
      exact ⟨new ++ new', by rw [h2, h3]; rfl, by rw [h4, h1, List.append_assoc]⟩

/-- The state from which the changed text is cut. -/
def stKept (old : List Lx.Tok) (p : Nat) : St := ⟨Lx.endOf 0 (old.take (keptN old p)), old.take (keptN old p), []⟩
theorem kept_facts {a : Lx.Bs} {old : List Lx.Tok} (hT : Lx.T a 0 = .good old) (p c : Nat) (S : Lx.Bs) (hp : p + c ≤ a.length) :
    keptN old p ≤ old.length ∧ Good (edited a p c S) (stKept old p) ∧
    Lx.T (edited a p c S) 0 = (Lx.T ((edited a p c S).drop (stKept old p).at_) (stKept old p).at_).pre (stKept old p).ts := by
  have hc := Lx.chain _ _ _ hT
  obtain ⟨h1, h2, h3⟩ := cnt_split (endsQ old p) old.length (ends_mono hc p)
  have h1 : keptN old p ≤ old.length := h1
  have h2 : ∀ i, i < keptN old p → endsQ old p i = false := h2
  have hE : keptN old p ≠ 0 → Lx.endOf 0 (old.take (keptN old p)) < p := fun hne => by
    obtain ⟨m, hm⟩ : ∃ m, keptN old p = m + 1 := ⟨keptN old p - 1, by omega⟩
    have hml : m < old.length := by omega
    have := h2 m (by omega)
    unfold endsQ at this
    rw [getD_lt old m hml] at this
    rw [hm, Lx.endOf_take 0 old m hml]
    simpa using this
  have hcnt := Lx.chain_count (old.take (keptN old p)) (old.drop (keptN old p)) a 0 (by rw [List.take_append_drop]; exact hc)
  have hel := edited_len a p c S hp
  refine ⟨h1, ⟨?_, ?_, Nat.zero_le _⟩, ?_⟩
  · show Lx.endOf 0 (old.take (keptN old p)) ≤ _
    by_cases h0 : keptN old p = 0
    · rw [h0]; simp [Lx.endOf]
    · have := hE h0; omega
  · show (old.take (keptN old p)).length ≤ Lx.endOf 0 (old.take (keptN old p))
    omega
  · have := Lx.T_keep (old.take (keptN old p)) (old.drop (keptN old p)) a (edited a p c S) 0 (by rw [List.take_append_drop]; exact hc) (fun hne => by
      have h0 : keptN old p ≠ 0 := fun e => hne (by rw [e]; rfl)
      have := hE h0
      rw [edited_take a p c S hp _ (by omega)])
    rw [Nat.sub_zero] at this
    exact this
theorem changed_comes {a : Lx.Bs} {old : List Lx.Tok} (hT : Lx.T a 0 = .good old) (p c : Nat) (S : Lx.Bs) (hp : p + c ≤ a.length) (n : Nat) {r : Sum Nat St} (h : Runs (edited a p c S) (dRes n old p c S.length) (stKept old p) r) :
    Comes [] (Lx.T (edited a p c S) 0) r := by
  have hk := (kept_facts hT p c S hp).2.2
  have hr := runs_done (fun st hd => dRes_true hT p c S hp n st hd) h
  rw [hk]
  cases r with
  | inl x => show _ = _; rw [Lx.Res.pre_bad]; exact hr
  | inr s =>
    obtain ⟨new, h3, h4⟩ := hr
    exact ⟨(stKept old p).ts ++ new, by rw [h3]; rfl, by rw [h4]; rfl⟩
end Go.Proofs.YtkghbecfjeldcaaDoor
