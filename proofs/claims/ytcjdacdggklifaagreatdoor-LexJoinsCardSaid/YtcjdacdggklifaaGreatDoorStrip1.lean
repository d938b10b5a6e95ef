/- Strip: the rows. -/
import Derived.Test.YtcjdacdggklifaaGreatDoorSane2
import Derived.Laws.IdiomStrings
namespace Go.Proofs.YtcjdacdggklifaaGreatDoor
open Go.RowKit

/-- Blanks in the place of the bytes from a on, ahead of b, but for the ends of lines. -/
def blot1 (a b : Nat) (l : Lx.Bs) : Lx.Bs := l.mapIdx fun i c => if a ≤ i ∧ i < b ∧ c ≠ 10 then 32 else c
def blot (cs : List (Nat × Nat)) (l : Lx.Bs) : Lx.Bs := cs.foldl (fun l c => blot1 c.1 c.2 l) l
theorem blot1_len (a b : Nat) (l : Lx.Bs) : (blot1 a b l).length = l.length := by simp [blot1]
theorem blot_len (cs : List (Nat × Nat)) : ∀ l : Lx.Bs, (blot cs l).length = l.length := by
  induction cs with
  | nil => intro l; rfl
  | cons c cs ih => intro l; show (blot cs (blot1 c.1 c.2 l)).length = _; rw [ih, blot1_len]
theorem blot_take (cs : List (Nat × Nat)) (l : Lx.Bs) (k : Nat) (h : k < cs.length) : blot (cs.take (k + 1)) l = blot1 cs[k].1 cs[k].2 (blot (cs.take k) l) := by
  unfold blot; rw [List.take_succ_eq_append_getElem h, List.foldl_append]; rfl
theorem blot1_same (a : Nat) (l : Lx.Bs) : blot1 a a l = l := by
  apply List.ext_getElem
  · rw [blot1_len]
  · intro i h1 h2; simp only [blot1, List.getElem_mapIdx]; rw [if_neg (by omega)]
theorem blot1_at (a i : Nat) (l : Lx.Bs) (h : i < l.length) : (blot1 a i l)[i]'(by rw [blot1_len]; exact h) = l[i] := by
  simp only [blot1, List.getElem_mapIdx]; rw [if_neg (by omega)]
theorem blot1_keep (a i : Nat) (l : Lx.Bs) (h : i < l.length) (hc : l[i] = 10) : blot1 a (i + 1) l = blot1 a i l := by
  apply List.ext_getElem
  · simp [blot1_len]
  · intro j h1 h2
    simp only [blot1, List.getElem_mapIdx]
    by_cases hj : j = i
    · subst hj; rw [if_neg (fun h => h.2.2 hc), if_neg (by omega)]
    · by_cases h3 : a ≤ j ∧ j < i ∧ l[j]'(by rw [blot1_len] at h1; exact h1) ≠ 10
      · rw [if_pos ⟨h3.1, by omega, h3.2.2⟩, if_pos h3]
      · rw [if_neg (fun h => h3 ⟨h.1, by omega, h.2.2⟩), if_neg h3]
theorem blot1_set (a i : Nat) (l : Lx.Bs) (h : i < l.length) (ha : a ≤ i) (hc : l[i] ≠ 10) : blot1 a (i + 1) l = (blot1 a i l).set i 32 := by
  apply List.ext_getElem
  · simp [blot1_len]
  · intro j h1 h2
    by_cases hj : j = i
    · subst hj
      rw [List.getElem_set_self]
      simp only [blot1, List.getElem_mapIdx]
      rw [if_pos ⟨ha, by omega, hc⟩]
    · rw [List.getElem_set_ne (fun e => hj e.symm)]
      simp only [blot1, List.getElem_mapIdx]
      by_cases h3 : a ≤ j ∧ j < i ∧ l[j]'(by rw [blot1_len] at h1; exact h1) ≠ 10
      · rw [if_pos ⟨h3.1, by omega, h3.2.2⟩, if_pos h3]
      · rw [if_neg (fun h => h3 ⟨h.1, by omega, h.2.2⟩), if_neg h3]

/-- A row of bytes in block q. -/
def RowB (w : World) (q : Nat) (l : Lx.Bs) : Prop := ∃ xs fz, w.heap[q]? = some (.cells xs 5 fz) ∧ l.length ≤ fz.1 ∧ ∀ i (h : i < l.length), xs[i]? = some (.int .u8 (l[i].toNat : Int))
theorem RowB.cell {w : World} {q : Nat} {l : Lx.Bs} (h : RowB w q l) (i : Nat) (hi : i < l.length) : w.cell? ⟨q, i, none⟩ = some (.int .u8 (l[i].toNat : Int)) := by
  obtain ⟨xs, fz, hq, _, hx⟩ := h
  simp only [World.cell?, hq]; exact hx i hi
theorem RowB.free {w : World} {q : Nat} {l : Lx.Bs} (h : RowB w q l) (i : Nat) (hi : i < l.length) : w.frozen? ⟨q, i, none⟩ = false := by
  obtain ⟨xs, ⟨lo, hi2⟩, hq, hf, hx⟩ := h
  simp only [World.frozen?, hq]; simp at hf ⊢; intro h; omega
theorem RowB.lt {w : World} {q : Nat} {l : Lx.Bs} (h : RowB w q l) : q < w.heap.size := by
  obtain ⟨xs, fz, hg, _⟩ := h; exact (Array.getElem?_eq_some_iff.1 hg).1
theorem RowB.kept {w w' : World} {q : Nat} {l : Lx.Bs} (h : RowB w q l) (e : w'.heap[q]? = w.heap[q]?) : RowB w' q l := by
  obtain ⟨xs, fz, hg, hx⟩ := h; exact ⟨xs, fz, e.trans hg, hx⟩
theorem RowB.set {w : World} {q : Nat} {l : Lx.Bs} (h : RowB w q l) (i : Nat) (c : UInt8) (_hi : i < l.length) : RowB (w.setCell ⟨q, i, none⟩ (.int .u8 (c.toNat : Int))) q (l.set i c) := by
  obtain ⟨xs, fz, hq, hf, hx⟩ := h
  refine ⟨xs.setIfInBounds i (.int .u8 (c.toNat : Int)), fz, ?_, by simpa using hf, fun j hj => ?_⟩
  · simp [World.setCell, Array.getElem?_modify, hq]
  · rw [List.length_set] at hj
    rw [Array.getElem?_setIfInBounds, List.getElem_set]
    by_cases e : i = j
    · subst e
      have : i < xs.size := (Array.getElem?_eq_some_iff.1 (hx i hj)).1
      rw [if_pos rfl, if_pos this, if_pos rfl]
    · rw [if_neg e, if_neg e]; exact hx j hj
theorem setCell_grown (w : World) (q i : Nat) (v : Value) : w.grownBy (w.setCell ⟨q, i, none⟩ v) (some q) :=
  ⟨rfl, rfl, rfl, by simp [World.setCell], fun k _ hk => Below.heap_setCell _ _ _ _ (fun e => hk (by simp [e]))⟩

/-- A row of spans in block g. -/
def RowS (w : World) (g : Nat) (cs : List (Nat × Nat)) : Prop := ∃ xs t fz, w.heap[g]? = some (.cells xs t fz) ∧ ∀ j, j < cs.length * 2 → xs[j]? = (spanCs cs)[j]?
theorem spanCs_get (cs : List (Nat × Nat)) : ∀ (i : Nat) (h : i < cs.length) (j : Nat), j < 2 → (spanCs cs)[i * 2 + j]? = (spanC cs[i])[j]? := by
  induction cs with
  | nil => intro i h; cases h
  | cons r rs ih =>
    intro i h j hj
    cases i with
    | zero => simp only [spanCs, List.flatMap_cons, Nat.zero_mul, Nat.zero_add, List.getElem_cons_zero]; rw [List.getElem?_append_left (by simp [spanC]; omega)]
    | succ i =>
      have := ih i (by simpa using h) j hj
      simp only [spanCs, List.flatMap_cons, List.getElem_cons_succ] at this ⊢
      rw [List.getElem?_append_right (by simp [spanC]; omega), ← this]
      congr 1; simp [spanC]; omega
theorem RowS.cell {w : World} {g : Nat} {cs : List (Nat × Nat)} (h : RowS w g cs) (i : Nat) (hi : i < cs.length) (j : Nat) (hj : j < 2) : w.cell? ⟨g, i * 2 + j, none⟩ = (spanC cs[i])[j]? := by
  obtain ⟨xs, t, fz, hg, hx⟩ := h
  rw [← spanCs_get cs i hi j hj, ← hx (i * 2 + j) (by omega)]
  simp [World.cell?, hg]
theorem RowS.lt {w : World} {g : Nat} {cs : List (Nat × Nat)} (h : RowS w g cs) : g < w.heap.size := by
  obtain ⟨xs, t, fz, hg, _⟩ := h; exact (Array.getElem?_eq_some_iff.1 hg).1
theorem RowS.kept {w w' : World} {g : Nat} {cs : List (Nat × Nat)} (h : RowS w g cs) (e : w'.heap[g]? = w.heap[g]?) : RowS w' g cs := by
  obtain ⟨xs, t, fz, hg, hx⟩ := h; exact ⟨xs, t, fz, e.trans hg, hx⟩
theorem rowS_owned {w : World} {B cap : Nat} {cs : List (Nat × Nat)} {a : Option Addr} (h : w.ownsRow B 81 2 (.slice a cs.length cap) cs.length (spanCs cs)) (hn : cs.length ≠ 0) :
    ∃ g, a = some ⟨g, 0, none⟩ ∧ RowS w g cs ∧ B ≤ g := by
  rcases h.2 with ⟨_, h0⟩ | ⟨g, cap', cur, hv, hgB, hcur, hnc, hcm, hcsz, htk⟩
  · exact absurd h0 hn
  · simp only [Value.slice.injEq] at hv
    refine ⟨g, hv.1, ⟨cur, _, _, hcur, fun j hj => ?_⟩, hgB⟩
    rw [← Array.getElem?_toList, ← htk, List.getElem?_take, if_pos hj]

/-- The comments lie in the text. -/
theorem next_coms {b : Lx.Bs} {st st' : St} (h : nextSt b st = some st') (hl : st.at_ ≤ b.length) (hc : ∀ c ∈ st.cs, c.1 ≤ c.2 ∧ c.2 ≤ b.length) : ∀ c ∈ st'.cs, c.1 ≤ c.2 ∧ c.2 ≤ b.length := by
  have tk : ∀ x, stTok st x = some st' → st'.cs = st.cs := by
    intro x hx
    cases x with
    | bad => cases hx
    | fill n => cases hx
    | tok k n s len => simp only [stTok, Option.some.injEq] at hx; subst hx; rfl
  unfold nextSt at h
  cases hk : Lx.kd (b.drop st.at_) with
  | blank => rw [hk] at h; simp only [Option.some.injEq] at h; subst h; exact hc
  | comm =>
    rw [hk] at h; simp only at h
    cases hm : Lx.comm 0 (b.drop st.at_) with
    | none => rw [hm] at h; cases h
    | some n =>
      rw [hm] at h; simp only [Option.map_some, Option.some.injEq] at h
      subst h
      have := Lx.comm_pos 0 _ _ hm
      rw [List.length_drop] at this
      intro c hcm
      rcases List.mem_append.1 hcm with h1 | h1
      · exact hc c h1
      · simp only [List.mem_singleton] at h1; subst h1; exact ⟨by simp, by simp; omega⟩
  | letter => rw [hk] at h; rw [tk _ h]; exact hc
  | digit => rw [hk] at h; rw [tk _ h]; exact hc
  | symb => rw [hk] at h; rw [tk _ h]; exact hc
  | other => rw [hk] at h; rw [tk _ h]; exact hc
theorem runs_coms {b : Lx.Bs} {st : St} {r : Sum Nat St} (h : Runs b dNever st r) : Good b st → (∀ c ∈ st.cs, c.1 ≤ c.2 ∧ c.2 ≤ b.length) → ∀ s, r = .inr s → ∀ c ∈ s.cs, c.1 ≤ c.2 ∧ c.2 ≤ b.length := by
  induction h with
  | over st h => intro _ hc s e; cases e; exact hc
  | done st h hd => cases hd
  | bad st h hd hn => intro _ _ s e; cases e
  | step st st' r h hd hn hr ih => intro hg hc s e; exact ih (next_good hg h hn).1 (next_coms hn hg.1 hc) s e
theorem runs_good {b : Lx.Bs} {st : St} {r : Sum Nat St} (h : Runs b dNever st r) : Good b st → ∀ s, r = .inr s → Good b s := by
  induction h with
  | over st h => intro hg s e; cases e; exact hg
  | done st h hd => cases hd
  | bad st h hd hn => intro _ s e; cases e
  | step st st' r h hd hn hr ih => intro hg s e; exact ih (next_good hg h hn).1 s e
end Go.Proofs.YtcjdacdggklifaaGreatDoor
