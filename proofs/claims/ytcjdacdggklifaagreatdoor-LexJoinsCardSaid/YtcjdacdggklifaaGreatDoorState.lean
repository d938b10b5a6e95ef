/- The scanner's state in memory. -/
import Derived.Test.YtcjdacdggklifaaGreatDoorNew
import Derived.Deep.RegionHeld3
import Derived.Deep.AppendLies
import Derived.Deep.QuietTactic
import Derived.BigQuiet
import Derived.Deep.DeepMust
namespace Go.Proofs.YtcjdacdggklifaaGreatDoor
open Go.RowKit

structure St where
  at_ : Nat
  ts : List Lx.Tok
  cs : List (Nat × Nat)

def tokC (t : Lx.Tok) : List Value := [.int .i64 t.k, .int .i64 t.n, .string (ofB t.s), .int .i64 t.at_, .int .i64 t.fin]
def tokCs (ts : List Lx.Tok) : List Value := ts.flatMap tokC
def spanC (c : Nat × Nat) : List Value := [.int .i64 c.1, .int .i64 c.2]
def spanCs (cs : List (Nat × Nat)) : List Value := cs.flatMap spanC
theorem tokCs_snoc (ts : List Lx.Tok) (t : Lx.Tok) : tokCs (ts ++ [t]) = tokCs ts ++ tokC t := by simp [tokCs]
theorem spanCs_snoc (cs : List (Nat × Nat)) (c : Nat × Nat) : spanCs (cs ++ [c]) = spanCs cs ++ spanC c := by simp [spanCs]

/-- A scanner at block p, its lists and maps, in world w. -/
structure Sc (B p sg fm sm : Nat) (text : ByteArray) (st : St) (tv cv : Value) (w : World) : Prop where
  self : w.heap[p]? = some (.cells (scn text st.at_ tv cv sg fm sm) 79)
  signs : w.heap[sg]? = some (.cells (strs Lx.signs) 9)
  fixed : StrMap w fm (fs 24)
  steps : w.heap[sm]? = some (.map stepsE 7)
  toks : w.ownsRow B 35 5 tv st.ts.length (tokCs st.ts)
  coms : w.ownsRow B 81 2 cv st.cs.length (spanCs st.cs)
  pB : p < B
  sgB : sg < B
  fmB : fm < B
  smB : sm < B
  BW : B ≤ w.heap.size
  ne : p ≠ sg ∧ p ≠ fm ∧ p ≠ sm
  apart : tv.ownBlock = none ∨ tv.ownBlock ≠ cv.ownBlock

/-- What may have turned between two worlds of a scanner. -/
structure Moved (p : Nat) (tv cv : Value) (w : World) (tv' cv' : Value) (w' : World) : Prop where
  os : w'.os = w.os
  tape : w'.tape = w.tape
  output : w'.output = w.output
  size : w.heap.size ≤ w'.heap.size
  block : ∀ k, k < w.heap.size → k ≠ p → some k ≠ tv.ownBlock → some k ≠ cv.ownBlock → w'.heap[k]? = w.heap[k]?
  tvR : tv'.ownBlock = tv.ownBlock ∨ ∀ k, tv'.ownBlock = some k → w.heap.size ≤ k
  cvR : cv'.ownBlock = cv.ownBlock ∨ ∀ k, cv'.ownBlock = some k → w.heap.size ≤ k

theorem Moved.refl (p : Nat) (tv cv : Value) (w : World) : Moved p tv cv w tv cv w := ⟨rfl, rfl, rfl, Nat.le_refl _, fun _ _ _ _ _ => rfl, .inl rfl, .inl rfl⟩
theorem Moved.trans {p : Nat} {tv cv tv1 cv1 tv2 cv2 : Value} {w w1 w2 : World} (h : Moved p tv cv w tv1 cv1 w1) (k : Moved p tv1 cv1 w1 tv2 cv2 w2) : Moved p tv cv w tv2 cv2 w2 := by
  refine ⟨k.os.trans h.os, k.tape.trans h.tape, k.output.trans h.output, Nat.le_trans h.size k.size, fun i hi hp ht hc => ?_, ?_, ?_⟩
  · refine (k.block i (Nat.lt_of_lt_of_le hi h.size) hp ?_ ?_).trans (h.block i hi hp ht hc)
    · rcases h.tvR with e | e
      · rw [e]; exact ht
      · intro e'; have := e i e'.symm; omega
    · rcases h.cvR with e | e
      · rw [e]; exact hc
      · intro e'; have := e i e'.symm; omega
  · rcases k.tvR with e | e
    · rw [e]; exact h.tvR
    · exact .inr fun i hi => Nat.le_trans h.size (e i hi)
  · rcases k.cvR with e | e
    · rw [e]; exact h.cvR
    · exact .inr fun i hi => Nat.le_trans h.size (e i hi)

section
variable {B p sg fm sm : Nat} {text : ByteArray} {st : St} {tv cv : Value} {w : World}
theorem cells_of {xs : Array Value} {t : TypeId} {b : Nat} (h : w.heap[b]? = some (.cells xs t)) (k : Nat) : w.cell? ⟨b, k, none⟩ = xs[k]? ∧ w.frozen? ⟨b, k, none⟩ = false := by
  constructor
  · simp [World.cell?, h]
  · simp [World.frozen?, h]
theorem Sc.c0 (h : Sc B p sg fm sm text st tv cv w) : w.cell? ⟨p, 0, none⟩ = some (.string text) := by rw [(cells_of h.self 0).1]; rfl
theorem Sc.c1 (h : Sc B p sg fm sm text st tv cv w) : w.cell? ⟨p, 1, none⟩ = some (.int .i64 st.at_) := by rw [(cells_of h.self 1).1]; rfl
theorem Sc.c2 (h : Sc B p sg fm sm text st tv cv w) : w.cell? ⟨p, 2, none⟩ = some tv := by rw [(cells_of h.self 2).1]; rfl
theorem Sc.c3 (h : Sc B p sg fm sm text st tv cv w) : w.cell? ⟨p, 3, none⟩ = some cv := by rw [(cells_of h.self 3).1]; rfl
theorem Sc.c4 (h : Sc B p sg fm sm text st tv cv w) : w.cell? ⟨p, 4, none⟩ = some (.slice (some ⟨sg, 0, none⟩) 24 24) := by rw [(cells_of h.self 4).1]; rfl
theorem Sc.c5 (h : Sc B p sg fm sm text st tv cv w) : w.cell? ⟨p, 5, none⟩ = some (.map (some fm)) := by rw [(cells_of h.self 5).1]; rfl
theorem Sc.c6 (h : Sc B p sg fm sm text st tv cv w) : w.cell? ⟨p, 6, none⟩ = some (.map (some sm)) := by rw [(cells_of h.self 6).1]; rfl
theorem Sc.fz (h : Sc B p sg fm sm text st tv cv w) (k : Nat) : w.frozen? ⟨p, k, none⟩ = false := (cells_of h.self k).2
theorem Sc.pw (h : Sc B p sg fm sm text st tv cv w) : p < w.heap.size := Nat.lt_of_lt_of_le h.pB h.BW

theorem owns_of_block {w w' : World} {base : Nat} {e : TypeId} {size : Nat} {v : Value} {n : Nat} {xs : List Value} (h : w.ownsRow base e size v n xs)
    (hb : ∀ g, v.ownBlock = some g → w'.heap[g]? = w.heap[g]?) : w'.ownsRow base e size v n xs := by
  refine ⟨h.1, ?_⟩
  rcases h.2 with h2 | ⟨g, cap, cur, rfl, hg, hh, r⟩
  · exact .inl h2
  · exact .inr ⟨g, cap, cur, rfl, hg, (hb g rfl).trans hh, r⟩
theorem owns_ge {w : World} {base : Nat} {e : TypeId} {size : Nat} {v : Value} {n : Nat} {xs : List Value} (h : w.ownsRow base e size v n xs) (g : Nat) (hg : v.ownBlock = some g) : base ≤ g ∧ g < w.heap.size :=
  h.lt g hg

theorem setCell_at (w : World) (a : Addr) (u : Value) (xs : Array Value) (t : TypeId) (h : w.heap[a.block]? = some (.cells xs t)) (ha : a.spot = none) :
    (w.setCell a u).heap[a.block]? = some (.cells (xs.setIfInBounds a.off u) t) := by
  simp [World.setCell, Array.getElem?_modify, h, ha]

/-- The place is moved on. -/
theorem Sc.moveTo (h : Sc B p sg fm sm text st tv cv w) (k : Nat) : Sc B p sg fm sm text { st with at_ := k } tv cv (w.setCell ⟨p, 1, none⟩ (.int .i64 k)) ∧ Moved p tv cv w tv cv (w.setCell ⟨p, 1, none⟩ (.int .i64 k)) := by
  have hn := h.ne
  have hb : ∀ b, b ≠ p → (w.setCell ⟨p, 1, none⟩ (.int .i64 k)).heap[b]? = w.heap[b]? := fun b hb => Below.heap_setCell _ _ _ _ hb
  have hs : (w.setCell ⟨p, 1, none⟩ (.int .i64 k)).heap.size = w.heap.size := by simp [World.setCell]
  refine ⟨⟨?_, ?_, ?_, ?_, ?_, ?_, h.pB, h.sgB, h.fmB, h.smB, by rw [hs]; exact h.BW, h.ne, h.apart⟩, ⟨rfl, rfl, rfl, by rw [hs]; exact Nat.le_refl _, fun i _ hi _ _ => hb i hi, .inl rfl, .inl rfl⟩⟩
  · exact setCell_at w ⟨p, 1, none⟩ _ _ _ h.self rfl
  · rw [hb sg (Ne.symm hn.1)]; exact h.signs
  · exact h.fixed.of_block (hb fm (Ne.symm hn.2.1))
  · rw [hb sm (Ne.symm hn.2.2)]; exact h.steps
  · exact owns_of_block h.toks fun g hg => hb g (by have := owns_ge h.toks g hg; have := h.pB; omega)
  · exact owns_of_block h.coms fun g hg => hb g (by have := owns_ge h.coms g hg; have := h.pB; omega)

/-- A draw turns nothing. -/
theorem Sc.drew (h : Sc B p sg fm sm text st tv cv w) : Sc B p sg fm sm text st tv cv w.drew := ⟨h.self, h.signs, h.fixed, h.steps, h.toks, h.coms, h.pB, h.sgB, h.fmB, h.smB, h.BW, h.ne, h.apart⟩
theorem Sc.drewN (h : Sc B p sg fm sm text st tv cv w) (n : Nat) : Sc B p sg fm sm text st tv cv (w.drewN n) := ⟨h.self, h.signs, h.fixed, h.steps, h.toks, h.coms, h.pB, h.sgB, h.fmB, h.smB, h.BW, h.ne, h.apart⟩
theorem Moved.drewN (n : Nat) : Moved p tv cv w tv cv (w.drewN n) := ⟨rfl, rfl, rfl, Nat.le_refl _, fun _ _ _ _ _ => rfl, .inl rfl, .inl rfl⟩
end
end Go.Proofs.YtcjdacdggklifaaGreatDoor
