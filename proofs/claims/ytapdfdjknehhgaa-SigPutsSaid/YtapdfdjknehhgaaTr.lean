/- Trees in memory. -/
import Derived.Test.YtapdfdjknehhgaaProg
import Derived.Test.YtapdfdjknehhgaaTx
import Derived.WalkKit
import Derived.WalkLawsBesides
import Derived.WalkSmall
import Derived.Lib.Hide
import Derived.Deep.LoopGhost
import Derived.Deep.DeepFit
namespace Go.Proofs.Ytapdfdjknehhgaa
open Go.RowKit Go.Tr

theorem ret_bool {a b : Bool} (h : a = b) : Ending.returned (.bool a) = .returned (.bool b) := by rw [h]
theorem ret_i64 {a b : Int} (h : a = b) : Ending.returned (.int .i64 a) = .returned (.int .i64 b) := by rw [h]

def inI (n : Int) : Prop := -9223372036854775808 ≤ n ∧ n ≤ 9223372036854775807
mutual
/-- The value reads as the tree; all blocks that are read have the property P. -/
def TrV (w : World) (P : Nat → Prop) : Tm → Value → Prop
  | .node k n l, v => ∃ oa cap b o, v = .agg #[.int .i64 k, .int .i64 n, .slice oa l.length cap] ∧ inI k ∧ inI n ∧ l.length ≤ cap ∧ cap ≤ 9223372036854775807 ∧ (l ≠ [] → oa = some ⟨b, o, none⟩ ∧ P b) ∧ TrC w P b l o
def TrC (w : World) (P : Nat → Prop) (b : Nat) : List Tm → Nat → Prop
  | [], _ => True
  | t :: r, o => (∃ k n s, w.cell? ⟨b, o, none⟩ = some k ∧ w.cell? ⟨b, o + 1, none⟩ = some n ∧ w.cell? ⟨b, o + 2, none⟩ = some s ∧ TrV w P t (.agg #[k, n, s])) ∧ TrC w P b r (o + 3)
end
/-- The slice reads as the list of trees. -/
def TrS (w : World) (P : Nat → Prop) (l : List Tm) (s : Value) : Prop :=
  ∃ oa cap b o, s = .slice oa l.length cap ∧ l.length ≤ cap ∧ cap ≤ 9223372036854775807 ∧ (l ≠ [] → oa = some ⟨b, o, none⟩ ∧ P b) ∧ TrC w P b l o
theorem trV_iff {w : World} {P : Nat → Prop} {t : Tm} {v : Value} : TrV w P t v ↔ ∃ s, v = .agg #[.int .i64 t.k, .int .i64 t.n, s] ∧ inI t.k ∧ inI t.n ∧ TrS w P t.l s := by
  obtain ⟨k, n, l⟩ := t
  simp only [TrV, TrS, Tm.k, Tm.n, Tm.l]
  constructor
  · rintro ⟨oa, cap, b, o, rfl, h1, h2, h3, h4, h5, h6⟩
    exact ⟨_, rfl, h1, h2, oa, cap, b, o, rfl, h3, h4, h5, h6⟩
  · rintro ⟨s, rfl, h1, h2, oa, cap, b, o, rfl, h3, h4, h5, h6⟩
    exact ⟨oa, cap, b, o, rfl, h1, h2, h3, h4, h5, h6⟩
theorem trC_iff {w : World} {P : Nat → Prop} {b : Nat} : ∀ {l : List Tm} {o : Nat}, TrC w P b l o ↔
    ∀ i (h : i < l.length), ∃ s, w.cell? ⟨b, o + i * 3, none⟩ = some (.int .i64 l[i].k) ∧ w.cell? ⟨b, o + i * 3 + 1, none⟩ = some (.int .i64 l[i].n) ∧ w.cell? ⟨b, o + i * 3 + 2, none⟩ = some s ∧ TrV w P l[i] (.agg #[.int .i64 l[i].k, .int .i64 l[i].n, s])
  | [], o => ⟨fun _ i h => absurd h (by simp), fun _ => by simp [TrC]⟩
  | t :: r, o => by
    simp only [TrC]
    rw [trC_iff (l := r)]
    constructor
    · rintro ⟨⟨k, n, s, c0, c1, c2, ht⟩, h⟩ i hi
      cases i with
      | zero =>
        have ht' := ht
        rw [trV_iff] at ht'
        obtain ⟨s', hs, -, -, -⟩ := ht'
        simp only [Value.agg.injEq, Array.mk.injEq, List.cons.injEq, and_true] at hs
        obtain ⟨rfl, rfl, rfl⟩ := hs
        exact ⟨s, by simpa using c0, by simpa using c1, by simpa using c2, ht⟩
      | succ i =>
        obtain ⟨s, a0, a1, a2, a3⟩ := h i (by simpa using hi)
        have e : o + (i + 1) * 3 = o + 3 + i * 3 := by omega
        rw [e]
        exact ⟨s, a0, a1, a2, a3⟩
    · intro h
      refine ⟨?_, fun i hi => ?_⟩
      · obtain ⟨s, a0, a1, a2, a3⟩ := h 0 (by simp)
        exact ⟨_, _, s, by simpa using a0, by simpa using a1, by simpa using a2, a3⟩
      · obtain ⟨s, a0, a1, a2, a3⟩ := h (i + 1) (by simpa using hi)
        have e : o + (i + 1) * 3 = o + 3 + i * 3 := by omega
        rw [e] at a0 a1 a2
        exact ⟨s, a0, a1, a2, a3⟩
theorem trV_mono {w w' : World} {P Q : Nat → Prop} (hPQ : ∀ b, P b → Q b) (hw : ∀ b, P b → w'.heap[b]? = w.heap[b]?) (t : Tm) : ∀ {v : Value}, TrV w P t v → TrV w' Q t v := by
  induction t using Tm.ind with
  | h k n l ih =>
    intro v h
    simp only [TrV] at h ⊢
    obtain ⟨oa, cap, b, o, rfl, h1, h2, h3, h4, h5, h6⟩ := h
    refine ⟨oa, cap, b, o, rfl, h1, h2, h3, h4, fun hl => ⟨(h5 hl).1, hPQ _ (h5 hl).2⟩, ?_⟩
    rw [trC_iff] at h6 ⊢
    intro i hi
    obtain ⟨s, a0, a1, a2, a3⟩ := h6 i hi
    have hb := hw b (h5 (by intro e; subst e; simp at hi)).2
    refine ⟨s, ?_, ?_, ?_, ih _ (List.getElem_mem hi) a3⟩
    · rw [World.cell?_of_block (w := w) hb]; exact a0
    · rw [World.cell?_of_block (w := w) hb]; exact a1
    · rw [World.cell?_of_block (w := w) hb]; exact a2
theorem trS_mono {w w' : World} {P Q : Nat → Prop} (hPQ : ∀ b, P b → Q b) (hw : ∀ b, P b → w'.heap[b]? = w.heap[b]?) {l : List Tm} {s : Value} (h : TrS w P l s) : TrS w' Q l s := by
  have h1 : TrV w P (.node 0 0 l) (.agg #[.int .i64 0, .int .i64 0, s]) := trV_iff.2 ⟨s, rfl, by unfold inI; simp [Tm.k], by unfold inI; simp [Tm.n], h⟩
  have h2 := trV_mono hPQ hw _ h1
  obtain ⟨s', e, -, -, h3⟩ := trV_iff.1 h2
  simp only [Value.agg.injEq, Array.mk.injEq, List.cons.injEq, and_true] at e
  rw [e.2.2]
  exact h3
theorem trV_below {B : Nat} {w w' : World} (hb : Below B w w') {t : Tm} {v : Value} (h : TrV w (· < B) t v) : TrV w' (· < B) t v := trV_mono (fun _ h => h) (fun b h => hb.block b h) t h
theorem trS_below {B : Nat} {w w' : World} (hb : Below B w w') {l : List Tm} {s : Value} (h : TrS w (· < B) l s) : TrS w' (· < B) l s := trS_mono (fun _ h => h) (fun b h => hb.block b h) h
/-- An element's cells. -/
theorem trS_at {w : World} {P : Nat → Prop} {l : List Tm} {s : Value} (h : TrS w P l s) : ∃ oa cap b o, s = .slice oa l.length cap ∧ l.length ≤ cap ∧ cap ≤ 9223372036854775807 ∧ (0 < l.length → oa = some ⟨b, o, none⟩ ∧ P b) ∧
    ∀ i (h : i < l.length), ∃ oa' cap', w.cell? ⟨b, o + i * 3, none⟩ = some (.int .i64 l[i].k) ∧ w.cell? ⟨b, o + i * 3 + 1, none⟩ = some (.int .i64 l[i].n) ∧ w.cell? ⟨b, o + i * 3 + 2, none⟩ = some (.slice oa' l[i].l.length cap') ∧ TrV w P l[i] (.agg #[.int .i64 l[i].k, .int .i64 l[i].n, .slice oa' l[i].l.length cap']) := by
  obtain ⟨oa, cap, b, o, rfl, h1, h2, h3, h4⟩ := h
  refine ⟨oa, cap, b, o, rfl, h1, h2, fun hl => h3 (by intro e; subst e; simp at hl), fun i hi => ?_⟩
  obtain ⟨s, c0, c1, c2, ht⟩ := trC_iff.1 h4 i hi
  obtain ⟨s', e, -, -, oa', cap', b', o', rfl, -⟩ := trV_iff.1 ht
  simp only [Value.agg.injEq, Array.mk.injEq, List.cons.injEq, and_true] at e
  obtain ⟨-, -, rfl⟩ := e
  exact ⟨oa', cap', c0, c1, c2, ht⟩

/-- What has the property Q is as it was; the streams are as they were; no block has gone. -/
structure Kp (Q : Nat → Prop) (w w' : World) : Prop where
  os : w'.os = w.os
  tape : w'.tape = w.tape
  output : w'.output = w.output
  size : w.heap.size ≤ w'.heap.size
  block : ∀ k, Q k → w'.heap[k]? = w.heap[k]?
theorem Kp.refl (Q : Nat → Prop) (w : World) : Kp Q w w := ⟨rfl, rfl, rfl, Nat.le_refl _, fun _ _ => rfl⟩
theorem Kp.trans {Q : Nat → Prop} {a b c : World} (h : Kp Q a b) (k : Kp Q b c) : Kp Q a c :=
  ⟨k.os.trans h.os, k.tape.trans h.tape, k.output.trans h.output, Nat.le_trans h.size k.size, fun i hi => (k.block i hi).trans (h.block i hi)⟩
theorem Kp.mono {Q R : Nat → Prop} {w w' : World} (h : Kp Q w w') (hr : ∀ b, R b → Q b) : Kp R w w' := ⟨h.os, h.tape, h.output, h.size, fun b hb => h.block b (hr b hb)⟩
theorem below_kp {B : Nat} {w w' : World} (h : Below B w w') {Q : Nat → Prop} (hq : ∀ b, Q b → b < B) : Kp Q w w' := ⟨h.os, h.tape, h.output, h.size, fun b hb => h.block b (hq b hb)⟩
theorem Kp.below {B : Nat} {w w' : World} (h : Kp (· < B) w w') : Below B w w' := ⟨h.os, h.tape, h.output, h.size, h.block⟩
theorem trV_kp {Q : Nat → Prop} {w w' : World} (hb : Kp Q w w') {t : Tm} {v : Value} (h : TrV w Q t v) : TrV w' Q t v := trV_mono (fun _ h => h) (fun b h => hb.block b h) t h
theorem trS_kp {Q : Nat → Prop} {w w' : World} (hb : Kp Q w w') {l : List Tm} {s : Value} (h : TrS w Q l s) : TrS w' Q l s := trS_mono (fun _ h => h) (fun b h => hb.block b h) h
theorem below_le {B C : Nat} {a w w' : World} (h : Below B a w) (k : Below C w w') (hc : B ≤ C) : Below B a w' := h.trans (k.mono hc)
theorem heap_alloc_new (w : World) (o : Obj) : (w.alloc o).heap[w.heap.size]? = some o := by
  show (w.heap.push o)[w.heap.size]? = _
  simp
theorem heap_alloc (w : World) (o : Obj) (k : Nat) : (w.alloc o).heap[k]? = if k = w.heap.size then some o else w.heap[k]? := by
  split
  · rename_i h; rw [h]; exact heap_alloc_new w o
  · rename_i h
    show (w.heap.push o)[k]? = _
    rw [Array.getElem?_push, if_neg h]
theorem cells_of {w : World} {xs : Array Value} {t : TypeId} {b : Nat} (h : w.heap[b]? = some (.cells xs t)) (k : Nat) : w.cell? ⟨b, k, none⟩ = xs[k]? ∧ w.frozen? ⟨b, k, none⟩ = false := by
  constructor
  · simp [World.cell?, h]
  · simp [World.frozen?, h]
end Go.Proofs.Ytapdfdjknehhgaa
