/- The scanner's two maps: what a look-up finds in a map whose entries are known. -/
import Derived.Test.YtcjdacdggklifaaGreatDoorLists
namespace Go.Proofs.YtcjdacdggklifaaGreatDoor
open Go.RowKit Go.Maps Go.ChangeMaps Go.WideMaps Go.WideElems

/-- The first value at a key. -/
def fnd (s : ByteArray) : List (ByteArray × Int) → Option Int
  | [] => none
  | x :: r => if s == x.1 then some x.2 else fnd s r
def ents (f : List (ByteArray × Int)) : List (Value × Value) := f.map fun x => (.string x.1, .int .i64 x.2)
def kvs (es : List MapEntry) : List (Value × Value) := es.map fun e => (e.key, e.val)

theorem findNow_fnd (s : ByteArray) : ∀ (f : List (ByteArray × Int)) (es : List MapEntry) (i : Nat), kvs es = ents f →
    ∃ r, Instr.findNow .string (.string s) es i = some r ∧ r.map (·.2) = (fnd s f).map (Value.int .i64)
  | [], es, i, h => by
    cases es with
    | nil => exact ⟨none, rfl, rfl⟩
    | cons e es => simp [kvs, ents] at h
  | x :: f, es, i, h => by
    cases es with
    | nil => simp [kvs, ents] at h
    | cons e es =>
      simp only [kvs, ents, List.map_cons, List.cons.injEq, Prod.mk.injEq] at h
      obtain ⟨⟨hk, hv⟩, hr⟩ := h
      simp only [Instr.findNow, hk, Instr.sameNow, fnd]
      cases hsx : s == x.1
      · exact findNow_fnd s f es (i + 1) hr
      · exact ⟨_, rfl, by simp [hv]⟩

/-- Block b of w is a map with these entries. -/
def StrMap (w : World) (b : Nat) (f : List (ByteArray × Int)) : Prop := ∃ es clock, w.heap[b]? = some (.map es clock) ∧ kvs es.toList = ents f
theorem StrMap.of_block {w w' : World} {b : Nat} {f : List (ByteArray × Int)} (h : StrMap w b f) (e : w'.heap[b]? = w.heap[b]?) : StrMap w' b f := by
  obtain ⟨es, c, hb, hk⟩ := h; exact ⟨es, c, e.trans hb, hk⟩
theorem StrMap.lt {w : World} {b : Nat} {f : List (ByteArray × Int)} (h : StrMap w b f) : b < w.heap.size := by
  obtain ⟨es, c, hb, hk⟩ := h; exact (Array.getElem?_eq_some_iff.1 hb).1

theorem keyed9 : Keyed Tryz.prog 9 := string_keyed Tryz.underlying9
theorem keyed3 : Keyed Tryz.prog 3 := int_keyed Tryz.underlying3
theorem zero3 (w : World) : (zeroValue 3).run Tryz.prog w = .ok (.int .i64 0) w := by kernel_rfl

theorem look_fixed {w : World} {b : Nat} {f : List (ByteArray × Int)} (h : StrMap w b f) (s : ByteArray) (hs : s.size ≤ maxLen) :
    (Instr.lookup 76 (.map (some b)) (.string s) true).run Tryz.prog w = .ok (.tuple #[.int .i64 ((fnd s f).getD 0), .bool (fnd s f).isSome]) w := by
  obtain ⟨es, c, hb, hk⟩ := h
  obtain ⟨r, h1, h2⟩ := findNow_fnd s f es.toList 0 hk
  have hkey : keyOf Tryz.prog 9 (.string s) = some (.string s.data.toList) := keyOf_string_mk Tryz.underlying9 hs
  have hch := keyed9.check w es.isEmpty hkey
  simp only [Instr.lookup, run_underlying Tryz.underlying76, Sem.run_bind, Result.andThen_ok, MapKept.run_getObj_map hb, Sem.run_pure, hch, Instr.findKey, run_underlying Tryz.underlying9, h1]
  cases hf : fnd s f with
  | none =>
    rw [hf] at h2
    cases r with
    | none => simp [Result.andThen]
    | some x => simp at h2
  | some v =>
    rw [hf] at h2
    cases r with
    | none => simp at h2
    | some x => simp at h2; simp [h2]

theorem put_fixed {w : World} {b : Nat} {f : List (ByteArray × Int)} (h : StrMap w b f) (s : ByteArray) (hs : s.size ≤ maxLen) (v : Int) (hn : fnd s f = none) :
    ∃ w', (Instr.mapUpdate 76 (.map (some b)) (.string s) (.int .i64 v)).run Tryz.prog w = .ok () w' ∧ StrMap w' b (f ++ [(s, v)]) ∧ w.grownBy w' (some b) := by
  obtain ⟨es, c, hb, hk⟩ := h
  obtain ⟨r, h1, h2⟩ := findNow_fnd s f es.toList 0 hk
  have hkey : keyOf Tryz.prog 9 (.string s) = some (.string s.data.toList) := keyOf_string_mk Tryz.underlying9 hs
  have hch := keyed9.check w false hkey
  rw [hn] at h2
  cases r with
  | some x => simp at h2
  | none =>
    refine ⟨setBlock w b (.map (es.push ⟨.string s, .int .i64 v, c⟩) (c + 1)), ?_, ⟨_, _, heap_setBlock_same hb _, ?_⟩, ⟨rfl, rfl, rfl, by simp [setBlock], fun i _ hi => heap_setBlock_other hb _ (fun e => hi (by rw [e]))⟩⟩
    · simp [Instr.mapUpdate, run_underlying Tryz.underlying76, MapKept.run_getObj_map hb, hch, Instr.findKey, run_underlying Tryz.underlying9, h1, MapKept.run_setObj_map _ hb, Result.andThen, setBlock]
    · simp only [kvs, ents] at hk ⊢
      simp [hk]

/-- The map of the scanner's steps. -/
def stepsE : Array MapEntry := #[
  ⟨.int .i64 0, .func (.func 55) #[] #[], 0⟩, ⟨.int .i64 1, .func (.func 56) #[] #[], 1⟩,
  ⟨.int .i64 2, .func (.func 57) #[] #[], 2⟩, ⟨.int .i64 3, .func (.func 58) #[] #[], 3⟩,
  ⟨.int .i64 4, .func (.func 59) #[] #[], 4⟩, ⟨.int .i64 5, .func (.func 60) #[] #[], 5⟩,
  ⟨.int .i64 6, .func (.func 61) #[] #[], 6⟩]

theorem keyOf3 (n : Nat) (hn : n < 100) : keyOf Tryz.prog 3 (.int .i64 n) = some (.int .i64 n) :=
  keyOf_int_mk Tryz.underlying3 (WalkArith.wf_i64 (by omega))

theorem push_set_last {α : Type} (xs : Array α) (a b : α) : (xs.push a).setIfInBounds xs.size b = xs.push b := by
  apply Array.ext
  · simp
  · intro i h1 h2
    simp only [Array.size_setIfInBounds, Array.size_push] at h1
    by_cases hi : i = xs.size
    · subst hi; simp
    · rw [Array.getElem_setIfInBounds_ne (by simpa using h1) (Ne.symm hi), Array.getElem_push_lt (by omega), Array.getElem_push_lt (by omega)]

/-- An entry is laid into a map that has just been made. -/
theorem ins_steps (w0 : World) (b : Nat) (hb : b = w0.heap.size) (es : Array MapEntry) (c n : Nat) (hn : n < 100) (v : Value) (hf : Instr.findNow (.int .i64) (.int .i64 n) es.toList 0 = some none) :
    (Instr.mapUpdate 77 (.map (some b)) (.int .i64 n) v).run Tryz.prog (w0.alloc (.map es c)) = .ok () (w0.alloc (.map (es.push ⟨.int .i64 n, v, c⟩) (c + 1))) := by
  subst hb
  have hb : (w0.alloc (.map es c)).heap[w0.heap.size]? = some (.map es c) := heap_alloc_new w0 _
  have hch := keyed3.check (w0.alloc (.map es c)) false (keyOf3 n hn)
  simp [Instr.mapUpdate, run_underlying Tryz.underlying77, MapKept.run_getObj_map hb, hch, Instr.findKey, run_underlying Tryz.underlying3, hf, MapKept.run_setObj_map _ hb, Result.andThen]
  show ({ w0 with heap := (w0.heap.push (.map es c)).setIfInBounds w0.heap.size (.map (es.push ⟨.int .i64 n, v, c⟩) (c + 1)) } : World) = { w0 with heap := w0.heap.push (.map (es.push ⟨.int .i64 n, v, c⟩) (c + 1)) }
  rw [push_set_last]

theorem look_steps {w : World} {b c : Nat} (hb : w.heap[b]? = some (.map stepsE c)) (n : Nat) (hn : n < 100) (j : Nat) (v : Value) (hf : Instr.findNow (.int .i64) (.int .i64 n) stepsE.toList 0 = some (some (j, v))) :
    (Instr.lookup 77 (.map (some b)) (.int .i64 n) false).run Tryz.prog w = .ok v w := by
  have hch := keyed3.check w stepsE.isEmpty (keyOf3 n hn)
  simp [Instr.lookup, run_underlying Tryz.underlying77, MapKept.run_getObj_map hb, hch, Instr.findKey, run_underlying Tryz.underlying3, hf, Result.andThen]
end Go.Proofs.YtcjdacdggklifaaGreatDoor
