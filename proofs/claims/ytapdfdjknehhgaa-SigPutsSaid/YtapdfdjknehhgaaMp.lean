/- Merged: IMap, GMap. -/
import Derived.Test.YtapdfdjknehhgaaTree
import Derived.Deep.RegionHeld3
import Derived.Deep.QuietTactic
import Derived.BigQuiet
import Derived.Maps.OwnOps
import Derived.Maps.OwnSet

/- Maps with int keys that a call has made. -/
namespace Go.Proofs.Ytapdfdjknehhgaa
open Go.RowKit Go.Maps Go.ChangeMaps Go.WideMaps Go.WideElems Go.Tr

def fndI (n : Int) : List (Int × Value) → Option Value
  | [] => none
  | x :: r => if n == x.1 then some x.2 else fndI n r
def entI (f : List (Int × Value)) : List (Value × Value) := f.map fun x => (.int .i64 x.1, x.2)
def kvs (es : List MapEntry) : List (Value × Value) := es.map fun e => (e.key, e.val)
theorem findNow_fndI (s : Int) : ∀ (f : List (Int × Value)) (es : List MapEntry) (i : Nat), kvs es = entI f →
    ∃ r, Instr.findNow (.int .i64) (.int .i64 s) es i = some r ∧ r.map (·.2) = fndI s f ∧ ∀ j v, r = some (j, v) → i ≤ j ∧ ∃ e, es[j - i]? = some e ∧ e.key = .int .i64 s ∧ kvs (es.modify (j - i) fun e => { e with key := .int .i64 s, val := v }) = entI f
  | [], es, i, h => by
    cases es with
    | nil => exact ⟨none, rfl, rfl, fun j v h => by cases h⟩
    | cons e es => simp [kvs, entI] at h
  | x :: f, es, i, h => by
    cases es with
    | nil => simp [kvs, entI] at h
    | cons e es =>
      have h0 := h
      simp only [kvs, entI, List.map_cons, List.cons.injEq, Prod.mk.injEq] at h
      obtain ⟨⟨hk, hv⟩, hr⟩ := h
      simp only [Instr.findNow, hk, Instr.sameNow, fndI, if_true]
      cases hsx : s == x.1
      · obtain ⟨r, h1, h2, h3⟩ := findNow_fndI s f es (i + 1) hr
        refine ⟨r, h1, h2, fun j v hj => ?_⟩
        obtain ⟨g1, e', g2, g3, g4⟩ := h3 j v hj
        have ej : j - i = (j - (i + 1)) + 1 := by omega
        refine ⟨by omega, e', by rw [ej]; exact g2, g3, ?_⟩
        rw [ej]
        simp only [List.modify_succ_cons, kvs, entI, List.map_cons] at g4 ⊢
        rw [g4, hk, hv]
      · refine ⟨_, rfl, by simp [hv], fun j v hj => ?_⟩
        simp only [Option.some.injEq, Prod.mk.injEq] at hj
        obtain ⟨rfl, rfl⟩ := hj
        have e1 : s = x.1 := by simpa using hsx
        refine ⟨Nat.le_refl _, e, by simp, by rw [hk, e1], ?_⟩
        simp only [Nat.sub_self, List.modify_zero_cons, kvs, List.map_cons, entI]
        rw [e1, hv]
        have hr' : List.map (fun e : MapEntry => (e.key, e.val)) es = List.map (fun x : Int × Value => (Value.int .i64 x.1, x.2)) f := hr
        rw [hr']
/-- Block b of w is a map with these entries. -/
def IMap (w : World) (b : Nat) (f : List (Int × Value)) : Prop := ∃ es clock, w.heap[b]? = some (.map es clock) ∧ kvs es.toList = entI f
theorem IMap.of_block {w w' : World} {b : Nat} {f : List (Int × Value)} (h : IMap w b f) (e : w'.heap[b]? = w.heap[b]?) : IMap w' b f := by
  obtain ⟨es, c, hb, hk⟩ := h; exact ⟨es, c, e.trans hb, hk⟩
theorem IMap.lt {w : World} {b : Nat} {f : List (Int × Value)} (h : IMap w b f) : b < w.heap.size := by
  obtain ⟨es, c, hb, hk⟩ := h; exact block_lt hb
theorem keyed3 : Keyed Try.prog 3 := int_keyed Try.underlying3
theorem keyOf3 (n : Int) (hn : inI n) : keyOf Try.prog 3 (.int .i64 n) = some (.int .i64 n) :=
  keyOf_int_mk Try.underlying3 (WalkArith.wf_i64 (by unfold inI at hn; omega))
theorem look_int {MT E : TypeId} (hMT : Try.prog.underlying MT = some (.map 3 E)) {z : Value} (hz : ∀ w, (zeroValue E).run Try.prog w = .ok z w) {w : World} {b : Nat} {f : List (Int × Value)} (h : IMap w b f) (n : Int) (hn : inI n) (c : Bool) :
    (Instr.lookup MT (.map (some b)) (.int .i64 n) c).run Try.prog w = .ok (if c then .tuple #[(fndI n f).getD z, .bool (fndI n f).isSome] else (fndI n f).getD z) w := by
  obtain ⟨es, cl, hb, hk⟩ := h
  obtain ⟨r, h1, h2, -⟩ := findNow_fndI n f es.toList 0 hk
  have hch := keyed3.check w es.isEmpty (keyOf3 n hn)
  simp only [Instr.lookup, run_underlying hMT, Sem.run_bind, Result.andThen_ok, MapKept.run_getObj_map hb, Sem.run_pure, hch, Instr.findKey, run_underlying Try.underlying3, h1]
  cases hf : fndI n f with
  | none =>
    rw [hf] at h2
    cases r with
    | none => simp [Result.andThen, hz]
    | some x => simp at h2
  | some v =>
    rw [hf] at h2
    cases r with
    | none => simp at h2
    | some x => simp at h2; simp [h2]
theorem put_int {MT E : TypeId} (hMT : Try.prog.underlying MT = some (.map 3 E)) {w : World} {b : Nat} {f : List (Int × Value)} (h : IMap w b f) (n : Int) (hs : inI n) (v : Value) (hn : fndI n f = none) :
    ∃ w', (Instr.mapUpdate MT (.map (some b)) (.int .i64 n) v).run Try.prog w = .ok () w' ∧ IMap w' b (f ++ [(n, v)]) ∧ w.grownBy w' (some b) := by
  obtain ⟨es, c, hb, hk⟩ := h
  obtain ⟨r, h1, h2, -⟩ := findNow_fndI n f es.toList 0 hk
  have hch := keyed3.check w false (keyOf3 n hs)
  rw [hn] at h2
  cases r with
  | some x => simp at h2
  | none =>
    refine ⟨setBlock w b (.map (es.push ⟨.int .i64 n, v, c⟩) (c + 1)), ?_, ⟨_, _, heap_setBlock_same hb _, ?_⟩, ⟨rfl, rfl, rfl, by simp [setBlock], fun i _ hi => heap_setBlock_other hb _ (fun e => hi (by rw [e]))⟩⟩
    · simp [Instr.mapUpdate, run_underlying hMT, MapKept.run_getObj_map hb, hch, Instr.findKey, run_underlying Try.underlying3, h1, MapKept.run_setObj_map _ hb, Result.andThen, setBlock]
    · simp only [kvs, entI] at hk ⊢
      simp [hk]
theorem fndI_append (n m : Int) (v : Value) : ∀ (f : List (Int × Value)), fndI n (f ++ [(m, v)]) = (fndI n f).or (if n == m then some v else none)
  | [] => by simp [fndI]
  | x :: r => by
    simp only [List.cons_append, fndI]
    split
    · rfl
    · exact fndI_append n m v r
end Go.Proofs.Ytapdfdjknehhgaa

/- Maps whose keys are of any type, made by a call. -/
namespace Go.Proofs.Ytapdfdjknehhgaa
open Go.RowKit Go.Maps Go.ChangeMaps Go.WideMaps Go.WideElems Go.Tr

/-- Block b of w is a map with these keys and values. -/
def GMap (w : World) (b : Nat) (f : List (Value × Value)) : Prop := ∃ es clock, w.heap[b]? = some (.map es clock) ∧ kvs es.toList = f ∧ (∀ x ∈ es.toList, x.born < clock) ∧ (es.toList.map (·.born)).Nodup
theorem GMap.of_block {w w' : World} {b : Nat} {f : List (Value × Value)} (h : GMap w b f) (e : w'.heap[b]? = w.heap[b]?) : GMap w' b f := by
  obtain ⟨es, c, hb, hk⟩ := h; exact ⟨es, c, e.trans hb, hk⟩
theorem GMap.lt {w : World} {b : Nat} {f : List (Value × Value)} (h : GMap w b f) : b < w.heap.size := by
  obtain ⟨es, c, hb, hk⟩ := h; exact block_lt hb
theorem kvs_mem {es : List MapEntry} {e : MapEntry} (h : e ∈ es) : (e.key, e.val) ∈ kvs es := List.mem_map.2 ⟨e, h, rfl⟩
theorem look_miss {MT K E : TypeId} (KK : Keyed Try.prog K) (hMT : Try.prog.underlying MT = some (.map K E)) {z : Value} (hz : ∀ w, (zeroValue E).run Try.prog w = .ok z w) {w : World} {b : Nat} {f : List (Value × Value)} (h : GMap w b f)
    (hf : ∀ e ∈ f, ∃ l, keyOf Try.prog K e.1 = some l) {x : Value} {lx : Lit} (hx : keyOf Try.prog K x = some lx) (hn : ∀ e ∈ f, e.1 ≠ x) (c : Bool) :
    (Instr.lookup MT (.map (some b)) x c).run Try.prog w = .ok (if c then .tuple #[z, .bool false] else z) w := by
  obtain ⟨es, cl, hb, hk, -, -⟩ := h
  have hch := KK.check w es.isEmpty hx
  have hfd := KK.find w hx es.toList (fun e he => hf (e.key, e.val) (by rw [← hk]; exact kvs_mem he))
  rcases hfd with ⟨hr, -⟩ | ⟨j, e, -, hj, he⟩
  · simp only [Instr.lookup, run_underlying hMT, Sem.run_bind, Result.andThen_ok, MapKept.run_getObj_map hb, Sem.run_pure, hch, hr]
    simp [Result.andThen, hz]
  · exact absurd he (hn (e.key, e.val) (by rw [← hk]; exact kvs_mem (List.mem_of_getElem? hj)))
theorem look_hit {MT K E : TypeId} (KK : Keyed Try.prog K) (hMT : Try.prog.underlying MT = some (.map K E)) {w : World} {b : Nat} {f : List (Value × Value)} (h : GMap w b f)
    (hf : ∀ e ∈ f, ∃ l, keyOf Try.prog K e.1 = some l) {x v : Value} {lx : Lit} (hx : keyOf Try.prog K x = some lx) (hm : ∃ e ∈ f, e.1 = x) (hv : ∀ e ∈ f, e.1 = x → e.2 = v) (c : Bool) :
    (Instr.lookup MT (.map (some b)) x c).run Try.prog w = .ok (if c then .tuple #[v, .bool true] else v) w := by
  obtain ⟨es, cl, hb, hk, -, -⟩ := h
  have hch := KK.check w es.isEmpty hx
  have hfd := KK.find w hx es.toList (fun e he => hf (e.key, e.val) (by rw [← hk]; exact kvs_mem he))
  rcases hfd with ⟨-, hr⟩ | ⟨j, e, hr, hj, he⟩
  · obtain ⟨e, he, hex⟩ := hm
    rw [← hk] at he
    obtain ⟨e', h1, h2⟩ := List.mem_map.1 he
    subst h2
    exact absurd hex (hr e' h1)
  · have hev : e.val = v := hv (e.key, e.val) (by rw [← hk]; exact kvs_mem (List.mem_of_getElem? hj)) he
    simp only [Instr.lookup, run_underlying hMT, Sem.run_bind, Result.andThen_ok, MapKept.run_getObj_map hb, Sem.run_pure, hch, hr]
    simp [hev]
theorem put_miss {MT K E : TypeId} (KK : Keyed Try.prog K) (hMT : Try.prog.underlying MT = some (.map K E)) {w : World} {b : Nat} {f : List (Value × Value)} (h : GMap w b f)
    (hf : ∀ e ∈ f, ∃ l, keyOf Try.prog K e.1 = some l) {x : Value} {lx : Lit} (hx : keyOf Try.prog K x = some lx) (hn : ∀ e ∈ f, e.1 ≠ x) (v : Value) :
    ∃ w', (Instr.mapUpdate MT (.map (some b)) x v).run Try.prog w = .ok () w' ∧ GMap w' b (f ++ [(x, v)]) ∧ w.grownBy w' (some b) := by
  obtain ⟨es, c, hb, hk, hst, hnd⟩ := h
  have hch := KK.check w false hx
  have hfd := KK.find w hx es.toList (fun e he => hf (e.key, e.val) (by rw [← hk]; exact kvs_mem he))
  rcases hfd with ⟨hr, -⟩ | ⟨j, e, -, hj, he⟩
  · refine ⟨setBlock w b (.map (es.push ⟨x, v, c⟩) (c + 1)), ?_, ⟨_, _, heap_setBlock_same hb _, ?_⟩, ⟨rfl, rfl, rfl, by simp [setBlock], fun i _ hi => heap_setBlock_other hb _ (fun e => hi (by rw [e]))⟩⟩
    · simp [Instr.mapUpdate, run_underlying hMT, MapKept.run_getObj_map hb, hch, hr, MapKept.run_setObj_map _ hb, Result.andThen, setBlock]
    · refine ⟨by simp only [kvs] at hk ⊢; simp [hk], ?_, ?_⟩
      · intro y hy
        simp only [Array.toList_push, List.mem_append, List.mem_singleton] at hy
        rcases hy with hy | rfl
        · have := hst y hy; omega
        · simp
      · simp only [Array.toList_push, List.map_append, List.map_cons, List.map_nil]
        rw [List.nodup_append]
        refine ⟨hnd, by simp, fun y hy z hz => ?_⟩
        obtain ⟨e, he, rfl⟩ := List.mem_map.1 hy
        have := hst e he
        have : z = c := by simpa using hz
        omega
  · exact absurd he (hn (e.key, e.val) (by rw [← hk]; exact kvs_mem (List.mem_of_getElem? hj)))
theorem put_hit {MT K E : TypeId} (KK : Keyed Try.prog K) (hMT : Try.prog.underlying MT = some (.map K E)) {w : World} {b : Nat} {f : List (Value × Value)} (h : GMap w b f)
    (hf : ∀ e ∈ f, ∃ l, keyOf Try.prog K e.1 = some l) {x : Value} {lx : Lit} (hx : keyOf Try.prog K x = some lx) (hm : ∃ e ∈ f, e.1 = x) (v : Value) :
    ∃ w', (Instr.mapUpdate MT (.map (some b)) x v).run Try.prog w = .ok () w' ∧ ((∀ e ∈ f, e.1 = x → e.2 = v) → GMap w' b f) ∧ w.grownBy w' (some b) := by
  obtain ⟨es, c, hb, hk, hst, hnd⟩ := h
  have hch := KK.check w false hx
  have hfd := KK.find w hx es.toList (fun e he => hf (e.key, e.val) (by rw [← hk]; exact kvs_mem he))
  rcases hfd with ⟨-, hr⟩ | ⟨j, e, hr, hj, he⟩
  · obtain ⟨e, he, hex⟩ := hm
    rw [← hk] at he
    obtain ⟨e', h1, h2⟩ := List.mem_map.1 he
    subst h2
    exact absurd hex (hr e' h1)
  · have hky := KK.stays w hx
    refine ⟨setBlock w b (.map (es.modify j fun e => { e with key := x, val := v }) c), ?_, fun hv => ⟨_, _, heap_setBlock_same hb _, ?_⟩, ⟨rfl, rfl, rfl, by simp [setBlock], fun i _ hi => heap_setBlock_other hb _ (fun e => hi (by rw [e]))⟩⟩
    · have hja : es[j]? = some e := by rw [← Array.getElem?_toList]; exact hj
      simp [Instr.mapUpdate, run_underlying hMT, MapKept.run_getObj_map hb, hch, hr, MapKept.run_setObj_map _ hb, Result.andThen, setBlock, hja, he, hky]
    · have hev : e.val = v := hv (e.key, e.val) (by rw [← hk]; exact kvs_mem (List.mem_of_getElem? hj)) he
      refine ⟨?_, ?_, ?_⟩
      rotate_left 1
      · intro y hy
        obtain ⟨i, hi⟩ := List.mem_iff_getElem?.1 hy
        rw [Array.toList_modify, List.getElem?_modify] at hi
        by_cases hij : j = i
        · subst hij
          simp [hj] at hi
          subst hi
          exact hst e (List.mem_of_getElem? hj)
        · simp [hij] at hi
          exact hst y (by simpa using Array.mem_of_getElem? hi)
      · have e2 : (es.modify j fun e => { e with key := x, val := v }).toList.map (·.born) = es.toList.map (·.born) := by
          rw [Array.toList_modify]
          apply List.ext_getElem?
          intro i
          simp only [List.getElem?_map, List.getElem?_modify]
          by_cases hij : j = i
          · subst hij; simp [hj]
          · simp [hij]
        rw [e2]; exact hnd
      rw [← hk]
      simp only [kvs, Array.toList_modify]
      apply List.ext_getElem?
      intro i
      simp only [List.getElem?_map, List.getElem?_modify]
      by_cases hij : j = i
      · subst hij; simp [hj, he, hev]
      · simp [hij]
theorem make_hint {MT K E : TypeId} (hMT : Try.prog.underlying MT = some (.map K E)) (n : Int) (w : World) : (Instr.makeMap MT (some (.int .i64 n))).run Try.prog w = .ok (.map (some w.heap.size)) (w.alloc (.map #[] 0)) := by
  simp [Instr.makeMap, run_underlying hMT, asInt, asIntOf, Result.andThen]
theorem keyedS : Keyed Try.prog 9 := string_keyed Try.underlying9
theorem keyOfS (s : ByteArray) (hs : s.size ≤ maxLen) : keyOf Try.prog 9 (.string s) = some (.string s.data.toList) := keyOf_string_mk Try.underlying9 hs
end Go.Proofs.Ytapdfdjknehhgaa
