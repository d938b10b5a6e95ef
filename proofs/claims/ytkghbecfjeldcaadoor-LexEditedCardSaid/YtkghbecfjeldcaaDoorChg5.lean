/- Edits: fits, and the searches. -/
import Derived.Test.YtkghbecfjeldcaaDoorChg4
import Derived.Test.YtkghbecfjeldcaaDoorGen
namespace Go.Proofs.YtkghbecfjeldcaaDoor
open Go.RowKit

theorem fits_any (p c n : Int) (S : ByteArray) (hp : -9223372036854775808 ≤ p ∧ p ≤ 9223372036854775807) (hc : -9223372036854775808 ≤ c ∧ c ≤ 9223372036854775807) (hn : 0 ≤ n ∧ n ≤ 1000000) (w : World) :
    Calls Tryd.prog 40 #[.agg #[.int .i64 p, .int .i64 c, .string S], .int .i64 n] w fun e w' => e = .returned (.bool (decide (0 ≤ p ∧ 0 ≤ c ∧ p ≤ n ∧ c ≤ n - p))) ∧ w.grownBy w' none := by
  go_enter Tryd.func40, Tryd.ntmps40
  go_wp2
  all_goals go_ret
  all_goals exact ⟨ret_bool (Bool.eq_iff_iff.2 (by simp <;> omega)), World.grownBy_alloc _ _ _⟩

theorem grown_grow (w : World) (q : Nat) (os : Array Obj) : w.grownBy (Go.Sort.grow (w.drewN q) os) none :=
  ⟨rfl, rfl, rfl, by simp [Go.Sort.grow], fun i hi _ => by
    show ((w.drewN q).heap ++ os)[i]? = _
    rw [Array.getElem?_append_left (by show i < w.heap.size; omega)]; rfl⟩
theorem cell_in_grow {w : World} {a : Addr} {v : Value} (h : w.cell? a = some v) (q : Nat) (os : Array Obj) : (Go.Sort.grow (w.drewN q) os).cell? a = some v :=
  (World.cell?_of_block (w := w) ((grown_grow w q os).block a.block (World.block_lt_of_cell? _ _ h) (by simp))).trans h

theorem search_ends (old : List Lx.Tok) {l : Lx.Bs} (hch : Lx.Chain l 0 old) (hn : old.length ≤ 100000) (oa : Option Addr) (cap bo be p : Nat) (w : World) (htok : TokV w oa (old.map rt))
    (c0 : w.cell? ⟨bo, 0, none⟩ = some (.slice oa old.length cap)) (c1 : w.cell? ⟨be, 0, none⟩ = some (.int .i64 p)) :
    Calls Tryd.prog 66 #[.int .i64 old.length, .func (.func 67) #[] #[.pointer (some ⟨bo, 0, none⟩), .pointer (some ⟨be, 0, none⟩)]] w fun e w' => e = .returned (.int .i64 (keptN old p : Nat)) ∧ w.grownBy w' none := by
  have eg : ∀ (args : Array Value) (w : World), (callFunc 67 args).run Tryd.prog w = .ok (.enter 67 args) w := fun _ _ => by go_simp
  have hS := Any.sort_Search Tryd.laysSearch 67 #[.pointer (some ⟨bo, 0, none⟩), .pointer (some ⟨be, 0, none⟩)] old.length (endsQ old p) w eg (by omega) (fun m os i hi => by
    obtain ⟨g, off, rfl, hg, hce⟩ := htok (by rw [List.length_map]; omega)
    have h4 := hce i (by rw [List.length_map]; exact hi) 4 (by omega)
    rw [List.getElem_map] at h4
    refine (recut1_any bo be g off old.length cap i p (old[i]).fin _ hi (cell_in_grow c0 m os) (cell_in_grow c1 m os) (cell_in_grow h4 m os)).mono ?_
    rintro e w' ⟨he, q, hq⟩
    refine ⟨?_, q, #[], by rw [hq, Go.Sort.grow_empty]⟩
    rw [he, endsQ, getD_lt old i hi]
    exact ret_bool (by rw [decide_eq_decide]; omega)) (ends_mono hch p)
  refine Calls.mono hS ?_
  rintro e w' ⟨he, q, os, rfl⟩
  exact ⟨he, grown_grow w q os⟩
theorem search_begs (old : List Lx.Tok) {l : Lx.Bs} (hch : Lx.Chain l 0 old) (hn : old.length ≤ 100000) (oa : Option Addr) (cap bo be y : Nat) (w : World) (htok : TokV w oa (old.map rt))
    (c0 : w.cell? ⟨bo, 0, none⟩ = some (.slice oa old.length cap)) (c1 : w.cell? ⟨be, 0, none⟩ = some (.int .i64 y)) :
    Calls Tryd.prog 66 #[.int .i64 old.length, .func (.func 97) #[] #[.pointer (some ⟨bo, 0, none⟩), .pointer (some ⟨be, 0, none⟩)]] w fun e w' => e = .returned (.int .i64 (nextN old y : Nat)) ∧ w.grownBy w' none := by
  have eg : ∀ (args : Array Value) (w : World), (callFunc 97 args).run Tryd.prog w = .ok (.enter 97 args) w := fun _ _ => by go_simp
  have hS := Any.sort_Search Tryd.laysSearch 97 #[.pointer (some ⟨bo, 0, none⟩), .pointer (some ⟨be, 0, none⟩)] old.length (begsQ old y) w eg (by omega) (fun m os i hi => by
    obtain ⟨g, off, rfl, hg, hce⟩ := htok (by rw [List.length_map]; omega)
    have h4 := hce i (by rw [List.length_map]; exact hi) 3 (by omega)
    rw [List.getElem_map] at h4
    refine (resume1_any bo be g off old.length cap i y (old[i]).at_ _ hi (cell_in_grow c0 m os) (cell_in_grow c1 m os) (cell_in_grow h4 m os)).mono ?_
    rintro e w' ⟨he, q, hq⟩
    refine ⟨?_, q, #[], by rw [hq, Go.Sort.grow_empty]⟩
    rw [he, begsQ, getD_lt old i hi]
    exact ret_bool (by rw [decide_eq_decide]; omega)) (begs_mono hch y)
  refine Calls.mono hS ?_
  rintro e w' ⟨he, q, os, rfl⟩
  exact ⟨he, grown_grow w q os⟩

set_option maxRecDepth 100000 in
theorem clone_any (old : List Lx.Tok) (k : Nat) (hk : k ≤ old.length) (hk0 : 0 < k) (hn : old.length ≤ 100000) (oa : Option Addr) (cap : Nat) (w : World) (htok : TokV w oa (old.map rt)) :
    Calls Tryd.prog 68 #[.slice oa k cap] w fun e w' => ∃ v, e = .returned v ∧ w'.ownsRow w.heap.size 31 5 v k (tokCs (old.take k)) ∧ Below w.heap.size w w' := by
  obtain ⟨i0, hi0, hz0, hz1, hz2⟩ := info_parts info31
  obtain ⟨g, off, rfl, hg, hce⟩ := htok (by rw [List.length_map]; omega)
  have hl : (tokCs (old.take k)).length = k * 5 := by
    have : ∀ ts : List Lx.Tok, (tokCs ts).length = ts.length * 5 := fun ts => by
      induction ts with
      | nil => rfl
      | cons t ts ih => simp only [tokCs, List.flatMap_cons, List.length_append] at ih ⊢; rw [ih]; simp [tokC]; omega
    rw [this, List.length_take]; congr 1; omega
  have hS := AnyE.slices_Clone Tryd.laysClone i0 _ 5 48 hi0 hz0 hz1 hz2 rfl (by omega) Tryd.sizeOf31 g off k cap (tokCs (old.take k)) w hl (by unfold maxLen; omega) (by omega)
    (fun j u hj => by
      have hjl : j < k * 5 := by
        rcases Nat.lt_or_ge j (k * 5) with h | h
        · exact h
        · rw [List.getElem?_eq_none (by rw [hl]; exact h)] at hj; cases hj
      have h5 := hce (j / 5) (by rw [List.length_map]; omega) (j % 5) (by omega)
      rw [show j / 5 * 5 + j % 5 = j from by omega] at h5
      rw [h5, ← hj, tokCs_flat, List.map_take]
      have hm : j / 5 < ((old.map rt).take k).length := by rw [List.length_take, List.length_map]; omega
      have hf := flat_get ((old.map rt).take k) (j / 5) hm (j % 5) (by omega)
      rw [show j / 5 * 5 + j % 5 = j from by omega, List.getElem_take] at hf
      exact hf.symm)
    (fun u hu => by
      simp only [tokCs, List.mem_flatMap] at hu
      obtain ⟨t, _, ht⟩ := hu
      simp only [tokC, List.mem_cons, List.not_mem_nil, or_false] at ht
      rcases ht with rfl | rfl | rfl | rfl | rfl <;> rfl)
  refine Calls.mono hS ?_
  rintro e w' ⟨v, he, ho, _, hb⟩
  exact ⟨v, he, ho, hb⟩
end Go.Proofs.YtkghbecfjeldcaaDoor
