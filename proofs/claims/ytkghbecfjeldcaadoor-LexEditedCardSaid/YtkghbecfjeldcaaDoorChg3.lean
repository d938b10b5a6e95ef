/- Edits: the closures that are asked by a search, and tokens that are compared. -/
import Derived.Test.YtkghbecfjeldcaaDoorChg2
import Derived.Test.YtkghbecfjeldcaaDoorLike
import Derived.Laws.StructEq
namespace Go.Proofs.YtkghbecfjeldcaaDoor
open Go.RowKit Go.Lib

theorem recut1_any (bo be g off n cap i : Nat) (p fin : Int) (w : World) (hi : i < n)
    (c0 : w.cell? ⟨bo, 0, none⟩ = some (.slice (some ⟨g, off, none⟩) n cap)) (c1 : w.cell? ⟨be, 0, none⟩ = some (.int .i64 p)) (c2 : w.cell? ⟨g, off + (i * 5 + 4), none⟩ = some (.int .i64 fin)) :
    Calls Tryd.prog 67 (#[.int .i64 i] ++ #[.pointer (some ⟨bo, 0, none⟩), .pointer (some ⟨be, 0, none⟩)]) w fun e w' => e = .returned (.bool (decide (p ≤ fin))) ∧ ∃ q, w' = w.drewN q := by
  rw [← Nat.add_assoc] at c2
  have hn : (i : Int) < (n : Int) := by omega
  go_enter Tryd.func67, Tryd.ntmps67
  go_wp2_with fail
  go_quiet (fail)
  go_wp2_with fail
  go_ret
  exact ⟨rfl, nq, rfl⟩
theorem resume1_any (bo be g off n cap i : Nat) (y at_ : Int) (w : World) (hi : i < n)
    (c0 : w.cell? ⟨bo, 0, none⟩ = some (.slice (some ⟨g, off, none⟩) n cap)) (c1 : w.cell? ⟨be, 0, none⟩ = some (.int .i64 y)) (c2 : w.cell? ⟨g, off + (i * 5 + 3), none⟩ = some (.int .i64 at_)) :
    Calls Tryd.prog 97 (#[.int .i64 i] ++ #[.pointer (some ⟨bo, 0, none⟩), .pointer (some ⟨be, 0, none⟩)]) w fun e w' => e = .returned (.bool (decide (y ≤ at_))) ∧ ∃ q, w' = w.drewN q := by
  rw [← Nat.add_assoc] at c2
  have hn : (i : Int) < (n : Int) := by omega
  go_enter Tryd.func97, Tryd.ntmps97
  go_wp2_with fail
  go_quiet (fail)
  go_wp2_with fail
  go_ret
  exact ⟨rfl, nq, rfl⟩

/-- Tokens that are compared whole. -/
def eqRT (x y : RT) : Bool := x.k == y.k && (x.n == y.n && (x.s.toList == y.s.toList && (x.a == y.a && x.f == y.f)))
theorem eqRT_iff (x y : RT) : eqRT x y = true ↔ x = y := by
  obtain ⟨a, b, c, d, e⟩ := x
  obtain ⟨a', b', c', d', e'⟩ := y
  simp only [eqRT, Bool.and_eq_true, beq_iff_eq, RT.mk.injEq]
  have : c.toList = c'.toList ↔ c = c' := by
    constructor
    · intro h
      rw [ByteArray.toList_eq, ByteArray.toList_eq] at h
      have : bts c = bts c' := h
      rw [← ofB_bts c, this, ofB_bts]
    · intro h; rw [h]
  rw [this]
theorem tok_neq (x y : RT) (w : World) : (binOp .neq 31 x.v y.v).run Tryd.prog w = .ok (.bool (!eqRT x y)) w := by
  have u3 := Tryd.underlying3
  have u9 := Tryd.underlying9
  have hS : Tryd.prog.underlying 31 = some (.struct (Tryd.prog.fieldsOf 31)) := by kernel_rfl
  have hp : Tryd.prog.stoodInHeld 31 = false := by kernel_rfl
  simp only [RT.v]
  rw [run_neq_struct, show (10000 : Nat) = 9999 + 1 from rfl, run_equalIn_agg w 9999 31 _ _ hS hp]
  simp only [Program.fieldsOf, Tryd.underlying31]
  go_simp
  by_cases h1 : x.k = y.k <;> by_cases h2 : x.n = y.n <;> by_cases h3 : x.s.toList = y.s.toList <;> by_cases h4 : x.a = y.a <;> by_cases h5 : x.f = y.f <;> simp [eqRT, h1, h2, h3, h4, h5]
end Go.Proofs.YtkghbecfjeldcaaDoor
