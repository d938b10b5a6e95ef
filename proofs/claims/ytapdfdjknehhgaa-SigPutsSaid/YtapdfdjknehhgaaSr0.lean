/- The law's examples: what the regions of the walk have in common. (Made by tools/gensane_parts.py.) -/
import Derived.Test.YtapdfdjknehhgaaSn
import Derived.Deep.CutRange
import Derived.Deep.RegionHeld3
import Derived.Deep.QuietTactic
import Derived.BigQuiet
namespace Go.Proofs.Ytapdfdjknehhgaa
open Go.RowKit Go.Tr

theorem iq (n : Int) (h : decide (-100 ≤ n ∧ n ≤ 100) = true) : inI n := by
  have h := of_decide_eq_true h
  unfold inI; omega
theorem cellz {W w' : World} (h : Below W.heap.size W w') (b : Nat) (hb : b < W.heap.size) : (∀ j, w'.cell? ⟨b, j, none⟩ = W.cell? ⟨b, j, none⟩) ∧ (∀ j, w'.frozen? ⟨b, j, none⟩ = W.frozen? ⟨b, j, none⟩) := by
  have e := h.block b hb
  exact ⟨fun j => World.cell?_of_block (a := ⟨b, j, none⟩) e, fun j => by unfold World.frozen?; rw [e]⟩
/-- The cells of the examples' variables. -/
def Loc (ps px py pz ba bb : Nat) (W : World) : Prop :=
  W.cell? ⟨ps, 0, none⟩ = some (.slice (some ⟨ba, 0, none⟩) 2 2) ∧ W.cell? ⟨ps, 1, none⟩ = some (.slice (some ⟨bb, 0, none⟩) 4 4) ∧
  W.cell? ⟨px, 0, none⟩ = some (.int .i64 1) ∧ W.cell? ⟨px, 1, none⟩ = some (.int .i64 0) ∧ W.cell? ⟨px, 2, none⟩ = some (.slice none 0 0) ∧
  W.cell? ⟨py, 0, none⟩ = some (.int .i64 1) ∧ W.cell? ⟨py, 1, none⟩ = some (.int .i64 1) ∧ W.cell? ⟨py, 2, none⟩ = some (.slice none 0 0) ∧
  W.cell? ⟨pz, 0, none⟩ = some (.int .i64 2) ∧ W.cell? ⟨pz, 1, none⟩ = some (.int .i64 0) ∧ W.cell? ⟨pz, 2, none⟩ = some (.slice none 0 0)
/-- The same, and t's cells. -/
def LocT (ps px py pz ba bb pt : Nat) (s : Value) (W : World) : Prop :=
  W.cell? ⟨ps, 0, none⟩ = some (.slice (some ⟨ba, 0, none⟩) 2 2) ∧ W.cell? ⟨ps, 1, none⟩ = some (.slice (some ⟨bb, 0, none⟩) 4 4) ∧
  W.cell? ⟨px, 0, none⟩ = some (.int .i64 1) ∧ W.cell? ⟨px, 1, none⟩ = some (.int .i64 0) ∧ W.cell? ⟨px, 2, none⟩ = some (.slice none 0 0) ∧
  W.cell? ⟨py, 0, none⟩ = some (.int .i64 1) ∧ W.cell? ⟨py, 1, none⟩ = some (.int .i64 1) ∧ W.cell? ⟨py, 2, none⟩ = some (.slice none 0 0) ∧
  W.cell? ⟨pz, 0, none⟩ = some (.int .i64 2) ∧ W.cell? ⟨pz, 1, none⟩ = some (.int .i64 0) ∧ W.cell? ⟨pz, 2, none⟩ = some (.slice none 0 0) ∧
  W.cell? ⟨pt, 0, none⟩ = some (.int .i64 2) ∧ W.cell? ⟨pt, 1, none⟩ = some (.int .i64 2) ∧ W.cell? ⟨pt, 2, none⟩ = some s
/-- The same, and a place's cell. -/
def LocP (ps px py pz ba bb pt : Nat) (s : Value) (bp : Nat) (q : Value) (W : World) : Prop :=
  W.cell? ⟨ps, 0, none⟩ = some (.slice (some ⟨ba, 0, none⟩) 2 2) ∧ W.cell? ⟨ps, 1, none⟩ = some (.slice (some ⟨bb, 0, none⟩) 4 4) ∧
  W.cell? ⟨px, 0, none⟩ = some (.int .i64 1) ∧ W.cell? ⟨px, 1, none⟩ = some (.int .i64 0) ∧ W.cell? ⟨px, 2, none⟩ = some (.slice none 0 0) ∧
  W.cell? ⟨py, 0, none⟩ = some (.int .i64 1) ∧ W.cell? ⟨py, 1, none⟩ = some (.int .i64 1) ∧ W.cell? ⟨py, 2, none⟩ = some (.slice none 0 0) ∧
  W.cell? ⟨pz, 0, none⟩ = some (.int .i64 2) ∧ W.cell? ⟨pz, 1, none⟩ = some (.int .i64 0) ∧ W.cell? ⟨pz, 2, none⟩ = some (.slice none 0 0) ∧
  W.cell? ⟨pt, 0, none⟩ = some (.int .i64 2) ∧ W.cell? ⟨pt, 1, none⟩ = some (.int .i64 2) ∧ W.cell? ⟨pt, 2, none⟩ = some s ∧ W.cell? ⟨bp, 3, none⟩ = some q
/-- The region of a number, out of a function's code. -/
def findR (n : Nat) : Code → Option Code
  | .region id ops d => if id = n then some (.region id ops d) else none
  | .seq a b => match findR n a with
    | some c => some c
    | none => findR n b
  | .cond _ a b => match findR n a with
    | some c => some c
    | none => findR n b
  | .block _ b => findR n b
  | .loop b => findR n b
  | .scope b => findR n b
  | _ => none
noncomputable def rgn (n : Nat) : Code := ((Try.f13.body.bind (findR n)).getD .skip)
end Go.Proofs.Ytapdfdjknehhgaa
