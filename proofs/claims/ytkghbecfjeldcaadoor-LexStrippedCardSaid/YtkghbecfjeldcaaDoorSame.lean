/- Same, of two rows with the same tokens. -/
import Derived.Test.YtkghbecfjeldcaaDoorBoth
import Derived.Test.YtkghbecfjeldcaaDoorStrip4
namespace Go.Proofs.YtkghbecfjeldcaaDoor
open Go.RowKit

set_option maxRecDepth 100000 in
set_option maxHeartbeats 1000000 in
theorem same_any (a : List RT) (oa ob : Option Addr) (ca cb na : Nat) (w : World) (hna : a.length = na) (ha : TokV w oa a) (hb : TokV w ob a) (hn : na ≤ 100000) :
    Calls Tryd.prog 21 #[.slice oa na ca, .slice ob na cb] w fun e w' => e = .returned (.bool true) ∧ w.grownBy w' none := by
  have H := Lib.hid (And.intro hna (And.intro ha hb))
  clear hna ha hb
  go_enter Tryd.func21, Tryd.ntmps21
  go_wp2_with fail
  go_loopw [5] (fun v wr => ∃ k : Nat, k ≤ na ∧ v = .int .i64 k ∧ w.grownBy wr none) (fun v _ => na - (intOf v).toNat)
  case atStart => exact ⟨0, by omega, rfl, grownZ _ _⟩
  case round =>
    obtain ⟨k, hk, rfl, hg⟩ := hrel
    have HG := Lib.hid hg
    by_cases hlt : k < na
    · have hka : k < a.length := by have := H.out.1; omega
      obtain ⟨ga, fa, rfl, hla, hca⟩ := H.out.2.1 (by omega)
      obtain ⟨gb, fb, rfl, hlb, hcb⟩ := H.out.2.2 (by omega)
      have e1 : ∀ j, j < 5 → wr.cell? ⟨ga, fa + (k * 5 + j), none⟩ = (a[k]).cells[j]? := fun j hj => (World.cell?_of_block (w := w) (a := ⟨ga, fa + (k * 5 + j), none⟩) (hg.block ga hla (by simp))).trans (hca k hka j hj)
      have e2 : ∀ j, j < 5 → wr.cell? ⟨gb, fb + (k * 5 + j), none⟩ = (a[k]).cells[j]? := fun j hj => (World.cell?_of_block (w := w) (a := ⟨gb, fb + (k * 5 + j), none⟩) (hg.block gb hlb (by simp))).trans (hcb k hka j hj)
      clear hg hca hcb
      generalize a[k] = x at *
      have a0 := e1 0 (by omega)
      have a1 := e1 1 (by omega)
      have a2 := e1 2 (by omega)
      have a3 := e1 3 (by omega)
      have a4 := e1 4 (by omega)
      have b0 := e2 0 (by omega)
      have b1 := e2 1 (by omega)
      have b2 := e2 2 (by omega)
      have b3 := e2 3 (by omega)
      have b4 := e2 4 (by omega)
      simp only [RT.cells, List.getElem?_cons_zero, List.getElem?_cons_succ, Nat.add_zero, ← Nat.add_assoc] at a0 a1 a2 a3 a4 b0 b1 b2 b3 b4
      clear e1 e2 hka
      go_wp2_with fail
      go_quiet (fail)
      go_wp2_with fail
      go_roundw
      case rel => exact ⟨k + 1, by omega, by go_num, grownN _ HG.out⟩
      case measure => simp [intOf]; omega
    · have hkn : na = k := by omega
      subst hkn
      clear hg
      go_wp2_with fail
      go_ret
      exact ⟨rfl, HG.out⟩
end Go.Proofs.YtkghbecfjeldcaaDoor
