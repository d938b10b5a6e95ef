/- Edits: rows of tokens that are compared: the reference's Same, slices.Equal. -/
import Derived.Test.YtkghbecfjeldcaaDoorChg3
namespace Go.Proofs.YtkghbecfjeldcaaDoor
open Go.RowKit

/-- Rows of tokens that are equal. -/
def eqs : List RT → List RT → Bool
  | [], [] => true
  | a :: l, b :: m => eqRT a b && eqs l m
  | _, _ => false
theorem eqs_iff : ∀ a b : List RT, eqs a b = true ↔ a = b
  | [], [] => by simp [eqs]
  | a :: l, b :: m => by simp [eqs, eqRT_iff, eqs_iff l m]
  | [], _ :: _ => by simp [eqs]
  | _ :: _, [] => by simp [eqs]
theorem eqs_step (a b : List RT) (k : Nat) (ha : k < a.length) (hb : k < b.length) : eqs (a.drop k) (b.drop k) = (eqRT a[k] b[k] && eqs (a.drop (k + 1)) (b.drop (k + 1))) := by
  rw [List.drop_eq_getElem_cons ha, List.drop_eq_getElem_cons hb]; rfl

set_option maxRecDepth 100000 in
set_option maxHeartbeats 1000000 in
theorem sameG_any (a b : List RT) (oa ob : Option Addr) (ca cb na nb : Nat) (w : World) (hna : a.length = na) (hnb : b.length = nb) (ha : TokV w oa a) (hb : TokV w ob b) (hn : na ≤ 100000) :
    Calls Tryd.prog 21 #[.slice oa na ca, .slice ob nb cb] w fun e w' => e = .returned (.bool (eqs a b)) ∧ w.grownBy w' none := by
  obtain ⟨res, hres⟩ : ∃ r, r = eqs a b := ⟨_, rfl⟩
  rw [← hres]
  have H := Lib.hid (And.intro hres (And.intro hna (And.intro hnb (And.intro ha hb))))
  by_cases hlen : na = nb
  · subst hlen
    clear hres hna hnb ha hb
    go_enter Tryd.func21, Tryd.ntmps21
    go_wp2_with fail
    go_loopw [5] (fun v wr => ∃ k : Nat, k ≤ na ∧ v = .int .i64 k ∧ w.grownBy wr none ∧ res = eqs (a.drop k) (b.drop k)) (fun v _ => na - (intOf v).toNat)
    case atStart => exact ⟨0, by omega, rfl, grownZ _ _, H.out.1⟩
    case round =>
      obtain ⟨k, hk, rfl, hg, hr⟩ := hrel
      have HG := Lib.hid hg
      have HRK := Lib.hid hr
      clear hr
      by_cases hlt : k < na
      · have hka : k < a.length := by have := H.out.2.1; omega
        have hkb : k < b.length := by have := H.out.2.2.1; omega
        obtain ⟨ga, fa, rfl, hla, hca⟩ := H.out.2.2.2.1 (by omega)
        obtain ⟨gb, fb, rfl, hlb, hcb⟩ := H.out.2.2.2.2 (by omega)
        have e1 : ∀ j, j < 5 → wr.cell? ⟨ga, fa + (k * 5 + j), none⟩ = (a[k]).cells[j]? := fun j hj => (World.cell?_of_block (w := w) (a := ⟨ga, fa + (k * 5 + j), none⟩) (hg.block ga hla (by simp))).trans (hca k hka j hj)
        have e2 : ∀ j, j < 5 → wr.cell? ⟨gb, fb + (k * 5 + j), none⟩ = (b[k]).cells[j]? := fun j hj => (World.cell?_of_block (w := w) (a := ⟨gb, fb + (k * 5 + j), none⟩) (hg.block gb hlb (by simp))).trans (hcb k hkb j hj)
        have hst := eqs_step a b k hka hkb
        have HST := Lib.hid hst
        clear hst hg hca hcb
        generalize a[k] = x at *
        generalize b[k] = y at *
        have hneq := fun w => tok_neq x y w
        simp only [RT.v] at hneq
        have a0 := e1 0 (by omega)
        have a1 := e1 1 (by omega)
        have a2 := e1 2 (by omega)
        have a3 := e1 3 (by omega)
        have a4 := e1 4 (by omega)
        have b0 := e2 0 (by omega)
        have b1 := e2 1 (by omega)
        have b2 := e2 2 (by omega)
        have b3 := e2 3 (by omega)
        have b4 := e2 4 (by omega)
        simp only [RT.cells, List.getElem?_cons_zero, List.getElem?_cons_succ, Nat.add_zero, ← Nat.add_assoc] at a0 a1 a2 a3 a4 b0 b1 b2 b3 b4
        clear e1 e2 hka hkb
        cases hal : eqRT x y
        · rw [hal] at hneq
          go_wp2_with fail
          go_quiet (fail)
          go_wp2_with fail
          go_ret
          exact ⟨ret_bool (by rw [HRK.out, HST.out, hal]; rfl), grownN _ HG.out⟩
        · rw [hal] at hneq
          go_wp2_with fail
          go_quiet (fail)
          go_wp2_with fail
          go_roundw
          case rel => exact ⟨k + 1, by omega, by go_num, grownN _ HG.out, by rw [HRK.out, HST.out, hal]; rfl⟩
          case measure => simp [intOf]; omega
      · have hkn : na = k := by omega
        subst hkn
        go_wp2_with fail
        go_ret
        exact ⟨ret_bool (by rw [HRK.out, List.drop_eq_nil_of_le (by have := H.out.2.1; omega), List.drop_eq_nil_of_le (by have := H.out.2.2.1; omega)]; rfl), HG.out⟩
  · have hl2 : ((na : Int) == (nb : Int)) = false := by rw [beq_eq_false_iff_ne]; omega
    have hr : false = res := by
      rw [hres]
      cases hk : eqs a b with
      | false => rfl
      | true => have := (eqs_iff a b).1 hk; rw [this] at hna; omega
    have HFR := Lib.hid hr
    clear hres hna hnb ha hb hr
    go_enter Tryd.func21, Tryd.ntmps21
    go_wp2_with fail
    go_ret
    exact ⟨ret_bool HFR.out, grownZ _ _⟩
set_option maxRecDepth 100000 in
set_option maxHeartbeats 1000000 in
theorem equal_any (a b : List RT) (oa ob : Option Addr) (ca cb na nb : Nat) (w : World) (hna : a.length = na) (hnb : b.length = nb) (ha : TokV w oa a) (hb : TokV w ob b) (hn : na ≤ 100000) :
    Calls Tryd.prog 39 #[.slice oa na ca, .slice ob nb cb] w fun e w' => e = .returned (.bool (eqs a b)) ∧ w.grownBy w' none := by
  obtain ⟨res, hres⟩ : ∃ r, r = eqs a b := ⟨_, rfl⟩
  rw [← hres]
  have H := Lib.hid (And.intro hres (And.intro hna (And.intro hnb (And.intro ha hb))))
  by_cases hlen : na = nb
  · subst hlen
    clear hres hna hnb ha hb
    go_enter Tryd.func39, Tryd.ntmps39
    go_wp2_with fail
    go_loopw [13] (fun v wr => ∃ k : Nat, k ≤ na ∧ v = .int .i64 k ∧ w.grownBy wr none ∧ res = eqs (a.drop k) (b.drop k)) (fun v _ => na - (intOf v).toNat)
    case atStart => exact ⟨0, by omega, rfl, grownZ _ _, H.out.1⟩
    case round =>
      obtain ⟨k, hk, rfl, hg, hr⟩ := hrel
      have HG := Lib.hid hg
      have HRK := Lib.hid hr
      clear hr
      by_cases hlt : k < na
      · have hka : k < a.length := by have := H.out.2.1; omega
        have hkb : k < b.length := by have := H.out.2.2.1; omega
        obtain ⟨ga, fa, rfl, hla, hca⟩ := H.out.2.2.2.1 (by omega)
        obtain ⟨gb, fb, rfl, hlb, hcb⟩ := H.out.2.2.2.2 (by omega)
        have e1 : ∀ j, j < 5 → wr.cell? ⟨ga, fa + (k * 5 + j), none⟩ = (a[k]).cells[j]? := fun j hj => (World.cell?_of_block (w := w) (a := ⟨ga, fa + (k * 5 + j), none⟩) (hg.block ga hla (by simp))).trans (hca k hka j hj)
        have e2 : ∀ j, j < 5 → wr.cell? ⟨gb, fb + (k * 5 + j), none⟩ = (b[k]).cells[j]? := fun j hj => (World.cell?_of_block (w := w) (a := ⟨gb, fb + (k * 5 + j), none⟩) (hg.block gb hlb (by simp))).trans (hcb k hkb j hj)
        have hst := eqs_step a b k hka hkb
        have HST := Lib.hid hst
        clear hst hg hca hcb
        generalize a[k] = x at *
        generalize b[k] = y at *
        have hneq := fun w => tok_neq x y w
        simp only [RT.v] at hneq
        have a0 := e1 0 (by omega)
        have a1 := e1 1 (by omega)
        have a2 := e1 2 (by omega)
        have a3 := e1 3 (by omega)
        have a4 := e1 4 (by omega)
        have b0 := e2 0 (by omega)
        have b1 := e2 1 (by omega)
        have b2 := e2 2 (by omega)
        have b3 := e2 3 (by omega)
        have b4 := e2 4 (by omega)
        simp only [RT.cells, List.getElem?_cons_zero, List.getElem?_cons_succ, Nat.add_zero, ← Nat.add_assoc] at a0 a1 a2 a3 a4 b0 b1 b2 b3 b4
        clear e1 e2 hka hkb
        cases hal : eqRT x y
        · rw [hal] at hneq
          go_wp2_with fail
          go_quiet (fail)
          go_wp2_with fail
          go_ret
          exact ⟨ret_bool (by rw [HRK.out, HST.out, hal]; rfl), grownN _ HG.out⟩
        · rw [hal] at hneq
          go_wp2_with fail
          go_quiet (fail)
          go_wp2_with fail
          go_roundw
          case rel => exact ⟨k + 1, by omega, by go_num, grownN _ HG.out, by rw [HRK.out, HST.out, hal]; rfl⟩
          case measure => simp [intOf]; omega
      · have hkn : na = k := by omega
        subst hkn
        go_wp2_with fail
        go_ret
        exact ⟨ret_bool (by rw [HRK.out, List.drop_eq_nil_of_le (by have := H.out.2.1; omega), List.drop_eq_nil_of_le (by have := H.out.2.2.1; omega)]; rfl), HG.out⟩
  · have hl2 : ((na : Int) == (nb : Int)) = false := by rw [beq_eq_false_iff_ne]; omega
    have hr : false = res := by
      rw [hres]
      cases hk : eqs a b with
      | false => rfl
      | true => have := (eqs_iff a b).1 hk; rw [this] at hna; omega
    have HFR := Lib.hid hr
    clear hres hna hnb ha hb hr
    go_enter Tryd.func39, Tryd.ntmps39
    go_wp2_with fail
    go_ret
    exact ⟨ret_bool HFR.out, grownZ _ _⟩
end Go.Proofs.YtkghbecfjeldcaaDoor
