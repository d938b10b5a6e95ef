/- like. -/
import Derived.Test.YtcjdacdggklifaaGreatDoorShort
namespace Go.Proofs.YtcjdacdggklifaaGreatDoor
open Go.RowKit

set_option maxRecDepth 100000 in
theorem Like_any (a b : RT) (w : World) : Calls Tryz.prog 47 #[a.v, b.v] w fun e w' => e = .returned (.bool (alikeB a b)) ∧ w.grownBy w' none := by
  obtain ⟨ak, an, a1, aa, af⟩ := a
  obtain ⟨bk, bn, b1, ba, bf⟩ := b
  simp only [RT.v, alikeB]
  go_enter Tryz.func47, Tryz.ntmps47
  go_wp2
  all_goals go_ret
  all_goals exact ⟨ret_bool (by simp_all), grown_trans (World.grownBy_alloc _ _ _) (World.grownBy_alloc _ _ _)⟩

/-- A slice value that holds these tokens. -/
def TokV (w : World) (o : Option Addr) (rs : List RT) : Prop :=
  rs.length ≠ 0 → ∃ g off, o = some ⟨g, off, none⟩ ∧ g < w.heap.size ∧ ∀ i (h : i < rs.length) j, j < 5 → w.cell? ⟨g, off + (i * 5 + j), none⟩ = (rs[i]).cells[j]?
theorem TokV.kept {w w' : World} {o : Option Addr} {rs : List RT} (h : TokV w o rs) (hg : w.grownBy w' none) : TokV w' o rs := fun hn => by
  obtain ⟨g, off, rfl, hl, hc⟩ := h hn
  exact ⟨g, off, rfl, Nat.lt_of_lt_of_le hl hg.size, fun i hi j hj => (World.cell?_of_block (w := w) (a := ⟨g, off + (i * 5 + j), none⟩) (hg.block g hl (by simp))).trans (hc i hi j hj)⟩

set_option maxRecDepth 100000 in
set_option maxHeartbeats 1000000 in
theorem like_any (a b : List RT) (oa ob : Option Addr) (ca cb na nb : Nat) (w : World) (hna : a.length = na) (hnb : b.length = nb) (ha : TokV w oa a) (hb : TokV w ob b) (hn : na ≤ 100000) :
    Calls Tryz.prog 23 #[.slice oa na ca, .slice ob nb cb] w fun e w' => e = .returned (.bool (likes a b)) ∧ w.grownBy w' none := by
  obtain ⟨res, hres⟩ : ∃ r, r = likes a b := ⟨_, rfl⟩
  rw [← hres]
  have H := Lib.hid (And.intro hres (And.intro hna (And.intro hnb (And.intro ha hb))))
  by_cases hlen : na = nb
  · subst hlen
    clear hres hna hnb ha hb
    go_enter Tryz.func23, Tryz.ntmps23
    go_wp2_with fail
    go_loopw [13] (fun v wr => ∃ k : Nat, k ≤ na ∧ v = .int .i64 k ∧ w.grownBy wr none ∧ res = likes (a.drop k) (b.drop k)) (fun v _ => na - (intOf v).toNat)
    case atStart => exact ⟨0, by omega, rfl, grownZ _ _, by rw [List.drop_zero, List.drop_zero]; exact H.out.1⟩
    case round =>
      obtain ⟨k, hk, rfl, hg, hr⟩ := hrel
      have HG := Lib.hid hg
      have HRK := Lib.hid hr
      clear hr
      by_cases hlt : k < na
      · have hka : k < a.length := by have := H.out.2.1; omega
        have hkb : k < b.length := by have := H.out.2.2.1; omega
        obtain ⟨ga, fa, rfl, hla, hca⟩ := H.out.2.2.2.1 (by omega)
        obtain ⟨gb, fb, rfl, hlb, hcb⟩ := H.out.2.2.2.2 (by omega)
        have e1 : ∀ j, j < 5 → wr.cell? ⟨ga, fa + (k * 5 + j), none⟩ = (a[k]).cells[j]? := fun j hj => (World.cell?_of_block (w := w) (a := ⟨ga, fa + (k * 5 + j), none⟩) (hg.block ga hla (by simp))).trans (hca k hka j hj)
        have e2 : ∀ j, j < 5 → wr.cell? ⟨gb, fb + (k * 5 + j), none⟩ = (b[k]).cells[j]? := fun j hj => (World.cell?_of_block (w := w) (a := ⟨gb, fb + (k * 5 + j), none⟩) (hg.block gb hlb (by simp))).trans (hcb k hkb j hj)
        have hst := likes_step a b (by have := H.out.2.1; have := H.out.2.2.1; omega) k hka hkb
        have HST := Lib.hid hst
        have hlk := Like_any a[k] b[k] wr.drew
        clear hst hg hca hcb
        generalize a[k] = x at *
        generalize b[k] = y at *
        have HLK := Lib.hid hlk
        clear hlk
        have a0 := e1 0 (by omega)
        have a1 := e1 1 (by omega)
        have a2 := e1 2 (by omega)
        have a3 := e1 3 (by omega)
        have a4 := e1 4 (by omega)
        have b0 := e2 0 (by omega)
        have b1 := e2 1 (by omega)
        have b2 := e2 2 (by omega)
        have b3 := e2 3 (by omega)
        have b4 := e2 4 (by omega)
        simp only [RT.cells, List.getElem?_cons_zero, List.getElem?_cons_succ, Nat.add_zero, ← Nat.add_assoc] at a0 a1 a2 a3 a4 b0 b1 b2 b3 b4
        clear e1 e2 hka hkb
        go_wp2_with fail
        go_still_tail 8, (by kernel_rfl)
        change wpList _ _ _ _ _ wr.drew
        go_wp2_with fail
        refine HLK.out.mono ?_
        rintro e w3 ⟨rfl, hg3⟩
        have HG3 := Lib.hid (grown_trans HG.out (⟨hg3.os, hg3.tape, hg3.output, hg3.size, hg3.block⟩ : wr.grownBy w3 none))
        clear hg3 a0 a1 a2 a3 a4 b0 b1 b2 b3 b4
        cases hal : alikeB x y
        · go_wp2_with fail
          go_ret
          exact ⟨ret_bool (by rw [HRK.out, HST.out, hal]; rfl), HG3.out⟩
        · go_wp2_with fail
          go_roundw
          case rel => exact ⟨k + 1, by omega, by go_num, HG3.out, by rw [HRK.out, HST.out, hal]; rfl⟩
          case measure => simp [intOf]; omega
      · have hkn : na = k := by omega
        subst hkn
        go_wp2_with fail
        go_ret
        exact ⟨ret_bool (by rw [HRK.out, List.drop_eq_nil_of_le (by have := H.out.2.1; omega), List.drop_eq_nil_of_le (by have := H.out.2.2.1; omega)]; rfl), HG.out⟩
  · have hl2 : ((na : Int) == (nb : Int)) = false := by rw [beq_eq_false_iff_ne]; omega
    have hr : false = res := by
      rw [hres]
      cases hk : likes a b with
      | false => rfl
      | true => exact absurd (likes_len _ _ hk) (by omega)
    have HFR := Lib.hid hr
    clear hres hna hnb ha hb hr
    go_enter Tryz.func23, Tryz.ntmps23
    go_wp2_with fail
    go_ret
    exact ⟨ret_bool HFR.out, grownZ _ _⟩
end Go.Proofs.YtcjdacdggklifaaGreatDoor
