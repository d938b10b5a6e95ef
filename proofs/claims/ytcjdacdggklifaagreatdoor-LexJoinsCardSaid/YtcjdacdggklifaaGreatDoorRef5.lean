/- The reference: Skip. -/
import Derived.Test.YtcjdacdggklifaaGreatDoorRef4
namespace Go.Proofs.YtcjdacdggklifaaGreatDoor
open Go.RowKit

theorem comR_some (a n : Nat) : comR a (some n) = ((a + n : Nat) : Int) := rfl
theorem comR_none (a : Nat) : comR a none = -1 := rfl
/-- What R.Skip hands back. -/
def SkipR (text : ByteArray) (a : Nat) (e : Ending) : Prop := ∃ k, a ≤ k ∧ k ≤ text.size ∧ Lx.T ((bts text).drop a) a = Lx.T ((bts text).drop k) k ∧
  ((e = .returned (.tuple #[.int .i64 k, .bool true]) ∧ (k = text.size ∨ (Lx.kd ((bts text).drop k) ≠ .blank ∧ Lx.kd ((bts text).drop k) ≠ .comm))) ∨
   (e = .returned (.tuple #[.int .i64 k, .bool false]) ∧ k < text.size ∧ Lx.T ((bts text).drop k) k = .bad k))
set_option maxRecDepth 100000 in
set_option maxHeartbeats 1000000 in
theorem rSkip_any (text : ByteArray) (a : Nat) (ha : a ≤ text.size) (hs : text.size ≤ 2000000) (w : World) :
    Calls Tryz.prog 48 #[.string text, .int .i64 a] w fun e w' => SkipR text a e ∧ w = w' := by
  obtain ⟨P, hP⟩ : ∃ P, P = SkipR text a := ⟨_, rfl⟩
  rw [← hP]
  have HP := Lib.hid hP
  clear hP
  go_enter Tryz.func48, Tryz.ntmps48
  go_wp2_with fail
  go_loop [1] (fun i => ∃ k : Nat, a ≤ k ∧ k ≤ text.size ∧ i = .int .i64 k ∧ Lx.T ((bts text).drop a) a = Lx.T ((bts text).drop k) k) (fun i => text.size - (intOf i).toNat)
  case atStart => exact ⟨a, Nat.le_refl _, ha, rfl, rfl⟩
  case round =>
    obtain ⟨k, hak, hk, rfl, hT⟩ := hrel
    have HT := Lib.hid hT
    clear hT
    by_cases hlt : k < text.size
    · have hlt2 : (k : Int) < (text.size : Int) := by omega
      have hd := bts_drop text k hlt
      have HBL := Lib.hid (fun w => rBlank_any text[k] w)
      cases hb : Lx.blank text[k]
      · have hb1 := fun w => begins_any text ⟨#[40, 42]⟩ k (by omega) hs (by decide) w
        rw [opens_pre] at hb1
        have B1 := Lib.hid hb1
        clear hb1
        rw [hb] at HBL
        have hkb : Lx.kd ((bts text).drop k) ≠ .blank := by
          intro e; obtain ⟨c, r, h1, h2⟩ := (Lx.kd_blank_iff _).1 e; rw [hd] at h1; cases h1; rw [hb] at h2; cases h2
        cases ho : Lx.opens ((bts text).drop k)
        · rw [ho] at B1
          have hkc : Lx.kd ((bts text).drop k) ≠ .comm := by
            rw [hd] at ho ⊢
            rw [kd_cons, hb, ho]
            cases Lx.letter text[k] <;> cases Lx.digit text[k] <;> cases Lx.symb text[k] <;> simp
          have hp : P (.returned (.tuple #[.int .i64 k, .bool true])) := by rw [HP.out]; exact ⟨k, hak, hk, HT.out, .inl ⟨rfl, .inr ⟨hkb, hkc⟩⟩⟩
          have HPP := Lib.hid hp
          clear hp hkb hkc ho hd hb
          go_wp2_with (first | (go_at_call 44; refine (HBL.out _).mono ?_; rintro e w' ⟨rfl, hw⟩; subst hw) | (go_at_call 69; refine (B1.out _).mono ?_; rintro e w' ⟨rfl, rfl⟩))
          go_ret2
          exact ⟨HPP.out, rfl⟩
        · rw [ho] at B1
          have hkd := Lx.kd_comm ho
          have HCM := Lib.hid (fun w => rComment_any text k hk hs ho w)
          cases hcm : Lx.comm 0 ((bts text).drop k) with
          | none =>
            have hbad : Lx.step ((bts text).drop k) = .bad := by unfold Lx.step; rw [hkd]; simp only [hcm]
            have hTb : Lx.T ((bts text).drop k) k = .bad k := Lx.T_bad (by rw [hd]; simp) hbad
            have hp : P (.returned (.tuple #[.int .i64 k, .bool false])) := by rw [HP.out]; exact ⟨k, hak, hk, HT.out, .inr ⟨rfl, hlt, hTb⟩⟩
            have HPP := Lib.hid hp
            rw [hcm, comR_none] at HCM
            clear hp hkb hkd ho hd hb hcm hbad hTb
            go_wp2_with (first | (go_at_call 44; refine (HBL.out _).mono ?_; rintro e w' ⟨rfl, hw⟩; subst hw) | (go_at_call 69; refine (B1.out _).mono ?_; rintro e w' ⟨rfl, rfl⟩) | (go_at_call 45; refine (HCM.out _).mono ?_; rintro e w' ⟨rfl, rfl⟩))
            go_ret2
            exact ⟨HPP.out, rfl⟩
          | some n =>
            have hfl : Lx.step ((bts text).drop k) = .fill n := Lx.step_fill_iff.2 (.inr ⟨hkd, hcm⟩)
            have hn := Lx.step_fill hfl
            rw [List.length_drop, bts_length] at hn
            have hTn : Lx.T ((bts text).drop a) a = Lx.T ((bts text).drop (k + n)) (k + n) := by rw [HT.out, Lx.T_fill hfl, List.drop_drop]
            have HTN := Lib.hid hTn
            rw [hcm, comR_some] at HCM
            obtain ⟨q, hq⟩ : ∃ q, k + n = q := ⟨_, rfl⟩
            rw [hq] at HCM HTN
            have hq0 : ¬ ((q : Int) < 0) := by omega
            have hq1 : k < q ∧ q ≤ text.size := by omega
            have HQ := Lib.hid hq1
            clear hkb hkd ho hd hb hcm hfl hTn hq hn hq1
            go_wp2_with (first | (go_at_call 44; refine (HBL.out _).mono ?_; rintro e w' ⟨rfl, hw⟩; subst hw) | (go_at_call 69; refine (B1.out _).mono ?_; rintro e w' ⟨rfl, rfl⟩) | (go_at_call 45; refine (HCM.out _).mono ?_; rintro e w' ⟨rfl, rfl⟩))
            go_round
            case rel => exact ⟨q, by have := HQ.out; omega, HQ.out.2, by go_num, HTN.out⟩
            case measure => have := HQ.out; simp [intOf]; omega
      · rw [hb] at HBL
        have hfl : Lx.step ((bts text).drop k) = .fill 1 := by rw [hd]; unfold Lx.step; rw [Lx.kd_blank hb]
        have hTn : Lx.T ((bts text).drop a) a = Lx.T ((bts text).drop (k + 1)) (k + 1) := by rw [HT.out, Lx.T_fill hfl, List.drop_drop]
        have HTN := Lib.hid hTn
        clear hfl hTn hd hb
        go_wp2_with (go_at_call 44; refine (HBL.out _).mono ?_; rintro e w' ⟨rfl, hw⟩; subst hw)
        go_round
        case rel => exact ⟨k + 1, by omega, by omega, by go_num, HTN.out⟩
        case measure => simp [intOf]; omega
    · have hkn : k = text.size := by omega
      have hp : P (.returned (.tuple #[.int .i64 k, .bool true])) := by rw [HP.out]; exact ⟨k, hak, hk, HT.out, .inl ⟨rfl, .inl hkn⟩⟩
      have HPP := Lib.hid hp
      clear hp hkn
      go_wp2_with fail
      go_ret2
      exact ⟨HPP.out, rfl⟩
end Go.Proofs.YtcjdacdggklifaaGreatDoor
