/- The reference: name, comment. -/
import Derived.Test.YtcjdacdggklifaaGreatDoorRef1
namespace Go.Proofs.YtcjdacdggklifaaGreatDoor
open Go.RowKit

set_option maxRecDepth 100000 in
set_option maxHeartbeats 1000000 in
theorem rName_any (text : ByteArray) (a : Nat) (ha : a ≤ text.size) (hs : text.size ≤ 2000000) (w : World) :
    Calls Tryz.prog 71 #[.string text, .int .i64 a] w fun e w' => e = .returned (.int .i64 ((a + Lx.run Lx.inw ((bts text).drop a) : Nat) : Int)) ∧ w = w' := by
  obtain ⟨r, hr⟩ : ∃ r, r = a + Lx.run Lx.inw ((bts text).drop a) := ⟨_, rfl⟩
  rw [← hr]
  have HR := Lib.hid hr
  clear hr
  go_enter Tryz.func71, Tryz.ntmps71
  go_wp2_with fail
  go_loop [1] (fun i => ∃ k : Nat, k ≤ text.size ∧ i = .int .i64 k ∧ r = k + Lx.run Lx.inw ((bts text).drop k)) (fun i => text.size - (intOf i).toNat)
  case atStart => exact ⟨a, ha, rfl, HR.out⟩
  case round =>
    obtain ⟨k, hk, rfl, hc⟩ := hrel
    have HC := Lib.hid hc
    clear hc
    by_cases hlt : k < text.size
    · have hlt2 : (k : Int) < (text.size : Int) := by omega
      have e1 : Lx.run Lx.inw ((bts text).drop k) = if Lx.inw text[k] then Lx.run Lx.inw ((bts text).drop (k + 1)) + 1 else 0 := by
        rw [bts_drop text k hlt, Lx.run_cons]
      have E1 := Lib.hid e1
      clear e1
      have h39 : ((text[k].toNat : Int) == 39) = (text[k] == 39) := u8_eq text[k] 39
      have hin : Lx.inw text[k] = (Lx.letter text[k] || Lx.digit text[k] || text[k] == 39) := rfl
      rw [← h39] at hin
      have HI := Lib.hid hin
      have HL := Lib.hid (fun w => rLetter_any text[k] w)
      have HD := Lib.hid (fun w => rDigit_any text[k] w)
      clear hin h39
      cases hin : Lx.inw text[k]
      · have hr : r = k := by have h1 := HC.out; have h2 := E1.out; rw [if_neg (by rw [hin]; simp)] at h2; omega
        have HRR := Lib.hid hr
        clear hr
        have hh := HI.out
        rw [hin] at hh
        have hh2 := hh.symm
        clear hh
        simp only [Bool.or_eq_false_iff] at hh2
        obtain ⟨⟨hl, hd⟩, h3⟩ := hh2
        rw [hl] at HL
        rw [hd] at HD
        clear hin hl hd
        go_wp2_with (first | (go_at_call 70; refine (HL.out _).mono ?_; rintro e w' ⟨rfl, hw⟩; subst hw) | (go_at_call 74; refine (HD.out _).mono ?_; rintro e w' ⟨rfl, hw⟩; subst hw))
        go_ret
        exact ⟨ret_i64 (by rw [HRR.out]), rfl⟩
      · have hr : r = (k + 1) + Lx.run Lx.inw ((bts text).drop (k + 1)) := by have h1 := HC.out; have h2 := E1.out; rw [if_pos hin] at h2; omega
        have HRR := Lib.hid hr
        clear hr
        have hh := HI.out
        rw [hin] at hh
        clear hin
        cases hl : Lx.letter text[k] <;> cases hd : Lx.digit text[k] <;> cases h3 : ((text[k].toNat : Int) == 39)
        all_goals (try (rw [hl, hd, h3] at hh; cases hh; done))
        all_goals
          rw [hl] at HL
          rw [hd] at HD
          clear hh hl hd
          go_wp2_with (first | (go_at_call 70; refine (HL.out _).mono ?_; rintro e w' ⟨rfl, hw⟩; subst hw) | (go_at_call 74; refine (HD.out _).mono ?_; rintro e w' ⟨rfl, hw⟩; subst hw))
          go_round
          case rel => exact ⟨k + 1, by omega, by go_num, HRR.out⟩
          case measure => simp [intOf]; omega
    · have hr : r = k := by have h1 := HC.out; rw [bts_nil text k (by omega)] at h1; exact h1
      have HRR := Lib.hid hr
      clear hr
      go_wp2_with fail
      go_ret
      exact ⟨ret_i64 (by rw [HRR.out]), rfl⟩

theorem opens_pre (l : Lx.Bs) : (bts ⟨#[40, 42]⟩).isPrefixOf l = Lx.opens l := by
  have h := pfx_open (ofB l) 0
  rw [pfx_end, bts_ofB, List.drop_zero] at h; exact h
theorem closes_pre (l : Lx.Bs) : (bts ⟨#[42, 41]⟩).isPrefixOf l = Lx.closes l := by
  have h := pfx_close (ofB l) 0
  rw [pfx_end, bts_ofB, List.drop_zero] at h; exact h
/-- What R.comment hands back. -/
def comR (a : Nat) : Option Nat → Int
  | some n => ((a + n : Nat) : Int)
  | none => -1
set_option maxRecDepth 100000 in
set_option maxHeartbeats 1000000 in
theorem rComment_any (text : ByteArray) (a : Nat) (ha : a ≤ text.size) (hs : text.size ≤ 2000000) (ho : Lx.opens ((bts text).drop a) = true) (w : World) :
    Calls Tryz.prog 45 #[.string text, .int .i64 a] w fun e w' => e = .returned (.int .i64 (comR a (Lx.comm 0 ((bts text).drop a)))) ∧ w = w' := by
  obtain ⟨r, hr⟩ : ∃ r, r = comR a (Lx.comm 0 ((bts text).drop a)) := ⟨_, rfl⟩
  rw [← hr]
  have HR := Lib.hid (And.intro hr ho)
  clear hr ho
  go_enter Tryz.func45, Tryz.ntmps45
  go_wp2_with fail
  go_loop [1, 5] (fun i d => ∃ k dd : Nat, k ≤ text.size ∧ dd ≤ text.size ∧ i = .int .i64 k ∧ d = .int .i64 dd ∧ ((dd = 0 ∧ k = a) ∨ (1 ≤ dd ∧ dd ≤ k)) ∧ r = comR k (Lx.comm dd ((bts text).drop k))) (fun i _ => text.size - (intOf i).toNat)
  case atStart => exact ⟨a, 0, ha, by omega, rfl, rfl, .inl ⟨rfl, rfl⟩, HR.out.1⟩
  case round =>
    obtain ⟨k, dd, hk, hdd, rfl, rfl, hcase, hc⟩ := hrel
    have HC := Lib.hid hc
    clear hc
    by_cases hlt : k < text.size
    · have hlt2 : (k : Int) < (text.size : Int) := by omega
      have hb1 := fun w => begins_any text ⟨#[40, 42]⟩ k (by omega) hs (by decide) w
      have hb2 := fun w => begins_any text ⟨#[42, 41]⟩ k (by omega) hs (by decide) w
      rw [opens_pre] at hb1
      rw [closes_pre] at hb2
      have B1 := Lib.hid hb1
      have B2 := Lib.hid hb2
      clear hb1 hb2
      cases hop : Lx.opens ((bts text).drop k) with
      | true =>
        rw [hop] at B1
        obtain ⟨q, hq⟩ := (Lx.opens_iff _).1 hop
        have hql : k + 2 ≤ text.size := by
          have := congrArg List.length hq; rw [List.length_drop, bts_length] at this; simp at this; omega
        have hrr : r = comR (k + 2) (Lx.comm (dd + 1) ((bts text).drop (k + 2))) := by
          have h1 := HC.out
          rw [hq, Lx.comm_open] at h1
          rw [h1, ← List.drop_drop, hq]
          show _ = comR (k + 2) (Lx.comm (dd + 1) q)
          cases Lx.comm (dd + 1) q with
          | none => rfl
          | some n => simp only [Option.map_some, comR]; omega
        have HRR := Lib.hid hrr
        have hne : (((dd : Int) + 1) == 0) = false := by rw [beq_eq_false_iff_ne]; omega
        clear hrr hq hop
        go_wp2_with (go_at_call 69; refine (B1.out _).mono ?_; rintro e w' ⟨rfl, rfl⟩)
        go_round
        case rel => exact ⟨k + 2, dd + 1, hql, by omega, by go_num, by go_num, .inr ⟨by omega, by omega⟩, HRR.out⟩
        case measure => simp [intOf]; omega
      | false =>
        rw [hop] at B1
        have hd1 : 1 ≤ dd ∧ dd ≤ k := by
          rcases hcase with ⟨_, rfl⟩ | h
          · rw [HR.out.2] at hop; cases hop
          · exact h
        clear hcase
        have hdn : ¬ dd = 0 := by omega
        cases hcl : Lx.closes ((bts text).drop k) with
        | true =>
          rw [hcl] at B2
          obtain ⟨q, hq⟩ := (Lx.closes_iff _).1 hcl
          have hql : k + 2 ≤ text.size := by
            have := congrArg List.length hq; rw [List.length_drop, bts_length] at this; simp at this; omega
          by_cases hd2 : dd = 1
          · subst hd2
            have hrr : r = ((k + 2 : Nat) : Int) := by
              have h1 := HC.out
              rw [hq, Lx.comm_close1] at h1; exact h1
            have HRR := Lib.hid hrr
            clear hrr hq hop hcl hd1 hdn
            go_wp2_with (go_at_call 69; first | (with_reducible refine (B1.out _).mono ?_; rintro e w' ⟨rfl, rfl⟩) | (with_reducible refine (B2.out _).mono ?_; rintro e w' ⟨rfl, rfl⟩))
            go_ret
            exact ⟨ret_i64 (by rw [HRR.out]; omega), rfl⟩
          · have hrr : r = comR (k + 2) (Lx.comm (dd - 1) ((bts text).drop (k + 2))) := by
              have h1 := HC.out
              rw [hq, Lx.comm_close dd hd2] at h1
              rw [h1, ← List.drop_drop, hq]
              show _ = comR (k + 2) (Lx.comm (dd - 1) q)
              cases Lx.comm (dd - 1) q with
              | none => rfl
              | some n => simp only [Option.map_some, comR]; omega
            have HRR := Lib.hid hrr
            have hne : (((dd : Int) - 1) == 0) = false := by rw [beq_eq_false_iff_ne]; omega
            clear hrr hq hop hcl
            go_wp2_with (go_at_call 69; first | (with_reducible refine (B1.out _).mono ?_; rintro e w' ⟨rfl, rfl⟩) | (with_reducible refine (B2.out _).mono ?_; rintro e w' ⟨rfl, rfl⟩))
            go_round
            case rel => exact ⟨k + 2, dd - 1, hql, by omega, by go_num, by rw [show (dd : Int) - 1 = ((dd - 1 : Nat) : Int) from by omega], .inr ⟨by omega, by omega⟩, HRR.out⟩
            case measure => simp [intOf]; omega
        | false =>
          rw [hcl] at B2
          have hrr : r = comR (k + 1) (Lx.comm dd ((bts text).drop (k + 1))) := by
            have h1 := HC.out
            have hq := bts_drop text k hlt
            rw [hq] at hop hcl
            rw [h1, hq, Lx.comm_other dd _ _ hop hcl]
            cases Lx.comm dd ((bts text).drop (k + 1)) with
            | none => rfl
            | some n => simp only [Option.map_some, comR]; omega
          have HRR := Lib.hid hrr
          have hne : ((dd : Int) == 0) = false := by rw [beq_eq_false_iff_ne]; omega
          clear hrr hop hcl
          go_wp2_with (go_at_call 69; first | (with_reducible refine (B1.out _).mono ?_; rintro e w' ⟨rfl, rfl⟩) | (with_reducible refine (B2.out _).mono ?_; rintro e w' ⟨rfl, rfl⟩))
          go_round
          case rel => exact ⟨k + 1, dd, by omega, by omega, by go_num, rfl, .inr ⟨by omega, by omega⟩, HRR.out⟩
          case measure => simp [intOf]; omega
    · have hrr : r = -1 := by rw [HC.out, bts_nil text k (by omega), Lx.comm_nil]; rfl
      have HRR := Lib.hid hrr
      clear hrr hcase
      go_wp2_with fail
      go_ret
      exact ⟨ret_i64 HRR.out.symm, rfl⟩
end Go.Proofs.YtcjdacdggklifaaGreatDoor
