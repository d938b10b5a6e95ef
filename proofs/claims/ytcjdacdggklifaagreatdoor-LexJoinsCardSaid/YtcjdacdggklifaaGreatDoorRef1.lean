/- The reference's small functions on bytes. -/
import Derived.Test.YtcjdacdggklifaaGreatDoorShort
namespace Go.Proofs.YtcjdacdggklifaaGreatDoor
open Go.RowKit

theorem u8_eq (c d : UInt8) : ((c.toNat : Int) == (d.toNat : Int)) = (c == d) := by
  rw [Bool.eq_iff_iff]; simp only [beq_iff_eq, ← UInt8.toNat_inj]; omega
theorem rLetter_any (c : UInt8) (w : World) :
    Calls Tryz.prog 70 #[.int .u8 c.toNat] w fun e w' => e = .returned (.bool (Lx.letter c)) ∧ w' = w := by
  rw [letter_eq]
  go_enter Tryz.func70, Tryz.ntmps70
  go_wp2
  all_goals go_ret
  all_goals exact ⟨ret_bool (Bool.eq_iff_iff.2 (by simp <;> omega)), rfl⟩
theorem rDigit_any (c : UInt8) (w : World) :
    Calls Tryz.prog 74 #[.int .u8 c.toNat] w fun e w' => e = .returned (.bool (Lx.digit c)) ∧ w' = w := by
  rw [digit_eq]
  go_enter Tryz.func74, Tryz.ntmps74
  go_wp2
  all_goals go_ret
  all_goals exact ⟨ret_bool (Bool.eq_iff_iff.2 (by simp <;> omega)), rfl⟩
theorem blank_eq4 (c : UInt8) : Lx.blank c = ((((c.toNat : Int) == 32) || ((c.toNat : Int) == 9)) || ((c.toNat : Int) == 10) || ((c.toNat : Int) == 13)) := by
  have h : ∀ d : UInt8, (c == d) = ((c.toNat : Int) == (d.toNat : Int)) := fun d => (u8_eq c d).symm
  have h32 := h 32
  have h9 := h 9
  have h10 := h 10
  have h13 := h 13
  unfold Lx.blank
  rw [h32, h9, h10, h13]; rfl
theorem rBlank_any (c : UInt8) (w : World) :
    Calls Tryz.prog 44 #[.int .u8 c.toNat] w fun e w' => e = .returned (.bool (Lx.blank c)) ∧ w' = w := by
  rw [blank_eq4]
  generalize c.toNat = n at *
  go_enter Tryz.func44, Tryz.ntmps44
  go_wp2
  all_goals go_ret
  all_goals exact ⟨ret_bool (Bool.eq_iff_iff.2 (by simp <;> omega)), rfl⟩

def syms : List UInt8 := [35, 36, 37, 38, 42, 43, 45, 46, 47, 60, 61, 62, 64, 92, 94, 126]
set_option maxRecDepth 100000 in
theorem rSymbol_any (c : UInt8) (w : World) :
    Calls Tryz.prog 77 #[.int .u8 c.toNat] w fun e w' => e = .returned (.bool (Lx.symb c)) ∧ w = w' := by
  have hs : Lx.symb c = syms.contains c := rfl
  rw [hs]
  obtain ⟨res, hres⟩ : ∃ r, r = syms.contains c := ⟨_, rfl⟩
  rw [← hres]
  have HR := Lib.hid hres
  clear hres hs
  go_enter Tryz.func77, Tryz.ntmps77
  go_wp2_with fail
  go_loop [4] (fun i => ∃ k : Nat, k ≤ 16 ∧ i = .int .i64 k ∧ res = (syms.drop k).contains c) (fun i => 16 - (intOf i).toNat)
  case atStart => exact ⟨0, by omega, rfl, HR.out⟩
  case round =>
    obtain ⟨k, hk, rfl, hc⟩ := hrel
    have HC := Lib.hid hc
    clear hc
    by_cases hlt : k < 16
    · have hkl : k < syms.length := hlt
      have hd : syms.drop k = syms[k] :: syms.drop (k + 1) := List.drop_eq_getElem_cons hkl
      have hi : (ByteArray.mk #[35, 36, 37, 38, 42, 43, 45, 46, 47, 60, 61, 62, 64, 92, 94, 126])[k]'hkl = syms[k] := rfl
      have hlt2 : (k : Int) < 16 := by omega
      have HD := Lib.hid hd
      clear hd
      by_cases hq : c = syms[k]
      · have hq2 : ((((ByteArray.mk #[35, 36, 37, 38, 42, 43, 45, 46, 47, 60, 61, 62, 64, 92, 94, 126])[k]'hkl).toNat : Int) == (c.toNat : Int)) = true := by rw [hi, u8_eq, hq]; simp
        have hrr : true = res := by rw [HC.out, HD.out, List.contains_cons, ← hq]; simp only [beq_self_eq_true, Bool.true_or]
        have HRR := Lib.hid hrr
        clear hrr hq hi
        go_wp2_with fail
        go_ret
        exact ⟨ret_bool HRR.out, rfl⟩
      · have hq2 : ((((ByteArray.mk #[35, 36, 37, 38, 42, 43, 45, 46, 47, 60, 61, 62, 64, 92, 94, 126])[k]'hkl).toNat : Int) == (c.toNat : Int)) = false := by rw [hi, u8_eq]; simpa using fun e => hq e.symm
        have hne : (c == syms[k]) = false := by simpa using hq
        have hrr : res = (syms.drop (k + 1)).contains c := by rw [HC.out, HD.out, List.contains_cons, hne, Bool.false_or]
        have HRR := Lib.hid hrr
        clear hrr hq hi hne
        go_wp2_with fail
        go_round
        case rel => exact ⟨k + 1, by omega, by go_num, HRR.out⟩
        case measure => simp [intOf]; omega
    · have hkn : 16 = k := by omega
      have hrr : false = res := by rw [HC.out, List.drop_eq_nil_of_le (by rw [← hkn]; decide)]; rfl
      have HRR := Lib.hid hrr
      clear hrr
      go_wp2_with fail
      go_ret
      exact ⟨ret_bool HRR.out, rfl⟩

/-- begins: a text goes on with another one at a byte. -/
theorem begins_eq (text q : ByteArray) (a : Nat) (_h : a + q.size ≤ text.size) : ((text.extract a (a + q.size)).toList == q.toList) = (bts q).isPrefixOf ((bts text).drop a) := by
  rw [ByteArray.toList_eq, ByteArray.toList_eq]
  show (bts (text.extract a (a + q.size)) == bts q) = _
  rw [bts_extract, Nat.add_sub_cancel_left, Bool.eq_iff_iff, beq_iff_eq, List.isPrefixOf_iff_prefix]
  constructor
  · intro e; rw [← e]; exact List.take_prefix _ _
  · intro e
    have := List.prefix_iff_eq_take.1 e
    rw [bts_length] at this; exact this.symm
set_option maxRecDepth 100000 in
theorem begins_any (text q : ByteArray) (a : Nat) (ha : a ≤ text.size) (hs : text.size ≤ 2000000) (hq : q.size ≤ 1000) (w : World) :
    Calls Tryz.prog 69 #[.string text, .int .i64 a, .string q] w fun e w' => e = .returned (.bool ((bts q).isPrefixOf ((bts text).drop a))) ∧ w = w' := by
  by_cases h : a + q.size ≤ text.size
  · have hb := begins_eq text q a h
    have h2 : (q.size : Int) ≤ (text.size : Int) - (a : Int) := by omega
    have h4 : (0 : Int) ≤ (a : Int) := Int.natCast_nonneg _
    rw [← hb]
    clear hb
    obtain ⟨m, hm⟩ : ∃ m, a + q.size = m := ⟨_, rfl⟩
    have h3 : (a : Int) + (q.size : Int) = (m : Int) := by omega
    have h5 : (a : Int) ≤ (m : Int) := by omega
    have h6 : (m : Int) ≤ (text.size : Int) := by omega
    have h7 : (0 : Int) ≤ (m : Int) := by omega
    rw [hm]
    clear hm h
    go_enter Tryz.func69, Tryz.ntmps69
    go_wp2
    all_goals go_ret
    all_goals exact ⟨rfl, rfl⟩
  · have h2 : ¬ ((q.size : Int) ≤ (text.size : Int) - (a : Int)) := by omega
    have hb : (bts q).isPrefixOf ((bts text).drop a) = false := by
      cases hx : (bts q).isPrefixOf ((bts text).drop a) with
      | false => rfl
      | true =>
        have := (List.isPrefixOf_iff_prefix.1 hx).length_le
        rw [List.length_drop, bts_length, bts_length] at this; omega
    rw [hb]
    clear hb h
    go_enter Tryz.func69, Tryz.ntmps69
    go_wp2
    all_goals go_ret
    all_goals exact ⟨rfl, rfl⟩
end Go.Proofs.YtcjdacdggklifaaGreatDoor
