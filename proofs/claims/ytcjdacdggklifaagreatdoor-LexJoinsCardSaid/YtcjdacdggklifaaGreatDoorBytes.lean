/- The bytes' kinds: what the small functions on bytes return. -/
import Derived.Test.YtcjdacdggklifaaGreatDoorPure
import Derived.Test.YtcjdacdggklifaaGreatDoorShelf
import Derived.WalkKit
import Derived.WalkLawsBesides
namespace Go.Proofs.YtcjdacdggklifaaGreatDoor
open Go.RowKit

theorem ret_bool {a b : Bool} (h : a = b) : Ending.returned (.bool a) = .returned (.bool b) := by rw [h]
theorem ret_i64 {a b : Int} (h : a = b) : Ending.returned (.int .i64 a) = .returned (.int .i64 b) := by rw [h]

theorem indexByte_mem (l : List UInt8) (c : UInt8) : decide (0 ≤ Lib.indexByte l c) = l.contains c := by
  induction l with
  | nil => rfl
  | cons b l ih =>
    have hge := Lib.indexByte_ge l c
    unfold Lib.indexByte
    rw [List.contains_cons, ← ih]
    by_cases h : b = c
    · subst h; simp
    · have h' : (c == b) = false := by simp; exact fun e => h e.symm
      rw [h', if_neg (by simpa using h)]
      by_cases h2 : Lib.indexByte l c = -1
      · simp [h2]
      · rw [if_neg (by simpa using h2)]
        simp; omega
theorem blank_eq (c : UInt8) : [32, 9, 10, 13].contains c = Lx.blank c := by
  rw [Bool.eq_iff_iff]; simp [Lx.blank, or_assoc]
theorem u8_le (a c : UInt8) : decide ((a.toNat : Int) ≤ (c.toNat : Int)) = decide (a ≤ c) := by
  simp [UInt8.le_iff_toNat_le]
theorem digit_eq (c : UInt8) : Lx.digit c = (decide ((48 : Int) ≤ (c.toNat : Int)) && decide ((c.toNat : Int) ≤ 57)) := by
  unfold Lx.digit; rw [← u8_le, ← u8_le]; rfl
theorem letter_eq (c : UInt8) : Lx.letter c = ((decide ((97 : Int) ≤ (c.toNat : Int)) && decide ((c.toNat : Int) ≤ 122)) || (decide ((65 : Int) ≤ (c.toNat : Int)) && decide ((c.toNat : Int) ≤ 90))) := by
  unfold Lx.letter; rw [← u8_le, ← u8_le, ← u8_le, ← u8_le]; rfl

theorem isBlank_any (c : UInt8) (w : World) :
    Calls Tryz.prog 88 #[.int .u8 c.toNat] w fun e w' => e = .returned (.bool (Lx.blank c)) ∧ w' = w := by
  go_enter Tryz.func88, Tryz.ntmps88
  go_wp2_with (go_at_call 104; refine (Tryz.strings_IndexByte _ _ _).mono ?_; rintro e w' ⟨rfl, rfl⟩)
  go_ret
  exact ⟨ret_bool (by rw [← blank_eq, ← indexByte_mem]), rfl⟩

theorem isSymbol_any (c : UInt8) (w : World) :
    Calls Tryz.prog 95 #[.int .u8 c.toNat] w fun e w' => e = .returned (.bool (Lx.symb c)) ∧ w' = w := by
  go_enter Tryz.func95, Tryz.ntmps95
  go_wp2_with (go_at_call 104; refine (Tryz.strings_IndexByte _ _ _).mono ?_; rintro e w' ⟨rfl, rfl⟩)
  go_ret
  exact ⟨ret_bool (by rw [Lx.symb, ← indexByte_mem]), rfl⟩

theorem isDigit_any (c : UInt8) (w : World) :
    Calls Tryz.prog 93 #[.int .u8 c.toNat] w fun e w' => e = .returned (.bool (Lx.digit c)) ∧ w' = w := by
  rw [digit_eq]
  go_enter Tryz.func93, Tryz.ntmps93
  go_wp2
  all_goals go_ret
  all_goals exact ⟨ret_bool (Bool.eq_iff_iff.2 (by simp <;> omega)), rfl⟩

theorem isLetter_any (c : UInt8) (w : World) :
    Calls Tryz.prog 106 #[.int .u8 c.toNat] w fun e w' => e = .returned (.bool (Lx.letter c)) ∧ w' = w := by
  rw [letter_eq]
  go_enter Tryz.func106, Tryz.ntmps106
  go_wp2
  all_goals go_ret
  all_goals exact ⟨ret_bool (Bool.eq_iff_iff.2 (by simp <;> omega)), rfl⟩

theorem isInWord_any (c : UInt8) (w : World) :
    Calls Tryz.prog 92 #[.int .u8 c.toNat] w fun e w' => e = .returned (.bool (Lx.inw c)) ∧ w' = w := by
  have h39 : (c == 39) = ((c.toNat : Int) == 39) := by
    rw [Bool.eq_iff_iff]; simp only [beq_iff_eq, ← UInt8.toNat_inj]; exact ⟨fun h => by rw [h]; rfl, fun h => by simpa using (by omega : c.toNat = _)⟩
  have e : Lx.inw c = (Lx.letter c || Lx.digit c || ((c.toNat : Int) == 39)) := by unfold Lx.inw; rw [h39]
  rw [e]; clear e h39
  cases hl : Lx.letter c <;> cases hd : Lx.digit c
  all_goals
    go_enter Tryz.func92, Tryz.ntmps92
    go_wp2_with (first | (go_at_call 106; refine (isLetter_any _ _).mono ?_; rintro e w' ⟨rfl, rfl⟩) | (go_at_call 93; refine (isDigit_any _ _).mono ?_; rintro e w' ⟨rfl, rfl⟩))
    go_ret
    exact ⟨ret_bool (by simp), rfl⟩

def kindB (c : UInt8) : Int :=
  if Lx.blank c then 1 else if c == 40 then 2 else if Lx.letter c then 3 else if Lx.digit c then 4 else if Lx.symb c then 6
  else if [41, 91, 93, 123, 125, 44, 59, 58, 63, 33, 95, 124].contains c then 5 else 0

theorem kindOf_any (c : UInt8) (w : World) :
    Calls Tryz.prog 100 #[.int .u8 c.toNat] w fun e w' => e = .returned (.int .i64 (kindB c)) ∧ w' = w := by
  have h40 : (c == 40) = ((c.toNat : Int) == 40) := by
    rw [Bool.eq_iff_iff]; simp only [beq_iff_eq, ← UInt8.toNat_inj]; exact ⟨fun h => by rw [h]; rfl, fun h => by simpa using (by omega : c.toNat = _)⟩
  unfold kindB
  rw [h40, ← indexByte_mem]; clear h40
  go_enter Tryz.func100, Tryz.ntmps100
  go_wp2_with (first
    | (go_at_call 88; refine (isBlank_any _ _).mono ?_; rintro e w' ⟨rfl, rfl⟩)
    | (go_at_call 106; refine (isLetter_any _ _).mono ?_; rintro e w' ⟨rfl, rfl⟩)
    | (go_at_call 93; refine (isDigit_any _ _).mono ?_; rintro e w' ⟨rfl, rfl⟩)
    | (go_at_call 95; refine (isSymbol_any _ _).mono ?_; rintro e w' ⟨rfl, rfl⟩)
    | (go_at_call 104; refine (Tryz.strings_IndexByte _ _ _).mono ?_; rintro e w' ⟨rfl, rfl⟩))
  all_goals go_ret
  all_goals exact ⟨ret_i64 (by simp_all), rfl⟩
end Go.Proofs.YtcjdacdggklifaaGreatDoor
