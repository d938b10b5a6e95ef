/- Tokens as values: alike, Text, spelled. -/
import Derived.Test.YtcjdacdggklifaaGreatDoorToks
import Derived.StillTailTactics
namespace Go.Proofs.YtcjdacdggklifaaGreatDoor
open Go.RowKit

/-- A token as a caller may hand it over. -/
structure RT where
  k : Int
  n : Int
  s : ByteArray
  a : Int
  f : Int
def RT.cells (t : RT) : List Value := [.int .i64 t.k, .int .i64 t.n, .string t.s, .int .i64 t.a, .int .i64 t.f]
def RT.v (t : RT) : Value := .agg #[.int .i64 t.k, .int .i64 t.n, .string t.s, .int .i64 t.a, .int .i64 t.f]
def rt (t : Lx.Tok) : RT := ⟨t.k, t.n, ofB t.s, t.at_, t.fin⟩
def alikeB (a b : RT) : Bool := (a.k == b.k && a.n == b.n) && a.s.toList == b.s.toList

set_option maxRecDepth 100000 in
theorem alike_any (a b : RT) (w : World) : Calls Tryz.prog 96 #[a.v, b.v] w fun e w' => e = .returned (.bool (alikeB a b)) ∧ w.grownBy w' none := by
  obtain ⟨ak, an, a1, aa, af⟩ := a
  obtain ⟨bk, bn, b1, ba, bf⟩ := b
  simp only [RT.v, alikeB]
  go_enter Tryz.func96, Tryz.ntmps96
  go_wp2
  all_goals go_ret
  all_goals exact ⟨ret_bool (by simp_all), grown_trans (World.grownBy_alloc _ _ _) (World.grownBy_alloc _ _ _)⟩
/-- How a token whose number is small, if it is one, is written. -/
def RT.small (t : RT) : Prop := t.k = 3 → 0 ≤ t.n ∧ t.n < 100
def RT.text (t : RT) : ByteArray := if t.k = 3 then ⟨(Lib.itoa t.n).toArray⟩ else t.s
theorem itoa_nat (m : Nat) : Lib.itoa (m : Int) = Lib.decDigits m := by unfold Lib.itoa; rw [if_neg (by omega)]; simp

set_option maxRecDepth 100000 in
theorem spelled_any (t : RT) (h : t.small) (w : World) : Calls Tryz.prog 37 #[t.v] w fun e w' => e = .returned (.string t.text) ∧ w' = w.alloc (.cells t.cells.toArray 35) := by
  obtain ⟨k, n, s, a, f⟩ := t
  simp only [RT.v, RT.text, RT.small, RT.cells] at *
  by_cases hk : k = 3
  · subst hk
    obtain ⟨h0, h1⟩ := h rfl
    rw [if_pos rfl]
    obtain ⟨m, rfl⟩ : ∃ m : Nat, n = m := ⟨n.toNat, by omega⟩
    rw [itoa_nat]
    clear h
    go_enter Tryz.func37, Tryz.ntmps37
    go_wp2_with (go_at_call 53; refine (Tryz.strconv_Itoa_small m (by omega) _).mono ?_; rintro e w' ⟨rfl, rfl⟩)
    go_ret
    exact ⟨rfl, rfl⟩
  · rw [if_neg hk]
    have hk' : (k == 3) = false := by simpa using hk
    clear h
    go_enter Tryz.func37, Tryz.ntmps37
    go_wp2
    all_goals go_ret
    all_goals exact ⟨rfl, rfl⟩
end Go.Proofs.YtcjdacdggklifaaGreatDoor
