/- The scanner's runs. -/
import Derived.Test.YtcjdacdggklifaaGreatDoorBytes
import Derived.Lib.Hide
import Derived.Deep.LoopGhost
namespace Go.Proofs.YtcjdacdggklifaaGreatDoor
open Go.RowKit

/-- The bytes of a string. -/
abbrev bts (s : ByteArray) : Lx.Bs := s.data.toList
theorem bts_length (s : ByteArray) : (bts s).length = s.size := by cases s; simp [bts]; rfl
theorem bts_drop (s : ByteArray) (k : Nat) (h : k < s.size) : (bts s).drop k = s[k] :: (bts s).drop (k + 1) := by
  have h' : k < (bts s).length := by rw [bts_length]; exact h
  rw [List.drop_eq_getElem_cons h']; rfl
theorem bts_nil (s : ByteArray) (k : Nat) (h : s.size ≤ k) : (bts s).drop k = [] := List.drop_eq_nil_of_le (by rw [bts_length]; exact h)

set_option maxRecDepth 100000 in
theorem run_any (pr : UInt8 → Bool) (F : Nat) (hF : Hid (∀ (c : UInt8) (w : World), Calls Tryz.prog F #[.int .u8 c.toNat] w fun e w' => e = .returned (.bool (pr c)) ∧ w' = w))
    (hG : ∀ (args : Array Value) (w : World), (callFunc F args).run Tryz.prog w = .ok (.enter F args) w)
    (p : Nat) (text : ByteArray) (at_ : Nat) (w : World) (hs : text.size ≤ 2000000) (hat : at_ ≤ text.size)
    (c0 : w.cell? ⟨p, 0, none⟩ = some (.string text)) (c1 : w.cell? ⟨p, 1, none⟩ = some (.int .i64 at_)) :
    Calls Tryz.prog 87 #[.pointer (some ⟨p, 0, none⟩), .func (.func F) #[] #[]] w fun e w' =>
      e = .returned (.int .i64 ((at_ + Lx.run pr ((bts text).drop at_) : Nat) : Int)) ∧ w' = w := by
  go_enter Tryz.func87, Tryz.ntmps87
  go_wp2
  go_loop [5] (fun i => ∃ k : Nat, at_ ≤ k ∧ k ≤ text.size ∧ i = .int .i64 k ∧ at_ + Lx.run pr ((bts text).drop at_) = k + Lx.run pr ((bts text).drop k)) (fun i => text.size - (intOf i).toNat)
  case atStart => exact ⟨at_, Nat.le_refl _, hat, rfl, rfl⟩
  case round =>
    obtain ⟨k, hk0, hk, rfl, hr⟩ := hrel
    have Hr := Lib.hid hr; clear hr
    by_cases hlt : k < text.size
    · have e1 : Lx.run pr ((bts text).drop k) = if pr text[k] then Lx.run pr ((bts text).drop (k + 1)) + 1 else 0 := by
        rw [bts_drop text k hlt, Lx.run_cons]
      have E1 := Lib.hid e1; clear e1
      go_wp2_with fail
      refine (hF.out _ _).mono ?_
      rintro e w' ⟨rfl, rfl⟩
      cases hp : pr text[k]
      · go_wp2_with fail
        go_ret
        exact ⟨ret_i64 (by have h1 := Hr.out; have h2 := E1.out; rw [if_neg (by rw [hp]; simp)] at h2; omega), rfl⟩
      · go_wp2_with fail
        go_round
        case rel => exact ⟨k + 1, by omega, by omega, by go_num, by have h1 := Hr.out; have h2 := E1.out; rw [if_pos hp] at h2; omega⟩
        case measure => simp [intOf]; omega
    · go_wp2_with fail
      go_ret
      exact ⟨ret_i64 (by have h1 := Hr.out; rw [bts_nil text k (by omega)] at h1; have : Lx.run pr [] = 0 := rfl; omega), rfl⟩
theorem enters_88 (args : Array Value) (w : World) : (callFunc 88 args).run Tryz.prog w = .ok (.enter 88 args) w := by go_simp
end Go.Proofs.YtcjdacdggklifaaGreatDoor
