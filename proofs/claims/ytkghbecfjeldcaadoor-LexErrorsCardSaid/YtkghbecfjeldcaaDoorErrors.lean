/- LexErrors: the walk. -/
import Derived.Test.YtkghbecfjeldcaaDoorShort
namespace Go.Proofs.YtkghbecfjeldcaaDoor
open Go.RowKit

set_option maxRecDepth 100000 in
set_option maxHeartbeats 2000000 in
theorem LexErrors_any (a b : ByteArray) (ha : a.size ≤ 140737488355328) (hb : b.size ≤ 140737488355328) (w : World) : Calls Tryd.prog 6 #[.string a, .string b] w fun e w' => e = .returned (.bool true) ∧ Below w.heap.size w w' := by
  go_enter Tryd.func6, Tryd.ntmps6
  go_wp2_with fail
  refine (sane_any _).mono ?_
  rintro e w1 ⟨rfl, hb1⟩
  have hsh := short_any [a, b] 2 rfl (by omega) (by intro s hs; simp only [List.mem_cons, List.not_mem_nil, or_false] at hs; rcases hs with rfl | rfl <;> assumption) w1.heap.size 2 9 (w1.alloc (.cells #[.string a, .string b] 9)) (heap_alloc_new w1 _)
  have hb2 : Below w.heap.size w (w1.alloc (.cells #[.string a, .string b] 9)) := hb1.alloc hb1.size _
  have HSH := Lib.hid hsh
  have HB2 := Lib.hid hb2
  clear hb1 hsh hb2 ha hb
  go_wp2_with fail
  refine HSH.out.mono ?_
  rintro e w' ⟨rfl, rfl⟩
  generalize (w1.alloc (.cells #[.string a, .string b] 9)) = w2 at *
  clear HSH
  by_cases hd : total [a, b] ≤ 20000
  · rw [show decide (total [a, b] ≤ 20000) = true from by simpa using hd]
    have hsz : a.size + b.size ≤ 20000 := by simpa [total] using hd
    clear hd
    have htk := tokens_s a (by omega) w2
    have HTK := Lib.hid htk
    clear htk
    go_wp2_with fail
    refine HTK.out.mono ?_
    rintro e w3 ⟨hb3, h⟩
    have hb3' := below_le HB2.out hb3 HB2.out.size
    have HB3 := Lib.hid hb3'
    clear hb3 hb3' HTK
    rcases h with ⟨p, hT, rfl⟩ | ⟨l, hT, hl, v, rfl, hown⟩
    · obtain ⟨_, hp, hst, ts, htake⟩ := Lx.T_bad_at (bts a) 0 p hT
      rw [Nat.sub_zero] at hst htake
      rw [Nat.zero_add, bts_length] at hp
      have hx : bts (a.extract 0 p) = (bts a).take p := by rw [bts_extract, List.drop_zero, Nat.sub_zero]
      have hxs : (a.extract 0 p).size = p := by simp; omega
      have htk2 := fun w => tokens_s (a.extract 0 p) (by omega) w
      rw [hx, htake] at htk2
      have hcat : bts (a ++ ⟨#[10]⟩ ++ b) = bts a ++ 10 :: bts b := by rw [bts_append, bts_append, List.append_assoc]; rfl
      have hcs : (a ++ ⟨#[10]⟩ ++ b).size ≤ 100000 := by rw [ByteArray.size_append, ByteArray.size_append]; have : (ByteArray.mk #[10]).size = 1 := rfl; omega
      have htk3 := fun w => Tokens_any (a ++ ⟨#[10]⟩ ++ b) w
      have hcont : Lx.opens ((bts a).drop p) = false → ∀ w, Calls Tryd.prog 14 #[.string (a ++ ⟨#[10]⟩ ++ b)] w fun e w' => Below w.heap.size w w' ∧ e = three (.slice none 0 0) p 10 := fun h w =>
        tokens_bad _ hcs p (by rw [hcat]; exact Lx.T_bad_append (bts a) 0 p hT (by rw [Nat.sub_zero]; exact h) 10 (by decide) (bts b)) w
      have hpf := pfx_open a p
      have HTK2 := Lib.hid htk2
      have HTK3 := Lib.hid (And.intro htk3 hcont)
      have HPF := Lib.hid hpf
      have hc1 : ¬ 9223372036854775807 < a.size + 1 := by omega
      have hc2 : ¬ 9223372036854775807 < a.size + 1 + b.size := by omega
      have hp0 : (0 : Int) ≤ (p : Int) := Int.natCast_nonneg _
      have hp1 : (p : Int) < (a.size : Int) := by omega
      have hp2 : (p : Int) ≤ (a.size : Int) := by omega
      have hp3 : p ≤ a.size := by omega
      clear hT hst htake hx htk2 htk3 hcat hcont hpf hxs hcs
      unfold three
      go_wp2_with fail
      refine (HTK2.out _).mono ?_
      rintro e w4 ⟨hb4, h⟩
      have hb4' := below_le HB3.out hb4 HB3.out.size
      have HB4 := Lib.hid hb4'
      clear hb4 hb4'
      rcases h with ⟨q, hq, _⟩ | ⟨l, hq, hl, v, rfl, hown⟩
      · cases hq
      · obtain ⟨a0, cap0, rfl, hcap⟩ := owns_form hown
        clear hq hl hown hcap
        unfold three
        go_wp2_with fail
        by_cases ho : Lx.opens ((bts a).drop p) = true
        · have hpp := HPF.out
          rw [ho] at hpp
          have HPP := Lib.hid hpp
          clear ho hpp
          refine (HTK3.out.1 _).mono ?_
          rintro e w5 ht5
          have hb5' := below_le HB4.out ht5.1 HB4.out.size
          have HB5 := Lib.hid hb5'
          obtain ⟨v, aa, er, rfl⟩ := tokR_three ht5
          clear ht5 hb5'
          unfold three
          go_wp2_with (go_at_call 18; refine (hasPrefix_k _ _ _).mono ?_; rintro e w' ⟨rfl, rfl⟩; rw [HPP.out])
          go_ret
          exact ⟨rfl, HB5.out⟩
        · have ho2 : Lx.opens ((bts a).drop p) = false := by simpa using ho
          have hpp := HPF.out
          rw [ho2] at hpp
          have HPP := Lib.hid hpp
          have hT3 := HTK3.out.2 ho2
          have HT3 := Lib.hid hT3
          clear ho ho2 hpp hT3
          refine (HT3.out _).mono ?_
          rintro e w5 ⟨hb5, rfl⟩
          have HB5 := Lib.hid (below_le HB4.out hb5 HB4.out.size)
          clear hb5
          unfold three
          go_wp2_with (go_at_call 18; refine (hasPrefix_k _ _ _).mono ?_; rintro e w' ⟨rfl, rfl⟩; rw [HPP.out])
          go_ret
          exact ⟨rfl, HB5.out⟩
    · obtain ⟨a0, cap0, rfl, hcap⟩ := owns_form hown
      clear hown hcap hT hl
      unfold three
      go_wp2_with fail
      go_ret
      exact ⟨rfl, HB3.out⟩
  · rw [show decide (total [a, b] ≤ 20000) = false from by simpa using hd]
    clear hd
    go_wp2_with fail
    go_ret
    exact ⟨rfl, HB2.out⟩
end Go.Proofs.YtkghbecfjeldcaaDoor
