/- The reference: sign. -/
import Derived.Test.YtcjdacdggklifaaGreatDoorRef3
namespace Go.Proofs.YtcjdacdggklifaaGreatDoor
open Go.RowKit

theorem fold2_short (l : Lx.Bs) : ∀ k, k ≤ 24 → (fold2 l k).length ≤ 32 := by
  intro k
  induction k with
  | zero => intro _; simp [fold2]
  | succ k ih =>
    intro h
    rw [fold2_succ l k (by omega)]
    unfold better2
    split
    · exact short_lists.2 _ (getD_mem Lx.signs [] k (by exact (by omega : k < 24)))
    · exact ih (by omega)
set_option maxRecDepth 100000 in
set_option maxHeartbeats 1000000 in
theorem rSign_any (text : ByteArray) (a : Nat) (ha : a ≤ text.size) (hs : text.size ≤ 2000000) (w : World) :
    Calls Tryz.prog 76 #[.string text, .int .i64 a] w fun e w' => e = .returned (.string (ofB (fold2 ((bts text).drop a) 24))) ∧ w.grownBy w' none := by
  obtain ⟨res, hres⟩ : ∃ r, r = ofB (fold2 ((bts text).drop a) 24) := ⟨_, rfl⟩
  rw [← hres]
  have HR := Lib.hid hres
  clear hres
  go_enter Tryz.func76, Tryz.ntmps76
  go_wp2_with (go_at_call 78; refine (rSigns_any _).mono ?_; rintro e w' ⟨rfl, rfl⟩)
  have hrow := heap_alloc_new w (.cells (strs Lx.signs) 9)
  have hg : w.grownBy (w.alloc (.cells (strs Lx.signs) 9)) none := World.grownBy_alloc _ _ _
  have HW := Lib.hid (And.intro hrow hg)
  clear hrow hg
  generalize (w.alloc (.cells (strs Lx.signs) 9)) = w2 at *
  generalize w.heap.size = g at *
  go_loop [6, 7] (fun b i => ∃ k : Nat, k ≤ 24 ∧ i = .int .i64 k ∧ b = .string (ofB (fold2 ((bts text).drop a) k))) (fun _ i => 24 - (intOf i).toNat)
  case atStart => exact ⟨0, by omega, rfl, rfl⟩
  case round =>
    obtain ⟨k, hk, rfl, rfl⟩ := hrel
    by_cases hlt : k < 24
    · have hcell := strs_cell HW.out.1 k hlt
      have hfs := fold2_succ ((bts text).drop a) k hlt
      have hsh := fold2_short ((bts text).drop a) k (by omega)
      have hm := short_lists.2 _ (getD_mem Lx.signs [] k hlt)
      have hq1 : bts (ofB (Lx.signs.getD k [])) = Lx.signs.getD k [] := bts_ofB _
      have HQ1 := Lib.hid hq1
      have hsz1 : (ofB (Lx.signs.getD k [])).size = (Lx.signs.getD k []).length := ofB_size _
      have hsz2 : (ofB (fold2 ((bts text).drop a) k)).size = (fold2 ((bts text).drop a) k).length := ofB_size _
      have hsy := fun w => rSymbols_any (ofB (Lx.signs.getD k [])) (by rw [hsz1]; omega) w
      have hbg := fun w => begins_any text (ofB (Lx.signs.getD k [])) a ha hs (by rw [hsz1]; omega) w
      rw [hq1] at hsy hbg
      have HFS := Lib.hid hfs
      have hz1 : ((ofB (Lx.signs.getD k [])).size : Int) = ((Lx.signs.getD k []).length : Int) := by rw [hsz1]
      have hz2 : ((ofB (fold2 ((bts text).drop a) k)).size : Int) = ((fold2 ((bts text).drop a) k).length : Int) := by rw [hsz2]
      clear hfs hm hsh hq1 hsz1 hsz2
      generalize hsg : Lx.signs.getD k [] = sg at *
      clear hsg
      generalize hff : fold2 ((bts text).drop a) k = ff at *
      clear hff
      unfold better2 at HFS
      have HSY := Lib.hid hsy
      have HBG := Lib.hid hbg
      clear hsy hbg
      obtain ⟨sgb, hsgb⟩ : ∃ q, q = ofB sg := ⟨_, rfl⟩
      obtain ⟨fb, hfb⟩ : ∃ q, q = ofB ff := ⟨_, rfl⟩
      rw [← hsgb] at hcell hz1 HSY HBG
      rw [← hfb] at hz2 ⊢
      have HSB := Lib.hid hsgb
      have HFB := Lib.hid hfb.symm
      clear hsgb hfb
      cases hA : sg.all Lx.symb
      · rw [hA] at HSY HFS
        cases hP : sg.isPrefixOf ((bts text).drop a)
        · rw [hP] at HBG HFS
          have hk2 : fold2 ((bts text).drop a) (k + 1) = ff := by rw [HFS.out]; simp
          have HK2 := Lib.hid hk2
          clear hk2 hA hP
          go_wp2_with (first | (go_at_call 101; refine (HSY.out _).mono ?_; rintro e w' ⟨rfl, rfl⟩) | (go_at_call 69; refine (HBG.out _).mono ?_; rintro e w' ⟨rfl, rfl⟩))
          go_round
          case rel => exact ⟨k + 1, by omega, by go_num, by rw [HK2.out, HFB.out]⟩
          case measure => simp [intOf]; omega
        · rw [hP] at HBG HFS
          by_cases hL : ff.length < sg.length
          · have hk2 : fold2 ((bts text).drop a) (k + 1) = sg := by rw [HFS.out]; simp [hL]
            have HK2 := Lib.hid hk2
            have hL2 : (fb.size : Int) < (sgb.size : Int) := by omega
            have hL3 : fb.size < sgb.size := by omega
            clear hk2 hA hP hL hz1 hz2
            go_wp2_with (first | (go_at_call 101; refine (HSY.out _).mono ?_; rintro e w' ⟨rfl, rfl⟩) | (go_at_call 69; refine (HBG.out _).mono ?_; rintro e w' ⟨rfl, rfl⟩))
            go_round
            case rel => exact ⟨k + 1, by omega, by go_num, by rw [HK2.out, HSB.out]⟩
            case measure => simp [intOf]; omega
          · have hk2 : fold2 ((bts text).drop a) (k + 1) = ff := by rw [HFS.out]; simp [hL]
            have HK2 := Lib.hid hk2
            have hL2 : ¬ ((fb.size : Int) < (sgb.size : Int)) := by omega
            have hL3 : ¬ fb.size < sgb.size := by omega
            clear hk2 hA hP hL hz1 hz2
            go_wp2_with (first | (go_at_call 101; refine (HSY.out _).mono ?_; rintro e w' ⟨rfl, rfl⟩) | (go_at_call 69; refine (HBG.out _).mono ?_; rintro e w' ⟨rfl, rfl⟩))
            go_round
            case rel => exact ⟨k + 1, by omega, by go_num, by rw [HK2.out, HFB.out]⟩
            case measure => simp [intOf]; omega
      · rw [hA] at HSY HFS
        have hk2 : fold2 ((bts text).drop a) (k + 1) = ff := by rw [HFS.out]; simp
        have HK2 := Lib.hid hk2
        clear hk2 hA
        go_wp2_with (first | (go_at_call 101; refine (HSY.out _).mono ?_; rintro e w' ⟨rfl, rfl⟩) | (go_at_call 69; refine (HBG.out _).mono ?_; rintro e w' ⟨rfl, rfl⟩))
        go_round
        case rel => exact ⟨k + 1, by omega, by go_num, by rw [HK2.out, HFB.out]⟩
        case measure => simp [intOf]; omega
    · have hkn : k = 24 := by omega
      have hr : ofB (fold2 ((bts text).drop a) k) = res := by rw [HR.out, hkn]
      have HRR := Lib.hid hr
      clear hr hkn
      go_wp2_with fail
      go_ret
      exact ⟨by rw [← HRR.out]; rfl, HW.out.2⟩
end Go.Proofs.YtcjdacdggklifaaGreatDoor
