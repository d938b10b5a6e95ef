/- LexWords: the walk. -/
import Derived.Test.YtkghbecfjeldcaaDoorWords1
namespace Go.Proofs.YtkghbecfjeldcaaDoor
open Go.RowKit

set_option maxRecDepth 100000 in
set_option maxHeartbeats 2000000 in
theorem LexWords_any (s : ByteArray) (hs : s.size ≤ 2000000) (w : World) : Calls Tryd.prog 10 #[.string s] w fun e w' => e = .returned (.bool true) ∧ Below w.heap.size w w' := by
  go_enter Tryd.func10, Tryd.ntmps10
  go_wp2_with fail
  refine (sane_any _).mono ?_
  rintro e w1 ⟨rfl, hb1⟩
  have HB1 := Lib.hid hb1
  clear hb1
  go_wp2_with (first | (go_at_call 24; refine (Words_any _).mono ?_; rintro e w' ⟨rfl, rfl⟩) | (go_at_call 25; refine (Signs_any _).mono ?_; rintro e w' ⟨rfl, rfl⟩))
  have hw : ((w1.alloc (.cells (strs Lx.words) 9)).alloc (.cells (strs Lx.signs) 9)).heap[w1.heap.size]? = some (.cells (strs Lx.words) 9) := by rw [alloc_miss _ _ _ (by simp), alloc_hit _ _ _ rfl]
  have hg : ((w1.alloc (.cells (strs Lx.words) 9)).alloc (.cells (strs Lx.signs) 9)).heap[w1.heap.size + 1]? = some (.cells (strs Lx.signs) 9) := by rw [alloc_hit _ _ _ (by simp)]
  have hb2 : Below w.heap.size w ((w1.alloc (.cells (strs Lx.words) 9)).alloc (.cells (strs Lx.signs) 9)) := (HB1.out.alloc HB1.out.size _).alloc (by have := HB1.out.size; simp; omega) _
  have H2 := Lib.hid (And.intro hw (And.intro hg hb2))
  have hz1 := HB1.out.size
  clear hw hg hb2
  generalize ((w1.alloc (.cells (strs Lx.words) 9)).alloc (.cells (strs Lx.signs) 9)) = w2 at *
  obtain ⟨g1, hg1⟩ : ∃ g, g = w1.heap.size := ⟨_, rfl⟩
  obtain ⟨g2, hg2⟩ : ∃ g, g = w1.heap.size + 1 := ⟨_, rfl⟩
  rw [← hg2, ← hg1] at H2
  rw [← hg1] at hz1
  rw [← hg2, ← hg1]
  have HG := Lib.hid (And.intro hg1 hg2)
  clear hg1 hg2
  go_loopw [24] (fun v wr => ∃ k : Nat, k ≤ 37 ∧ v = .int .i64 k ∧ wr.heap[g1]? = some (.cells (strs Lx.words) 9) ∧ wr.heap[g2]? = some (.cells (strs Lx.signs) 9) ∧ Below w.heap.size w wr) (fun v _ => 37 - (intOf v).toNat)
  case atStart => exact ⟨0, by omega, rfl, H2.out⟩
  case round =>
    obtain ⟨k, hk, rfl, h⟩ := hrel
    have H := Lib.hid h
    clear h
    by_cases hlt : k < 37
    · have c0 := strs_cell H.out.1 k hlt
      have hm := getD_mem Lx.words [] k hlt
      have hkc := fun w => kind_c (ofB (Lx.words.getD k [])) 2 w (by have := short_lists.1 _ hm; rw [ofB_size]; omega) (by rw [bts_ofB, words_kind _ hm]; rfl)
      have HKC := Lib.hid hkc
      clear hm hkc
      generalize ofB (Lx.words.getD k []) = x at *
      go_wp2_with fail
      refine (HKC.out _).mono ?_
      rintro e w3 ⟨rfl, hb3⟩
      have l1 := (Array.getElem?_eq_some_iff.1 H.out.1).1
      have l2 := (Array.getElem?_eq_some_iff.1 H.out.2.1).1
      have H3 := Lib.hid (And.intro ((hb3.block g1 l1).trans H.out.1) (And.intro ((hb3.block g2 l2).trans H.out.2.1) (below_le H.out.2.2 hb3 H.out.2.2.size)))
      clear hb3 c0 l1 l2
      go_wp2_with fail
      go_roundw
      case rel => exact ⟨k + 1, by omega, by go_num, H3.out⟩
      case measure => simp [intOf]; omega
    · obtain ⟨wo, hwo⟩ : ∃ wo : World, wo = wr := ⟨_, rfl⟩
      go_wp2_with fail
      clear hwo wo hlt hk
      go_loopw [34] (fun v wr => ∃ k : Nat, k ≤ 24 ∧ v = .int .i64 k ∧ wr.heap[g1]? = some (.cells (strs Lx.words) 9) ∧ wr.heap[g2]? = some (.cells (strs Lx.signs) 9) ∧ Below w.heap.size w wr) (fun v _ => 24 - (intOf v).toNat)
      case atStart => exact ⟨0, by omega, rfl, H.out⟩
      case round =>
        obtain ⟨k, hk, rfl, h⟩ := hrel
        have H := Lib.hid h
        clear h
        by_cases hlt : k < 24
        · have c0 := strs_cell H.out.2.1 k hlt
          have hm := getD_mem Lx.signs [] k hlt
          have hkc := fun w => kind_c (ofB (Lx.signs.getD k [])) 5 w (by have := short_lists.2 _ hm; rw [ofB_size]; omega) (by rw [bts_ofB, signs_kind _ hm]; rfl)
          have HKC := Lib.hid hkc
          clear hm hkc
          generalize ofB (Lx.signs.getD k []) = x at *
          go_wp2_with fail
          refine (HKC.out _).mono ?_
          rintro e w3 ⟨rfl, hb3⟩
          have l1 := (Array.getElem?_eq_some_iff.1 H.out.1).1
          have l2 := (Array.getElem?_eq_some_iff.1 H.out.2.1).1
          have H3 := Lib.hid (And.intro ((hb3.block g1 l1).trans H.out.1) (And.intro ((hb3.block g2 l2).trans H.out.2.1) (below_le H.out.2.2 hb3 H.out.2.2.size)))
          clear hb3 c0 l1 l2
          go_wp2_with fail
          go_roundw
          case rel => exact ⟨k + 1, by omega, by go_num, H3.out⟩
          case measure => simp [intOf]; omega
        · have hkd := Kind_any s wr hs
          have HKD := Lib.hid hkd
          clear hkd
          obtain ⟨kk, hkk⟩ : ∃ kk, kk = Lx.kindOf (bts s) := ⟨_, rfl⟩
          have hw12 : kk = 1 ∨ kk = 2 → Lx.words.contains (bts s) = decide (kk = 2) := by rw [hkk]; exact kind_word
          have hs45 : kk = 4 ∨ kk = 5 → Lx.signs.contains (bts s) = decide (kk = 5) := by rw [hkk]; exact kind_sign
          rw [← hkk] at HKD
          have HKK := Lib.hid (And.intro hw12 hs45)
          clear hkk hw12 hs45
          have inW : ∀ w' : World, w'.heap[g1]? = some (.cells (strs Lx.words) 9) → Calls Tryd.prog 26 #[.slice (some ⟨g1, 0, none⟩) 37 37, .string s] w' fun e w'' => e = .returned (.bool (Lx.words.contains (bts s))) ∧ w' = w'' := fun w' h => In_any Lx.words 37 rfl (by omega) g1 37 9 s w' h
          have inS : ∀ w' : World, w'.heap[g2]? = some (.cells (strs Lx.signs) 9) → Calls Tryd.prog 26 #[.slice (some ⟨g2, 0, none⟩) 24 24, .string s] w' fun e w'' => e = .returned (.bool (Lx.signs.contains (bts s))) ∧ w' = w'' := fun w' h => In_any Lx.signs 24 rfl (by omega) g2 24 9 s w' h
          have INW := Lib.hid inW
          have INS := Lib.hid inS
          clear inW inS
          go_wp2_with fail
          refine HKD.out.mono ?_
          rintro e w3 ⟨rfl, hb3⟩
          have l1 := (Array.getElem?_eq_some_iff.1 H.out.1).1
          have l2 := (Array.getElem?_eq_some_iff.1 H.out.2.1).1
          have H3 := Lib.hid (And.intro ((hb3.block g1 l1).trans H.out.1) (And.intro ((hb3.block g2 l2).trans H.out.2.1) (below_le H.out.2.2 hb3 H.out.2.2.size)))
          clear hb3 l1 l2
          by_cases h1 : kk = 1
          · subst h1
            have hiw := INW.out w3 H3.out.1
            rw [HKK.out.1 (.inl rfl)] at hiw
            have HIW := Lib.hid hiw
            clear hiw
            go_wp2_with (refine HIW.out.mono ?_; rintro e w' ⟨rfl, rfl⟩)
            go_ret
            exact ⟨rfl, H3.out.2.2⟩
          by_cases h2 : kk = 2
          · subst h2
            have hiw := INW.out w3 H3.out.1
            rw [HKK.out.1 (.inr rfl)] at hiw
            have HIW := Lib.hid hiw
            clear hiw h1
            go_wp2_with (refine HIW.out.mono ?_; rintro e w' ⟨rfl, rfl⟩)
            go_ret
            exact ⟨rfl, H3.out.2.2⟩
          by_cases h4 : kk = 4
          · subst h4
            have hiw := INS.out w3 H3.out.2.1
            rw [HKK.out.2 (.inl rfl)] at hiw
            have HIW := Lib.hid hiw
            clear hiw h1 h2
            go_wp2_with (refine HIW.out.mono ?_; rintro e w' ⟨rfl, rfl⟩)
            go_ret
            exact ⟨rfl, H3.out.2.2⟩
          by_cases h5 : kk = 5
          · subst h5
            have hiw := INS.out w3 H3.out.2.1
            rw [HKK.out.2 (.inr rfl)] at hiw
            have HIW := Lib.hid hiw
            clear hiw h1 h2 h4
            go_wp2_with (refine HIW.out.mono ?_; rintro e w' ⟨rfl, rfl⟩)
            go_ret
            exact ⟨rfl, H3.out.2.2⟩
          · have i1 : ((kk : Int) == 1) = false := by rw [beq_eq_false_iff_ne]; omega
            have i2 : ((kk : Int) == 2) = false := by rw [beq_eq_false_iff_ne]; omega
            have i4 : ((kk : Int) == 4) = false := by rw [beq_eq_false_iff_ne]; omega
            have i5 : ((kk : Int) == 5) = false := by rw [beq_eq_false_iff_ne]; omega
            have j1 : ¬ (kk : Int) = 1 := by omega
            have j2 : ¬ (kk : Int) = 2 := by omega
            have j4 : ¬ (kk : Int) = 4 := by omega
            have j5 : ¬ (kk : Int) = 5 := by omega
            go_wp2_with fail
            go_ret
            exact ⟨rfl, H3.out.2.2⟩
end Go.Proofs.YtkghbecfjeldcaaDoor
