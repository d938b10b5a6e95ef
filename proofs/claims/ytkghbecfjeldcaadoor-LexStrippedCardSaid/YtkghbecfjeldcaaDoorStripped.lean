/- LexStripped: the walk. -/
import Derived.Test.YtkghbecfjeldcaaDoorSame
namespace Go.Proofs.YtkghbecfjeldcaaDoor
open Go.RowKit

theorem S_text (text : ByteArray) : bts (ofB (S (bts text))) = S (bts text) := bts_ofB _
theorem S_size (text : ByteArray) : (ofB (S (bts text))).size = text.size := by rw [ofB_size, S_len, bts_length]
set_option maxRecDepth 100000 in
set_option maxHeartbeats 2000000 in
theorem LexStripped_any (a : ByteArray) (ha : a.size ≤ 140737488355328) (w : World) : Calls Tryd.prog 9 #[.string a] w fun e w' => e = .returned (.bool true) ∧ Below w.heap.size w w' := by
  go_enter Tryd.func9, Tryd.ntmps9
  go_wp2_with fail
  refine (sane_any _).mono ?_
  rintro e w1 ⟨rfl, hb1⟩
  have hsh := short_any [a] 1 rfl (by omega) (by intro s hs; simp only [List.mem_cons, List.not_mem_nil, or_false] at hs; subst hs; assumption) w1.heap.size 1 9 (w1.alloc (.cells #[.string a] 9)) (heap_alloc_new w1 _)
  have hb2 : Below w.heap.size w (w1.alloc (.cells #[.string a] 9)) := hb1.alloc hb1.size _
  have HSH := Lib.hid hsh
  have HB2 := Lib.hid hb2
  clear hb1 hsh hb2 ha
  go_wp2_with fail
  refine HSH.out.mono ?_
  rintro e w' ⟨rfl, rfl⟩
  generalize (w1.alloc (.cells #[.string a] 9)) = w2 at *
  clear HSH
  by_cases hd : total [a] ≤ 20000
  · rw [show decide (total [a] ≤ 20000) = true from by simpa using hd]
    have hsz : a.size ≤ 20000 := by simpa [total] using hd
    clear hd
    go_wp2_with fail
    refine (Strip_any a w2).mono ?_
    rintro e w3 ⟨hstr, hb3⟩
    have HB3 := Lib.hid (below_le HB2.out hb3 HB2.out.size)
    clear hb3
    rcases strip_is hsz hstr with ⟨p, hT, rfl⟩ | ⟨l, hT, rfl⟩
    · have HTK := Lib.hid (fun w => tokens_bad a (by omega) p hT w)
      clear hstr hT
      unfold tup2
      go_wp2_with fail
      refine (HTK.out _).mono ?_
      rintro e w4 ⟨hb4, rfl⟩
      have HB4 := Lib.hid (below_le HB3.out hb4 HB3.out.size)
      clear hb4
      unfold three
      go_wp2_with fail
      go_ret
      exact ⟨rfl, HB4.out⟩
    · have hln : l.length ≤ 20000 := by have := T_count _ _ _ hT; rw [bts_length] at this; omega
      have hTS : Lx.T (bts (ofB (S (bts a)))) 0 = .good l := by rw [S_text]; exact T_S _ _ _ hT
      have hSS : S (bts (ofB (S (bts a)))) = S (bts a) := by rw [S_text]; exact S_S _ _ _ hT
      have HTK := Lib.hid (fun w => tokens_l a (by omega) l hT hln w)
      have HTS := Lib.hid (fun w => tokens_l (ofB (S (bts a))) (by rw [S_size]; omega) l hTS hln w)
      have hst2 : ∀ w, Calls Tryd.prog 22 #[.string (ofB (S (bts a)))] w fun e w' => e = tup2 (ofB (S (bts a))) 0 ∧ Below w.heap.size w w' := fun w =>
        (Strip_any (ofB (S (bts a))) w).mono fun e w' ⟨h, hb⟩ => ⟨by
          rcases strip_is (by rw [S_size]; exact hsz) h with ⟨q, hq, _⟩ | ⟨l2, _, he⟩
          · rw [hTS] at hq; cases hq
          · rw [hSS] at he; exact he, hb⟩
      have HST2 := Lib.hid hst2
      have hcnt : Lib.countByte (ofB (S (bts a))).data.toList 10 = Lib.countByte a.data.toList 10 := by
        show List.count 10 (bts (ofB (S (bts a)))) = List.count 10 (bts a)
        rw [S_text]; exact S_count _
      have hsize := S_size a
      have HCS := Lib.hid (And.intro hcnt hsize)
      clear hstr hT hTS hSS hst2 hcnt hsize
      generalize ofB (S (bts a)) = sa at *
      unfold tup2
      go_wp2_with fail
      refine (HTK.out _).mono ?_
      rintro e w4 ⟨hb4, v, rfl, hown⟩
      obtain ⟨ao, capa, rfl, hcapa⟩ := owns_form hown
      have HB4 := Lib.hid (And.intro (below_le HB3.out hb4 HB3.out.size) (tokV_owned hown))
      clear hb4 hown
      unfold three
      go_wp2_with fail
      refine (HTS.out _).mono ?_
      rintro e w5 ⟨hb5, v, rfl, hown⟩
      obtain ⟨bo, capb, rfl, hcapb⟩ := owns_form hown
      have HB5 := Lib.hid (And.intro (below_le HB4.out.1 hb5 HB4.out.1.size) (And.intro (HB4.out.2.below hb5) (tokV_owned hown)))
      clear hb5 hown
      unfold three
      go_wp2_with fail
      refine (HST2.out _).mono ?_
      rintro e w6 ⟨rfl, hb6⟩
      have HB6 := Lib.hid (below_le HB5.out.1 hb6 HB5.out.1.size)
      have HSM := Lib.hid (same_any (l.map rt) ao bo capa capb l.length w6 (by simp) (HB5.out.2.1.below hb6) (HB5.out.2.2.below hb6) (by omega))
      clear hb6
      have hz := HCS.out.2
      have hq : ((sa.size : Int) == (a.size : Int)) = true := by rw [beq_iff_eq]; omega
      unfold tup2
      go_wp2_with fail
      refine HSM.out.mono ?_
      rintro e w7 ⟨rfl, hg7⟩
      have HB7 := Lib.hid (below_grown HB6.out hg7)
      clear hg7
      have C1 := Lib.hid (fun w => Tryd.strings_Count_one sa 10 w)
      have C2 := Lib.hid (fun w => Tryd.strings_Count_one a 10 w)
      rw [HCS.out.1] at C1
      generalize Lib.countByte a.data.toList 10 = c2 at *
      go_wp2_with fail
      refine (C1.out _).mono ?_
      rintro e w8 ⟨rfl, hw8⟩
      subst hw8
      go_wp2_with fail
      refine (C2.out _).mono ?_
      rintro e w9 ⟨rfl, hw9⟩
      subst hw9
      go_wp2_with fail
      go_ret
      exact ⟨rfl, HB7.out⟩
  · rw [show decide (total [a] ≤ 20000) = false from by simpa using hd]
    clear hd
    go_wp2_with fail
    go_ret
    exact ⟨rfl, HB2.out⟩
end Go.Proofs.YtkghbecfjeldcaaDoor
