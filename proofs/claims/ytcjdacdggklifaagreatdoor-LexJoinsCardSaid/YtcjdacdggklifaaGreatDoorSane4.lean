/- The law's examples: the walk. -/
import Derived.Test.YtcjdacdggklifaaGreatDoorSane3
namespace Go.Proofs.YtcjdacdggklifaaGreatDoor
open Go.RowKit

theorem kind_c (text : ByteArray) (n : Int) (w : World) (hs : text.size ≤ 2000000) (hk : ((Lx.kindOf (bts text) : Nat) : Int) = n) :
    Calls Tryz.prog 26 #[.string text] w fun e w' => e = .returned (.int .i64 n) ∧ Below w.heap.size w w' := by
  subst hk; exact Kind_any text w hs
theorem jr_row {w : World} {g : Nat} {t : TypeId} (h : w.heap[g]? = some (.cells (flat jr).toArray t)) : RowAt w g jr := ⟨_, _, _, h, fun j hj => by simp⟩
theorem join_c (g : Nat) (w : World) (h : RowAt w g jr) : Calls Tryz.prog 9 #[.slice (some ⟨g, 0, none⟩) 7 7] w fun e w' => e = .returned (.tuple #[.string ⟨#[97, 32, 98, 91, 32, 93, 40, 32, 42, 32, 61]⟩, .int .i64 0]) ∧ Below w.heap.size w w' := by
  rw [← jr_join]; exact Join_any jr g 7 w h (by decide) jr_small
theorem strip_c (w : World) : Calls Tryz.prog 13 #[.string ⟨#[97, 40, 42, 98, 42, 41, 99]⟩] w fun e w' => e = .returned (.tuple #[.string ⟨#[97, 32, 32, 32, 32, 32, 99]⟩, .int .i64 0]) ∧ Below w.heap.size w w' :=
  (Strip_any _ w).mono fun _ _ ⟨h, hb⟩ => ⟨strip_sane h, hb⟩
theorem below_grown {w w1 w2 : World} (h : Below w.heap.size w w1) (hg : w1.grownBy w2 none) : Below w.heap.size w w2 := h.grown hg h.size (fun j hj => by cases hj)

set_option maxRecDepth 100000 in
set_option maxHeartbeats 2000000 in
theorem sane_any (w : World) : Calls Tryz.prog 6 #[] w fun e w' => e = .returned (.bool true) ∧ Below w.heap.size w w' := by
  go_enter Tryz.func6, Tryz.ntmps6
  go_wp2_with fail
  refine (has_b _ _ _ 8 _ _ 9 3 _ (by decide) t1 rfl (by decide) (by decide) (by intro t ht; simp only [List.mem_cons, List.not_mem_nil, or_false] at ht; rcases ht with rfl | rfl | rfl | rfl | rfl | rfl | rfl | rfl <;> exact fun h => by simp [rt] at h) rfl (by rw [alloc_miss _ _ _ (by simp), alloc_hit _ _ _ rfl]; rfl) (by rw [alloc_hit _ _ _ (by simp)]; rfl)).mono ?_
  rintro e w1 ⟨rfl, hb1⟩
  have hw1 : Below w.heap.size w w1 := below_le ((Below.alloc ((Below.refl _ w).alloc (Nat.le_refl _) _) (by simp) _)) hb1 (by simp; omega)
  have HW1 := Lib.hid hw1
  clear hb1 hw1
  go_wp2_with fail
  refine (has_b _ _ [⟨#[120, 39]⟩, ⟨#[58, 61]⟩, ⟨#[49, 50]⟩, ⟨#[46, 46]⟩, ⟨#[53]⟩, ⟨#[91, 62]⟩] 6 _ _ 9 3 _ (by decide) t2 rfl (by decide) (by decide) (by intro t ht; simp only [List.mem_cons, List.not_mem_nil, or_false] at ht; rcases ht with rfl | rfl | rfl | rfl | rfl | rfl <;> exact fun h => by simp [rt] at h ⊢) (by kernel_rfl) (by rw [alloc_miss _ _ _ (by simp), alloc_hit _ _ _ rfl]; rfl) (by rw [alloc_hit _ _ _ (by simp)]; rfl)).mono ?_
  rintro e w2 ⟨rfl, hb2⟩
  have hz1 := HW1.out.size
  have hw2 : Below w.heap.size w w2 := below_le ((HW1.out.alloc hz1 _).alloc (by simp; omega) _) hb2 (by simp; omega)
  have HW2 := Lib.hid hw2
  clear hb2 hw2 hz1
  go_wp2_with fail
  have hrow := heap_alloc_new w2 (.cells #[.string ⟨#[97, 124, 91, 98, 93, 124, 124, 99]⟩, .int .i64 6, .string ⟨#[40, 42, 32, 40, 42, 32, 42, 41]⟩, .int .i64 0, .string ⟨#[97, 32, 49, 50, 98]⟩, .int .i64 2] 52)
  have hb3 : Below w.heap.size w (w2.alloc (.cells #[.string ⟨#[97, 124, 91, 98, 93, 124, 124, 99]⟩, .int .i64 6, .string ⟨#[40, 42, 32, 40, 42, 32, 42, 41]⟩, .int .i64 0, .string ⟨#[97, 32, 49, 50, 98]⟩, .int .i64 2] 52)) := HW2.out.alloc HW2.out.size _
  have HROW := Lib.hid hrow
  have HB3 := Lib.hid hb3
  clear hrow hb3
  generalize (w2.alloc (.cells #[.string ⟨#[97, 124, 91, 98, 93, 124, 124, 99]⟩, .int .i64 6, .string ⟨#[40, 42, 32, 40, 42, 32, 42, 41]⟩, .int .i64 0, .string ⟨#[97, 32, 49, 50, 98]⟩, .int .i64 2] 52)) = w3 at *
  generalize w2.heap.size = g at *
  go_loopw [28] (fun v wr => ∃ k : Nat, k ≤ 3 ∧ v = .int .i64 k ∧ Below w.heap.size w wr ∧ wr.heap[g]? = some (.cells #[.string ⟨#[97, 124, 91, 98, 93, 124, 124, 99]⟩, .int .i64 6, .string ⟨#[40, 42, 32, 40, 42, 32, 42, 41]⟩, .int .i64 0, .string ⟨#[97, 32, 49, 50, 98]⟩, .int .i64 2] 52)) (fun v _ => 3 - (intOf v).toNat)
  case atStart => exact ⟨0, by omega, rfl, HB3.out, HROW.out⟩
  case round =>
    obtain ⟨k, hk, rfl, hb, hr⟩ := hrel
    have hz := hb.size
    have hgl : g < wr.heap.size := (Array.getElem?_eq_some_iff.1 hr).1
    by_cases hlt : k < 3
    · obtain ⟨s, a, e0, e1, hT, hs⟩ : ∃ (s : ByteArray) (a : Nat), wr.cell? ⟨g, k * 2, none⟩ = some (.string s) ∧ wr.cell? ⟨g, k * 2 + 1, none⟩ = some (.int .i64 a) ∧ Lx.T (bts s) 0 = .bad a ∧ s.size ≤ 100000 := by
        match k, hlt with
        | 0, _ => exact ⟨_, 6, by rw [(cells_of hr _).1]; rfl, by rw [(cells_of hr _).1]; rfl, t3, by decide⟩
        | 1, _ => exact ⟨_, 0, by rw [(cells_of hr _).1]; rfl, by rw [(cells_of hr _).1]; rfl, t4, by decide⟩
        | 2, _ => exact ⟨_, 2, by rw [(cells_of hr _).1]; rfl, by rw [(cells_of hr _).1]; rfl, t5, by decide⟩
      have hnew := heap_alloc_new wr (.cells #[.string s, .int .i64 a] 52)
      have htk := Tokens_any s (wr.alloc (.cells #[.string s, .int .i64 a] 52))
      have HB := Lib.hid (And.intro hb (And.intro hr hgl))
      have HT := Lib.hid (And.intro hT hs)
      have HTK := Lib.hid htk
      have HN := Lib.hid hnew
      clear hb hr hT hs htk hnew
      go_wp2_with fail
      refine HTK.out.mono ?_
      rintro e w5 ⟨hb5, hc⟩
      rcases hc with ⟨hbig, _⟩ | ⟨_, hc⟩
      · exact absurd HT.out.2 (by omega)
      rw [HT.out.1] at hc
      simp only at hc
      subst hc
      have c1 : w5.cell? ⟨wr.heap.size, 1, none⟩ = some (.int .i64 a) := by
        rw [World.cell?_of_block (w := wr.alloc (.cells #[.string s, .int .i64 a] 52)) (a := ⟨wr.heap.size, 1, none⟩) (hb5.block _ (by simp)), (cells_of HN.out 1).1]; rfl
      have hb6 : Below w.heap.size w w5 := below_le (HB.out.1.alloc hz _) hb5 (by simp; omega)
      have hr6 : w5.heap[g]? = some (.cells #[.string ⟨#[97, 124, 91, 98, 93, 124, 124, 99]⟩, .int .i64 6, .string ⟨#[40, 42, 32, 40, 42, 32, 42, 41]⟩, .int .i64 0, .string ⟨#[97, 32, 49, 50, 98]⟩, .int .i64 2] 52) :=
        (hb5.block g (by simp; omega)).trans ((heap_alloc_old wr _ hgl).trans HB.out.2.1)
      have H6 := Lib.hid (And.intro hb6 hr6)
      clear hb5 hb6 hr6 e0 e1
      unfold three
      go_wp2_with fail
      go_roundw
      case rel => exact ⟨k + 1, by omega, by go_num, H6.out.1, H6.out.2⟩
      case measure => simp [intOf]; omega
    · have hk3 : k = 3 := by omega
      subst hk3
      have HB := Lib.hid hb
      clear hb hr hgl hz
      go_wp2_with fail
      refine (kind_c ⟨#[91, 93]⟩ 5 _ (by decide) (by rw [show Lx.kindOf (bts ⟨#[91, 93]⟩) = 5 from k1]; rfl)).mono ?_
      rintro e w6 ⟨rfl, hb6⟩
      have hb7 := below_le HB.out hb6 HB.out.size
      have HB := Lib.hid hb7
      clear hb6 hb7
      go_wp2_with fail
      refine (kind_c ⟨#[61, 61, 62]⟩ 4 _ (by decide) (by rw [show Lx.kindOf (bts ⟨#[61, 61, 62]⟩) = 4 from k2]; rfl)).mono ?_
      rintro e w6 ⟨rfl, hb6⟩
      have hb7 := below_le HB.out hb6 HB.out.size
      have HB := Lib.hid hb7
      clear hb6 hb7
      go_wp2_with fail
      refine (kind_c ⟨#[101, 120, 105, 116]⟩ 2 _ (by decide) (by rw [show Lx.kindOf (bts ⟨#[101, 120, 105, 116]⟩) = 2 from k3]; rfl)).mono ?_
      rintro e w6 ⟨rfl, hb6⟩
      have hb7 := below_le HB.out hb6 HB.out.size
      have HB := Lib.hid hb7
      clear hb6 hb7
      go_wp2_with fail
      refine (kind_c ⟨#[97, 32, 98]⟩ 0 _ (by decide) (by rw [show Lx.kindOf (bts ⟨#[97, 32, 98]⟩) = 0 from k4]; rfl)).mono ?_
      rintro e w6 ⟨rfl, hb6⟩
      have hb7 := below_le HB.out hb6 HB.out.size
      have HB := Lib.hid hb7
      clear hb6 hb7
      go_wp2_with fail
      refine (sane3_any _ _).mono ?_
      rintro e w6 ⟨rfl, hg6⟩
      have hb7 := below_grown HB.out hg6
      have HB := Lib.hid hb7
      clear hg6 hb7
      go_wp2_with fail
      refine (sane3_any _ _).mono ?_
      rintro e w6 ⟨rfl, hg6⟩
      have hb7 := below_grown HB.out hg6
      have HB := Lib.hid hb7
      clear hg6 hb7
      go_wp2_with fail
      refine (sane2_any _ _).mono ?_
      rintro e w6 ⟨rfl, hg6⟩
      have hb7 := below_grown HB.out hg6
      have HB := Lib.hid hb7
      clear hg6 hb7
      go_wp2_with fail
      refine (sane2_any _ _).mono ?_
      rintro e w6 ⟨rfl, hg6⟩
      have hb7 := below_grown HB.out hg6
      have HB := Lib.hid hb7
      clear hg6 hb7
      go_wp2_with fail
      refine (sane2_any _ _).mono ?_
      rintro e w6 ⟨rfl, hg6⟩
      have hb7 := below_grown HB.out hg6
      have HB := Lib.hid hb7
      clear hg6 hb7
      go_wp2_with fail
      refine (sane1_any _ _).mono ?_
      rintro e w6 ⟨rfl, hg6⟩
      have hb7 := below_grown HB.out hg6
      have HB := Lib.hid hb7
      clear hg6 hb7
      go_wp2_with fail
      refine (sane2_any _ _).mono ?_
      rintro e w6 ⟨rfl, hg6⟩
      have hb7 := below_grown HB.out hg6
      have HB := Lib.hid hb7
      clear hg6 hb7
      go_wp2_with fail
      refine (join_c _ _ (jr_row (heap_alloc_new _ _))).mono ?_
      rintro e w7 ⟨rfl, hb6⟩
      have hb7 := below_le (HB.out.alloc HB.out.size _) hb6 (by have := HB.out.size; simp; omega)
      have HB := Lib.hid hb7
      clear hb6 hb7
      go_wp2_with fail
      refine (place_sane _).mono ?_
      rintro e w8 ⟨rfl, rfl⟩
      go_wp2_with fail
      refine (strip_c _).mono ?_
      rintro e w9 ⟨rfl, hb6⟩
      have hb7 := below_le HB.out hb6 HB.out.size
      have HB := Lib.hid hb7
      clear hb6 hb7
      go_wp2_with (first | (go_at_call 30; refine (Words_any _).mono ?_; rintro e w' ⟨rfl, rfl⟩) | (go_at_call 31; refine (Signs_any _).mono ?_; rintro e w' ⟨rfl, rfl⟩))
      go_ret
      exact ⟨rfl, (HB.out.alloc HB.out.size _).alloc (by have := HB.out.size; simp; omega) _⟩
end Go.Proofs.YtcjdacdggklifaaGreatDoor
