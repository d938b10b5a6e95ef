/- LexPlaces: the walk. -/
import Derived.Test.YtkghbecfjeldcaaDoorLongest
namespace Go.Proofs.YtkghbecfjeldcaaDoor
open Go.RowKit

/-- The reference's word for a text that is known to be blanks and comments. -/
theorem filling_yes (text : ByteArray) (hs : text.size ≤ 20000) (hT : Lx.T (bts text) 0 = .good []) (w : World) : Calls Tryd.prog 13 #[.string text] w fun e w' => e = .returned (.bool true) ∧ Below w.heap.size w w' :=
  (filling_any text hs w).mono fun e w' ⟨b, he, hb, hw⟩ => ⟨by rw [he, hb.2 hT], hw⟩

set_option maxRecDepth 100000 in
set_option maxHeartbeats 2000000 in
theorem LexPlaces_any (a : ByteArray) (ha : a.size ≤ 140737488355328) (w : World) : Calls Tryd.prog 4 #[.string a] w fun e w' => e = .returned (.bool true) ∧ Below w.heap.size w w' := by
  go_enter Tryd.func4, Tryd.ntmps4
  go_wp2_with fail
  refine (sane_any _).mono ?_
  rintro e w1 ⟨rfl, hb1⟩
  have hsh := short_any [a] 1 rfl (by omega) (by intro s hs; simp only [List.mem_cons, List.not_mem_nil, or_false] at hs; subst hs; assumption) w1.heap.size 1 9 (w1.alloc (.cells #[.string a] 9)) (heap_alloc_new w1 _)
  have hb2 : Below w.heap.size w (w1.alloc (.cells #[.string a] 9)) := hb1.alloc hb1.size _
  have HSH := Lib.hid hsh
  have HB2 := Lib.hid hb2
  clear hb1 hsh hb2 ha
  go_wp2_with fail
  refine HSH.out.mono ?_
  rintro e w' ⟨rfl, rfl⟩
  generalize (w1.alloc (.cells #[.string a] 9)) = w2 at *
  clear HSH
  by_cases hd : total [a] ≤ 20000
  · rw [show decide (total [a] ≤ 20000) = true from by simpa using hd]
    have hsz : a.size ≤ 20000 := by simpa [total] using hd
    clear hd
    have HTK := Lib.hid (tokens_s a hsz w2)
    go_wp2_with fail
    refine HTK.out.mono ?_
    rintro e w3 ⟨hb3, h⟩
    have HB3 := Lib.hid (below_le HB2.out hb3 HB2.out.size)
    clear hb3 HTK
    rcases h with ⟨p, hT, rfl⟩ | ⟨l, hT, hl, v, rfl, hown⟩
    · have hp := (Lx.T_bad_at (bts a) 0 p hT).2.1
      rw [bts_length] at hp
      have hp1 : (0 : Int) ≤ (p : Int) := Int.natCast_nonneg _
      have hp2 : (p : Int) < (a.size : Int) := by omega
      have hp3 : (p : Int) < max (a.size : Int) 1 := by omega
      clear hT
      unfold three
      go_wp2_with fail
      go_ret
      exact ⟨rfl, HB3.out⟩
    · obtain ⟨a0, cap0, rfl, hcap⟩ := owns_form hown
      have htv := tokV_owned hown
      have HT := Lib.hid (And.intro hT (And.intro hl htv))
      clear hT hown htv
      unfold three
      obtain ⟨n, hn⟩ : ∃ n, l.length = n := ⟨_, rfl⟩
      rw [hn] at hl hcap ⊢
      have HN := Lib.hid hn
      clear hn
      go_wp2_with fail
      go_loopw [6, 39] (fun f v wr => ∃ k : Nat, k ≤ n ∧ v = .int .i64 k ∧ f = .int .i64 (Lx.endOf 0 (l.take k)) ∧ Below w3.heap.size w3 wr) (fun _ v _ => n - (intOf v).toNat)
      case atStart => exact ⟨0, by omega, rfl, rfl, Below.refl _ _⟩
      case round =>
        obtain ⟨k, hk, rfl, rfl, hbw⟩ := hrel
        have HBW := Lib.hid hbw
        obtain ⟨x, hx⟩ : ∃ x, x = Lx.endOf 0 (l.take k) := ⟨_, rfl⟩
        rw [← hx]
        by_cases hlt : k < n
        · have hkl : k < l.length := by have := HN.out; omega
          have hkm : k < (l.map rt).length := by rw [List.length_map]; exact hkl
          obtain ⟨g, off, rfl, hgl, hce⟩ := HT.out.2.2 (by rw [List.length_map]; omega)
          have e1 : ∀ j, j < 5 → wr.cell? ⟨g, off + (k * 5 + j), none⟩ = (rt l[k]).cells[j]? := fun j hj => by
            have h1 := hce k hkm j hj
            rw [List.getElem_map] at h1
            exact (World.cell?_of_block (w := w3) (a := ⟨g, off + (k * 5 + j), none⟩) (hbw.block g hgl)).trans h1
          obtain ⟨f1, f2, f3, f4, f5, f6, f7, -⟩ := tok_facts a l HT.out.1 k hkl x hx
          have hnx := endOf_next l k hkl
          generalize l[k] = t at *
          obtain ⟨tk, tn, tst, ta, tf⟩ := t
          simp only at f1 f2 f3 f4 f5 f6 f7 hnx
          have a0' := e1 0 (by omega)
          have a1 := e1 1 (by omega)
          have a2 := e1 2 (by omega)
          have a3 := e1 3 (by omega)
          have a4 := e1 4 (by omega)
          simp only [rt, RT.cells, List.getElem?_cons_zero, List.getElem?_cons_succ, Nat.add_zero, ← Nat.add_assoc] at a0' a1 a2 a3 a4
          have HFL := Lib.hid (fun w => filling_yes (a.extract x ta) (by simp; omega) f5 w)
          have hkd := fun w => Kind_any (a.extract ta tf) w (by simp; omega)
          rw [f6] at hkd
          have HKD := Lib.hid hkd
          have HNX := Lib.hid hnx
          have F7 := Lib.hid f7
          clear e1 hce hbw f4 f5 f6 f7 hkm hkd hnx hx
          have i1 : (ta : Int) < (tf : Int) := by omega
          have i2 : (tf : Int) ≤ (a.size : Int) := by omega
          have i3 : (0 : Int) ≤ (ta : Int) := Int.natCast_nonneg _
          have i4 : (0 : Int) ≤ (tf : Int) := Int.natCast_nonneg _
          have i5 : (ta : Int) ≤ (tf : Int) := by omega
          have i6 : (x : Int) ≤ (ta : Int) := by omega
          have i7 : (0 : Int) ≤ (x : Int) := Int.natCast_nonneg _
          have i8 : (ta : Int) ≤ (a.size : Int) := by omega
          have i9 : ¬ ((ta : Int) < (x : Int)) := by omega
          have i10 : ¬ ((tf : Int) ≤ (ta : Int)) := by omega
          go_wp2_with fail
          generalize hWt : (wr.alloc (.cells #[.int .i64 tk, .int .i64 tn, .string (ofB tst), .int .i64 ta, .int .i64 tf] 31)) = Wt
          have hh : Wt.heap[wr.heap.size]? = some (.cells #[.int .i64 tk, .int .i64 tn, .string (ofB tst), .int .i64 ta, .int .i64 tf] 31) := by subst hWt; exact heap_alloc_new wr _
          have hbt : Below w3.heap.size w3 Wt := by subst hWt; exact HBW.out.alloc HBW.out.size _
          have hkeep : ∀ W, Below Wt.heap.size Wt W → W.cell? ⟨wr.heap.size, 0, none⟩ = some (.int .i64 tk) ∧ W.cell? ⟨wr.heap.size, 2, none⟩ = some (.string (ofB tst)) ∧ W.cell? ⟨wr.heap.size, 3, none⟩ = some (.int .i64 ta) ∧ W.cell? ⟨wr.heap.size, 4, none⟩ = some (.int .i64 tf) := fun W hb => by
            have hx : W.heap[wr.heap.size]? = some (.cells #[.int .i64 tk, .int .i64 tn, .string (ofB tst), .int .i64 ta, .int .i64 tf] 31) := (hb.block wr.heap.size (Array.getElem?_eq_some_iff.1 hh).1).trans hh
            exact ⟨by rw [(cells_of hx 0).1]; rfl, by rw [(cells_of hx 2).1]; rfl, by rw [(cells_of hx 3).1]; rfl, by rw [(cells_of hx 4).1]; rfl⟩
          have HK := Lib.hid hkeep
          have HBT := Lib.hid hbt
          clear hWt hh hbt hkeep a0' a1 a2 a3 a4
          generalize wr.heap.size = gb at *
          refine (HFL.out _).mono ?_
          rintro e W4 ⟨rfl, hb4⟩
          have hk4 : ∀ W, Below W4.heap.size W4 W → W.cell? ⟨gb, 0, none⟩ = some (.int .i64 tk) ∧ W.cell? ⟨gb, 2, none⟩ = some (.string (ofB tst)) ∧ W.cell? ⟨gb, 3, none⟩ = some (.int .i64 ta) ∧ W.cell? ⟨gb, 4, none⟩ = some (.int .i64 tf) := fun W hb => HK.out W (below_le hb4 hb hb4.size)
          have HK4 := Lib.hid hk4
          have HB4 := Lib.hid (below_le HBT.out hb4 HBT.out.size)
          clear hk4 hb4
          by_cases h50 : k < 50
          · have h51 : (k : Int) < 50 := by omega
            go_wp2_with fail
            go_region_held3 (fun W => W.cell? ⟨gb, 0, none⟩ = some (.int .i64 tk) ∧ W.cell? ⟨gb, 2, none⟩ = some (.string (ofB tst)) ∧ W.cell? ⟨gb, 3, none⟩ = some (.int .i64 ta) ∧ W.cell? ⟨gb, 4, none⟩ = some (.int .i64 tf))
              (first | (with_reducible refine HK4.out _ ?_; (repeat (first | with_reducible exact Below.refl _ _ | with_reducible apply belowD2)); done) | (refine HK4.out _ (below_le (B := W4.heap.size) (a := W4) ?_ hb' ?_) <;> (repeat (first | with_reducible exact Below.refl _ _ | with_reducible apply belowD2 | exact Nat.le_refl _)); done))
              (first | (go_at_call 16; with_reducible refine (HKD.out _).mono ?_; rintro e w' ⟨rfl, hb'⟩))
            have hb5 : Below W4.heap.size W4 w' := below_le (B := W4.heap.size) (a := W4) (belowD2 (Below.refl _ _)) hb' (Nat.le_refl _)
            have HB5 := Lib.hid hb5
            clear hb5 hb'
            generalize w' = W5 at *
            have c0 := (HK4.out W5 HB5.out).1
            have c2 := (HK4.out W5 HB5.out).2.1
            have c3 := (HK4.out W5 HB5.out).2.2.1
            have c4 := (HK4.out W5 HB5.out).2.2.2
            by_cases h3 : tk = 3
            · have h31 : ((tk : Int) == 3) = true := by rw [beq_iff_eq]; omega
              have h32 : ((tk : Int) != 3) = false := by rw [bne, h31]; rfl
              go_wp2_with fail
              go_quiet (fail)
              go_wp2_with fail
              all_goals
                go_roundw
                case rel => exact ⟨k + 1, by omega, by go_num, by rw [HNX.out], below_le HB4.out (belowN2 _ HB5.out) HB4.out.size⟩
                case measure => simp [intOf]; omega
            · have h31 : ((tk : Int) == 3) = false := by rw [beq_eq_false_iff_ne]; omega
              have h32 : ((tk : Int) != 3) = true := by rw [bne, h31]; rfl
              have hse : ((ofB tst).toList == (a.extract ta tf).toList) = true := by rw [F7.out h3]; simp
              rw [F7.out h3] at c2
              go_wp2_with fail
              go_quiet (fail)
              go_wp2_with fail
              all_goals
                go_roundw
                case rel => exact ⟨k + 1, by omega, by go_num, by rw [HNX.out], below_le HB4.out (belowN2 _ HB5.out) HB4.out.size⟩
                case measure => simp [intOf]; omega
          · have h51 : ¬ ((k : Int) < 50) := by omega
            have b0 := (HK4.out W4 (Below.refl _ _)).1
            have b3 := (HK4.out W4 (Below.refl _ _)).2.2.1
            have b4 := (HK4.out W4 (Below.refl _ _)).2.2.2
            have h52 : decide ((k : Int) < 50) = false := decide_eq_false h51
            go_wp2_with fail
            go_quiet (fail)
            clear b0 b3 b4
            have HB5 := Lib.hid (belowN2 nq (Below.refl W4.heap.size W4))
            generalize W4.drewN nq = W5 at *
            have c0 := (HK4.out W5 HB5.out).1
            have c2 := (HK4.out W5 HB5.out).2.1
            have c3 := (HK4.out W5 HB5.out).2.2.1
            have c4 := (HK4.out W5 HB5.out).2.2.2
            by_cases h3 : tk = 3
            · have h31 : ((tk : Int) == 3) = true := by rw [beq_iff_eq]; omega
              have h32 : ((tk : Int) != 3) = false := by rw [bne, h31]; rfl
              go_wp2_with fail
              go_quiet (fail)
              go_wp2_with fail
              all_goals
                go_roundw
                case rel => exact ⟨k + 1, by omega, by go_num, by rw [HNX.out], below_le HB4.out (belowN2 _ HB5.out) HB4.out.size⟩
                case measure => simp [intOf]; omega
            · have h31 : ((tk : Int) == 3) = false := by rw [beq_eq_false_iff_ne]; omega
              have h32 : ((tk : Int) != 3) = true := by rw [bne, h31]; rfl
              rw [F7.out h3] at c2
              go_wp2_with fail
              go_quiet (fail)
              go_wp2_with fail
              all_goals
                go_roundw
                case rel => exact ⟨k + 1, by omega, by go_num, by rw [HNX.out], below_le HB4.out (belowN2 _ HB5.out) HB4.out.size⟩
                case measure => simp [intOf]; omega
        · have hkn : n = k := by omega
          subst hkn
          rw [List.take_of_length_le (by have := HN.out; omega)] at hx
          have hlf := last_facts a l HT.out.1
          rw [← hx] at hlf
          have HFL := Lib.hid (fun w => filling_yes (a.extract x a.size) (by simp; omega) hlf.2 w)
          have j1 : (0 : Int) ≤ (x : Int) := Int.natCast_nonneg _
          have j2 : (x : Int) ≤ (a.size : Int) := by omega
          clear hbw hx hlf
          go_wp2_with fail
          refine (HFL.out _).mono ?_
          rintro e w4 ⟨rfl, hb4⟩
          have HB4 := Lib.hid (below_le HBW.out hb4 HBW.out.size)
          clear hb4
          go_wp2_with fail
          go_ret
          exact ⟨rfl, below_le HB3.out HB4.out HB3.out.size⟩
  · rw [show decide (total [a] ≤ 20000) = false from by simpa using hd]
    clear hd
    go_wp2_with fail
    go_ret
    exact ⟨rfl, HB2.out⟩
end Go.Proofs.YtkghbecfjeldcaaDoor
