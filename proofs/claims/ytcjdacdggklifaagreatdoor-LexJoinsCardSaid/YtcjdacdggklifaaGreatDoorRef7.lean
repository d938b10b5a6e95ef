/- The reference: One. -/
import Derived.Test.YtcjdacdggklifaaGreatDoorRef4
import Derived.Laws.ResultCell
import Derived.Laws.Rows
namespace Go.Proofs.YtcjdacdggklifaaGreatDoor
open Go.RowKit

/-- What R.One hands back. -/
def OneR (text : ByteArray) (a : Nat) (w : World) (e : Ending) (w' : World) : Prop :=
  ∃ t : RT, ∃ b : Bool, e = .returned (.tuple #[t.v, .bool b]) ∧ w.grownBy w' none ∧
    match Lx.step ((bts text).drop a) with
    | .tok k n s len => b = true ∧ t = ⟨k, n, ofB s, a, (a + len : Nat)⟩
    | _ => b = false
theorem oneR_bad {text : ByteArray} {a : Nat} {w w' : World} {t : RT} (h : Lx.step ((bts text).drop a) = .bad) (hg : w.grownBy w' none) : OneR text a w (.returned (.tuple #[t.v, .bool false])) w' :=
  ⟨t, false, rfl, hg, by rw [h]⟩
theorem oneR_tok {text : ByteArray} {a : Nat} {w w' : World} {k n : Nat} {s : Lx.Bs} {len : Nat} (h : Lx.step ((bts text).drop a) = .tok k n s len) (hg : w.grownBy w' none) :
    OneR text a w (.returned (.tuple #[.agg #[.int .i64 k, .int .i64 n, .string (ofB s), .int .i64 a, .int .i64 ((a + len : Nat) : Int)], .bool true])) w' :=
  ⟨⟨k, n, ofB s, a, (a + len : Nat)⟩, true, rfl, hg, by rw [h]; exact ⟨rfl, rfl⟩⟩

theorem kd_other (c : UInt8) (r : Lx.Bs) (h : Lx.kd (c :: r) = .other) : Lx.letter c = false ∧ Lx.digit c = false ∧ Lx.symb c = false := by
  revert h
  unfold Lx.kd
  cases h1 : Lx.blank c <;> cases h2 : Lx.opens (c :: r) <;> cases h3 : Lx.letter c <;> cases h4 : Lx.digit c <;> cases h5 : Lx.symb c <;> simp_all
theorem one_fin {text : ByteArray} {a : Nat} {w W : World} {k m E : Nat} {ex : ByteArray} {s : Lx.Bs} (hE : a + m = E) (hex : ex = ofB s) (hst : Lx.step ((bts text).drop a) = if m > 32 then .bad else .tok k 0 s m) (hg : w.grownBy W none) :
    OneR text a w (.returned (.tuple #[.agg #[.int .i64 k, .int .i64 0, .string ex, .int .i64 a, .int .i64 E], .bool (decide ((m : Int) ≤ 32))])) W := by
  subst hE hex
  by_cases hm : m ≤ 32
  · rw [if_neg (by omega)] at hst
    rw [decide_eq_true (by omega)]
    exact oneR_tok hst hg
  · rw [if_pos (by omega)] at hst
    rw [decide_eq_false (by omega)]
    exact oneR_bad (t := ⟨k, 0, ofB s, a, (a + m : Nat)⟩) hst hg
theorem grown1 {w W : World} {b : Nat} (h : w.grownBy W none) (hb : w.heap.size ≤ b) (k : Nat) (v : Value) : w.grownBy (W.setCell ⟨b, k, none⟩ v) none :=
  ⟨h.os, h.tape, h.output, by simp [World.setCell]; exact h.size, fun i hi _ => (Below.heap_setCell _ _ _ _ (by show i ≠ b; omega)).trans (h.block i hi (by simp))⟩

set_option maxRecDepth 100000 in
set_option maxHeartbeats 2000000 in
theorem rOne_letter (text : ByteArray) (a : Nat) (ha : a < text.size) (hs : text.size ≤ 2000000) (hk : Lx.kd ((bts text).drop a) = .letter) (w : World) :
    Calls Tryz.prog 49 #[.string text, .int .i64 a] w (OneR text a w) := by
  have hd := bts_drop text a ha
  have hl : Lx.letter text[a] = true := (Lx.kd_inv text[a] ((bts text).drop (a + 1))).1 (by rw [← hd]; exact hk)
  have hst : Lx.step ((bts text).drop a) = Lx.word ((bts text).drop a) := by unfold Lx.step; rw [hk]
  have hrl := Lx.run_le Lx.inw ((bts text).drop a)
  rw [List.length_drop, bts_length] at hrl
  have HL := Lib.hid (fun w => rLetter_any text[a] w)
  rw [hl] at HL
  have hnm := fun w => rName_any text a (by omega) hs w
  obtain ⟨P, hP⟩ : ∃ P, P = OneR text a w := ⟨_, rfl⟩
  rw [← hP]
  have hw : Lx.word ((bts text).drop a) = if Lx.run Lx.inw ((bts text).drop a) > 32 then .bad else .tok (if Lx.words.contains (((bts text).drop a).take (Lx.run Lx.inw ((bts text).drop a))) then 2 else 1) 0 (((bts text).drop a).take (Lx.run Lx.inw ((bts text).drop a))) (Lx.run Lx.inw ((bts text).drop a)) := rfl
  rw [hw] at hst
  obtain ⟨m, hm⟩ : ∃ m, Lx.run Lx.inw ((bts text).drop a) = m := ⟨_, rfl⟩
  rw [hm] at hnm hst hrl
  obtain ⟨E, hE⟩ : ∃ E, a + m = E := ⟨_, rfl⟩
  have hex : bts (text.extract a E) = ((bts text).drop a).take m := by rw [bts_extract, ← hE, Nat.add_sub_cancel_left]
  have hex2 : text.extract a E = ofB (((bts text).drop a).take m) := by rw [← hex, ofB_bts]
  rw [hE] at hnm
  have HN := Lib.hid hnm
  have hin := fun g cap t w hr => In_any Lx.words 37 rfl (by omega) g cap t (text.extract a E) w hr
  rw [hex] at hin
  obtain ⟨q, hq⟩ : ∃ q, Lx.words.contains (((bts text).drop a).take m) = q := ⟨_, rfl⟩
  rw [hq] at hin hst
  have HIN := Lib.hid hin
  have HX := Lib.hid (And.intro hP (And.intro hst (And.intro hex hex2)))
  have hE0 : (0 : Int) ≤ (a : Int) := Int.natCast_nonneg _
  have hE1 : (a : Int) ≤ (E : Int) := by omega
  have hE2 : (E : Int) ≤ (text.size : Int) := by omega
  have hE3 : (E : Int) - (a : Int) = (m : Int) := by omega
  have hE4 : E ≤ text.size := by omega
  have hE5 : a ≤ E := by omega
  have ha2 : (a : Int) < (text.size : Int) := by omega
  clear hin hq hP hst hex hex2 hnm hw hm hd hl hk
  go_enter Tryz.func49, Tryz.ntmps49
  go_wp2_with (first | (go_at_call 70; refine (HL.out _).mono ?_; rintro e w' ⟨rfl, hw⟩; subst hw) | (go_at_call 71; refine (HN.out _).mono ?_; rintro e w' ⟨rfl, rfl⟩) | (go_at_call 73; refine (rWords_any _).mono ?_; rintro e w' ⟨rfl, rfl⟩))
  obtain ⟨Wt, hWt⟩ : ∃ W, W = (w.alloc (.cells #[.int .i64 0, .int .i64 0, .string ⟨#[]⟩, .int .i64 0, .int .i64 0] 35)).alloc (.cells #[.int .i64 1, .int .i64 0, .string (text.extract a E), .int .i64 a, .int .i64 E] 35) := ⟨_, rfl⟩
  rw [← hWt]
  have h0 : Wt.heap[w.heap.size]? = some (.cells #[.int .i64 0, .int .i64 0, .string ⟨#[]⟩, .int .i64 0, .int .i64 0] 35) := by subst hWt; rw [alloc_miss _ _ _ (by simp), alloc_hit _ _ _ rfl]
  have h1 : Wt.heap[w.heap.size + 1]? = some (.cells #[.int .i64 1, .int .i64 0, .string (text.extract a E), .int .i64 a, .int .i64 E] 35) := by subst hWt; rw [alloc_hit _ _ _ (by simp)]
  have hz : Wt.heap.size = w.heap.size + 2 := by subst hWt; simp
  have hgr : w.grownBy Wt none := by subst hWt; exact grown_trans (World.grownBy_alloc _ _ _) (World.grownBy_alloc _ _ _)
  have HW := Lib.hid (And.intro h0 (And.intro h1 (And.intro hz hgr)))
  clear hWt h0 h1 hz hgr
  have hkeep : ∀ W, Wt.grownBy W none → W.cell? ⟨w.heap.size + 1, 2, none⟩ = some (.string (text.extract a E)) := fun W hg => by
    rw [World.cell?_of_block (w := Wt) (hg.block (w.heap.size + 1) (by have := HW.out.2.2.1; omega) (by simp)), (cells_of HW.out.2.1 2).1]; rfl
  have HK := Lib.hid hkeep
  clear hkeep
  go_region_held3 (fun W => W.cell? ⟨w.heap.size + 1, 2, none⟩ = some (.string (text.extract a E)))
    (first | (with_reducible refine HK.out _ ?_; (repeat (first | with_reducible exact grownZ _ _ | with_reducible apply grownA | with_reducible apply grownD)); done))
    (first | (go_at_call 73; with_reducible refine (rWords_any _).mono ?_; rintro e w' ⟨rfl, rfl⟩) | (go_at_call 72; refine (HIN.out Wt.heap.size 37 9 (Wt.alloc (.cells (strs Lx.words) 9)).drew (heap_alloc_new Wt (.cells (strs Lx.words) 9))).mono ?_; rintro e w' ⟨rfl, rfl⟩))
  obtain ⟨W3, hW3⟩ : ∃ W, W = (Wt.alloc (.cells (strs Lx.words) 9)).drew := ⟨_, rfl⟩
  rw [← hW3]
  have hg3 : Wt.grownBy W3 none := by subst hW3; exact grownD (World.grownBy_alloc _ _ _)
  have h0 : W3.heap[w.heap.size]? = some (.cells #[.int .i64 0, .int .i64 0, .string ⟨#[]⟩, .int .i64 0, .int .i64 0] 35) := (hg3.block w.heap.size (by have := HW.out.2.2.1; omega) (by simp)).trans HW.out.1
  have h1 : W3.heap[w.heap.size + 1]? = some (.cells #[.int .i64 1, .int .i64 0, .string (text.extract a E), .int .i64 a, .int .i64 E] 35) := (hg3.block (w.heap.size + 1) (by have := HW.out.2.2.1; omega) (by simp)).trans HW.out.2.1
  have hg4 : w.grownBy W3 none := grown_trans HW.out.2.2.2 hg3
  have H3 := Lib.hid (And.intro h0 (And.intro h1 hg4))
  clear hW3 hg3 h0 h1 hg4
  have c0 := (cells_of H3.out.1 0).1
  have c1 := (cells_of H3.out.1 1).1
  have c2 := (cells_of H3.out.1 2).1
  have c3 := (cells_of H3.out.1 3).1
  have c4 := (cells_of H3.out.1 4).1
  have d0 := (cells_of H3.out.2.1 0).1
  have d1 := (cells_of H3.out.2.1 1).1
  have d2 := (cells_of H3.out.2.1 2).1
  have d3 := (cells_of H3.out.2.1 3).1
  have d4 := (cells_of H3.out.2.1 4).1
  have e0 := (cells_of H3.out.1 0).2
  have e1 := (cells_of H3.out.1 1).2
  have e2 := (cells_of H3.out.1 2).2
  have e3 := (cells_of H3.out.1 3).2
  have e4 := (cells_of H3.out.1 4).2
  have f0 := (cells_of H3.out.2.1 0).2
  simp only [List.getElem?_toArray, List.getElem?_cons_zero, List.getElem?_cons_succ] at c0 c1 c2 c3 c4 d0 d1 d2 d3 d4
  cases q
  · go_wp2_with fail
    refine bodyPost_ret (v := .tuple #[.agg #[.int .i64 1, .int .i64 0, .string (text.extract a E), .int .i64 a, .int .i64 E], .bool (decide ((m : Int) ≤ 32))]) ?_ rfl ?_
    · rw [results_cell_tmp rfl]; go_simp
    · rw [HX.out.1]
      exact one_fin (k := 1) hE HX.out.2.2.2 HX.out.2.1 (grown1 (grown1 (grown1 (grown1 (grown1 H3.out.2.2 (Nat.le_refl _) _ _) (Nat.le_refl _) _ _) (Nat.le_refl _) _ _) (Nat.le_refl _) _ _) (Nat.le_refl _) _ _)
  · go_wp2_with fail
    refine bodyPost_ret (v := .tuple #[.agg #[.int .i64 2, .int .i64 0, .string (text.extract a E), .int .i64 a, .int .i64 E], .bool (decide ((m : Int) ≤ 32))]) ?_ rfl ?_
    · rw [results_cell_tmp rfl]; go_simp
    · rw [HX.out.1]
      exact one_fin (k := 2) hE HX.out.2.2.2 HX.out.2.1 (grown1 (grown1 (grown1 (grown1 (grown1 (grown1 H3.out.2.2 (Nat.le_succ _) _ _) (Nat.le_refl _) _ _) (Nat.le_refl _) _ _) (Nat.le_refl _) _ _) (Nat.le_refl _) _ _) (Nat.le_refl _) _ _)

set_option maxRecDepth 100000 in
set_option maxHeartbeats 2000000 in
theorem rOne_sign (text : ByteArray) (a : Nat) (ha : a < text.size) (hs : text.size ≤ 2000000) (hk : Lx.kd ((bts text).drop a) = .other) (hne : Lx.sgn ((bts text).drop a) ≠ []) (w : World) :
    Calls Tryz.prog 49 #[.string text, .int .i64 a] w (OneR text a w) := by
  have hd := bts_drop text a ha
  have hkk := kd_other text[a] ((bts text).drop (a + 1)) (by rw [← hd]; exact hk)
  have hst : Lx.step ((bts text).drop a) = .tok 5 0 (Lx.sgn ((bts text).drop a)) (Lx.sgn ((bts text).drop a)).length := by
    unfold Lx.step; rw [hk]; exact Lx.sign_tok.2 ⟨hne, rfl, rfl, rfl, rfl⟩
  have hf : fold2 ((bts text).drop a) 24 = Lx.sgn ((bts text).drop a) := fold2_is _ fun c r e => by rw [hd] at e; cases e; exact hkk.2.2
  have hsg := fun w => rSign_any text a (by omega) hs w
  rw [hf] at hsg
  have hln := (Lx.step_tok hst).2
  rw [List.length_drop, bts_length] at hln
  have HL := Lib.hid (fun w => rLetter_any text[a] w)
  have HD := Lib.hid (fun w => rDigit_any text[a] w)
  rw [hkk.1] at HL
  rw [hkk.2.1] at HD
  generalize Lx.sgn ((bts text).drop a) = sg at *
  have hnz : (ofB sg).size = sg.length := ofB_size sg
  have hzz : ((ofB sg).size : Int) = (sg.length : Int) := by rw [hnz]
  have htl : ((ofB sg).toList == []) = false := by rw [ofB_list]; cases sg with | nil => exact absurd rfl hne | cons => rfl
  obtain ⟨sb, hsb⟩ : ∃ x, x = ofB sg := ⟨_, rfl⟩
  rw [← hsb] at hsg hnz hzz htl
  have HS := Lib.hid hsg
  obtain ⟨P, hP⟩ : ∃ P, P = OneR text a w := ⟨_, rfl⟩
  rw [← hP]
  have HX := Lib.hid (And.intro hP (And.intro hst hsb))
  clear hP hst hsb hsg hd hkk hf hne hk hnz
  have ha2 : (a : Int) < (text.size : Int) := by omega
  go_enter Tryz.func49, Tryz.ntmps49
  go_wp2_with (first | (go_at_call 70; refine (HL.out _).mono ?_; rintro e w' ⟨rfl, hw⟩; subst hw) | (go_at_call 74; refine (HD.out _).mono ?_; rintro e w' ⟨rfl, hw⟩; subst hw))
  refine (HS.out _).mono ?_
  rintro e w2 ⟨rfl, hg2⟩
  have h0 : w2.heap[w.heap.size]? = some (.cells #[.int .i64 0, .int .i64 0, .string ⟨#[]⟩, .int .i64 0, .int .i64 0] 35) := (hg2.block w.heap.size (by simp) (by simp)).trans (heap_alloc_new w _)
  have hg : w.grownBy w2 none := grown_trans (World.grownBy_alloc _ _ _) hg2
  have H3 := Lib.hid (And.intro h0 hg)
  clear h0 hg hg2
  have c0 := (cells_of H3.out.1 0).1
  have c1 := (cells_of H3.out.1 1).1
  have c2 := (cells_of H3.out.1 2).1
  have c3 := (cells_of H3.out.1 3).1
  have c4 := (cells_of H3.out.1 4).1
  have e0 := (cells_of H3.out.1 0).2
  have e1 := (cells_of H3.out.1 1).2
  have e2 := (cells_of H3.out.1 2).2
  have e3 := (cells_of H3.out.1 3).2
  have e4 := (cells_of H3.out.1 4).2
  simp only [List.getElem?_toArray, List.getElem?_cons_zero, List.getElem?_cons_succ] at c0 c1 c2 c3 c4
  go_wp2_with fail
  refine bodyPost_ret (v := .tuple #[.agg #[.int .i64 5, .int .i64 0, .string sb, .int .i64 a, .int .i64 ((a : Int) + (sg.length : Int))], .bool true]) ?_ rfl ?_
  · rw [results_cell_tmp rfl]; go_simp
  · rw [HX.out.1, HX.out.2.2]
    exact oneR_tok HX.out.2.1 (grown1 (grown1 (grown1 (grown1 (grown1 H3.out.2 (Nat.le_refl _) _ _) (Nat.le_refl _) _ _) (Nat.le_refl _) _ _) (Nat.le_refl _) _ _) (Nat.le_refl _) _ _)

/-- The end of a name of symbols. -/
theorem one_fin2 {text : ByteArray} {a : Nat} {w W : World} {k m E : Nat} {ex : ByteArray} {s : Lx.Bs} (hE : a + m = E) (hex : ex = ofB s) (hst : Lx.step ((bts text).drop a) = if m = 0 then .bad else if m > 32 then .bad else .tok k 0 s m) (hg : w.grownBy W none) (b : Bool) (hb : b = (decide (0 < m) && decide (m ≤ 32))) :
    OneR text a w (.returned (.tuple #[.agg #[.int .i64 k, .int .i64 0, .string ex, .int .i64 a, .int .i64 E], .bool b])) W := by
  subst hE hex
  by_cases h0 : m = 0
  · rw [if_pos h0] at hst
    rw [hb, decide_eq_false (by omega), Bool.false_and]
    exact oneR_bad (t := ⟨k, 0, ofB s, a, (a + m : Nat)⟩) hst hg
  · rw [if_neg h0] at hst
    rw [hb, decide_eq_true (by omega), Bool.true_and]
    by_cases hm : m ≤ 32
    · rw [if_neg (by omega)] at hst
      rw [decide_eq_true hm]
      exact oneR_tok hst hg
    · rw [if_pos (by omega)] at hst
      rw [decide_eq_false hm]
      exact oneR_bad (t := ⟨k, 0, ofB s, a, (a + m : Nat)⟩) hst hg

set_option maxRecDepth 100000 in
set_option maxHeartbeats 2000000 in
theorem rOne_symb (text : ByteArray) (a : Nat) (ha : a < text.size) (hs : text.size ≤ 2000000) (hl : Lx.letter text[a] = false) (hdg : Lx.digit text[a] = false) (hf : fold2 ((bts text).drop a) 24 = [])
    (hst : Lx.step ((bts text).drop a) = if Lx.run Lx.symb ((bts text).drop a) = 0 then .bad else if Lx.run Lx.symb ((bts text).drop a) > 32 then .bad else .tok (if Lx.signs.contains (((bts text).drop a).take (Lx.run Lx.symb ((bts text).drop a))) then 5 else 4) 0 (((bts text).drop a).take (Lx.run Lx.symb ((bts text).drop a))) (Lx.run Lx.symb ((bts text).drop a))) (w : World) :
    Calls Tryz.prog 49 #[.string text, .int .i64 a] w (OneR text a w) := by
  have hrl := Lx.run_le Lx.symb ((bts text).drop a)
  rw [List.length_drop, bts_length] at hrl
  have HL := Lib.hid (fun w => rLetter_any text[a] w)
  have HD := Lib.hid (fun w => rDigit_any text[a] w)
  rw [hl] at HL
  rw [hdg] at HD
  have hsg := fun w => rSign_any text a (by omega) hs w
  rw [hf] at hsg
  have HS := Lib.hid hsg
  have htl : ((ofB []).toList == []) = true := by rw [ofB_list]; rfl
  obtain ⟨P, hP⟩ : ∃ P, P = OneR text a w := ⟨_, rfl⟩
  rw [← hP]
  obtain ⟨m, hm⟩ : ∃ m, Lx.run Lx.symb ((bts text).drop a) = m := ⟨_, rfl⟩
  rw [hm] at hst hrl
  obtain ⟨E, hE⟩ : ∃ E, a + m = E := ⟨_, rfl⟩
  have hex : bts (text.extract a E) = ((bts text).drop a).take m := by rw [bts_extract, ← hE, Nat.add_sub_cancel_left]
  have hex2 : text.extract a E = ofB (((bts text).drop a).take m) := by rw [← hex, ofB_bts]
  have hin := fun g cap t w hr => In_any Lx.signs 24 rfl (by omega) g cap t (text.extract a E) w hr
  rw [hex] at hin
  obtain ⟨q, hq⟩ : ∃ q, Lx.signs.contains (((bts text).drop a).take m) = q := ⟨_, rfl⟩
  rw [hq] at hin hst
  have HIN := Lib.hid hin
  have hrun : E = a + Lx.run Lx.symb ((bts text).drop a) := by rw [hm, hE]
  have HX := Lib.hid (And.intro hP (And.intro hst (And.intro hex2 hrun)))
  have hE0 : (0 : Int) ≤ (a : Int) := Int.natCast_nonneg _
  have hE1 : (a : Int) ≤ (E : Int) := by omega
  have hE2 : (E : Int) ≤ (text.size : Int) := by omega
  have hE3 : (E : Int) - (a : Int) = (m : Int) := by omega
  have hE4 : E ≤ text.size := by omega
  have hE5 : a ≤ E := by omega
  have ha2 : (a : Int) < (text.size : Int) := by omega
  clear hin hq hP hst hex hex2 hm hsg hf hl hdg hrun
  go_enter Tryz.func49, Tryz.ntmps49
  go_wp2_with (first | (go_at_call 70; refine (HL.out _).mono ?_; rintro e w' ⟨rfl, hw⟩; subst hw) | (go_at_call 74; refine (HD.out _).mono ?_; rintro e w' ⟨rfl, hw⟩; subst hw))
  refine (HS.out _).mono ?_
  rintro e w2 ⟨rfl, hg2⟩
  have h0 : w2.heap[w.heap.size]? = some (.cells #[.int .i64 0, .int .i64 0, .string ⟨#[]⟩, .int .i64 0, .int .i64 0] 35) := (hg2.block w.heap.size (by simp) (by simp)).trans (heap_alloc_new w _)
  have hg : w.grownBy w2 none := grown_trans (World.grownBy_alloc _ _ _) hg2
  have hz2 : w.heap.size + 1 ≤ w2.heap.size := by have := hg2.size; simpa using this
  have H3 := Lib.hid (And.intro h0 (And.intro hg hz2))
  clear h0 hg hg2 hz2
  go_wp2_with fail
  go_loop [9] (fun i => ∃ k : Nat, a ≤ k ∧ k ≤ text.size ∧ i = .int .i64 k ∧ E = k + Lx.run Lx.symb ((bts text).drop k)) (fun i => text.size - (intOf i).toNat)
  case atStart => exact ⟨a, Nat.le_refl _, by omega, rfl, HX.out.2.2.2⟩
  case round =>
    obtain ⟨k, hak, hk, rfl, hc⟩ := hrel
    have HC := Lib.hid hc
    clear hc
    by_cases hlt : k < text.size
    · have hlt2 : (k : Int) < (text.size : Int) := by omega
      have hr : Lx.run Lx.symb ((bts text).drop k) = if Lx.symb text[k] then Lx.run Lx.symb ((bts text).drop (k + 1)) + 1 else 0 := by rw [bts_drop text k hlt, Lx.run_cons]
      have HSY := Lib.hid (fun w => rSymbol_any text[k] w)
      cases hq : Lx.symb text[k]
      · have hkE : E = k := by rw [HC.out, hr, hq]; simp
        have HKE := Lib.hid hkE
        rw [hq] at HSY
        clear hr hq
        subst hkE
        go_wp2_with (go_at_call 77; refine (HSY.out _).mono ?_; rintro e w' ⟨rfl, rfl⟩)
        obtain ⟨Wt, hWt⟩ : ∃ W, W = w2.alloc (.cells #[.int .i64 4, .int .i64 0, .string (text.extract a E), .int .i64 a, .int .i64 E] 35) := ⟨_, rfl⟩
        rw [← hWt]
        have h0 : Wt.heap[w.heap.size]? = some (.cells #[.int .i64 0, .int .i64 0, .string ⟨#[]⟩, .int .i64 0, .int .i64 0] 35) := by subst hWt; exact (heap_alloc_old w2 _ (by have := H3.out.2.2; omega)).trans H3.out.1
        have h1 : Wt.heap[w2.heap.size]? = some (.cells #[.int .i64 4, .int .i64 0, .string (text.extract a E), .int .i64 a, .int .i64 E] 35) := by subst hWt; exact heap_alloc_new w2 _
        have hz : Wt.heap.size = w2.heap.size + 1 := by subst hWt; simp
        have hgr : w.grownBy Wt none := by subst hWt; exact grown_trans H3.out.2.1 (World.grownBy_alloc _ _ _)
        have HW := Lib.hid (And.intro h0 (And.intro h1 (And.intro hz hgr)))
        clear hWt h0 h1 hz hgr
        have hkeep : ∀ W, Wt.grownBy W none → W.cell? ⟨w2.heap.size, 2, none⟩ = some (.string (text.extract a E)) := fun W hg => by
          rw [World.cell?_of_block (w := Wt) (hg.block w2.heap.size (by have := HW.out.2.2.1; omega) (by simp)), (cells_of HW.out.2.1 2).1]; rfl
        have HK := Lib.hid hkeep
        clear hkeep
        go_region_held3 (fun W => W.cell? ⟨w2.heap.size, 2, none⟩ = some (.string (text.extract a E)))
          (first | (with_reducible refine HK.out _ ?_; (repeat (first | with_reducible exact grownZ _ _ | with_reducible apply grownA | with_reducible apply grownD)); done))
          (first | (go_at_call 78; with_reducible refine (rSigns_any _).mono ?_; rintro e w' ⟨rfl, rfl⟩) | (go_at_call 72; refine (HIN.out Wt.heap.size 24 9 (Wt.alloc (.cells (strs Lx.signs) 9)).drew (heap_alloc_new Wt (.cells (strs Lx.signs) 9))).mono ?_; rintro e w' ⟨rfl, rfl⟩))
        obtain ⟨W3, hW3⟩ : ∃ W, W = (Wt.alloc (.cells (strs Lx.signs) 9)).drew := ⟨_, rfl⟩
        rw [← hW3]
        have hg3 : Wt.grownBy W3 none := by subst hW3; exact grownD (World.grownBy_alloc _ _ _)
        have h0 : W3.heap[w.heap.size]? = some (.cells #[.int .i64 0, .int .i64 0, .string ⟨#[]⟩, .int .i64 0, .int .i64 0] 35) := (hg3.block w.heap.size (by have := HW.out.2.2.1; have := H3.out.2.2; omega) (by simp)).trans HW.out.1
        have h1 : W3.heap[w2.heap.size]? = some (.cells #[.int .i64 4, .int .i64 0, .string (text.extract a E), .int .i64 a, .int .i64 E] 35) := (hg3.block w2.heap.size (by have := HW.out.2.2.1; omega) (by simp)).trans HW.out.2.1
        have hg4 : w.grownBy W3 none := grown_trans HW.out.2.2.2 hg3
        have hlt0 : w.heap.size < w2.heap.size := H3.out.2.2
        have HLT := Lib.hid hlt0
        have hne0 : ¬ w2.heap.size = w.heap.size := by omega
        have hne1 : ¬ w.heap.size = w2.heap.size := by omega
        have H4 := Lib.hid (And.intro h0 (And.intro h1 hg4))
        clear hW3 hg3 h0 h1 hg4 hlt0
        generalize w2.heap.size = gt at *
        have c0 := (cells_of H4.out.1 0).1
        have c1 := (cells_of H4.out.1 1).1
        have c2 := (cells_of H4.out.1 2).1
        have c3 := (cells_of H4.out.1 3).1
        have c4 := (cells_of H4.out.1 4).1
        have d0 := (cells_of H4.out.2.1 0).1
        have d1 := (cells_of H4.out.2.1 1).1
        have d2 := (cells_of H4.out.2.1 2).1
        have d3 := (cells_of H4.out.2.1 3).1
        have d4 := (cells_of H4.out.2.1 4).1
        have e0 := (cells_of H4.out.1 0).2
        have e1 := (cells_of H4.out.1 1).2
        have e2 := (cells_of H4.out.1 2).2
        have e3 := (cells_of H4.out.1 3).2
        have e4 := (cells_of H4.out.1 4).2
        have f0 := (cells_of H4.out.2.1 0).2
        simp only [List.getElem?_toArray, List.getElem?_cons_zero, List.getElem?_cons_succ] at c0 c1 c2 c3 c4 d0 d1 d2 d3 d4
        cases q
        · go_wp2_with fail
          all_goals first
            | (refine bodyPost_ret (v := .tuple #[.agg #[.int .i64 4, .int .i64 0, .string (text.extract a E), .int .i64 a, .int .i64 E], .bool (decide ((m : Int) ≤ 32))]) ?_ rfl ?_
               · (rw [results_cell_tmp rfl]; go_simp; done)
               · rw [HX.out.1]
                 exact one_fin2 (k := 4) hE HX.out.2.2.1 HX.out.2.1 (grown1 (grown1 (grown1 (grown1 (grown1 H4.out.2.2 (Nat.le_refl _) _ _) (Nat.le_refl _) _ _) (Nat.le_refl _) _ _) (Nat.le_refl _) _ _) (Nat.le_refl _) _ _) _ (by rw [Bool.eq_iff_iff]; simp; omega))
            | (refine bodyPost_ret (v := .tuple #[.agg #[.int .i64 4, .int .i64 0, .string (text.extract a E), .int .i64 a, .int .i64 E], .bool false]) ?_ rfl ?_
               · (rw [results_cell_tmp rfl]; go_simp; done)
               · rw [HX.out.1]
                 exact one_fin2 (k := 4) hE HX.out.2.2.1 HX.out.2.1 (grown1 (grown1 (grown1 (grown1 (grown1 H4.out.2.2 (Nat.le_refl _) _ _) (Nat.le_refl _) _ _) (Nat.le_refl _) _ _) (Nat.le_refl _) _ _) (Nat.le_refl _) _ _) _ (by rw [Bool.eq_iff_iff]; simp; omega))
        · go_wp2_with fail
          all_goals first
            | (refine bodyPost_ret (v := .tuple #[.agg #[.int .i64 5, .int .i64 0, .string (text.extract a E), .int .i64 a, .int .i64 E], .bool (decide ((m : Int) ≤ 32))]) ?_ rfl ?_
               · (rw [results_cell_tmp rfl]; go_simp; done)
               · rw [HX.out.1]
                 exact one_fin2 (k := 5) hE HX.out.2.2.1 HX.out.2.1 (grown1 (grown1 (grown1 (grown1 (grown1 (grown1 H4.out.2.2 (Nat.le_of_lt HLT.out) _ _) (Nat.le_refl _) _ _) (Nat.le_refl _) _ _) (Nat.le_refl _) _ _) (Nat.le_refl _) _ _) (Nat.le_refl _) _ _) _ (by rw [Bool.eq_iff_iff]; simp; omega))
            | (refine bodyPost_ret (v := .tuple #[.agg #[.int .i64 5, .int .i64 0, .string (text.extract a E), .int .i64 a, .int .i64 E], .bool false]) ?_ rfl ?_
               · (rw [results_cell_tmp rfl]; go_simp; done)
               · rw [HX.out.1]
                 exact one_fin2 (k := 5) hE HX.out.2.2.1 HX.out.2.1 (grown1 (grown1 (grown1 (grown1 (grown1 (grown1 H4.out.2.2 (Nat.le_of_lt HLT.out) _ _) (Nat.le_refl _) _ _) (Nat.le_refl _) _ _) (Nat.le_refl _) _ _) (Nat.le_refl _) _ _) (Nat.le_refl _) _ _) _ (by rw [Bool.eq_iff_iff]; simp; omega))
      · have hkE : E = (k + 1) + Lx.run Lx.symb ((bts text).drop (k + 1)) := by rw [HC.out, hr, hq]; simp; omega
        have HKE := Lib.hid hkE
        rw [hq] at HSY
        clear hr hq hkE
        go_wp2_with (go_at_call 77; refine (HSY.out _).mono ?_; rintro e w' ⟨rfl, rfl⟩)
        go_round
        case rel => exact ⟨k + 1, by omega, by omega, by go_num, HKE.out⟩
        case measure => simp [intOf]; omega
    · have hkE : E = k := by rw [HC.out, bts_nil text k (by omega)]; rfl
      subst hkE
      go_wp2_with fail
      obtain ⟨Wt, hWt⟩ : ∃ W, W = w2.alloc (.cells #[.int .i64 4, .int .i64 0, .string (text.extract a E), .int .i64 a, .int .i64 E] 35) := ⟨_, rfl⟩
      rw [← hWt]
      have h0 : Wt.heap[w.heap.size]? = some (.cells #[.int .i64 0, .int .i64 0, .string ⟨#[]⟩, .int .i64 0, .int .i64 0] 35) := by subst hWt; exact (heap_alloc_old w2 _ (by have := H3.out.2.2; omega)).trans H3.out.1
      have h1 : Wt.heap[w2.heap.size]? = some (.cells #[.int .i64 4, .int .i64 0, .string (text.extract a E), .int .i64 a, .int .i64 E] 35) := by subst hWt; exact heap_alloc_new w2 _
      have hz : Wt.heap.size = w2.heap.size + 1 := by subst hWt; simp
      have hgr : w.grownBy Wt none := by subst hWt; exact grown_trans H3.out.2.1 (World.grownBy_alloc _ _ _)
      have HW := Lib.hid (And.intro h0 (And.intro h1 (And.intro hz hgr)))
      clear hWt h0 h1 hz hgr
      have hkeep : ∀ W, Wt.grownBy W none → W.cell? ⟨w2.heap.size, 2, none⟩ = some (.string (text.extract a E)) := fun W hg => by
        rw [World.cell?_of_block (w := Wt) (hg.block w2.heap.size (by have := HW.out.2.2.1; omega) (by simp)), (cells_of HW.out.2.1 2).1]; rfl
      have HK := Lib.hid hkeep
      clear hkeep
      go_region_held3 (fun W => W.cell? ⟨w2.heap.size, 2, none⟩ = some (.string (text.extract a E)))
        (first | (with_reducible refine HK.out _ ?_; (repeat (first | with_reducible exact grownZ _ _ | with_reducible apply grownA | with_reducible apply grownD)); done))
        (first | (go_at_call 78; with_reducible refine (rSigns_any _).mono ?_; rintro e w' ⟨rfl, rfl⟩) | (go_at_call 72; refine (HIN.out Wt.heap.size 24 9 (Wt.alloc (.cells (strs Lx.signs) 9)).drew (heap_alloc_new Wt (.cells (strs Lx.signs) 9))).mono ?_; rintro e w' ⟨rfl, rfl⟩))
      obtain ⟨W3, hW3⟩ : ∃ W, W = (Wt.alloc (.cells (strs Lx.signs) 9)).drew := ⟨_, rfl⟩
      rw [← hW3]
      have hg3 : Wt.grownBy W3 none := by subst hW3; exact grownD (World.grownBy_alloc _ _ _)
      have h0 : W3.heap[w.heap.size]? = some (.cells #[.int .i64 0, .int .i64 0, .string ⟨#[]⟩, .int .i64 0, .int .i64 0] 35) := (hg3.block w.heap.size (by have := HW.out.2.2.1; have := H3.out.2.2; omega) (by simp)).trans HW.out.1
      have h1 : W3.heap[w2.heap.size]? = some (.cells #[.int .i64 4, .int .i64 0, .string (text.extract a E), .int .i64 a, .int .i64 E] 35) := (hg3.block w2.heap.size (by have := HW.out.2.2.1; omega) (by simp)).trans HW.out.2.1
      have hg4 : w.grownBy W3 none := grown_trans HW.out.2.2.2 hg3
      have hlt0 : w.heap.size < w2.heap.size := H3.out.2.2
      have HLT := Lib.hid hlt0
      have hne0 : ¬ w2.heap.size = w.heap.size := by omega
      have hne1 : ¬ w.heap.size = w2.heap.size := by omega
      have H4 := Lib.hid (And.intro h0 (And.intro h1 hg4))
      clear hW3 hg3 h0 h1 hg4 hlt0
      generalize w2.heap.size = gt at *
      have c0 := (cells_of H4.out.1 0).1
      have c1 := (cells_of H4.out.1 1).1
      have c2 := (cells_of H4.out.1 2).1
      have c3 := (cells_of H4.out.1 3).1
      have c4 := (cells_of H4.out.1 4).1
      have d0 := (cells_of H4.out.2.1 0).1
      have d1 := (cells_of H4.out.2.1 1).1
      have d2 := (cells_of H4.out.2.1 2).1
      have d3 := (cells_of H4.out.2.1 3).1
      have d4 := (cells_of H4.out.2.1 4).1
      have e0 := (cells_of H4.out.1 0).2
      have e1 := (cells_of H4.out.1 1).2
      have e2 := (cells_of H4.out.1 2).2
      have e3 := (cells_of H4.out.1 3).2
      have e4 := (cells_of H4.out.1 4).2
      have f0 := (cells_of H4.out.2.1 0).2
      simp only [List.getElem?_toArray, List.getElem?_cons_zero, List.getElem?_cons_succ] at c0 c1 c2 c3 c4 d0 d1 d2 d3 d4
      cases q
      · go_wp2_with fail
        all_goals first
          | (refine bodyPost_ret (v := .tuple #[.agg #[.int .i64 4, .int .i64 0, .string (text.extract a E), .int .i64 a, .int .i64 E], .bool (decide ((m : Int) ≤ 32))]) ?_ rfl ?_
             · (rw [results_cell_tmp rfl]; go_simp; done)
             · rw [HX.out.1]
               exact one_fin2 (k := 4) hE HX.out.2.2.1 HX.out.2.1 (grown1 (grown1 (grown1 (grown1 (grown1 H4.out.2.2 (Nat.le_refl _) _ _) (Nat.le_refl _) _ _) (Nat.le_refl _) _ _) (Nat.le_refl _) _ _) (Nat.le_refl _) _ _) _ (by rw [Bool.eq_iff_iff]; simp; omega))
          | (refine bodyPost_ret (v := .tuple #[.agg #[.int .i64 4, .int .i64 0, .string (text.extract a E), .int .i64 a, .int .i64 E], .bool false]) ?_ rfl ?_
             · (rw [results_cell_tmp rfl]; go_simp; done)
             · rw [HX.out.1]
               exact one_fin2 (k := 4) hE HX.out.2.2.1 HX.out.2.1 (grown1 (grown1 (grown1 (grown1 (grown1 H4.out.2.2 (Nat.le_refl _) _ _) (Nat.le_refl _) _ _) (Nat.le_refl _) _ _) (Nat.le_refl _) _ _) (Nat.le_refl _) _ _) _ (by rw [Bool.eq_iff_iff]; simp; omega))
      · go_wp2_with fail
        all_goals first
          | (refine bodyPost_ret (v := .tuple #[.agg #[.int .i64 5, .int .i64 0, .string (text.extract a E), .int .i64 a, .int .i64 E], .bool (decide ((m : Int) ≤ 32))]) ?_ rfl ?_
             · (rw [results_cell_tmp rfl]; go_simp; done)
             · rw [HX.out.1]
               exact one_fin2 (k := 5) hE HX.out.2.2.1 HX.out.2.1 (grown1 (grown1 (grown1 (grown1 (grown1 (grown1 H4.out.2.2 (Nat.le_of_lt HLT.out) _ _) (Nat.le_refl _) _ _) (Nat.le_refl _) _ _) (Nat.le_refl _) _ _) (Nat.le_refl _) _ _) (Nat.le_refl _) _ _) _ (by rw [Bool.eq_iff_iff]; simp; omega))
          | (refine bodyPost_ret (v := .tuple #[.agg #[.int .i64 5, .int .i64 0, .string (text.extract a E), .int .i64 a, .int .i64 E], .bool false]) ?_ rfl ?_
             · (rw [results_cell_tmp rfl]; go_simp; done)
             · rw [HX.out.1]
               exact one_fin2 (k := 5) hE HX.out.2.2.1 HX.out.2.1 (grown1 (grown1 (grown1 (grown1 (grown1 (grown1 H4.out.2.2 (Nat.le_of_lt HLT.out) _ _) (Nat.le_refl _) _ _) (Nat.le_refl _) _ _) (Nat.le_refl _) _ _) (Nat.le_refl _) _ _) (Nat.le_refl _) _ _) _ (by rw [Bool.eq_iff_iff]; simp; omega))
end Go.Proofs.YtcjdacdggklifaaGreatDoor
