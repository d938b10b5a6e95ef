/- The reference: One, whole. -/
import Derived.Test.YtcjdacdggklifaaGreatDoorRef6
import Derived.Test.YtcjdacdggklifaaGreatDoorRef7
namespace Go.Proofs.YtcjdacdggklifaaGreatDoor
open Go.RowKit

set_option maxRecDepth 100000 in
set_option maxHeartbeats 2000000 in
theorem rOne_digit (text : ByteArray) (a : Nat) (ha : a < text.size) (hs : text.size ≤ 2000000) (hk : Lx.kd ((bts text).drop a) = .digit) (w : World) :
    Calls Tryz.prog 49 #[.string text, .int .i64 a] w (OneR text a w) := by
  have hd := bts_drop text a ha
  have hdg : Lx.digit text[a] = true := (Lx.kd_inv text[a] ((bts text).drop (a + 1))).2.1 (by rw [← hd]; exact hk)
  have hl : Lx.letter text[a] = false := by
    cases h : Lx.letter text[a] with
    | false => rfl
    | true =>
      rw [hd, kd_cons, h, hdg] at hk
      revert hk
      cases Lx.blank text[a] <;> cases Lx.opens (text[a] :: (bts text).drop (a + 1)) <;> simp
  have hst : Lx.step ((bts text).drop a) = Lx.number ((bts text).drop a) := by unfold Lx.step; rw [hk]
  have hnum := fun w => rNumber_any text a ha hs w
  have HL := Lib.hid (fun w => rLetter_any text[a] w)
  have HD := Lib.hid (fun w => rDigit_any text[a] w)
  rw [hl] at HL
  rw [hdg] at HD
  obtain ⟨P, hP⟩ : ∃ P, P = OneR text a w := ⟨_, rfl⟩
  rw [← hP]
  have hres : ∀ W, w.grownBy W none → OneR text a w (.returned (.tuple #[(numT a (Lx.number ((bts text).drop a))).1.v, .bool (numT a (Lx.number ((bts text).drop a))).2])) W := by
    intro W hg
    cases hn : Lx.number ((bts text).drop a) with
    | bad => rw [hn] at hst; exact oneR_bad hst hg
    | fill n => exact absurd hn (Lx.number_ne _ n)
    | tok k n s len =>
      obtain ⟨-, -, rfl, rfl, -⟩ := Lx.number_tok.1 hn
      rw [hn] at hst
      exact oneR_tok hst hg
  generalize (numT a (Lx.number ((bts text).drop a))) = nt at *
  obtain ⟨t, b⟩ := nt
  obtain ⟨tk, tn, ts, ta, tf⟩ := t
  simp only [TokB, RT.v] at hnum hres
  have HN := Lib.hid hnum
  have HX := Lib.hid (And.intro hP hres)
  clear hP hres hnum hst hd hdg hl hk
  have ha2 : (a : Int) < (text.size : Int) := by omega
  go_enter Tryz.func49, Tryz.ntmps49
  go_wp2_with (first | (go_at_call 70; refine (HL.out _).mono ?_; rintro e w' ⟨rfl, hw⟩; subst hw) | (go_at_call 74; refine (HD.out _).mono ?_; rintro e w' ⟨rfl, hw⟩; subst hw))
  refine (HN.out _).mono ?_
  rintro e w2 ⟨rfl, hg2⟩
  have h0 : w2.heap[w.heap.size]? = some (.cells #[.int .i64 0, .int .i64 0, .string ⟨#[]⟩, .int .i64 0, .int .i64 0] 35) := (hg2.block w.heap.size (by simp) (by simp)).trans (heap_alloc_new w _)
  have hg : w.grownBy w2 none := grown_trans (World.grownBy_alloc _ _ _) hg2
  have H3 := Lib.hid (And.intro h0 hg)
  clear h0 hg hg2
  have c0 := (cells_of H3.out.1 0).1
  have c1 := (cells_of H3.out.1 1).1
  have c2 := (cells_of H3.out.1 2).1
  have c3 := (cells_of H3.out.1 3).1
  have c4 := (cells_of H3.out.1 4).1
  have e0 := (cells_of H3.out.1 0).2
  have e1 := (cells_of H3.out.1 1).2
  have e2 := (cells_of H3.out.1 2).2
  have e3 := (cells_of H3.out.1 3).2
  have e4 := (cells_of H3.out.1 4).2
  simp only [List.getElem?_toArray, List.getElem?_cons_zero, List.getElem?_cons_succ] at c0 c1 c2 c3 c4
  go_wp2_with fail
  refine bodyPost_ret (v := .tuple #[.agg #[.int .i64 tk, .int .i64 tn, .string ts, .int .i64 ta, .int .i64 tf], .bool b]) ?_ rfl ?_
  · rw [results_cell_tmp rfl]; go_simp
  · rw [HX.out.1]
    exact HX.out.2 _ (grown1 (grown1 (grown1 (grown1 (grown1 H3.out.2 (Nat.le_refl _) _ _) (Nat.le_refl _) _ _) (Nat.le_refl _) _ _) (Nat.le_refl _) _ _) (Nat.le_refl _) _ _)

theorem rOne_any (text : ByteArray) (a : Nat) (ha : a < text.size) (hs : text.size ≤ 2000000) (hb : Lx.kd ((bts text).drop a) ≠ .blank) (hc : Lx.kd ((bts text).drop a) ≠ .comm) (w : World) :
    Calls Tryz.prog 49 #[.string text, .int .i64 a] w (OneR text a w) := by
  have hd := bts_drop text a ha
  cases hk : Lx.kd ((bts text).drop a) with
  | blank => exact absurd hk hb
  | comm => exact absurd hk hc
  | letter => exact rOne_letter text a ha hs hk w
  | digit => exact rOne_digit text a ha hs hk w
  | symb =>
    have hsy : Lx.symb text[a] = true := (Lx.kd_inv text[a] ((bts text).drop (a + 1))).2.2 (by rw [← hd]; exact hk)
    have h2 : Lx.letter text[a] = false ∧ Lx.digit text[a] = false := by
      rw [hd, kd_cons, hsy] at hk
      revert hk
      cases Lx.blank text[a] <;> cases Lx.opens (text[a] :: (bts text).drop (a + 1)) <;> cases Lx.letter text[a] <;> cases Lx.digit text[a] <;> simp
    refine rOne_symb text a ha hs h2.1 h2.2 ?_ ?_ w
    · rw [hd]; exact fold2_none _ _ hsy
    · have hr : ¬ Lx.run Lx.symb ((bts text).drop a) = 0 := by
        have := Lx.run_pos (p := Lx.symb) (r := (bts text).drop (a + 1)) hsy
        rw [← hd] at this; omega
      rw [if_neg hr]
      unfold Lx.step; rw [hk]; rfl
  | other =>
    have h3 := kd_other text[a] ((bts text).drop (a + 1)) (by rw [← hd]; exact hk)
    by_cases hne : Lx.sgn ((bts text).drop a) = []
    · refine rOne_symb text a ha hs h3.1 h3.2.1 ?_ ?_ w
      · rw [fold2_is _ fun c r e => by rw [hd] at e; cases e; exact h3.2.2]; exact hne
      · have hr : Lx.run Lx.symb ((bts text).drop a) = 0 := by rw [hd, Lx.run_cons, h3.2.2]; simp
        rw [if_pos hr]
        unfold Lx.step; rw [hk]
        show Lx.sign _ = _
        unfold Lx.sign; rw [if_pos hne]
    · exact rOne_sign text a ha hs hk hne w
end Go.Proofs.YtcjdacdggklifaaGreatDoor
