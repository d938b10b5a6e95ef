/- Edits: Change. -/
import Derived.Test.YtkghbecfjeldcaaDoorChg7
namespace Go.Proofs.YtkghbecfjeldcaaDoor
open Go.RowKit

def four (s : ByteArray) (v : Value) (a e : Int) : Ending := .returned (.tuple #[.string s, v, .int .i64 a, .int .i64 e])
/-- The text, its tokens and the edit fit together. -/
def ChOk (text : ByteArray) (rs : List RT) (pe c : Int) : Prop := ∃ known pn cn, Lx.T (bts text) 0 = .good known ∧ known.length ≤ 20000 ∧ rs = known.map rt ∧ pe = ((pn : Nat) : Int) ∧ c = ((cn : Nat) : Int) ∧ pn + cn ≤ text.size
/-- The text that an edit makes. -/
def chT (text : ByteArray) (pe c : Int) (S : ByteArray) : ByteArray := ofB (edited (bts text) pe.toNat c.toNat (bts S))
/-- What Change hands back. -/
def ChR (text : ByteArray) (rs : List RT) (pe c : Int) (S : ByteArray) (w : World) (e : Ending) (w' : World) : Prop :=
  Below w.heap.size w w' ∧ ((¬ ChOk text rs pe c ∧ e = four ⟨#[]⟩ (.slice none 0 0) 0 1) ∨ (ChOk text rs pe c ∧ ∃ v a er, e = four (chT text pe c S) v a er ∧ TokR (chT text pe c S) w (three v a er) w'))
theorem chT_is {text S ch : ByteArray} {pn cn : Nat} (h : bts ch = edited (bts text) pn cn (bts S)) : chT text pn cn S = ch := by
  unfold chT; rw [Int.toNat_natCast, Int.toNat_natCast, ← h, ofB_bts]

theorem belowN3 {B : Nat} {w W : World} (n : Nat) (h : Below B w W) : Below B w (W.drewN n) := ⟨h.os, h.tape, h.output, h.size, h.block⟩
theorem tokR_le {text : ByteArray} {w w1 w2 : World} {e : Ending} (h : TokR text w1 e w2) (hb : Below w.heap.size w w1) : TokR text w e w2 := by
  refine ⟨below_le hb h.1 hb.size, ?_⟩
  rcases h.2 with h2 | ⟨h1, h2⟩
  · exact .inl h2
  · refine .inr ⟨h1, ?_⟩
    cases hT : Lx.T (bts text) 0 with
    | bad a => rw [hT] at h2; exact h2
    | good l =>
      rw [hT] at h2
      simp only at h2 ⊢
      by_cases hn : 20000 < l.length
      · rw [if_pos hn] at h2 ⊢; exact h2
      · rw [if_neg hn] at h2 ⊢
        obtain ⟨v, he, ho⟩ := h2
        exact ⟨v, he, owns_mono ho hb.size⟩
theorem results_four {fn : Func} {t u v x : Tmp} (h : fn.results = #[.tmp t, .tmp u, .tmp v, .tmp x]) (tmps : Array Value) (P : Program) (w : World) :
    (results fn tmps).run P w = .ok (.tuple #[tmps.getD t undef, tmps.getD u undef, tmps.getD v undef, tmps.getD x undef]) w := by
  simp [results, h]

set_option maxRecDepth 100000 in
set_option maxHeartbeats 2000000 in
theorem Change_any (text : ByteArray) (rs : List RT) (n : Nat) (hn : rs.length = n) (hn2 : n ≤ 20000) (oa : Option Addr) (cap : Nat) (hcap : n ≤ cap) (pe c : Int) (S : ByteArray) (hs : text.size + S.size ≤ 100000)
    (hpe : -9223372036854775808 ≤ pe ∧ pe ≤ 9223372036854775807) (hc : -9223372036854775808 ≤ c ∧ c ≤ 9223372036854775807) (w : World) (htok : TokV w oa rs) (haw : ∀ x, oa = some x → x.block < w.heap.size) :
    Calls Tryd.prog 20 #[.string text, .slice oa n cap, .agg #[.int .i64 pe, .int .i64 c, .string S]] w (ChR text rs pe c S w) := by
  obtain ⟨P, hP⟩ : ∃ P, P = ChR text rs pe c S w := ⟨_, rfl⟩
  rw [← hP]
  have H := Lib.hid (And.intro hP (And.intro hn (And.intro htok haw)))
  clear hP hn htok haw
  go_enter Tryd.func20, Tryd.ntmps20
  go_wp2_with fail
  have hbx : (w.alloc (.cells #[.int .i64 pe, .int .i64 c, .string S] 38)).heap[w.heap.size]? = some (.cells #[.int .i64 pe, .int .i64 c, .string S] 38) := heap_alloc_new w _
  have hb1 : Below w.heap.size w (w.alloc (.cells #[.int .i64 pe, .int .i64 c, .string S] 38)) := (Below.refl _ _).alloc (Nat.le_refl _) _
  have hz1 : (w.alloc (.cells #[.int .i64 pe, .int .i64 c, .string S] 38)).heap.size = w.heap.size + 1 := by simp
  generalize (w.alloc (.cells #[.int .i64 pe, .int .i64 c, .string S] 38)) = w1 at *
  refine (Tokens_any text w1).mono ?_
  rintro e w2 ⟨hb2, hcs⟩
  have hbw2 := below_le hb1 hb2 (by omega)
  have hbx2 := (hb2.block w.heap.size (by omega)).trans hbx
  have HB2 := Lib.hid (And.intro hbw2 (And.intro hbx2 (And.intro hb2.size hz1)))
  clear hbx hb1 hbw2 hbx2
  rcases hcs with ⟨hbig, _⟩ | ⟨_, hcs⟩
  · omega
  cases hT : Lx.T (bts text) 0 with
  | bad x =>
    rw [hT] at hcs
    simp only at hcs
    subst hcs
    have hno : P (four ⟨#[]⟩ (.slice none 0 0) 0 1) w2 := by
      rw [H.out.1]
      refine ⟨HB2.out.1, .inl ⟨?_, rfl⟩⟩
      rintro ⟨k, _, _, h, _⟩
      rw [hT] at h; cases h
    have HNO := Lib.hid hno
    clear hT hno hb2 hz1
    unfold three
    go_wp2_with fail
    (try simp only [Exit.inBlock, Exit.then]); refine bodyPost_ret (results_four rfl _ _ _) rfl ?_
    exact HNO.out
  | good known =>
    rw [hT] at hcs
    simp only at hcs
    by_cases hkn : 20000 < known.length
    · rw [if_pos hkn] at hcs
      subst hcs
      have hno : P (four ⟨#[]⟩ (.slice none 0 0) 0 1) w2 := by
        rw [H.out.1]
        refine ⟨HB2.out.1, .inl ⟨?_, rfl⟩⟩
        rintro ⟨k, _, _, h, h2, _⟩
        rw [hT] at h; cases h; omega
      have HNO := Lib.hid hno
      clear hT hno hb2 hz1 hkn
      unfold three
      go_wp2_with fail
      (try simp only [Exit.inBlock, Exit.then]); refine bodyPost_ret (results_four rfl _ _ _) rfl ?_
      exact HNO.out
    · rw [if_neg hkn] at hcs
      obtain ⟨v, rfl, hown⟩ := hcs
      obtain ⟨ka, kc, rfl, hkc⟩ := owns_form hown
      have hkt : TokV w2 ka (known.map rt) := tokV_owned hown
      have hrt : TokV w2 oa rs := H.out.2.2.1.below HB2.out.1
      obtain ⟨m, hm⟩ : ∃ m, known.length = m := ⟨_, rfl⟩
      rw [hm] at hkc hkn ⊢
      have HEQ := Lib.hid (equal_any (known.map rt) rs ka oa kc cap m n w2 (by rw [List.length_map]; exact hm) H.out.2.1 hkt hrt (by omega))
      have HKN := Lib.hid (And.intro hT hm)
      clear hown hkt hrt hT hm hb2 hz1
      unfold three
      go_wp2_with fail
      refine HEQ.out.mono ?_
      rintro e w3 ⟨rfl, hg3⟩
      have hbw3 := below_grown HB2.out.1 hg3
      have hbx3 := (hg3.block w.heap.size (by have := HB2.out.2.2; omega) (by simp)).trans HB2.out.2.1
      have HB3 := Lib.hid (And.intro hbw3 hbx3)
      have c0 : w3.cell? ⟨w.heap.size, 0, none⟩ = some (.int .i64 pe) := by rw [(cells_of hbx3 0).1]; rfl
      have c1 : w3.cell? ⟨w.heap.size, 1, none⟩ = some (.int .i64 c) := by rw [(cells_of hbx3 1).1]; rfl
      have c2 : w3.cell? ⟨w.heap.size, 2, none⟩ = some (.string S) := by rw [(cells_of hbx3 2).1]; rfl
      clear hg3 hbw3 hbx3 HEQ
      cases hq : eqs (known.map rt) rs
      · have hno : P (four ⟨#[]⟩ (.slice none 0 0) 0 1) w3 := by
          rw [H.out.1]
          refine ⟨HB3.out.1, .inl ⟨?_, rfl⟩⟩
          rintro ⟨k, _, _, h, _, h3, _⟩
          rw [HKN.out.1] at h; cases h
          rw [(eqs_iff _ _).2 h3.symm] at hq; cases hq
        have HNO := Lib.hid hno
        clear hno hq
        go_wp2_with fail
        (try simp only [Exit.inBlock, Exit.then]); refine bodyPost_ret (results_four rfl _ _ _) rfl ?_
        exact HNO.out
      · have heq := (eqs_iff _ _).1 hq
        have HEQ := Lib.hid heq
        have hft := fun w => fits_any pe c text.size S hpe hc (by omega) w
        by_cases hfit : 0 ≤ pe ∧ 0 ≤ c ∧ pe ≤ (text.size : Int) ∧ c ≤ (text.size : Int) - pe
        · rw [decide_eq_true hfit] at hft
          have HFT := Lib.hid hft
          clear heq hft hq
          obtain ⟨pn, rfl⟩ : ∃ pn : Nat, pe = pn := ⟨pe.toNat, by omega⟩
          obtain ⟨cn, rfl⟩ : ∃ cn : Nat, c = cn := ⟨c.toNat, by omega⟩
          obtain ⟨q, hqq⟩ : ∃ q, pn + cn = q := ⟨_, rfl⟩
          have i1 : (pn : Int) + (cn : Int) = (q : Int) := by omega
          have i2 : (q : Int) ≤ (text.size : Int) := by omega
          have i3 : (0 : Int) ≤ (q : Int) := by omega
          have i4 : (0 : Int) ≤ (pn : Int) := by omega
          have i5 : (pn : Int) ≤ (text.size : Int) := by omega
          have i6 : IntKind.i64.wrap (q : Int) = (q : Int) := IntWalk.i64_in _ (by omega)
          have hz1 : (text.extract 0 pn).size = pn := by simp; omega
          have hz2 : (text.extract q text.size).size = text.size - q := by simp
          have hch : bts (text.extract 0 pn ++ S ++ text.extract q text.size) = edited (bts text) pn cn (bts S) := by
            unfold edited
            rw [bts_append, bts_append, bts_extract, bts_extract, hqq, List.drop_zero, Nat.sub_zero, List.take_of_length_le (l := (bts text).drop q) (by rw [List.length_drop, bts_length]; omega)]
          have i7 : ¬ 9223372036854775807 < (text.extract 0 pn).size + S.size := by omega
          have i8 : ¬ 9223372036854775807 < (text.extract 0 pn).size + S.size + (text.extract q text.size).size := by omega
          have HCH := Lib.hid hch
          have hok : ChOk text rs pn cn := ⟨known, pn, cn, HKN.out.1, by have := HKN.out.2; omega, HEQ.out.symm, rfl, rfl, by omega⟩
          have HOK := Lib.hid hok
          clear hch hok hqq hfit hz1 hz2
          go_wp2_with fail
          refine (HFT.out _).mono ?_
          rintro e w4 ⟨rfl, hg4⟩
          have hbw4 := below_grown HB3.out.1 hg4
          have hbx4 := (hg4.block w.heap.size (by have := HB3.out.1.size; have := HB2.out.2.2; have := (Array.getElem?_eq_some_iff.1 HB3.out.2).1; omega) (by simp)).trans HB3.out.2
          have HB4 := Lib.hid (And.intro hbw4 hbx4)
          clear c0 c1 c2 hg4 hbw4 hbx4
          have c0 : w4.cell? ⟨w.heap.size, 0, none⟩ = some (.int .i64 pn) := by rw [(cells_of HB4.out.2 0).1]; rfl
          have c1 : w4.cell? ⟨w.heap.size, 1, none⟩ = some (.int .i64 cn) := by rw [(cells_of HB4.out.2 1).1]; rfl
          have c2 : w4.cell? ⟨w.heap.size, 2, none⟩ = some (.string S) := by rw [(cells_of HB4.out.2 2).1]; rfl
          go_wp2_with fail
          go_quiet (fail)
          obtain ⟨W5, hW5⟩ : ∃ W, W = w4.drewN nq := ⟨_, rfl⟩
          rw [← hW5]
          have hb5 : Below w.heap.size w W5 := by subst hW5; exact belowN3 _ HB4.out.1
          have d0 : W5.cell? ⟨w.heap.size, 0, none⟩ = some (.int .i64 pn) := by subst hW5; exact c0
          have d1 : W5.cell? ⟨w.heap.size, 1, none⟩ = some (.int .i64 cn) := by subst hW5; exact c1
          have d2 : W5.cell? ⟨w.heap.size, 2, none⟩ = some (.string S) := by subst hW5; exact c2
          have hkl : known.length = n := by have h1 := H.out.2.1; rw [← HEQ.out, List.length_map] at h1; exact h1
          have hrc := recut_any (bts text) known HKN.out.1 n hkl hn2 oa cap hcap (text.extract 0 pn ++ S ++ text.extract q text.size) pn cn S (by rw [bts_length]; omega) HCH.out (by rw [bts_length]; exact hs) W5 (by rw [HEQ.out]; exact H.out.2.2.1.below hb5) (fun x hx => Nat.lt_of_lt_of_le (H.out.2.2.2 x hx) hb5.size)
          have hct : chT text pn cn S = text.extract 0 pn ++ S ++ text.extract q text.size := chT_is HCH.out
          have hfinal : ∀ e w', TokR (text.extract 0 pn ++ S ++ text.extract q text.size) W5 e w' → ∃ v a er, e = three v a er ∧ P (four (text.extract 0 pn ++ S ++ text.extract q text.size) v a er) w' := by
            intro e w' ht
            obtain ⟨v, a, er, rfl⟩ := tokR_three ht
            refine ⟨v, a, er, rfl, ?_⟩
            rw [H.out.1]
            refine ⟨below_le hb5 ht.1 hb5.size, .inr ⟨HOK.out, v, a, er, by rw [hct], ?_⟩⟩
            rw [hct]
            exact tokR_le ht hb5
          have HRC := Lib.hid (And.intro hrc hfinal)
          clear hW5 c0 c1 c2 hrc hfinal hct hb5
          generalize (text.extract 0 pn ++ S ++ text.extract q text.size) = ch at *
          go_wp2_with fail
          refine HRC.out.1.mono ?_
          intro e w6 ht
          obtain ⟨v, a, er, rfl, hp⟩ := HRC.out.2 e w6 ht
          have HPP := Lib.hid hp
          clear ht hp
          unfold three
          go_wp2_with fail
          (try simp only [Exit.inBlock, Exit.then])
          refine bodyPost_ret (results_four rfl _ _ _) rfl ?_
          exact HPP.out
        · rw [decide_eq_false hfit] at hft
          have hno : ∀ w4, w3.grownBy w4 none → P (four ⟨#[]⟩ (.slice none 0 0) 0 1) w4 := by
            intro w4 hg
            rw [H.out.1]
            refine ⟨below_grown HB3.out.1 hg, .inl ⟨?_, rfl⟩⟩
            rintro ⟨k, pn, cn, _, _, _, h1, h2, h3⟩
            exact hfit (by omega)
          have HFT := Lib.hid hft
          have HNO := Lib.hid hno
          clear heq hft hq hno hfit
          go_wp2_with fail
          refine (HFT.out _).mono ?_
          rintro e w4 ⟨rfl, hg4⟩
          have HN4 := Lib.hid (HNO.out w4 hg4)
          clear hg4
          go_wp2_with fail
          (try simp only [Exit.inBlock, Exit.then]); refine bodyPost_ret (results_four rfl _ _ _) rfl ?_
          exact HN4.out
end Go.Proofs.YtkghbecfjeldcaaDoor
