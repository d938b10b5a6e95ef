/- The reference: number. -/
import Derived.Test.YtcjdacdggklifaaGreatDoorRef5
import Derived.Laws.ResultCell
import Derived.Laws.Rows
namespace Go.Proofs.YtcjdacdggklifaaGreatDoor
open Go.RowKit

theorem run_max (pr : UInt8 → Bool) (l : Lx.Bs) : Lx.run pr l ≤ l.length ∧ ∀ c, (l.drop (Lx.run pr l)).head? = some c → pr c = false := by
  induction l with
  | nil => exact ⟨by simp [Lx.run], fun c h => by simp at h⟩
  | cons d l ih =>
    rw [Lx.run_cons]
    by_cases h : pr d = true
    · rw [if_pos h]; exact ⟨by simp; exact ih.1, fun c hc => by rw [List.drop_succ_cons] at hc; exact ih.2 c hc⟩
    · rw [if_neg h]; exact ⟨by simp, fun c hc => by simp at hc; subst hc; simpa using h⟩
/-- What R.number and R.One hand back. -/
def TokB (t : RT) (b : Bool) (w w' : World) (e : Ending) : Prop := e = .returned (.tuple #[t.v, .bool b]) ∧ w.grownBy w' none
def noTok : RT := ⟨0, 0, ⟨#[]⟩, 0, 0⟩
def numT (a : Nat) : Lx.Step → RT × Bool
  | .tok _ v _ len => (⟨3, v, ⟨#[]⟩, a, (a + len : Nat)⟩, true)
  | _ => (noTok, false)
set_option maxRecDepth 100000 in
set_option maxHeartbeats 4000000 in
theorem rNumber_any (text : ByteArray) (a : Nat) (ha : a < text.size) (hs : text.size ≤ 2000000) (w : World) :
    Calls Tryz.prog 75 #[.string text, .int .i64 a] w fun e w' => TokB (numT a (Lx.number ((bts text).drop a))).1 (numT a (Lx.number ((bts text).drop a))).2 w w' e := by
  obtain ⟨R, hR⟩ : ∃ R : World → Ending → Prop, R = fun w' e => TokB (numT a (Lx.number ((bts text).drop a))).1 (numT a (Lx.number ((bts text).drop a))).2 w w' e := ⟨_, rfl⟩
  have hR2 : (fun (e : Ending) (w' : World) => TokB (numT a (Lx.number ((bts text).drop a))).1 (numT a (Lx.number ((bts text).drop a))).2 w w' e) = fun e w' => R w' e := by rw [hR]
  rw [hR2]
  have HR := Lib.hid hR
  clear hR hR2
  go_enter Tryz.func75, Tryz.ntmps75
  go_wp2_with fail
  have hrm := run_max Lx.digit ((bts text).drop a)
  have hra := take_run_all Lx.digit ((bts text).drop a)
  have hnum : Lx.number ((bts text).drop a) = if Lx.stops Lx.inw (((bts text).drop a).drop (Lx.run Lx.digit ((bts text).drop a))) = true then .bad else match Lx.numF 0 (((bts text).drop a).take (Lx.run Lx.digit ((bts text).drop a))) with | none => .bad | some v => .tok 3 v [] (Lx.run Lx.digit ((bts text).drop a)) := rfl
  rw [List.drop_drop] at hrm hnum
  rw [List.length_drop, bts_length] at hrm
  obtain ⟨m, hm⟩ : ∃ m, Lx.run Lx.digit ((bts text).drop a) = m := ⟨_, rfl⟩
  rw [hm] at hrm hra hnum
  clear hm
  obtain ⟨D, hD⟩ : ∃ D, D = ((bts text).drop a).take m := ⟨_, rfl⟩
  rw [← hD] at hra hnum
  have hDl : D.length = m := by rw [hD, List.length_take, List.length_drop, bts_length]; omega
  have hDi : ∀ i (h : i < m), ∃ (h2 : a + i < text.size), D.drop i = text[a + i] :: D.drop (i + 1) := fun i h => by
    have h2 : a + i < text.size := by omega
    refine ⟨h2, ?_⟩
    rw [List.drop_eq_getElem_cons (by rw [hDl]; exact h)]
    congr 1
    subst hD
    rw [List.getElem_take, List.getElem_drop]; rfl
  have HN := Lib.hid (And.intro hnum (And.intro hrm (And.intro hra (And.intro hDl hDi))))
  clear hnum hra hDl hDi hD
  have hma : a + m ≤ text.size := by have := hrm.1; omega
  clear hrm
  have hnew := heap_alloc_new w (.cells #[.int .i64 0, .int .i64 0, .string ⟨#[]⟩, .int .i64 0, .int .i64 0] 35)
  have hgn : w.grownBy (w.alloc (.cells #[.int .i64 0, .int .i64 0, .string ⟨#[]⟩, .int .i64 0, .int .i64 0] 35)) none := World.grownBy_alloc _ _ _
  have HNW := Lib.hid (And.intro hnew hgn)
  clear hnew hgn
  obtain ⟨g, hg⟩ : ∃ g, g = w.heap.size := ⟨_, rfl⟩
  obtain ⟨w2, hw2⟩ : ∃ w2, w2 = w.alloc (.cells #[.int .i64 0, .int .i64 0, .string ⟨#[]⟩, .int .i64 0, .int .i64 0] 35) := ⟨_, rfl⟩
  rw [← hw2, ← hg] at HNW
  rw [← hw2, ← hg]
  have HGW := Lib.hid hg
  clear hw2 hg
  go_loop [6, 7, 8] (fun e n b => ∃ (x i v : Nat) (q : Bool), i ≤ m ∧ x = a + i ∧ e = .int .i64 x ∧ n = .int .i64 v ∧ b = .bool q ∧ v ≤ 40000000000 ∧ (q = false → v ≤ 2147483647 ∧ Lx.numF 0 D = Lx.numF v (D.drop i)) ∧ (q = true → Lx.numF 0 D = none)) (fun e _ _ => text.size - (intOf e).toNat)
  case atStart => exact ⟨a, 0, 0, false, by omega, rfl, rfl, rfl, rfl, by omega, fun _ => ⟨by omega, rfl⟩, fun h => by cases h⟩
  case round =>
    obtain ⟨x, i, v, q, hi, hx, rfl, rfl, rfl, hv, hf, ht⟩ := hrel
    have HF := Lib.hid (And.intro hf ht)
    clear hf ht
    by_cases hlt : i < m
    · obtain ⟨h2, hd⟩ := HN.out.2.2.2.2 i hlt
      have hxs : x < text.size := by omega
      have hxs2 : (x : Int) < (text.size : Int) := by omega
      have hd2 : D.drop i = text[x] :: D.drop (i + 1) := by subst hx; exact hd
      have hdg : Lx.digit text[x] = true := HN.out.2.2.1 _ (by rw [← List.take_append_drop i D, hd2]; simp)
      have hbd := digit_bounds hdg
      have HDG := Lib.hid (fun w => rDigit_any text[x] w)
      rw [hdg] at HDG
      have hnf : Lx.numF v (D.drop i) = if 10 * v + (text[x].toNat - 48) > 2147483647 then none else Lx.numF (10 * v + (text[x].toNat - 48)) (D.drop (i + 1)) := by rw [hd2]; rfl
      have HNF := Lib.hid hnf
      have HX := Lib.hid hx
      clear hd hd2 h2 hnf hdg
      cases q
      · have hvb := (HF.out.1 rfl).1
        have hnn := (HF.out.1 rfl).2
        have HNN := Lib.hid hnn
        clear hnn
        by_cases hbig : 10 * v + (text[x].toNat - 48) > 2147483647
        · have hno : Lx.numF 0 D = none := by rw [HNN.out, HNF.out, if_pos hbig]
          have HNO := Lib.hid hno
          have hi1 : (2147483647 : Int) < 10 * (v : Int) + (text[x].toNat : Int) - 48 := by omega
          clear hno hx hbig
          go_wp2_with (go_at_call 74; refine (HDG.out _).mono ?_; rintro e w' ⟨rfl, hw⟩; subst hw)
          go_round
          case rel => exact ⟨x + 1, i + 1, 10 * v + (text[x].toNat - 48), true, by omega, by have := HX.out; omega, by go_num, by go_num, rfl, by omega, (fun h => by cases h), (fun _ => HNO.out)⟩
          case measure => simp [intOf]; omega
        · have hyes : Lx.numF 0 D = Lx.numF (10 * v + (text[x].toNat - 48)) (D.drop (i + 1)) := by rw [HNN.out, HNF.out, if_neg hbig]
          have HYES := Lib.hid hyes
          have hi1 : ¬ ((2147483647 : Int) < 10 * (v : Int) + (text[x].toNat : Int) - 48) := by omega
          have hle : 10 * v + (text[x].toNat - 48) ≤ 2147483647 := by omega
          clear hyes hx hbig
          go_wp2_with (go_at_call 74; refine (HDG.out _).mono ?_; rintro e w' ⟨rfl, hw⟩; subst hw)
          go_round
          case rel => exact ⟨x + 1, i + 1, 10 * v + (text[x].toNat - 48), false, by omega, by have := HX.out; omega, by go_num, by go_num, by rw [decide_eq_false (by omega)], by omega, (fun _ => ⟨hle, HYES.out⟩), (fun h => by cases h)⟩
          case measure => simp [intOf]; omega
      · have HNO := Lib.hid (HF.out.2 rfl)
        clear hx
        go_wp2_with (go_at_call 74; refine (HDG.out _).mono ?_; rintro e w' ⟨rfl, hw⟩; subst hw)
        go_round
        case rel => exact ⟨x + 1, i + 1, v, true, by omega, by have := HX.out; omega, by go_num, rfl, rfl, by omega, (fun h => by cases h), (fun _ => HNO.out)⟩
        case measure => simp [intOf]; omega
    · have him : i = m := by omega
      have hDn : D.drop i = [] := List.drop_eq_nil_of_le (by rw [HN.out.2.2.2.1]; omega)
      rw [hDn] at HF
      have f0 := (cells_of HNW.out.1 0).2
      have f1 := (cells_of HNW.out.1 1).2
      have f2 := (cells_of HNW.out.1 2).2
      have f3 := (cells_of HNW.out.1 3).2
      have f4 := (cells_of HNW.out.1 4).2
      have c0 := (cells_of HNW.out.1 0).1
      have c1 := (cells_of HNW.out.1 1).1
      have c2 := (cells_of HNW.out.1 2).1
      have c3 := (cells_of HNW.out.1 3).1
      have c4 := (cells_of HNW.out.1 4).1
      simp only [List.getElem?_toArray, List.getElem?_cons_zero, List.getElem?_cons_succ] at c0 c1 c2 c3 c4
      have hxm : x = a + m := by omega
      have HXM := Lib.hid hxm
      by_cases hxs : x < text.size
      · have hxs2 : (x : Int) < (text.size : Int) := by omega
        have hdx := bts_drop text x hxs
        have hdg : Lx.digit text[x] = false := HN.out.2.1.2 _ (by rw [← hxm, hdx]; rfl)
        have hst : Lx.stops Lx.inw ((bts text).drop (a + m)) = (Lx.letter text[x] || ((text[x].toNat : Int) == 39)) := by
          rw [← hxm, hdx]
          show (Lx.letter text[x] || Lx.digit text[x] || text[x] == 39) = _
          rw [hdg, Bool.or_false, ← u8_eq]; rfl
        have HST := Lib.hid hst
        have HDG := Lib.hid (fun w => rDigit_any text[x] w)
        have HLT := Lib.hid (fun w => rLetter_any text[x] w)
        rw [hdg] at HDG
        clear hdx hdg hst hx him hDn hxm
        cases q
        · have hsome : Lx.numF 0 D = some v := by rw [(HF.out.1 rfl).2]; rfl
          cases hl : Lx.letter text[x]
          · cases h3 : ((text[x].toNat : Int) == 39)
            · have hres : Lx.number ((bts text).drop a) = .tok 3 v [] m := by rw [HN.out.1, HST.out, hl, h3, hsome]; rfl
              have hv3 : numT a (Lx.number ((bts text).drop a)) = (⟨3, v, ⟨#[]⟩, a, x⟩, true) := by rw [hres, HXM.out]; rfl
              have HRES := Lib.hid hv3
              rw [hl] at HLT
              clear hres hv3 hl hsome
              go_wp2_with (first | (go_at_call 74; refine (HDG.out _).mono ?_; rintro e w' ⟨rfl, hw⟩; subst hw) | (go_at_call 70; refine (HLT.out _).mono ?_; rintro e w' ⟨rfl, hw⟩; subst hw))
              refine bodyPost_ret (v := .tuple #[.agg #[.int .i64 3, .int .i64 v, .string ⟨#[]⟩, .int .i64 a, .int .i64 x], .bool true]) ?_ rfl ?_
              · rw [results_cell_tmp rfl]; go_simp
              · rw [HR.out]
                refine ⟨by rw [HRES.out]; rfl, ?_⟩
                exact ⟨HNW.out.2.os, HNW.out.2.tape, HNW.out.2.output, by simp [World.setCell]; exact HNW.out.2.size, fun b hb _ => by
                  have hbg : b ≠ g := by have := HGW.out; omega
                  exact (Below.heap_setCell _ _ _ _ hbg).trans ((Below.heap_setCell _ _ _ _ hbg).trans ((Below.heap_setCell _ _ _ _ hbg).trans ((Below.heap_setCell _ _ _ _ hbg).trans ((Below.heap_setCell _ _ _ _ hbg).trans (HNW.out.2.block b hb (by simp))))))⟩
            · have hres : Lx.number ((bts text).drop a) = .bad := by rw [HN.out.1, HST.out, hl, h3]; rfl
              have hv3 : numT a (Lx.number ((bts text).drop a)) = (noTok, false) := by rw [hres]; rfl
              have HRES := Lib.hid hv3
              rw [hl] at HLT
              clear hres hv3 hl hsome
              go_wp2_with (first | (go_at_call 74; refine (HDG.out _).mono ?_; rintro e w' ⟨rfl, hw⟩; subst hw) | (go_at_call 70; refine (HLT.out _).mono ?_; rintro e w' ⟨rfl, hw⟩; subst hw))
              refine bodyPost_ret (v := .tuple #[.agg #[.int .i64 0, .int .i64 0, .string ⟨#[]⟩, .int .i64 0, .int .i64 0], .bool false]) ?_ rfl ?_
              · rw [results_cell_tmp rfl]; go_simp
              · rw [HR.out]
                refine ⟨by rw [HRES.out]; rfl, ?_⟩
                exact ⟨HNW.out.2.os, HNW.out.2.tape, HNW.out.2.output, by simp [World.setCell]; exact HNW.out.2.size, fun b hb _ => by
                  have hbg : b ≠ g := by have := HGW.out; omega
                  exact (Below.heap_setCell _ _ _ _ hbg).trans ((Below.heap_setCell _ _ _ _ hbg).trans ((Below.heap_setCell _ _ _ _ hbg).trans ((Below.heap_setCell _ _ _ _ hbg).trans ((Below.heap_setCell _ _ _ _ hbg).trans (HNW.out.2.block b hb (by simp))))))⟩
          · have hres : Lx.number ((bts text).drop a) = .bad := by rw [HN.out.1, HST.out, hl]; rfl
            have hv3 : numT a (Lx.number ((bts text).drop a)) = (noTok, false) := by rw [hres]; rfl
            have HRES := Lib.hid hv3
            rw [hl] at HLT
            clear hres hv3 hl hsome
            go_wp2_with (first | (go_at_call 74; refine (HDG.out _).mono ?_; rintro e w' ⟨rfl, hw⟩; subst hw) | (go_at_call 70; refine (HLT.out _).mono ?_; rintro e w' ⟨rfl, hw⟩; subst hw))
            refine bodyPost_ret (v := .tuple #[.agg #[.int .i64 0, .int .i64 0, .string ⟨#[]⟩, .int .i64 0, .int .i64 0], .bool false]) ?_ rfl ?_
            · rw [results_cell_tmp rfl]; go_simp
            · rw [HR.out]
              refine ⟨by rw [HRES.out]; rfl, ?_⟩
              exact ⟨HNW.out.2.os, HNW.out.2.tape, HNW.out.2.output, by simp [World.setCell]; exact HNW.out.2.size, fun b hb _ => by
                have hbg : b ≠ g := by have := HGW.out; omega
                exact (Below.heap_setCell _ _ _ _ hbg).trans ((Below.heap_setCell _ _ _ _ hbg).trans ((Below.heap_setCell _ _ _ _ hbg).trans ((Below.heap_setCell _ _ _ _ hbg).trans ((Below.heap_setCell _ _ _ _ hbg).trans (HNW.out.2.block b hb (by simp))))))⟩
        · have hnone := HF.out.2 rfl
          have hres : Lx.number ((bts text).drop a) = .bad := by rw [HN.out.1, hnone]; split <;> rfl
          have hv3 : numT a (Lx.number ((bts text).drop a)) = (noTok, false) := by rw [hres]; rfl
          have HRES := Lib.hid hv3
          clear hres hv3 hnone
          go_wp2_with (first | (go_at_call 74; refine (HDG.out _).mono ?_; rintro e w' ⟨rfl, hw⟩; subst hw) | (go_at_call 70; refine (HLT.out _).mono ?_; rintro e w' ⟨rfl, hw⟩; subst hw))
          refine bodyPost_ret (v := .tuple #[.agg #[.int .i64 0, .int .i64 0, .string ⟨#[]⟩, .int .i64 0, .int .i64 0], .bool false]) ?_ rfl ?_
          · rw [results_cell_tmp rfl]; go_simp
          · rw [HR.out]
            refine ⟨by rw [HRES.out]; rfl, ?_⟩
            exact ⟨HNW.out.2.os, HNW.out.2.tape, HNW.out.2.output, by simp [World.setCell]; exact HNW.out.2.size, fun b hb _ => by
              have hbg : b ≠ g := by have := HGW.out; omega
              exact (Below.heap_setCell _ _ _ _ hbg).trans ((Below.heap_setCell _ _ _ _ hbg).trans ((Below.heap_setCell _ _ _ _ hbg).trans ((Below.heap_setCell _ _ _ _ hbg).trans ((Below.heap_setCell _ _ _ _ hbg).trans (HNW.out.2.block b hb (by simp))))))⟩
      · have hst : Lx.stops Lx.inw ((bts text).drop (a + m)) = false := by rw [← hxm, bts_nil text x (by omega)]; rfl
        have HST := Lib.hid hst
        clear hst hx him hDn hxm
        cases q
        · have hsome : Lx.numF 0 D = some v := by rw [(HF.out.1 rfl).2]; rfl
          have hres : Lx.number ((bts text).drop a) = .tok 3 v [] m := by rw [HN.out.1, HST.out, hsome]; rfl
          have hv3 : numT a (Lx.number ((bts text).drop a)) = (⟨3, v, ⟨#[]⟩, a, x⟩, true) := by rw [hres, HXM.out]; rfl
          have HRES := Lib.hid hv3
          clear hres hv3 hsome
          go_wp2_with fail
          refine bodyPost_ret (v := .tuple #[.agg #[.int .i64 3, .int .i64 v, .string ⟨#[]⟩, .int .i64 a, .int .i64 x], .bool true]) ?_ rfl ?_
          · rw [results_cell_tmp rfl]; go_simp
          · rw [HR.out]
            refine ⟨by rw [HRES.out]; rfl, ?_⟩
            exact ⟨HNW.out.2.os, HNW.out.2.tape, HNW.out.2.output, by simp [World.setCell]; exact HNW.out.2.size, fun b hb _ => by
              have hbg : b ≠ g := by have := HGW.out; omega
              exact (Below.heap_setCell _ _ _ _ hbg).trans ((Below.heap_setCell _ _ _ _ hbg).trans ((Below.heap_setCell _ _ _ _ hbg).trans ((Below.heap_setCell _ _ _ _ hbg).trans ((Below.heap_setCell _ _ _ _ hbg).trans (HNW.out.2.block b hb (by simp))))))⟩
        · have hnone := HF.out.2 rfl
          have hres : Lx.number ((bts text).drop a) = .bad := by rw [HN.out.1, hnone]; split <;> rfl
          have hv3 : numT a (Lx.number ((bts text).drop a)) = (noTok, false) := by rw [hres]; rfl
          have HRES := Lib.hid hv3
          clear hres hv3 hnone
          go_wp2_with fail
          refine bodyPost_ret (v := .tuple #[.agg #[.int .i64 0, .int .i64 0, .string ⟨#[]⟩, .int .i64 0, .int .i64 0], .bool false]) ?_ rfl ?_
          · rw [results_cell_tmp rfl]; go_simp
          · rw [HR.out]
            refine ⟨by rw [HRES.out]; rfl, ?_⟩
            exact ⟨HNW.out.2.os, HNW.out.2.tape, HNW.out.2.output, by simp [World.setCell]; exact HNW.out.2.size, fun b hb _ => by
              have hbg : b ≠ g := by have := HGW.out; omega
              exact (Below.heap_setCell _ _ _ _ hbg).trans ((Below.heap_setCell _ _ _ _ hbg).trans ((Below.heap_setCell _ _ _ _ hbg).trans ((Below.heap_setCell _ _ _ _ hbg).trans ((Below.heap_setCell _ _ _ _ hbg).trans (HNW.out.2.block b hb (by simp))))))⟩
end Go.Proofs.YtcjdacdggklifaaGreatDoor
