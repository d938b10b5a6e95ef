/- Merged: Few, Rights, Back. -/
import Derived.Test.YtcjdacdggklifaaGreatDoorBoth0
import Derived.Test.YtcjdacdggklifaaGreatDoorRRight
import Derived.Test.YtcjdacdggklifaaGreatDoorJoinG

/- Few tokens. -/
namespace Go.Proofs.YtcjdacdggklifaaGreatDoor
open Go.RowKit

def totS (rs : List RT) : Nat := (rs.map (·.s.size)).sum
theorem totS_take (rs : List RT) (k : Nat) (h : k < rs.length) : totS (rs.take (k + 1)) = totS (rs.take k) + (rs[k]).s.size := by
  unfold totS; rw [List.take_succ_eq_append_getElem h, List.map_append, List.sum_append]; simp
theorem totS_le (C : Nat) (rs : List RT) (h : ∀ t ∈ rs, t.s.size ≤ C) : ∀ k, totS (rs.take k) ≤ k * C := by
  intro k
  induction k with
  | zero => exact Nat.zero_le _
  | succ k ih =>
    rw [Nat.succ_mul]
    by_cases hk : k < rs.length
    · rw [totS_take rs k hk]; exact Nat.add_le_add ih (h _ (List.getElem_mem hk))
    · rw [List.take_of_length_le (by omega)]; rw [List.take_of_length_le (by omega)] at ih; exact Nat.le_trans ih (Nat.le_add_right _ _)
theorem totS_mem (rs : List RT) (t : RT) (h : t ∈ rs) : t.s.size ≤ totS rs := by
  unfold totS
  induction rs with
  | nil => cases h
  | cons a l ih =>
    rw [List.map_cons, List.sum_cons]
    rcases List.mem_cons.1 h with rfl | h
    · omega
    · have := ih h; omega
def FewR (rs : List RT) (n : Nat) (w : World) (e : Ending) (w' : World) : Prop := ∃ b, e = .returned (.bool b) ∧ (b = true → n ≤ 2000 ∧ totS rs ≤ 20000) ∧ w.grownBy w' none
set_option maxRecDepth 100000 in
set_option maxHeartbeats 1000000 in
theorem few_any (rs : List RT) (n : Nat) (hn : rs.length = n) (hn2 : n ≤ 9223372036854775807) (hs : ∀ t ∈ rs, t.s.size ≤ 140737488355328) (oa : Option Addr) (cap : Nat) (w : World) (htok : TokV w oa rs) :
    Calls Tryz.prog 7 #[.slice oa n cap] w (FewR rs n w) := by
  have H := Lib.hid (And.intro hn (And.intro hs htok))
  clear hn hs htok
  go_enter Tryz.func7, Tryz.ntmps7
  go_wp2_with fail
  go_loopw [3, 8] (fun v i wr => ∃ (k : Nat) (z : Int), k ≤ n ∧ i = .int .i64 k ∧ v = .int .i64 z ∧ w.grownBy wr none ∧ (n ≤ 2000 → z = totS (rs.take k))) (fun _ i _ => n - (intOf i).toNat)
  case atStart => exact ⟨0, 0, by omega, rfl, rfl, grownZ _ _, fun _ => rfl⟩
  case round =>
    obtain ⟨k, z, hk, rfl, rfl, hg, hz⟩ := hrel
    have HG := Lib.hid (And.intro hg hz)
    clear hg hz
    by_cases hlt : k < n
    · have hka : k < rs.length := by have := H.out.1; omega
      obtain ⟨ga, fa, rfl, hla, hca⟩ := H.out.2.2 (by omega)
      have e1 : ∀ j, j < 5 → wr.cell? ⟨ga, fa + (k * 5 + j), none⟩ = (rs[k]).cells[j]? := fun j hj => (World.cell?_of_block (w := w) (a := ⟨ga, fa + (k * 5 + j), none⟩) (HG.out.1.block ga hla (by simp))).trans (hca k hka j hj)
      have hxs := H.out.2.1 _ (List.getElem_mem hka)
      have hst := totS_take rs k hka
      have hle := totS_le 140737488355328 rs H.out.2.1 k
      have HST := Lib.hid (And.intro hst (And.intro hle hxs))
      clear hst hle hca
      generalize rs[k] = x at *
      have a0 := e1 0 (by omega)
      have a1 := e1 1 (by omega)
      have a2 := e1 2 (by omega)
      have a3 := e1 3 (by omega)
      have a4 := e1 4 (by omega)
      simp only [RT.cells, List.getElem?_cons_zero, List.getElem?_cons_succ, Nat.add_zero, ← Nat.add_assoc] at a0 a1 a2 a3 a4
      clear e1 hka
      go_wp2_with fail
      go_roundw
      case rel =>
        refine ⟨k + 1, _, by omega, by go_num, rfl, grownA _ HG.out.1, fun h2 => ?_⟩
        have h3 := HG.out.2 h2
        have h4 : k * 140737488355328 ≤ 2000 * 140737488355328 := Nat.mul_le_mul (by omega) (Nat.le_refl _)
        have h5 := HST.out
        rw [h5.1, h3, show (totS (List.take k rs) : Int) + (x.s.size : Int) = ((totS (List.take k rs) + x.s.size : Nat) : Int) from by omega]
        exact IntWalk.wrap64_in ((totS (List.take k rs) + x.s.size : Nat) : Int) (by have := HST.out; omega)
      case measure => simp [intOf]; omega
    · have hkn : n = k := by omega
      subst hkn
      have hz := HG.out.2
      rw [List.take_of_length_le (by have := H.out.1; omega)] at hz
      have HZ := Lib.hid hz
      clear hz
      by_cases h2 : n ≤ 2000
      · have h2' : (n : Int) ≤ 2000 := by omega
        go_wp2_with fail
        go_ret
        exact ⟨_, rfl, fun hb => ⟨h2, by have := HZ.out h2; have := of_decide_eq_true hb; omega⟩, HG.out.1⟩
      · have h2' : ¬ (n : Int) ≤ 2000 := by omega
        go_wp2_with fail
        go_ret
        exact ⟨false, rfl, (fun h => by cases h), HG.out.1⟩
end Go.Proofs.YtcjdacdggklifaaGreatDoor

/- The reference: Rights. -/
namespace Go.Proofs.YtcjdacdggklifaaGreatDoor
open Go.RowKit

set_option maxRecDepth 100000 in
set_option maxHeartbeats 1000000 in
theorem rRights_any (rs : List RT) (n : Nat) (hn : rs.length = n) (hn2 : n ≤ 100000) (oa : Option Addr) (cap : Nat) (w : World) (htok : TokV w oa rs) (htab : Tab w) (hft : ∀ t ∈ rs, t.fit) :
    Calls Tryz.prog 21 #[.slice oa n cap] w fun e w' => e = .returned (.bool (rs.all rightB)) ∧ Below w.heap.size w w' := by
  obtain ⟨res, hres⟩ : ∃ r, r = rs.all rightB := ⟨_, rfl⟩
  rw [← hres]
  have H := Lib.hid (And.intro hres (And.intro hn (And.intro htok (And.intro htab hft))))
  clear hres hn htok htab hft
  go_enter Tryz.func21, Tryz.ntmps21
  go_wp2_with fail
  go_loopw [3] (fun v wr => ∃ k : Nat, k ≤ n ∧ v = .int .i64 k ∧ Below w.heap.size w wr ∧ (rs.take k).all rightB = true) (fun v _ => n - (intOf v).toNat)
  case atStart => exact ⟨0, by omega, rfl, Below.refl _ _, by simp⟩
  case round =>
    obtain ⟨k, hk, rfl, hb, hall⟩ := hrel
    have HB := Lib.hid (And.intro hb hall)
    clear hb hall
    by_cases hlt : k < n
    · have hkr : k < rs.length := by have := H.out.2.1; omega
      obtain ⟨g, off, rfl, hgl, hcl⟩ := H.out.2.2.1.below HB.out.1 (by omega)
      have e1 := fun j hj => hcl k hkr j hj
      have hr1 := fun W (hb : Below wr.heap.size wr W) => rRight_any rs[k] (H.out.2.2.2.2 _ (List.getElem_mem hkr)) W (H.out.2.2.2.1.below (below_two HB.out.1 hb) (Nat.le_refl _))
      have htk : rs.take (k + 1) = rs.take k ++ [rs[k]] := List.take_succ_eq_append_getElem hkr
      have HTK := Lib.hid (And.intro htk (List.getElem_mem hkr))
      clear hcl htk
      generalize rs[k] = x at *
      obtain ⟨xk, xn, xs, xa, xf⟩ := x
      simp only [RT.v] at hr1
      have a0 := e1 0 (by omega)
      have a1 := e1 1 (by omega)
      have a2 := e1 2 (by omega)
      have a3 := e1 3 (by omega)
      have a4 := e1 4 (by omega)
      simp only [RT.cells, List.getElem?_cons_zero, List.getElem?_cons_succ, Nat.add_zero, ← Nat.add_assoc] at a0 a1 a2 a3 a4
      have HR1 := Lib.hid hr1
      clear e1 hkr hr1
      go_wp2_with fail
      refine (HR1.out _ (by repeat (first | with_reducible exact Below.refl _ _ | with_reducible apply belowD2 | with_reducible apply belowN2))).mono ?_
      rintro e w3 ⟨rfl, hb3⟩
      have HB3 := Lib.hid (below_two HB.out.1 (below_two (show Below wr.heap.size wr _ from by repeat (first | with_reducible exact Below.refl _ _ | with_reducible apply belowD2 | with_reducible apply belowN2)) hb3))
      clear hb3 a0 a1 a2 a3 a4
      cases hrt : rightB ⟨xk, xn, xs, xa, xf⟩
      · go_wp2_with fail
        go_ret
        have hf : rs.all rightB = false := by
          rw [List.all_eq_false]; exact ⟨_, HTK.out.2, by rw [hrt]; simp⟩
        exact ⟨by rw [H.out.1, hf]; rfl, HB3.out⟩
      · go_wp2_with fail
        go_roundw
        case rel => exact ⟨k + 1, by omega, by go_num, HB3.out, by rw [HTK.out.1, List.all_append, HB.out.2]; simp [hrt]⟩
        case measure => simp [intOf]; omega
    · have hkn : n = k := by omega
      subst hkn
      have hall : rs.all rightB = true := by have := HB.out.2; rwa [List.take_of_length_le (by have := H.out.2.1; omega)] at this
      have HA := Lib.hid hall
      clear hall
      go_wp2_with fail
      go_ret
      exact ⟨by rw [H.out.1, HA.out]; rfl, HB.out.1⟩
end Go.Proofs.YtcjdacdggklifaaGreatDoor

/- LexBack: the walk. -/
namespace Go.Proofs.YtcjdacdggklifaaGreatDoor
open Go.RowKit

/-- The facts of a list of tokens that Join can write. -/
theorem join_facts (rs : List RT) (h : rs.all rightB = true) : ∃ ts, Lx.T (joinT rs) 0 = .good ts ∧ likes rs (ts.map rt) = true ∧ wide rs ≤ (joinT rs).length ∧ (joinT rs).length ≤ wide rs + (rs.length - 1) ∧ (joinT rs = [] → rs = []) ∧
    (∀ k, k < (joinT rs).length → ∀ us, Lx.T (less (joinT rs) k) 0 = .good us → likes rs (us.map rt) = false) := by
  cases rs with
  | nil => exact ⟨[], Lx.T_nil _, rfl, Nat.le_refl _, Nat.le_refl _, fun _ => rfl, fun k hk => by simp [joinT] at hk⟩
  | cons a l =>
    rw [List.all_cons, Bool.and_eq_true, List.all_eq_true] at h
    have ha := (right_iff a).1 h.1
    have hl := fun t ht => (right_iff t).1 (h.2 t ht)
    have hj : joinT (a :: l) = bts a.text ++ joinF a l := rfl
    obtain ⟨ts, h1, h2⟩ := back l a 0 ha hl
    obtain ⟨h3, h4⟩ := len_join l a
    rw [hj]
    refine ⟨ts, h1, by rw [likes_comm]; exact h2, h3, by simpa using h4, fun e => ?_, fun k hk us hT => by rw [likes_comm]; exact not_back a l ha hl 0 k hk us hT⟩
    have := congrArg List.length e
    rw [List.length_append] at this
    have := ha.pos
    rw [List.length_nil] at *
    omega
theorem wide_le (rs : List RT) (h : ∀ t ∈ rs, t.fit) : wide rs ≤ totS rs + 21 * rs.length := by
  induction rs with
  | nil => exact Nat.zero_le _
  | cons a l ih =>
    have h1 := ih (fun t ht => h t (List.mem_cons_of_mem _ ht))
    have h2 := a.text_le (h a (List.mem_cons_self ..))
    rw [wide_cons, bts_length]
    unfold totS at *
    rw [List.map_cons, List.sum_cons, List.length_cons]; omega

theorem wide_take (rs : List RT) (k : Nat) (h : k < rs.length) : wide (rs.take (k + 1)) = wide (rs.take k) + (rs[k]).text.size := by
  unfold wide; rw [List.take_succ_eq_append_getElem h, List.map_append, List.sum_append, ← bts_length]; simp
theorem wide_take_le (rs : List RT) (k : Nat) : wide (rs.take k) ≤ wide rs := by
  have : rs = rs.take k ++ rs.drop k := (List.take_append_drop k rs).symm
  conv => rhs; rw [this]
  unfold wide; rw [List.map_append, List.sum_append]; omega
set_option maxRecDepth 100000 in
set_option maxHeartbeats 2000000 in
theorem LexBack_any (rs : List RT) (n : Nat) (hn : rs.length = n) (hn2 : n ≤ 9223372036854775807) (hrs : ∀ t ∈ rs, t.s.size ≤ 140737488355328) (hft : ∀ t ∈ rs, t.fit) (oa : Option Addr) (cap : Nat) (cut : Int) (hcut : -9223372036854775808 ≤ cut ∧ cut ≤ 9223372036854775807)
    (w : World) (htok : TokV w oa rs) (haw : ∀ x, oa = some x → x.block < w.heap.size) (htab : Tab w) :
    Calls Tryz.prog 5 #[.slice oa n cap, .int .i64 cut] w fun e w' => e = .returned (.bool true) ∧ Below w.heap.size w w' := by
  have H := Lib.hid (And.intro hn (And.intro hn2 (And.intro hrs (And.intro hft (And.intro hcut (And.intro htok (And.intro haw htab)))))))
  clear hn hn2 hrs hft hcut htok haw htab
  go_enter Tryz.func5, Tryz.ntmps5
  go_wp2_with fail
  refine (sane_any _).mono ?_
  rintro e w1 ⟨rfl, hb1⟩
  have HB1 := Lib.hid hb1
  clear hb1
  have HTV := Lib.hid (fun W (hb : Below w.heap.size w W) => And.intro (H.out.2.2.2.2.2.1.below hb) (And.intro (fun x hx => Nat.lt_of_lt_of_le (H.out.2.2.2.2.2.2.1 x hx) hb.size) (H.out.2.2.2.2.2.2.2.below hb (Nat.le_refl _))))
  have HFW := Lib.hid (few_any rs n H.out.1 H.out.2.1 H.out.2.2.1 oa cap w1 (HTV.out _ HB1.out).1)
  go_wp2_with fail
  refine HFW.out.mono ?_
  rintro e w2 ⟨b, rfl, hb, hg2⟩
  have HB2 := Lib.hid (below_grown HB1.out hg2)
  clear hg2 HFW
  cases b with
  | false =>
    clear hb
    go_wp2_with fail
    go_ret
    exact ⟨rfl, HB2.out⟩
  | true =>
  obtain ⟨hfew, htot⟩ := hb rfl
  have HFT := Lib.hid (And.intro hfew htot)
  have hjoin := Join_all rs n H.out.1 oa cap w2 (HTV.out _ HB2.out).1 (HTV.out _ HB2.out).2.1 (HTV.out _ HB2.out).2.2 hfew (fun t ht => ⟨H.out.2.2.2.1 t ht, by have := totS_mem rs t ht; omega⟩)
  have HJ := Lib.hid hjoin
  clear hjoin hb hfew htot
  go_wp2_with fail
  refine HJ.out.mono ?_
  rintro e w3 ⟨he, hb3⟩
  have HB3 := Lib.hid (below_two HB2.out hb3)
  clear hb3 HJ
  have hwl := wide_le rs H.out.2.2.2.1
  rw [H.out.1] at hwl
  cases hall : rs.all rightB with
  | false =>
    have hej : e = .returned (.tuple #[.string ⟨#[]⟩, .int .i64 1]) := by rw [he, joinR, hall]; rfl
    subst hej
    have HRR := Lib.hid (rRights_any rs n H.out.1 (by have := HFT.out.1; omega) oa cap w3 (HTV.out _ HB3.out).1 (HTV.out _ HB3.out).2.2 H.out.2.2.2.1)
    rw [hall] at HRR
    clear he hall hwl
    go_wp2_with fail
    refine HRR.out.mono ?_
    rintro e w4 ⟨rfl, hb4⟩
    have HB4 := Lib.hid (below_two HB3.out hb4)
    clear hb4
    go_wp2_with fail
    go_ret
    exact ⟨rfl, HB4.out⟩
  | true =>
  obtain ⟨ts, hT, hlk, hw1, hw2, hnil, hless⟩ := join_facts rs hall
  by_cases hbig : 100000 < (joinT rs).length
  · exfalso
    have := HFT.out; have := H.out.1
    omega
  have hej : e = .returned (.tuple #[.string (ofB (joinT rs)), .int .i64 0]) := by rw [he, joinR, hall, if_neg hbig]; rfl
  subst hej
  obtain ⟨s, hs⟩ : ∃ s, s = ofB (joinT rs) := ⟨_, rfl⟩
  have hss : s.size = (joinT rs).length := by rw [hs, ofB_size]
  have hsb : bts s = joinT rs := by rw [hs, bts_ofB]
  rw [← hs]
  rw [← hsb] at hT hless hnil
  rw [← hss] at hw1 hw2 hbig
  have htl : ts.length = n := by have := likes_len _ _ hlk; rw [List.length_map, H.out.1] at this; exact this.symm
  rw [H.out.1] at hw2
  have HS := Lib.hid (And.intro hw1 (And.intro hw2 (And.intro hnil (And.intro hless hwl))))
  have HTK := Lib.hid (tokens_l s (by omega) ts hT (by rw [htl]; have := HFT.out.1; omega) w3)
  have HLK := Lib.hid (And.intro hlk htl)
  have hs1 : s.size ≤ 100000 := by omega
  clear he hall hs hss hsb hT hlk hw1 hw2 hnil hless hwl hbig htl
  go_wp2_with fail
  refine HTK.out.mono ?_
  rintro e w4 ⟨hb4, v, rfl, hown⟩
  have HB4 := Lib.hid (below_two HB3.out hb4)
  obtain ⟨ka, kc, rfl, hkc⟩ := owns_form hown
  have hlike := like_any rs (ts.map rt) oa ka cap kc n n w4 H.out.1 (by rw [List.length_map]; exact HLK.out.2) (HTV.out _ HB4.out).1 (tokV_owned hown) (by have := HFT.out.1; omega)
  rw [HLK.out.1] at hlike
  rw [HLK.out.2]
  have HL := Lib.hid hlike
  clear hb4 HTK hown hkc hlike
  unfold three
  go_wp2_with fail
  refine HL.out.mono ?_
  rintro e w5 ⟨rfl, hg5⟩
  have HB5 := Lib.hid (below_grown HB4.out hg5)
  clear hg5 HL
  go_wp2_with fail
  go_loopw [9, 49] (fun v i wr => ∃ k : Nat, k ≤ n ∧ i = .int .i64 k ∧ v = .int .i64 (wide (rs.take k)) ∧ Below w.heap.size w wr) (fun _ i _ => n - (intOf i).toNat)
  case atStart => exact ⟨0, by omega, rfl, rfl, HB5.out⟩
  case round =>
    obtain ⟨k, hk, rfl, rfl, hb⟩ := hrel
    have HB := Lib.hid hb
    clear hb
    have hwt := wide_take_le rs k
    have hwl := HS.out.2.2.2.2
    have hfw := HFT.out
    have hn2k : n ≤ 2000 := hfw.1
    by_cases hlt : k < n
    · have hkr : k < rs.length := by have := H.out.1; omega
      obtain ⟨g, off, rfl, hgl, hcl⟩ := (HTV.out _ HB.out).1 (by omega)
      have e1 := fun j hj => hcl k hkr j hj
      have htx := fun o => Text_all rs[k] (H.out.2.2.2.1 _ (List.getElem_mem hkr)) (wr.alloc o) ((HTV.out _ HB.out).2.2.grown (World.grownBy_alloc _ _ none) (by simp))
      have htk := wide_take rs k hkr
      have hwt2 := wide_take_le rs (k + 1)
      have htl := (rs[k]).text_le (H.out.2.2.2.1 _ (List.getElem_mem hkr))
      obtain ⟨m1, hm1⟩ : ∃ m, wide (rs.take (k + 1)) = m := ⟨_, rfl⟩
      obtain ⟨m0, hm0⟩ : ∃ m, wide (rs.take k) = m := ⟨_, rfl⟩
      rw [hm1] at htk hwt2
      rw [hm0] at htk hwt ⊢
      generalize htxt : (rs[k]).text = tx at *
      have z1 : (m0 : Int) + (tx.size : Int) = (m1 : Int) := by omega
      have z2 : IntKind.i64.wrap (m1 : Int) = (m1 : Int) := IntWalk.i64_in _ (by omega)
      have HM := Lib.hid hm1
      clear hcl htk hwt hwt2 htl hwl hfw hm1 hm0 htxt
      generalize rs[k] = x at *
      obtain ⟨xk, xn, xs, xa, xf⟩ := x
      simp only [RT.v] at htx
      have a0 := e1 0 (by omega)
      have a1 := e1 1 (by omega)
      have a2 := e1 2 (by omega)
      have a3 := e1 3 (by omega)
      have a4 := e1 4 (by omega)
      simp only [RT.cells, List.getElem?_cons_zero, List.getElem?_cons_succ, Nat.add_zero, ← Nat.add_assoc] at a0 a1 a2 a3 a4
      have HTX := Lib.hid htx
      clear e1 hkr htx
      go_wp2_with fail
      refine (HTX.out _).mono ?_
      rintro e w6 ⟨rfl, hg6⟩
      have HB6 := Lib.hid (below_grown (HB.out.alloc HB.out.size _) hg6)
      clear hg6
      go_wp2_with fail
      go_roundw
      case rel => exact ⟨k + 1, by omega, by go_num, by rw [HM.out], HB6.out⟩
      case measure => simp [intOf]; omega
    · have hkn : n = k := by omega
      subst hkn
      have hwn : wide (rs.take n) = wide rs := by rw [List.take_of_length_le (by have := H.out.1; omega)]
      rw [hwn]
      clear hwt hwn
      have h1 := HS.out.1
      have h2 := HS.out.2.1
      obtain ⟨N, hN⟩ : ∃ N, wide rs = N := ⟨_, rfl⟩
      rw [hN] at h1 h2 hwl ⊢
      clear hN
      have hNb : N ≤ 70000 := by omega
      clear hwl hfw
      by_cases h0 : s.size = 0
      · have hn0 : n = 0 := by
          have hb0 : bts s = [] := List.eq_nil_of_length_eq_zero (by rw [bts_length]; exact h0)
          have := HS.out.2.2.1 hb0
          have h3 := H.out.1
          rw [this] at h3; simpa using h3.symm
        have hni : ((n : Int) == 0) = true := by rw [hn0]; rfl
        have hN0 : N = 0 := by omega
        subst hN0
        clear hn0 h1 h2 hNb
        go_wp2_with fail
        go_ret
        exact ⟨rfl, HB.out⟩
      · have hcut := H.out.2.2.2.2.1
        obtain ⟨q, hq, hql⟩ : ∃ q : Nat, (IntKind.u64.wrap cut).tmod (s.size : Int) = (q : Int) ∧ q < s.size := by
          have hu : 0 ≤ IntKind.u64.wrap cut := by rw [IntKind.wrap_u64]; exact Int.emod_nonneg _ (by decide)
          refine ⟨((IntKind.u64.wrap cut).tmod (s.size : Int)).toNat, ?_, ?_⟩
          · have := Int.tmod_nonneg (s.size : Int) hu; omega
          · have := Int.tmod_lt_of_pos (IntKind.u64.wrap cut) (show (0 : Int) < (s.size : Int) by omega); have := Int.tmod_nonneg (s.size : Int) hu; omega
        have hqw : IntKind.i64.wrap (q : Int) = (q : Int) := IntWalk.i64_in _ (by omega)
        obtain ⟨q1, hq1⟩ : ∃ q1, q + 1 = q1 := ⟨_, rfl⟩
        have i1 : (q : Int) + 1 = (q1 : Int) := by omega
        have i2 : IntKind.i64.wrap (q1 : Int) = (q1 : Int) := IntWalk.i64_in _ (by omega)
        have i3 : (q1 : Int) ≤ (s.size : Int) := by omega
        have i4 : (0 : Int) ≤ (q1 : Int) := by omega
        have i5 : (q : Int) ≤ (s.size : Int) := by omega
        have i6 : (0 : Int) ≤ (q : Int) := by omega
        have hz1 : (s.extract 0 q).size = q := by simp; omega
        have hz2 : (s.extract q1 s.size).size = s.size - q1 := by simp
        have i7 : ¬ 9223372036854775807 < (s.extract 0 q).size + (s.extract q1 s.size).size := by omega
        have hu : bts (s.extract 0 q ++ s.extract q1 s.size) = less (bts s) q := by
          unfold less
          rw [bts_append, bts_extract, bts_extract, List.drop_zero, Nat.sub_zero, hq1, List.take_of_length_le (l := (bts s).drop q1) (by rw [List.length_drop, bts_length]; omega)]
        have huz : (s.extract 0 q ++ s.extract q1 s.size).size ≤ 100000 := by rw [ByteArray.size_append, hz1, hz2]; omega
        have HU := Lib.hid (And.intro hu (And.intro huz (HS.out.2.2.2.1 q (by rw [bts_length]; exact hql))))
        clear hcut hu huz hz1 hz2 hq1
        go_wp2_with fail
        go_quiet (fail)
        obtain ⟨W6, hW6⟩ : ∃ W, W = wr.drewN nq := ⟨_, rfl⟩
        have HB6 := Lib.hid (show Below w.heap.size w W6 from by subst hW6; exact ⟨HB.out.os, HB.out.tape, HB.out.output, HB.out.size, HB.out.block⟩)
        rw [← hW6]
        clear hW6
        generalize (s.extract 0 q ++ s.extract q1 s.size) = u at *
        go_wp2_with fail
        refine (Tokens_any u W6).mono ?_
        rintro e w7 ⟨hb7, hcs⟩
        have HB7 := Lib.hid (below_two HB6.out hb7)
        clear hb7
        rcases hcs with ⟨hbg, _⟩ | ⟨_, hcs⟩
        · exact absurd hbg (by have := HU.out.2.1; omega)
        cases hT : Lx.T (bts u) 0 with
        | bad p =>
          rw [hT] at hcs
          simp only at hcs
          subst hcs
          clear hT
          unfold three
          go_wp2_with fail
          go_ret
          exact ⟨rfl, HB7.out⟩
        | good us =>
          rw [hT] at hcs
          simp only at hcs
          by_cases hmany : 20000 < us.length
          · rw [if_pos hmany] at hcs
            subst hcs
            clear hT hmany
            unfold three
            go_wp2_with fail
            go_ret
            exact ⟨rfl, HB7.out⟩
          · rw [if_neg hmany] at hcs
            obtain ⟨v, rfl, hown⟩ := hcs
            obtain ⟨kb, kd, rfl, hkd⟩ := owns_form hown
            have hlk2 := HU.out.2.2 us (by rw [← HU.out.1]; exact hT)
            obtain ⟨nu, hnu⟩ : ∃ nu, us.length = nu := ⟨_, rfl⟩
            have hlike := fun W (hb : Below w7.heap.size w7 W) => like_any rs (us.map rt) oa kb cap kd n nu W H.out.1 (by rw [List.length_map]; exact hnu) (HTV.out _ (below_two HB7.out hb)).1 ((tokV_owned hown).below hb) (by have := HFT.out.1; omega)
            rw [hlk2] at hlike
            rw [hnu]
            have HL := Lib.hid hlike
            clear hT hmany hown hkd hlk2 hlike hnu
            unfold three
            go_wp2_with fail
            refine (HL.out _ (Below.refl _ _)).mono ?_
            rintro e w8 ⟨rfl, hg8⟩
            have HB8 := Lib.hid (below_grown HB7.out hg8)
            clear hg8
            go_wp2_with fail
            go_ret
            exact ⟨rfl, HB8.out⟩
end Go.Proofs.YtcjdacdggklifaaGreatDoor
