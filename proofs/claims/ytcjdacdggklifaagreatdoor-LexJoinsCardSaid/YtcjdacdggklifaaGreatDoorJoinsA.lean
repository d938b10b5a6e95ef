/- Merged: Few, Rights, RApart, RJoin, Strip3, Strip4, RStrip, PlaceJ, Joins. -/
import Derived.Test.YtcjdacdggklifaaGreatDoorBoth0
import Derived.Test.YtcjdacdggklifaaGreatDoorRRight
import Derived.Test.YtcjdacdggklifaaGreatDoorJoinG
import Derived.Deep.AppendLies
import Derived.Laws.BytesArg
import Derived.Laws.IdiomStrings
import Derived.Test.YtcjdacdggklifaaGreatDoorStrip2
import Derived.Test.YtcjdacdggklifaaGreatDoorRef9
import Derived.Test.YtcjdacdggklifaaGreatDoorChg1
import Derived.Lib.LastIndexByte

/- Few tokens. -/
namespace Go.Proofs.YtcjdacdggklifaaGreatDoor
open Go.RowKit

def totS (rs : List RT) : Nat := (rs.map (·.s.size)).sum
theorem totS_take (rs : List RT) (k : Nat) (h : k < rs.length) : totS (rs.take (k + 1)) = totS (rs.take k) + (rs[k]).s.size := by
  unfold totS; rw [List.take_succ_eq_append_getElem h, List.map_append, List.sum_append]; simp
theorem totS_le (C : Nat) (rs : List RT) (h : ∀ t ∈ rs, t.s.size ≤ C) : ∀ k, totS (rs.take k) ≤ k * C := by
  intro k
  induction k with
  | zero => exact Nat.zero_le _
  | succ k ih =>
    rw [Nat.succ_mul]
    by_cases hk : k < rs.length
    · rw [totS_take rs k hk]; exact Nat.add_le_add ih (h _ (List.getElem_mem hk))
    · rw [List.take_of_length_le (by omega)]; rw [List.take_of_length_le (by omega)] at ih; exact Nat.le_trans ih (Nat.le_add_right _ _)
theorem totS_mem (rs : List RT) (t : RT) (h : t ∈ rs) : t.s.size ≤ totS rs := by
  unfold totS
  induction rs with
  | nil => cases h
  | cons a l ih =>
    rw [List.map_cons, List.sum_cons]
    rcases List.mem_cons.1 h with rfl | h
    · omega
    · have := ih h; omega
def FewR (rs : List RT) (n : Nat) (w : World) (e : Ending) (w' : World) : Prop := ∃ b, e = .returned (.bool b) ∧ (b = true → n ≤ 2000 ∧ totS rs ≤ 20000) ∧ w.grownBy w' none
set_option maxRecDepth 100000 in
set_option maxHeartbeats 1000000 in
theorem few_any (rs : List RT) (n : Nat) (hn : rs.length = n) (hn2 : n ≤ 9223372036854775807) (hs : ∀ t ∈ rs, t.s.size ≤ 140737488355328) (oa : Option Addr) (cap : Nat) (w : World) (htok : TokV w oa rs) :
    Calls Tryz.prog 7 #[.slice oa n cap] w (FewR rs n w) := by
  have H := Lib.hid (And.intro hn (And.intro hs htok))
  clear hn hs htok
  go_enter Tryz.func7, Tryz.ntmps7
  go_wp2_with fail
  go_loopw [3, 8] (fun v i wr => ∃ (k : Nat) (z : Int), k ≤ n ∧ i = .int .i64 k ∧ v = .int .i64 z ∧ w.grownBy wr none ∧ (n ≤ 2000 → z = totS (rs.take k))) (fun _ i _ => n - (intOf i).toNat)
  case atStart => exact ⟨0, 0, by omega, rfl, rfl, grownZ _ _, fun _ => rfl⟩
  case round =>
    obtain ⟨k, z, hk, rfl, rfl, hg, hz⟩ := hrel
    have HG := Lib.hid (And.intro hg hz)
    clear hg hz
    by_cases hlt : k < n
    · have hka : k < rs.length := by have := H.out.1; omega
      obtain ⟨ga, fa, rfl, hla, hca⟩ := H.out.2.2 (by omega)
      have e1 : ∀ j, j < 5 → wr.cell? ⟨ga, fa + (k * 5 + j), none⟩ = (rs[k]).cells[j]? := fun j hj => (World.cell?_of_block (w := w) (a := ⟨ga, fa + (k * 5 + j), none⟩) (HG.out.1.block ga hla (by simp))).trans (hca k hka j hj)
      have hxs := H.out.2.1 _ (List.getElem_mem hka)
      have hst := totS_take rs k hka
      have hle := totS_le 140737488355328 rs H.out.2.1 k
      have HST := Lib.hid (And.intro hst (And.intro hle hxs))
      clear hst hle hca
      generalize rs[k] = x at *
      have a0 := e1 0 (by omega)
      have a1 := e1 1 (by omega)
      have a2 := e1 2 (by omega)
      have a3 := e1 3 (by omega)
      have a4 := e1 4 (by omega)
      simp only [RT.cells, List.getElem?_cons_zero, List.getElem?_cons_succ, Nat.add_zero, ← Nat.add_assoc] at a0 a1 a2 a3 a4
      clear e1 hka
      go_wp2_with fail
      go_roundw
      case rel =>
        refine ⟨k + 1, _, by omega, by go_num, rfl, grownA _ HG.out.1, fun h2 => ?_⟩
        have h3 := HG.out.2 h2
        have h4 : k * 140737488355328 ≤ 2000 * 140737488355328 := Nat.mul_le_mul (by omega) (Nat.le_refl _)
        have h5 := HST.out
        rw [h5.1, h3, show (totS (List.take k rs) : Int) + (x.s.size : Int) = ((totS (List.take k rs) + x.s.size : Nat) : Int) from by omega]
        exact IntWalk.wrap64_in ((totS (List.take k rs) + x.s.size : Nat) : Int) (by have := HST.out; omega)
      case measure => simp [intOf]; omega
    · have hkn : n = k := by omega
      subst hkn
      have hz := HG.out.2
      rw [List.take_of_length_le (by have := H.out.1; omega)] at hz
      have HZ := Lib.hid hz
      clear hz
      by_cases h2 : n ≤ 2000
      · have h2' : (n : Int) ≤ 2000 := by omega
        go_wp2_with fail
        go_ret
        exact ⟨_, rfl, fun hb => ⟨h2, by have := HZ.out h2; have := of_decide_eq_true hb; omega⟩, HG.out.1⟩
      · have h2' : ¬ (n : Int) ≤ 2000 := by omega
        go_wp2_with fail
        go_ret
        exact ⟨false, rfl, (fun h => by cases h), HG.out.1⟩
end Go.Proofs.YtcjdacdggklifaaGreatDoor

/- The reference: Rights. -/
namespace Go.Proofs.YtcjdacdggklifaaGreatDoor
open Go.RowKit

set_option maxRecDepth 100000 in
set_option maxHeartbeats 1000000 in
theorem rRights_any (rs : List RT) (n : Nat) (hn : rs.length = n) (hn2 : n ≤ 100000) (oa : Option Addr) (cap : Nat) (w : World) (htok : TokV w oa rs) (htab : Tab w) (hft : ∀ t ∈ rs, t.fit) :
    Calls Tryz.prog 21 #[.slice oa n cap] w fun e w' => e = .returned (.bool (rs.all rightB)) ∧ Below w.heap.size w w' := by
  obtain ⟨res, hres⟩ : ∃ r, r = rs.all rightB := ⟨_, rfl⟩
  rw [← hres]
  have H := Lib.hid (And.intro hres (And.intro hn (And.intro htok (And.intro htab hft))))
  clear hres hn htok htab hft
  go_enter Tryz.func21, Tryz.ntmps21
  go_wp2_with fail
  go_loopw [3] (fun v wr => ∃ k : Nat, k ≤ n ∧ v = .int .i64 k ∧ Below w.heap.size w wr ∧ (rs.take k).all rightB = true) (fun v _ => n - (intOf v).toNat)
  case atStart => exact ⟨0, by omega, rfl, Below.refl _ _, by simp⟩
  case round =>
    obtain ⟨k, hk, rfl, hb, hall⟩ := hrel
    have HB := Lib.hid (And.intro hb hall)
    clear hb hall
    by_cases hlt : k < n
    · have hkr : k < rs.length := by have := H.out.2.1; omega
      obtain ⟨g, off, rfl, hgl, hcl⟩ := H.out.2.2.1.below HB.out.1 (by omega)
      have e1 := fun j hj => hcl k hkr j hj
      have hr1 := fun W (hb : Below wr.heap.size wr W) => rRight_any rs[k] (H.out.2.2.2.2 _ (List.getElem_mem hkr)) W (H.out.2.2.2.1.below (below_two HB.out.1 hb) (Nat.le_refl _))
      have htk : rs.take (k + 1) = rs.take k ++ [rs[k]] := List.take_succ_eq_append_getElem hkr
      have HTK := Lib.hid (And.intro htk (List.getElem_mem hkr))
      clear hcl htk
      generalize rs[k] = x at *
      obtain ⟨xk, xn, xs, xa, xf⟩ := x
      simp only [RT.v] at hr1
      have a0 := e1 0 (by omega)
      have a1 := e1 1 (by omega)
      have a2 := e1 2 (by omega)
      have a3 := e1 3 (by omega)
      have a4 := e1 4 (by omega)
      simp only [RT.cells, List.getElem?_cons_zero, List.getElem?_cons_succ, Nat.add_zero, ← Nat.add_assoc] at a0 a1 a2 a3 a4
      have HR1 := Lib.hid hr1
      clear e1 hkr hr1
      go_wp2_with fail
      refine (HR1.out _ (by repeat (first | with_reducible exact Below.refl _ _ | with_reducible apply belowD2 | with_reducible apply belowN2))).mono ?_
      rintro e w3 ⟨rfl, hb3⟩
      have HB3 := Lib.hid (below_two HB.out.1 (below_two (show Below wr.heap.size wr _ from by repeat (first | with_reducible exact Below.refl _ _ | with_reducible apply belowD2 | with_reducible apply belowN2)) hb3))
      clear hb3 a0 a1 a2 a3 a4
      cases hrt : rightB ⟨xk, xn, xs, xa, xf⟩
      · go_wp2_with fail
        go_ret
        have hf : rs.all rightB = false := by
          rw [List.all_eq_false]; exact ⟨_, HTK.out.2, by rw [hrt]; simp⟩
        exact ⟨by rw [H.out.1, hf]; rfl, HB3.out⟩
      · go_wp2_with fail
        go_roundw
        case rel => exact ⟨k + 1, by omega, by go_num, HB3.out, by rw [HTK.out.1, List.all_append, HB.out.2]; simp [hrt]⟩
        case measure => simp [intOf]; omega
    · have hkn : n = k := by omega
      subst hkn
      have hall : rs.all rightB = true := by have := HB.out.2; rwa [List.take_of_length_le (by have := H.out.2.1; omega)] at this
      have HA := Lib.hid hall
      clear hall
      go_wp2_with fail
      go_ret
      exact ⟨by rw [H.out.1, HA.out]; rfl, HB.out.1⟩
end Go.Proofs.YtcjdacdggklifaaGreatDoor

/- Apart: of lex, and of the reference. -/
namespace Go.Proofs.YtcjdacdggklifaaGreatDoor
open Go.RowKit

def apR (a b : RT) : Ending := if rightB a && rightB b then .returned (.tuple #[.bool (apartB a b), .int .i64 0]) else .returned (.tuple #[.bool false, .int .i64 1])
set_option maxRecDepth 100000 in
set_option maxHeartbeats 2000000 in
theorem rApart_any (a b : RT) (ha : a.fit) (hb : b.fit) (w : World) (htab : Tab w) : Calls Tryz.prog 16 #[a.v, b.v] w fun e w' => e = apR a b ∧ Below w.heap.size w w' := by
  obtain ⟨ak, an, sa, aa, af⟩ := a
  obtain ⟨bk, bn, sb, ba, bf⟩ := b
  simp only [RT.v] at *
  obtain ⟨wb, hwb⟩ : ∃ wb, wb = (w.alloc (.cells #[.int .i64 ak, .int .i64 an, .string sa, .int .i64 aa, .int .i64 af] 35)).alloc (.cells #[.int .i64 bk, .int .i64 bn, .string sb, .int .i64 ba, .int .i64 bf] 35) := ⟨_, rfl⟩
  have hq1 : wb.heap[w.heap.size]? = some (.cells #[.int .i64 ak, .int .i64 an, .string sa, .int .i64 aa, .int .i64 af] 35) := by
    subst hwb; rw [alloc_miss _ _ _ (by simp), alloc_hit _ _ _ rfl]
  have hq2 : wb.heap[w.heap.size + 1]? = some (.cells #[.int .i64 bk, .int .i64 bn, .string sb, .int .i64 ba, .int .i64 bf] 35) := by
    subst hwb; rw [alloc_hit _ _ _ (by simp)]
  have hzb : wb.heap.size = w.heap.size + 2 := by subst hwb; simp
  have hbb : Below w.heap.size w wb := by subst hwb; exact ((Below.refl _ _).alloc (Nat.le_refl _) _).alloc (by simp) _
  have hk : ∀ W : World, Below wb.heap.size wb W → (W.cell? ⟨w.heap.size, 0, none⟩ = some (.int .i64 ak) ∧ W.cell? ⟨w.heap.size, 1, none⟩ = some (.int .i64 an) ∧ W.cell? ⟨w.heap.size, 2, none⟩ = some (.string sa) ∧ W.cell? ⟨w.heap.size, 3, none⟩ = some (.int .i64 aa) ∧ W.cell? ⟨w.heap.size, 4, none⟩ = some (.int .i64 af)) ∧
      (W.cell? ⟨w.heap.size + 1, 0, none⟩ = some (.int .i64 bk) ∧ W.cell? ⟨w.heap.size + 1, 1, none⟩ = some (.int .i64 bn) ∧ W.cell? ⟨w.heap.size + 1, 2, none⟩ = some (.string sb) ∧ W.cell? ⟨w.heap.size + 1, 3, none⟩ = some (.int .i64 ba) ∧ W.cell? ⟨w.heap.size + 1, 4, none⟩ = some (.int .i64 bf)) := fun W hb => by
    have h0 := (hb.block w.heap.size (by omega)).trans hq1
    have h1 := (hb.block (w.heap.size + 1) (by omega)).trans hq2
    exact ⟨⟨by rw [(cells_of h0 0).1]; rfl, by rw [(cells_of h0 1).1]; rfl, by rw [(cells_of h0 2).1]; rfl, by rw [(cells_of h0 3).1]; rfl, by rw [(cells_of h0 4).1]; rfl⟩,
      by rw [(cells_of h1 0).1]; rfl, by rw [(cells_of h1 1).1]; rfl, by rw [(cells_of h1 2).1]; rfl, by rw [(cells_of h1 3).1]; rfl, by rw [(cells_of h1 4).1]; rfl⟩
  have HC := Lib.hid hk
  have HE := Lib.hid (fun W (hb : Below wb.heap.size wb W) => And.intro (below_le hbb hb (by omega)) (htab.below (below_le hbb hb (by omega)) (Nat.le_refl _)))
  have HWB := Lib.hid hwb
  clear hwb hq1 hq2 hzb hbb hk htab
  go_enter Tryz.func16, Tryz.ntmps16
  go_wp2_with fail
  rw [← HWB.out]
  clear HWB
  obtain ⟨R, hR⟩ : ∃ R, R = apR ⟨ak, an, sa, aa, af⟩ ⟨bk, bn, sb, ba, bf⟩ := ⟨_, rfl⟩
  have HR := Lib.hid hR
  generalize hw0 : w.heap.size = q1 at HC ⊢
  refine (rRight_any ⟨ak, an, sa, aa, af⟩ ha wb (HE.out _ (Below.refl _ _)).2).mono ?_
  rintro e w3 ⟨rfl, hb3⟩
  have HB3 := Lib.hid hb3
  clear hb3 hw0 hR
  cases hra : rightB ⟨ak, an, sa, aa, af⟩
  · have hr : R = .returned (.tuple #[.bool false, .int .i64 1]) := by rw [HR.out, apR, hra]; rfl
    go_wp2_with fail
    go_ret2
    exact ⟨by rw [← HR.out, hr]; rfl, (HE.out _ HB3.out).1⟩
  · have c0 := (HC.out _ HB3.out).2.1
    have c1 := (HC.out _ HB3.out).2.2.1
    have c2 := (HC.out _ HB3.out).2.2.2.1
    have c3 := (HC.out _ HB3.out).2.2.2.2.1
    have c4 := (HC.out _ HB3.out).2.2.2.2.2
    go_wp2_with fail
    refine (rRight_any ⟨bk, bn, sb, ba, bf⟩ hb w3 (HE.out _ HB3.out).2).mono ?_
    rintro e w4 ⟨rfl, hb4⟩
    have HB4 := Lib.hid (below_two HB3.out hb4)
    clear hb4 c0 c1 c2 c3 c4
    cases hrb : rightB ⟨bk, bn, sb, ba, bf⟩
    · have hr : R = .returned (.tuple #[.bool false, .int .i64 1]) := by rw [HR.out, apR, hra, hrb]; rfl
      go_wp2_with fail
      go_ret2
      exact ⟨by rw [← HR.out, hr]; rfl, (HE.out _ HB4.out).1⟩
    · have hta := RT.text_le ⟨ak, an, sa, aa, af⟩ ha
      have htb := RT.text_le ⟨bk, bn, sb, ba, bf⟩ hb
      have hsa : sa.size ≤ 64 := by
        rcases Nat.lt_or_ge 64 sa.size with h | h
        · rw [right_long ⟨ak, an, sa, aa, af⟩ h] at hra; cases hra
        · exact h
      have hsb : sb.size ≤ 64 := by
        rcases Nat.lt_or_ge 64 sb.size with h | h
        · rw [right_long ⟨bk, bn, sb, ba, bf⟩ h] at hrb; cases hrb
        · exact h
      have hr : R = .returned (.tuple #[.bool (apartB ⟨ak, an, sa, aa, af⟩ ⟨bk, bn, sb, ba, bf⟩), .int .i64 0]) := by rw [HR.out, apR, hra, hrb]; rfl
      have hr2 := HR.out
      rw [hr] at hr2
      have HRR := Lib.hid hr2
      have HTA := Lib.hid (fun W (hb : Below wb.heap.size wb W) => Text_all ⟨ak, an, sa, aa, af⟩ ha W (HE.out _ hb).2)
      have HTB := Lib.hid (fun W (hbw : Below wb.heap.size wb W) => Text_all ⟨bk, bn, sb, ba, bf⟩ hb W (HE.out _ hbw).2)
      have hap := fun x y => apart_of (a := ⟨ak, an, sa, aa, af⟩) (b := ⟨bk, bn, sb, ba, bf⟩) (x := x) (y := y)
      have hap2 := @apart_two ⟨ak, an, sa, aa, af⟩ ⟨bk, bn, sb, ba, bf⟩
      have hval : ∀ x y, Lx.T (bts (⟨ak, an, sa, aa, af⟩ : RT).text ++ bts (⟨bk, bn, sb, ba, bf⟩ : RT).text) 0 = .good [x, y] → apartB ⟨ak, an, sa, aa, af⟩ ⟨bk, bn, sb, ba, bf⟩ = (alikeB (rt x) ⟨ak, an, sa, aa, af⟩ && alikeB (rt y) ⟨bk, bn, sb, ba, bf⟩) := fun x y hT => by
        cases h1 : alikeB (rt x) ⟨ak, an, sa, aa, af⟩ <;> cases h2 : alikeB (rt y) ⟨bk, bn, sb, ba, bf⟩
        case true.true => exact hap x y hT h1 h2
        all_goals
          cases hx : apartB ⟨ak, an, sa, aa, af⟩ ⟨bk, bn, sb, ba, bf⟩ with
          | false => rfl
          | true =>
            obtain ⟨x', y', h3, h4, h5⟩ := hap2 hx
            rw [hT] at h3; cases h3
            first | (rw [h1] at h4; exact absurd h4 Bool.false_ne_true) | (rw [h2] at h5; exact absurd h5 Bool.false_ne_true)
      have hnot : (∀ x y, Lx.T (bts (⟨ak, an, sa, aa, af⟩ : RT).text ++ bts (⟨bk, bn, sb, ba, bf⟩ : RT).text) 0 ≠ .good [x, y]) → apartB ⟨ak, an, sa, aa, af⟩ ⟨bk, bn, sb, ba, bf⟩ = false := fun h => by
        cases hx : apartB ⟨ak, an, sa, aa, af⟩ ⟨bk, bn, sb, ba, bf⟩ with
        | false => rfl
        | true => obtain ⟨x', y', h3, _⟩ := hap2 hx; exact absurd h3 (h x' y')
      have HAP := Lib.hid (And.intro hval hnot)
      have HLA := Lib.hid (fun x W => Like_any x ⟨ak, an, sa, aa, af⟩ W)
      have HLB := Lib.hid (fun x W => Like_any x ⟨bk, bn, sb, ba, bf⟩ W)
      clear hval hnot
      obtain ⟨ta, hta2⟩ : ∃ t, t = (⟨ak, an, sa, aa, af⟩ : RT).text := ⟨_, rfl⟩
      obtain ⟨tb, htb2⟩ : ∃ t, t = (⟨bk, bn, sb, ba, bf⟩ : RT).text := ⟨_, rfl⟩
      rw [← hta2] at hta HTA HAP
      rw [← htb2] at htb HTB HAP
      simp only [RT.v] at HTA HTB HLA HLB
      have hcl : ¬ (9223372036854775807 < ta.size + tb.size) := by simp only at hta htb; omega
      have hcz : (ta ++ tb).size ≤ 200 := by rw [ByteArray.size_append]; simp only at hta htb; omega
      have hbts : bts (ta ++ tb) = bts ta ++ bts tb := bts_append ta tb
      have HZ := Lib.hid (And.intro hcz hbts)
      clear hra hrb hr hr2 HR hap hap2 hta htb hsa hsb hta2 htb2 hcz hbts
      generalize apartB ⟨ak, an, sa, aa, af⟩ ⟨bk, bn, sb, ba, bf⟩ = ap at *
      go_wp2_with fail
      go_region_held3 (fun W => (W.cell? ⟨q1, 0, none⟩ = some (.int .i64 ak) ∧ W.cell? ⟨q1, 1, none⟩ = some (.int .i64 an) ∧ W.cell? ⟨q1, 2, none⟩ = some (.string sa) ∧ W.cell? ⟨q1, 3, none⟩ = some (.int .i64 aa) ∧ W.cell? ⟨q1, 4, none⟩ = some (.int .i64 af)) ∧ (W.cell? ⟨q1 + 1, 0, none⟩ = some (.int .i64 bk) ∧ W.cell? ⟨q1 + 1, 1, none⟩ = some (.int .i64 bn) ∧ W.cell? ⟨q1 + 1, 2, none⟩ = some (.string sb) ∧ W.cell? ⟨q1 + 1, 3, none⟩ = some (.int .i64 ba) ∧ W.cell? ⟨q1 + 1, 4, none⟩ = some (.int .i64 bf)))
        (with_reducible refine HC.out _ ?_; (repeat (first | with_reducible exact HB4.out | with_reducible assumption | with_reducible apply belowD2)); done)
        (first
          | (go_at_call 24; (first | (with_reducible refine (HTA.out _ (by repeat (first | with_reducible exact HB4.out | with_reducible assumption | with_reducible apply belowD2))).mono ?_) | (with_reducible refine (HTB.out _ (by repeat (first | with_reducible exact HB4.out | with_reducible assumption | with_reducible apply belowD2))).mono ?_)); rintro e w' ⟨rfl, hg2⟩; have hbw := below_grown (show Below wb.heap.size wb _ from by repeat (first | with_reducible exact HB4.out | with_reducible assumption | with_reducible apply belowD2)) hg2; clear hg2)
          | (go_at_call 17; (with_reducible refine (rTokens_any _ _).mono ?_); intro e w' ht; have hbw := below_two (show Below wb.heap.size wb _ from by repeat (first | with_reducible exact HB4.out | with_reducible assumption | with_reducible apply belowD2)) ht.1; obtain ⟨v, p, er, rfl⟩ := tokR_three ht; unfold three))
      generalize w' = w5 at *
      have HB5 := Lib.hid hbw
      clear hbw
      rcases ht with ⟨_, ⟨hbg, _⟩ | ⟨_, hcs⟩⟩
      · exact absurd hbg (by have := HZ.out.1; omega)
      rw [HZ.out.2] at hcs
      cases hT : Lx.T (bts ta ++ bts tb) 0 with
      | bad k =>
        rw [hT] at hcs
        simp only [three, Ending.returned.injEq, Value.tuple.injEq, Array.mk.injEq, List.cons.injEq, and_true, Value.int.injEq, true_and] at hcs
        obtain ⟨rfl, rfl, rfl⟩ := hcs
        have hf : ap = false := HAP.out.2 (fun x y h => by rw [hT] at h; cases h)
        subst hf
        clear hT
        go_wp2_with fail
        go_quiet (fail)
        go_wp2_with fail
        go_ret2
        exact ⟨HRR.out, (HE.out _ (belowN2 _ HB5.out)).1⟩
      | good l =>
        rw [hT] at hcs
        have hcn := T_count _ _ _ hT
        rw [← HZ.out.2, bts_length] at hcn
        simp only at hcs
        rw [if_neg (by have := HZ.out.1; omega)] at hcs
        obtain ⟨v', he, hown⟩ := hcs
        simp only [three, Ending.returned.injEq, Value.tuple.injEq, Array.mk.injEq, List.cons.injEq, and_true, Value.int.injEq, true_and] at he
        obtain ⟨rfl, rfl, rfl⟩ := he
        obtain ⟨oa, cap, rfl, hcap⟩ := owns_form hown
        by_cases h2 : l.length = 2
        · obtain ⟨x, y, rfl⟩ : ∃ x y, l = [x, y] := by
            match l, h2 with
            | [x, y], _ => exact ⟨x, y, rfl⟩
          have htv := tokV_owned hown
          obtain ⟨g, off, rfl, hgl, hcl⟩ := htv (by simp)
          have hv := HAP.out.1 x y hT
          have hx := hcl 0 (by simp)
          have hy := hcl 1 (by simp)
          simp only [List.map_cons, List.getElem_cons_zero, List.getElem_cons_succ, Nat.zero_mul, Nat.zero_add, Nat.one_mul, ← Nat.add_assoc] at hx hy
          generalize rt x = x' at *
          generalize rt y = y' at *
          obtain ⟨xk, xn, xs, xa, xf⟩ := x'
          obtain ⟨yk, yn, ys, ya, yf⟩ := y'
          have hkp : ∀ W, Below w5.heap.size w5 W → (((W.cell? ⟨q1, 0, none⟩ = some (.int .i64 ak) ∧ W.cell? ⟨q1, 1, none⟩ = some (.int .i64 an) ∧ W.cell? ⟨q1, 2, none⟩ = some (.string sa) ∧ W.cell? ⟨q1, 3, none⟩ = some (.int .i64 aa) ∧ W.cell? ⟨q1, 4, none⟩ = some (.int .i64 af)) ∧ (W.cell? ⟨q1 + 1, 0, none⟩ = some (.int .i64 bk) ∧ W.cell? ⟨q1 + 1, 1, none⟩ = some (.int .i64 bn) ∧ W.cell? ⟨q1 + 1, 2, none⟩ = some (.string sb) ∧ W.cell? ⟨q1 + 1, 3, none⟩ = some (.int .i64 ba) ∧ W.cell? ⟨q1 + 1, 4, none⟩ = some (.int .i64 bf))) ∧ ((W.cell? ⟨g, off, none⟩ = some (.int .i64 xk) ∧ W.cell? ⟨g, off + 1, none⟩ = some (.int .i64 xn) ∧ W.cell? ⟨g, off + 2, none⟩ = some (.string xs) ∧ W.cell? ⟨g, off + 3, none⟩ = some (.int .i64 xa) ∧ W.cell? ⟨g, off + 4, none⟩ = some (.int .i64 xf)) ∧ (W.cell? ⟨g, off + 5, none⟩ = some (.int .i64 yk) ∧ W.cell? ⟨g, off + 5 + 1, none⟩ = some (.int .i64 yn) ∧ W.cell? ⟨g, off + 5 + 2, none⟩ = some (.string ys) ∧ W.cell? ⟨g, off + 5 + 3, none⟩ = some (.int .i64 ya) ∧ W.cell? ⟨g, off + 5 + 4, none⟩ = some (.int .i64 yf)))) := fun W hb => by
            have cx : ∀ j, j < 5 → W.cell? ⟨g, off + j, none⟩ = (⟨xk, xn, xs, xa, xf⟩ : RT).cells[j]? := fun j hj => (World.cell?_of_block (w := w5) (a := ⟨g, off + j, none⟩) (hb.block g hgl)).trans (hx j hj)
            have cy : ∀ j, j < 5 → W.cell? ⟨g, off + 5 + j, none⟩ = (⟨yk, yn, ys, ya, yf⟩ : RT).cells[j]? := fun j hj => (World.cell?_of_block (w := w5) (a := ⟨g, off + 5 + j, none⟩) (hb.block g hgl)).trans (hy j hj)
            exact ⟨HC.out _ (below_two HB5.out hb), ⟨cx 0 (by omega), cx 1 (by omega), cx 2 (by omega), cx 3 (by omega), cx 4 (by omega)⟩, cy 0 (by omega), cy 1 (by omega), cy 2 (by omega), cy 3 (by omega), cy 4 (by omega)⟩
          have HKP := Lib.hid hkp
          have HV := Lib.hid hv
          clear hkp hv hx hy hcl hgl htv hown hcap hT hcn h2
          simp only [List.length_cons, List.length_nil]
          go_wp2_with fail
          refine wp_region_held_drew (S := fun W => ((W.cell? ⟨q1, 0, none⟩ = some (.int .i64 ak) ∧ W.cell? ⟨q1, 1, none⟩ = some (.int .i64 an) ∧ W.cell? ⟨q1, 2, none⟩ = some (.string sa) ∧ W.cell? ⟨q1, 3, none⟩ = some (.int .i64 aa) ∧ W.cell? ⟨q1, 4, none⟩ = some (.int .i64 af)) ∧ (W.cell? ⟨q1 + 1, 0, none⟩ = some (.int .i64 bk) ∧ W.cell? ⟨q1 + 1, 1, none⟩ = some (.int .i64 bn) ∧ W.cell? ⟨q1 + 1, 2, none⟩ = some (.string sb) ∧ W.cell? ⟨q1 + 1, 3, none⟩ = some (.int .i64 ba) ∧ W.cell? ⟨q1 + 1, 4, none⟩ = some (.int .i64 bf))) ∧ ((W.cell? ⟨g, off, none⟩ = some (.int .i64 xk) ∧ W.cell? ⟨g, off + 1, none⟩ = some (.int .i64 xn) ∧ W.cell? ⟨g, off + 2, none⟩ = some (.string xs) ∧ W.cell? ⟨g, off + 3, none⟩ = some (.int .i64 xa) ∧ W.cell? ⟨g, off + 4, none⟩ = some (.int .i64 xf)) ∧ (W.cell? ⟨g, off + 5, none⟩ = some (.int .i64 yk) ∧ W.cell? ⟨g, off + 5 + 1, none⟩ = some (.int .i64 yn) ∧ W.cell? ⟨g, off + 5 + 2, none⟩ = some (.string ys) ∧ W.cell? ⟨g, off + 5 + 3, none⟩ = some (.int .i64 ya) ∧ W.cell? ⟨g, off + 5 + 4, none⟩ = some (.int .i64 yf)))) (by kernel_rfl) ?_ (fun hHeld => ?_)
          · exact HKP.out _ (by repeat (first | with_reducible assumption | with_reducible exact Below.refl _ _ | with_reducible apply belowD2))
          refine wpAnyH_take (i := 0) (v := ?_) rfl (by kernel_rfl) (by kernel_rfl) (by kernel_rfl) (fun _ _ _ h => h) (Or.inl ⟨rfl, ?_⟩) (by assumption) ?_
          rotate_left
          · (intro w hSw; (try dsimp only at hSw); go_simp; try with_reducible rfl)
          simp only [Act.put, List.setIfInBounds_toArray, List.set_cons_zero, List.set_cons_succ, List.getElem_toArray, List.getElem_cons_zero]
          refine wpAnyH_take (i := 1) (v := ?_) rfl (by kernel_rfl) (by kernel_rfl) (by kernel_rfl) (fun _ _ _ h => h) (Or.inl ⟨rfl, ?_⟩) (by assumption) ?_
          rotate_left
          · (intro w hSw; (try dsimp only at hSw); go_simp; try with_reducible rfl)
          simp only [Act.put, List.setIfInBounds_toArray, List.set_cons_zero, List.set_cons_succ, List.getElem_toArray, List.getElem_cons_zero, List.getElem_cons_succ]
          refine wpAnyH_take (i := 2) (v := ?_) rfl (by kernel_rfl) (by kernel_rfl) (by kernel_rfl) (fun _ _ _ h => h) (Or.inl ⟨rfl, ?_⟩) (by assumption) ?_
          rotate_left
          · (intro w hSw; (try dsimp only at hSw); go_simp; try with_reducible rfl)
          simp only [Act.put, List.setIfInBounds_toArray, List.set_cons_zero, List.set_cons_succ, List.getElem_toArray, List.getElem_cons_zero, List.getElem_cons_succ]
          refine wpAnyH_take (i := 3) (v := ?_) rfl (by kernel_rfl) (by kernel_rfl) (by kernel_rfl) (fun _ _ _ h => h) (Or.inl ⟨rfl, ?_⟩) (by assumption) ?_
          rotate_left
          · (intro w hSw; (try dsimp only at hSw); go_simp; try with_reducible rfl)
          simp only [Act.put, List.setIfInBounds_toArray, List.set_cons_zero, List.set_cons_succ, List.getElem_toArray, List.getElem_cons_zero, List.getElem_cons_succ]
          refine wpAnyH_take (i := 4) (v := ?_) rfl (by kernel_rfl) (by kernel_rfl) (by kernel_rfl) (fun _ _ _ h => h) (Or.inl ⟨rfl, ?_⟩) (by assumption) ?_
          rotate_left
          · (intro w hSw; (try dsimp only at hSw); go_simp; try with_reducible rfl)
          simp only [Act.put, List.setIfInBounds_toArray, List.set_cons_zero, List.set_cons_succ, List.getElem_toArray, List.getElem_cons_zero, List.getElem_cons_succ]
          refine wpAnyH_take (i := 5) (v := ?_) rfl (by kernel_rfl) (by kernel_rfl) (by kernel_rfl) (fun _ _ _ h => h) (Or.inl ⟨rfl, ?_⟩) (by assumption) ?_
          rotate_left
          · (intro w hSw; (try dsimp only at hSw); go_simp; try with_reducible rfl)
          simp only [Act.put, List.setIfInBounds_toArray, List.set_cons_zero, List.set_cons_succ, List.getElem_toArray, List.getElem_cons_zero, List.getElem_cons_succ]
          refine wpAnyH_take (i := 6) (v := ?_) rfl (by kernel_rfl) (by kernel_rfl) (by kernel_rfl) (fun _ _ _ h => h) (Or.inl ⟨rfl, ?_⟩) (by assumption) ?_
          rotate_left
          · (intro w hSw; (try dsimp only at hSw); go_simp; try with_reducible rfl)
          simp only [Act.put, List.setIfInBounds_toArray, List.set_cons_zero, List.set_cons_succ, List.getElem_toArray, List.getElem_cons_zero, List.getElem_cons_succ]
          refine wpAnyH_take (i := 7) (v := ?_) rfl (by kernel_rfl) (by kernel_rfl) (by kernel_rfl) (fun _ _ _ h => h) (Or.inl ⟨rfl, ?_⟩) (by assumption) ?_
          rotate_left
          · (intro w hSw; (try dsimp only at hSw); go_simp; try with_reducible rfl)
          simp only [Act.put, List.setIfInBounds_toArray, List.set_cons_zero, List.set_cons_succ, List.getElem_toArray, List.getElem_cons_zero, List.getElem_cons_succ]
          refine wpAnyH_take (i := 8) (v := ?_) rfl (by kernel_rfl) (by kernel_rfl) (by kernel_rfl) (fun _ _ _ h => h) (Or.inl ⟨rfl, ?_⟩) (by assumption) ?_
          rotate_left
          · (intro w hSw; (try dsimp only at hSw); go_simp; try with_reducible rfl)
          simp only [Act.put, List.setIfInBounds_toArray, List.set_cons_zero, List.set_cons_succ, List.getElem_toArray, List.getElem_cons_zero, List.getElem_cons_succ]
          refine wpAnyH_take (i := 9) (v := ?_) rfl (by kernel_rfl) (by kernel_rfl) (by kernel_rfl) (fun _ _ _ h => h) (Or.inl ⟨rfl, ?_⟩) (by assumption) ?_
          rotate_left
          · (intro w hSw; (try dsimp only at hSw); go_simp; try with_reducible rfl)
          simp only [Act.put, List.setIfInBounds_toArray, List.set_cons_zero, List.set_cons_succ, List.getElem_toArray, List.getElem_cons_zero, List.getElem_cons_succ]
          refine wpAnyH_take (i := 10) (v := ?_) rfl (by kernel_rfl) (by kernel_rfl) (by kernel_rfl) (fun _ _ _ h => h) (Or.inl ⟨rfl, ?_⟩) (by assumption) ?_
          rotate_left
          · (intro w hSw; (try dsimp only at hSw); go_simp; try with_reducible rfl)
          simp only [Act.put, List.setIfInBounds_toArray, List.set_cons_zero, List.set_cons_succ, List.getElem_toArray, List.getElem_cons_zero, List.getElem_cons_succ]
          refine wpAnyH_take (i := 11) (v := ?_) rfl (by kernel_rfl) (by kernel_rfl) (by kernel_rfl) (fun _ _ _ h => h) (Or.inl ⟨rfl, ?_⟩) (by assumption) ?_
          rotate_left
          · (intro w hSw; (try dsimp only at hSw); go_simp; try with_reducible rfl)
          simp only [Act.put, List.setIfInBounds_toArray, List.set_cons_zero, List.set_cons_succ, List.getElem_toArray, List.getElem_cons_zero, List.getElem_cons_succ]
          refine wpAnyH_ready (rs := [12]) (by kernel_rfl) (by simp) ?_
          refine AllReadyH.cons rfl (fun K hK => ?_) AllReadyH.nil
          go_simp
          go_at_call 47
          (refine (HLA.out ⟨xk, xn, xs, xa, xf⟩ _).mono ?_)
          rintro e w6 ⟨rfl, hg6⟩
          have hb6 := below_grown (show Below w5.heap.size w5 _ from (by repeat (first | with_reducible assumption | with_reducible exact Below.refl _ _ | with_reducible apply belowD2))) hg6
          clear hg6
          go_wp2_with fail
          refine hK.out _ _ ?_ (fun hHeld => ?_)
          · exact HKP.out _ hb6
          clear hK K
          try simp only [Act.put, List.setIfInBounds_toArray, List.set_cons_zero, List.set_cons_succ, List.getElem_toArray, List.getElem_cons_zero, List.getElem_cons_succ]
          cases hp : alikeB ⟨xk, xn, xs, xa, xf⟩ ⟨ak, an, sa, aa, af⟩
          · have hf : ap = false := by rw [HV.out, hp]; rfl
            subst hf
            clear HV
            refine wpAnyH_take (i := 13) (v := ?_) rfl (by kernel_rfl) (by kernel_rfl) (by kernel_rfl) (fun _ _ _ h => h) (Or.inl ⟨rfl, ?_⟩) (by assumption) ?_
            rotate_left
            · (intro w hSw; (try dsimp only at hSw); go_simp; try with_reducible rfl)
            simp only [Act.put, List.setIfInBounds_toArray, List.set_cons_zero, List.set_cons_succ, List.getElem_toArray, List.getElem_cons_zero, List.getElem_cons_succ]
            refine wpAnyH_take (i := 14) (v := ?_) rfl (by kernel_rfl) (by kernel_rfl) (by kernel_rfl) (fun _ _ _ h => h) (Or.inl ⟨rfl, ?_⟩) (by assumption) ?_
            rotate_left
            · (intro w hSw; (try dsimp only at hSw); go_simp; try with_reducible rfl)
            simp only [Act.put, List.setIfInBounds_toArray, List.set_cons_zero, List.set_cons_succ, List.getElem_toArray, List.getElem_cons_zero, List.getElem_cons_succ]
            refine wpAnyH_take (i := 15) (v := undef) rfl (by kernel_rfl) (by kernel_rfl) (by kernel_rfl) (fun _ _ _ h => h) (Or.inr ⟨rfl, rfl⟩) (by assumption) ?_
            simp only [Act.put, List.setIfInBounds_toArray, List.set_cons_zero, List.set_cons_succ, List.getElem_toArray, List.getElem_cons_zero, List.getElem_cons_succ]
            refine wpAnyH_take (i := 16) (v := undef) rfl (by kernel_rfl) (by kernel_rfl) (by kernel_rfl) (fun _ _ _ h => h) (Or.inr ⟨rfl, rfl⟩) (by assumption) ?_
            simp only [Act.put, List.setIfInBounds_toArray, List.set_cons_zero, List.set_cons_succ, List.getElem_toArray, List.getElem_cons_zero, List.getElem_cons_succ]
            refine wpAnyH_take (i := 17) (v := undef) rfl (by kernel_rfl) (by kernel_rfl) (by kernel_rfl) (fun _ _ _ h => h) (Or.inr ⟨rfl, rfl⟩) (by assumption) ?_
            simp only [Act.put, List.setIfInBounds_toArray, List.set_cons_zero, List.set_cons_succ, List.getElem_toArray, List.getElem_cons_zero, List.getElem_cons_succ]
            refine wpAnyH_take (i := 18) (v := undef) rfl (by kernel_rfl) (by kernel_rfl) (by kernel_rfl) (fun _ _ _ h => h) (Or.inr ⟨rfl, rfl⟩) (by assumption) ?_
            simp only [Act.put, List.setIfInBounds_toArray, List.set_cons_zero, List.set_cons_succ, List.getElem_toArray, List.getElem_cons_zero, List.getElem_cons_succ]
            refine wpAnyH_take (i := 19) (v := undef) rfl (by kernel_rfl) (by kernel_rfl) (by kernel_rfl) (fun _ _ _ h => h) (Or.inr ⟨rfl, rfl⟩) (by assumption) ?_
            simp only [Act.put, List.setIfInBounds_toArray, List.set_cons_zero, List.set_cons_succ, List.getElem_toArray, List.getElem_cons_zero, List.getElem_cons_succ]
            refine wpAnyH_take (i := 20) (v := ?_) rfl (by kernel_rfl) (by kernel_rfl) (by kernel_rfl) (fun _ _ _ h => h) (Or.inl ⟨rfl, ?_⟩) (by assumption) ?_
            rotate_left
            · (intro w hSw; (try dsimp only at hSw); go_simp; try with_reducible rfl)
            simp only [Act.put, List.setIfInBounds_toArray, List.set_cons_zero, List.set_cons_succ, List.getElem_toArray, List.getElem_cons_zero, List.getElem_cons_succ]
            refine wpAnyH_take (i := 21) (v := ?_) rfl (by kernel_rfl) (by kernel_rfl) (by kernel_rfl) (fun _ _ _ h => h) (Or.inl ⟨rfl, ?_⟩) (by assumption) ?_
            rotate_left
            · (intro w hSw; (try dsimp only at hSw); go_simp; try with_reducible rfl)
            simp only [Act.put, List.setIfInBounds_toArray, List.set_cons_zero, List.set_cons_succ, List.getElem_toArray, List.getElem_cons_zero, List.getElem_cons_succ]
            refine wpAnyH_take (i := 22) (v := ?_) rfl (by kernel_rfl) (by kernel_rfl) (by kernel_rfl) (fun _ _ _ h => h) (Or.inl ⟨rfl, ?_⟩) (by assumption) ?_
            rotate_left
            · (intro w hSw; (try dsimp only at hSw); go_simp; try with_reducible rfl)
            simp only [Act.put, List.setIfInBounds_toArray, List.set_cons_zero, List.set_cons_succ, List.getElem_toArray, List.getElem_cons_zero, List.getElem_cons_succ]
            refine wpAnyH_done (by kernel_rfl) ?_ _
            go_wp2_with fail
            go_ret2
            exact ⟨HRR.out, (HE.out _ (below_two HB5.out hb6)).1⟩
          · have hf : ap = alikeB ⟨yk, yn, ys, ya, yf⟩ ⟨bk, bn, sb, ba, bf⟩ := by rw [HV.out, hp]; rfl
            subst hf
            clear HV
            refine wpAnyH_take (i := 13) (v := ?_) rfl (by kernel_rfl) (by kernel_rfl) (by kernel_rfl) (fun _ _ _ h => h) (Or.inl ⟨rfl, ?_⟩) (by assumption) ?_
            rotate_left
            · (intro w hSw; (try dsimp only at hSw); go_simp; try with_reducible rfl)
            simp only [Act.put, List.setIfInBounds_toArray, List.set_cons_zero, List.set_cons_succ, List.getElem_toArray, List.getElem_cons_zero, List.getElem_cons_succ]
            refine wpAnyH_take (i := 14) (v := ?_) rfl (by kernel_rfl) (by kernel_rfl) (by kernel_rfl) (fun _ _ _ h => h) (Or.inl ⟨rfl, ?_⟩) (by assumption) ?_
            rotate_left
            · (intro w hSw; (try dsimp only at hSw); go_simp; try with_reducible rfl)
            simp only [Act.put, List.setIfInBounds_toArray, List.set_cons_zero, List.set_cons_succ, List.getElem_toArray, List.getElem_cons_zero, List.getElem_cons_succ]
            refine wpAnyH_take (i := 15) (v := ?_) rfl (by kernel_rfl) (by kernel_rfl) (by kernel_rfl) (fun _ _ _ h => h) (Or.inl ⟨rfl, ?_⟩) (by assumption) ?_
            rotate_left
            · (intro w hSw; (try dsimp only at hSw); go_simp; try with_reducible rfl)
            simp only [Act.put, List.setIfInBounds_toArray, List.set_cons_zero, List.set_cons_succ, List.getElem_toArray, List.getElem_cons_zero, List.getElem_cons_succ]
            refine wpAnyH_take (i := 16) (v := ?_) rfl (by kernel_rfl) (by kernel_rfl) (by kernel_rfl) (fun _ _ _ h => h) (Or.inl ⟨rfl, ?_⟩) (by assumption) ?_
            rotate_left
            · (intro w hSw; (try dsimp only at hSw); go_simp; try with_reducible rfl)
            simp only [Act.put, List.setIfInBounds_toArray, List.set_cons_zero, List.set_cons_succ, List.getElem_toArray, List.getElem_cons_zero, List.getElem_cons_succ]
            refine wpAnyH_take (i := 17) (v := ?_) rfl (by kernel_rfl) (by kernel_rfl) (by kernel_rfl) (fun _ _ _ h => h) (Or.inl ⟨rfl, ?_⟩) (by assumption) ?_
            rotate_left
            · (intro w hSw; (try dsimp only at hSw); go_simp; try with_reducible rfl)
            simp only [Act.put, List.setIfInBounds_toArray, List.set_cons_zero, List.set_cons_succ, List.getElem_toArray, List.getElem_cons_zero, List.getElem_cons_succ]
            refine wpAnyH_take (i := 18) (v := ?_) rfl (by kernel_rfl) (by kernel_rfl) (by kernel_rfl) (fun _ _ _ h => h) (Or.inl ⟨rfl, ?_⟩) (by assumption) ?_
            rotate_left
            · (intro w hSw; (try dsimp only at hSw); go_simp; try with_reducible rfl)
            simp only [Act.put, List.setIfInBounds_toArray, List.set_cons_zero, List.set_cons_succ, List.getElem_toArray, List.getElem_cons_zero, List.getElem_cons_succ]
            refine wpAnyH_ready (rs := [19]) (by kernel_rfl) (by simp) ?_
            refine AllReadyH.cons rfl (fun K hK => ?_) AllReadyH.nil
            go_simp
            go_at_call 47
            (refine (HLB.out ⟨yk, yn, ys, ya, yf⟩ _).mono ?_)
            rintro e w7 ⟨rfl, hg7⟩
            have hb7 := below_grown (show Below w5.heap.size w5 _ from (by repeat (first | with_reducible assumption | with_reducible exact Below.refl _ _ | with_reducible apply belowD2))) hg7
            clear hg7
            go_wp2_with fail
            refine hK.out _ _ ?_ (fun hHeld => ?_)
            · exact HKP.out _ hb7
            clear hK K
            try simp only [Act.put, List.setIfInBounds_toArray, List.set_cons_zero, List.set_cons_succ, List.getElem_toArray, List.getElem_cons_zero, List.getElem_cons_succ]
            refine wpAnyH_take (i := 20) (v := ?_) rfl (by kernel_rfl) (by kernel_rfl) (by kernel_rfl) (fun _ _ _ h => h) (Or.inl ⟨rfl, ?_⟩) (by assumption) ?_
            rotate_left
            · (intro w hSw; (try dsimp only at hSw); go_simp; try with_reducible rfl)
            simp only [Act.put, List.setIfInBounds_toArray, List.set_cons_zero, List.set_cons_succ, List.getElem_toArray, List.getElem_cons_zero, List.getElem_cons_succ]
            refine wpAnyH_take (i := 21) (v := ?_) rfl (by kernel_rfl) (by kernel_rfl) (by kernel_rfl) (fun _ _ _ h => h) (Or.inl ⟨rfl, ?_⟩) (by assumption) ?_
            rotate_left
            · (intro w hSw; (try dsimp only at hSw); go_simp; try with_reducible rfl)
            simp only [Act.put, List.setIfInBounds_toArray, List.set_cons_zero, List.set_cons_succ, List.getElem_toArray, List.getElem_cons_zero, List.getElem_cons_succ]
            refine wpAnyH_take (i := 22) (v := ?_) rfl (by kernel_rfl) (by kernel_rfl) (by kernel_rfl) (fun _ _ _ h => h) (Or.inl ⟨rfl, ?_⟩) (by assumption) ?_
            rotate_left
            · (intro w hSw; (try dsimp only at hSw); go_simp; try with_reducible rfl)
            simp only [Act.put, List.setIfInBounds_toArray, List.set_cons_zero, List.set_cons_succ, List.getElem_toArray, List.getElem_cons_zero, List.getElem_cons_succ]
            refine wpAnyH_done (by kernel_rfl) ?_ _
            go_wp2_with fail
            go_ret2
            exact ⟨HRR.out, (HE.out _ (below_two HB5.out hb7)).1⟩
        · have hf : ap = false := HAP.out.2 (fun x y h => by rw [hT] at h; cases h; simp at h2)
          have hl2 : ((l.length : Int) == 2) = false := by simpa using (by omega : ¬ (l.length : Int) = 2)
          subst hf
          clear hT hown hcap
          go_wp2_with fail
          go_quiet (fail)
          go_wp2_with fail
          go_ret2
          exact ⟨HRR.out, (HE.out _ (belowN2 _ HB5.out)).1⟩
set_option maxRecDepth 100000 in
set_option maxHeartbeats 2000000 in
theorem lApart_any (a b : RT) (ha : a.fit) (hb : b.fit) (has : a.s.size ≤ 20000) (hbs : b.s.size ≤ 20000) (w : World) (htab : Tab w) : Calls Tryz.prog 15 #[a.v, b.v] w fun e w' => e = apR a b ∧ Below w.heap.size w w' := by
  obtain ⟨ak, an, sa, aa, af⟩ := a
  obtain ⟨bk, bn, sb, ba, bf⟩ := b
  simp only [RT.v] at *
  obtain ⟨wb, hwb⟩ : ∃ wb, wb = (w.alloc (.cells #[.int .i64 ak, .int .i64 an, .string sa, .int .i64 aa, .int .i64 af] 35)).alloc (.cells #[.int .i64 bk, .int .i64 bn, .string sb, .int .i64 ba, .int .i64 bf] 35) := ⟨_, rfl⟩
  have hq1 : wb.heap[w.heap.size]? = some (.cells #[.int .i64 ak, .int .i64 an, .string sa, .int .i64 aa, .int .i64 af] 35) := by
    subst hwb; rw [alloc_miss _ _ _ (by simp), alloc_hit _ _ _ rfl]
  have hq2 : wb.heap[w.heap.size + 1]? = some (.cells #[.int .i64 bk, .int .i64 bn, .string sb, .int .i64 ba, .int .i64 bf] 35) := by
    subst hwb; rw [alloc_hit _ _ _ (by simp)]
  have hzb : wb.heap.size = w.heap.size + 2 := by subst hwb; simp
  have hbb : Below w.heap.size w wb := by subst hwb; exact ((Below.refl _ _).alloc (Nat.le_refl _) _).alloc (by simp) _
  have hk : ∀ W : World, Below wb.heap.size wb W → (W.cell? ⟨w.heap.size, 0, none⟩ = some (.int .i64 ak) ∧ W.cell? ⟨w.heap.size, 1, none⟩ = some (.int .i64 an) ∧ W.cell? ⟨w.heap.size, 2, none⟩ = some (.string sa) ∧ W.cell? ⟨w.heap.size, 3, none⟩ = some (.int .i64 aa) ∧ W.cell? ⟨w.heap.size, 4, none⟩ = some (.int .i64 af)) ∧
      (W.cell? ⟨w.heap.size + 1, 0, none⟩ = some (.int .i64 bk) ∧ W.cell? ⟨w.heap.size + 1, 1, none⟩ = some (.int .i64 bn) ∧ W.cell? ⟨w.heap.size + 1, 2, none⟩ = some (.string sb) ∧ W.cell? ⟨w.heap.size + 1, 3, none⟩ = some (.int .i64 ba) ∧ W.cell? ⟨w.heap.size + 1, 4, none⟩ = some (.int .i64 bf)) := fun W hb => by
    have h0 := (hb.block w.heap.size (by omega)).trans hq1
    have h1 := (hb.block (w.heap.size + 1) (by omega)).trans hq2
    exact ⟨⟨by rw [(cells_of h0 0).1]; rfl, by rw [(cells_of h0 1).1]; rfl, by rw [(cells_of h0 2).1]; rfl, by rw [(cells_of h0 3).1]; rfl, by rw [(cells_of h0 4).1]; rfl⟩,
      by rw [(cells_of h1 0).1]; rfl, by rw [(cells_of h1 1).1]; rfl, by rw [(cells_of h1 2).1]; rfl, by rw [(cells_of h1 3).1]; rfl, by rw [(cells_of h1 4).1]; rfl⟩
  have HC := Lib.hid hk
  have HE := Lib.hid (fun W (hb : Below wb.heap.size wb W) => And.intro (below_le hbb hb (by omega)) (htab.below (below_le hbb hb (by omega)) (Nat.le_refl _)))
  have HWB := Lib.hid hwb
  clear hwb hq1 hq2 hzb hbb hk htab
  go_enter Tryz.func15, Tryz.ntmps15
  go_wp2_with fail
  rw [← HWB.out]
  clear HWB
  obtain ⟨R, hR⟩ : ∃ R, R = apR ⟨ak, an, sa, aa, af⟩ ⟨bk, bn, sb, ba, bf⟩ := ⟨_, rfl⟩
  have HR := Lib.hid hR
  generalize hw0 : w.heap.size = q1 at HC ⊢
  refine (new_any ⟨#[]⟩ wb).mono ?_
  rintro e w1 ⟨rfl, hnew⟩
  have hsc : HasSc (wb.heap.size + 5) (wb.heap.size + 3) wb.heap.size (wb.heap.size + 1) (wb.heap.size + 2) w1 := ⟨_, _, _, _, new_sc hnew⟩
  have HSC := Lib.hid hsc
  have HB1 := Lib.hid hnew.below
  have hgt := (HE.out _ (Below.refl _ _)).2.lt
  obtain ⟨p, hp⟩ : ∃ p, wb.heap.size + 3 = p := ⟨_, rfl⟩
  have HP := Lib.hid (And.intro hp hgt)
  rw [hp] at HSC ⊢
  clear hnew hsc hw0 hR hp hgt
  have c0 := (HC.out _ HB1.out).1.1
  have c1 := (HC.out _ HB1.out).1.2.1
  have c2 := (HC.out _ HB1.out).1.2.2.1
  have c3 := (HC.out _ HB1.out).1.2.2.2.1
  have c4 := (HC.out _ HB1.out).1.2.2.2.2
  go_wp2_with fail
  refine (right_all HSC.out (HE.out _ HB1.out).2 ⟨ak, an, sa, aa, af⟩ ha (show sa.size ≤ 900000 by omega)).mono ?_
  rintro e w3 ⟨rfl, hs3, hg3⟩
  have HB3 := Lib.hid (And.intro hs3 (HB1.out.grown hg3 HB1.out.size (fun j hj => by simp at hj; have := HP.out.1; omega)))
  clear hs3 hg3 c0 c1 c2 c3 c4
  cases hra : rightB ⟨ak, an, sa, aa, af⟩
  · have hr : R = .returned (.tuple #[.bool false, .int .i64 1]) := by rw [HR.out, apR, hra]; rfl
    go_wp2_with fail
    go_ret2
    exact ⟨by rw [← HR.out, hr]; rfl, (HE.out _ HB3.out.2).1⟩
  · have c0 := (HC.out _ HB3.out.2).2.1
    have c1 := (HC.out _ HB3.out.2).2.2.1
    have c2 := (HC.out _ HB3.out.2).2.2.2.1
    have c3 := (HC.out _ HB3.out.2).2.2.2.2.1
    have c4 := (HC.out _ HB3.out.2).2.2.2.2.2
    go_wp2_with fail
    refine (right_all HB3.out.1 (HE.out _ HB3.out.2).2 ⟨bk, bn, sb, ba, bf⟩ hb (show sb.size ≤ 900000 by omega)).mono ?_
    rintro e w4 ⟨rfl, hs4, hg4⟩
    have HB4 := Lib.hid (And.intro hs4 (HB3.out.2.grown hg4 HB3.out.2.size (fun j hj => by simp at hj; have := HP.out.1; omega)))
    clear hs4 hg4 c0 c1 c2 c3 c4
    cases hrb : rightB ⟨bk, bn, sb, ba, bf⟩
    · have hr : R = .returned (.tuple #[.bool false, .int .i64 1]) := by rw [HR.out, apR, hra, hrb]; rfl
      go_wp2_with fail
      go_ret2
      exact ⟨by rw [← HR.out, hr]; rfl, (HE.out _ HB4.out.2).1⟩
    · have hr : R = .returned (.tuple #[.bool (apartB ⟨ak, an, sa, aa, af⟩ ⟨bk, bn, sb, ba, bf⟩), .int .i64 0]) := by rw [HR.out, apR, hra, hrb]; rfl
      have hap := apart_all HB4.out.1 (HE.out _ HB4.out.2).2 ⟨ak, an, sa, aa, af⟩ ⟨bk, bn, sb, ba, bf⟩ ha hb (show sa.size ≤ 900000 by omega) (show sb.size ≤ 900000 by omega)
      simp only [RT.v] at hap
      have HAP := Lib.hid hap
      have hk4 := HC.out _ HB4.out.2
      have HRR := Lib.hid (And.intro hr HR.out)
      clear hap hra hrb hr
      generalize apartB ⟨ak, an, sa, aa, af⟩ ⟨bk, bn, sb, ba, bf⟩ = ap at *
      go_wp2_with fail
      refine HAP.out.mono ?_
      rintro e w5 ⟨rfl, hs5, hg5⟩
      have hb5 := HB4.out.2.grown hg5 HB4.out.2.size (fun j hj => by simp at hj; have := HP.out.1; omega)
      have HB5 := Lib.hid hb5
      clear hs5 hg5 hb5 hk4
      go_wp2_with fail
      go_ret2
      exact ⟨by rw [← HRR.out.2, HRR.out.1]; rfl, (HE.out _ HB5.out).1⟩
end Go.Proofs.YtcjdacdggklifaaGreatDoor

/- The reference: Join. -/
namespace Go.Proofs.YtcjdacdggklifaaGreatDoor
open Go.RowKit

theorem owns_grown {w w' : World} {base : Nat} {e : TypeId} {size : Nat} {v : Value} {n : Nat} {xs : List Value} (h : w.ownsRow base e size v n xs) (hg : w.grownBy w' none) : w'.ownsRow base e size v n xs :=
  owns_of_block h fun b hb => hg.block b (owns_ge h b hb).2 (by simp)
theorem owns_below {w w' : World} {base : Nat} {e : TypeId} {size : Nat} {v : Value} {n : Nat} {xs : List Value} (h : w.ownsRow base e size v n xs) (hb' : Below w.heap.size w w') : w'.ownsRow base e size v n xs :=
  owns_of_block h fun b hb => hb'.block b (owns_ge h b hb).2
theorem joinT_len (rs : List RT) (h : ∀ t ∈ rs, t.fit ∧ t.s.size ≤ 20000) (k : Nat) (hk : k ≤ rs.length) : (joinK rs k).length ≤ k * 1000001 :=
  joinK_le rs (fun t ht => by have := t.text_le (h t ht).1; have := (h t ht).2; omega) k hk
set_option maxRecDepth 100000 in
set_option maxHeartbeats 2000000 in
theorem rJoin_any (rs : List RT) (n : Nat) (hn : rs.length = n) (oa : Option Addr) (cap : Nat) (w : World) (hrow : TokV w oa rs) (htab : Tab w) (hn2 : n ≤ 2000) (hsm : ∀ t ∈ rs, t.fit ∧ t.s.size ≤ 20000) :
    Calls Tryz.prog 10 #[.slice oa n cap] w fun e w' => e = joinR rs ∧ Below w.heap.size w w' := by
  obtain ⟨i0, hi, hz0, hz1, hz2⟩ := info_parts infoU
  obtain ⟨res, hres⟩ : ∃ r, r = joinR rs := ⟨_, rfl⟩
  rw [← hres]
  have HRES := Lib.hid hres
  have H := Lib.hid (And.intro hn (And.intro hrow (And.intro htab hsm)))
  have HRR := Lib.hid (rRights_any rs n hn (by omega) oa cap w hrow htab (fun t ht => (hsm t ht).1))
  clear hn hrow htab hsm hres
  have hn3 : (n : Int) ≤ 20000 := by omega
  go_enter Tryz.func10, Tryz.ntmps10
  go_wp2_with fail
  refine HRR.out.mono ?_
  rintro e w1 ⟨rfl, hb1⟩
  have HB1 := Lib.hid hb1
  clear hb1 HRR
  cases hall : rs.all rightB with
  | false =>
    have hr : res = .returned (.tuple #[.string ⟨#[]⟩, .int .i64 1]) := by rw [HRES.out, joinR, hall]; rfl
    have HR := Lib.hid hr
    clear hr hall
    go_wp2_with fail
    go_ret2
    exact ⟨HR.out.symm, HB1.out⟩
  | true =>
  have HALL := Lib.hid hall
  clear hall
  go_wp2_with fail
  go_loopw [4, 5] (fun v i wr => ∃ k : Nat, k ≤ n ∧ i = .int .i64 k ∧ wr.ownsRow w.heap.size 5 1 v (joinK rs k).length (Lib.byteCells (joinK rs k)) ∧ Below w.heap.size w wr) (fun _ i _ => n - (intOf i).toNat)
  case atStart => exact ⟨0, by omega, rfl, by rw [joinK_zero]; exact owns_mono (World.ownsRow_made w1 #[] 0 (Nat.le_refl _) (Nat.zero_le _) (by simp)) HB1.out.size, HB1.out.alloc HB1.out.size _⟩
  case round =>
    obtain ⟨k, hk, rfl, hown, hb⟩ := hrel
    obtain ⟨a0, cap0, rfl, hcap⟩ := owns_form hown
    have HO := Lib.hid (And.intro hown hb)
    have hjl := joinT_len rs H.out.2.2.2 k (by have := H.out.1; omega)
    clear hown hb hcap
    by_cases hlt : k < n
    · have hkr : k < rs.length := by have := H.out.1; omega
      have hx2 := H.out.2.2.2 _ (List.getElem_mem hkr)
      have htx := fun W (hbw : Below w.heap.size w W) => Text_all rs[k] hx2.1 W (H.out.2.2.1.below hbw (Nat.le_refl _))
      obtain ⟨g, off, rfl, hgl, hcl⟩ := H.out.2.1 (by omega)
      have hcell : ∀ W, Below w.heap.size w W → ∀ i (h : i < rs.length) j, j < 5 → W.cell? ⟨g, off + (i * 5 + j), none⟩ = (rs[i]).cells[j]? := fun W hbw i h j hj => (World.cell?_of_block (w := w) (a := ⟨g, off + (i * 5 + j), none⟩) (hbw.block g hgl)).trans (hcl i h j hj)
      have HCL := Lib.hid hcell
      have htz : (rs[k]).text.size ≤ 30000 := by have := (rs[k]).text_le hx2.1; have := hx2.2; omega
      clear hcell hcl hgl
      obtain ⟨tx, htxe⟩ : ∃ t, t = (rs[k]).text := ⟨_, rfl⟩
      rw [← htxe] at htx htz
      by_cases hk0 : k = 0
      · have hj0 : joinK rs (k + 1) = joinK rs k ++ bts tx := by
          subst hk0
          rw [joinK_one rs hkr, joinK_zero, htxe]; rfl
        have hk0' : ¬ (0 : Int) < (k : Int) := by omega
        obtain ⟨J1, hJ1⟩ : ∃ J, J = joinK rs k := ⟨_, rfl⟩
        have hjl3 : k * 1000001 ≤ 2000 * 1000001 := Nat.mul_le_mul (by omega) (Nat.le_refl _)
        have HT := Lib.hid (And.intro HO.out.1 (And.intro HO.out.2 (And.intro hj0 (show (joinK rs k).length + tx.size ≤ 140737488355328 by omega))))
        clear hjl3 htz
        rw [← hJ1] at HT ⊢
        obtain ⟨x, hx⟩ : ∃ x, rs[k] = x := ⟨_, rfl⟩
        have HX := Lib.hid hx
        rw [hx] at htx
        obtain ⟨xk, xn, xs, xa, xf⟩ := x
        simp only [RT.v] at htx
        have HTX := Lib.hid htx
        clear hj0 hk0 hjl hJ1 hx htx htxe hx2
        have e1 := fun j hj => HCL.out wr HO.out.2 k hkr j hj
        have a0 := e1 0 (by omega)
        have a1 := e1 1 (by omega)
        have a2 := e1 2 (by omega)
        have a3 := e1 3 (by omega)
        have a4 := e1 4 (by omega)
        rw [HX.out] at a0 a1 a2 a3 a4
        simp only [RT.cells, List.getElem?_cons_zero, List.getElem?_cons_succ, Nat.add_zero, ← Nat.add_assoc] at a0 a1 a2 a3 a4
        clear e1
        go_wp2_with fail
        refine (HTX.out _ HT.out.2.1).mono ?_
        rintro e w5 ⟨rfl, hg5⟩
        have hown5 := owns_grown HT.out.1 hg5
        have HB5 := Lib.hid (below_grown HT.out.2.1 hg5)
        have hw5 := HB5.out.size
        clear hg5 a0 a1 a2 a3 a4
        go_wp2_with (at_builtin; refine Lib.wpList_append_own_string _ rfl _ _ 61 9 rfl w.heap.size 5 i0 Tryz.underlying61 Tryz.underlying9 hi hz0 hz1 hz2 _ _ _ rfl hown5 tx rfl ?c3 ?c4 ?c5 ?_)
        case c3 => have := HT.out.2.2.2; unfold maxLen; omega
        case c4 => exact HT.out.2.2.2
        case c5 => exact hw5
        intro v' w6 hown6 hgrow _
        have hb6 := HB5.out.grown hgrow hw5 (fun j hj => (owns_ge hown5 j hj).1)
        obtain ⟨ao, cap6, rfl, _⟩ := owns_form hown6
        have H6 := Lib.hid (And.intro hown6 hb6)
        clear hown6 hb6 hgrow hown5
        go_wp2_with fail
        go_roundw
        case rel =>
          refine ⟨k + 1, by omega, by go_num, ?_, H6.out.2⟩
          rw [HT.out.2.2.1]
          have e1 : (J1 ++ bts tx).length = J1.length + tx.size := by rw [List.length_append, bts_length]
          have e2 : Lib.byteCells (J1 ++ bts tx) = Lib.byteCells J1 ++ Lib.strCells tx := by simp [Lib.byteCells, Lib.strCells, bts]
          rw [e1, e2]
          exact H6.out.1
        case measure => simp [intOf]; omega
      · obtain ⟨m, hkm⟩ : ∃ m, k = m + 1 := ⟨k - 1, by omega⟩
        have hmr : m < rs.length := by omega
        have hy2 := H.out.2.2.2 _ (List.getElem_mem hmr)
        have hap := fun W (hbw : Below w.heap.size w W) => rApart_any rs[m] rs[k] hy2.1 hx2.1 W (H.out.2.2.1.below hbw (Nat.le_refl _))
        have hra : rightB rs[m] = true := List.all_eq_true.1 HALL.out _ (List.getElem_mem hmr)
        have hrb : rightB rs[k] = true := List.all_eq_true.1 HALL.out _ (List.getElem_mem hkr)
        simp only [apR, hra, hrb, Bool.and_self, if_true] at hap
        have hj0 : joinK rs (k + 1) = joinK rs k ++ sp rs[m] rs[k] ++ bts tx := by
          rw [htxe]
          subst hkm
          exact joinK_succ rs m hkr
        obtain ⟨x, hx⟩ : ∃ x, rs[k] = x := ⟨_, rfl⟩
        obtain ⟨y, hy⟩ : ∃ y, rs[m] = y := ⟨_, rfl⟩
        have HX := Lib.hid hx
        have HY := Lib.hid hy
        rw [hx] at htx hap hj0
        rw [hy] at hap hj0
        obtain ⟨xk, xn, xs, xa, xf⟩ := x
        obtain ⟨yk, yn, ys, ya, yf⟩ := y
        simp only [RT.v] at htx hap
        have HTX := Lib.hid htx
        have HAP := Lib.hid hap
        have hkp : ∀ W, Below w.heap.size w W → (W.cell? ⟨g, off + m * 5, none⟩ = some (.int .i64 yk) ∧ W.cell? ⟨g, off + m * 5 + 1, none⟩ = some (.int .i64 yn) ∧ W.cell? ⟨g, off + m * 5 + 2, none⟩ = some (.string ys) ∧ W.cell? ⟨g, off + m * 5 + 3, none⟩ = some (.int .i64 ya) ∧ W.cell? ⟨g, off + m * 5 + 4, none⟩ = some (.int .i64 yf)) ∧
            (W.cell? ⟨g, off + k * 5, none⟩ = some (.int .i64 xk) ∧ W.cell? ⟨g, off + k * 5 + 1, none⟩ = some (.int .i64 xn) ∧ W.cell? ⟨g, off + k * 5 + 2, none⟩ = some (.string xs) ∧ W.cell? ⟨g, off + k * 5 + 3, none⟩ = some (.int .i64 xa) ∧ W.cell? ⟨g, off + k * 5 + 4, none⟩ = some (.int .i64 xf)) := fun W hbw => by
          have c := fun j hj => HCL.out W hbw m hmr j hj
          have d := fun j hj => HCL.out W hbw k hkr j hj
          simp only [HX.out, HY.out] at c d
          simp only [← Nat.add_assoc] at c d
          exact ⟨⟨c 0 (by omega), c 1 (by omega), c 2 (by omega), c 3 (by omega), c 4 (by omega)⟩, d 0 (by omega), d 1 (by omega), d 2 (by omega), d 3 (by omega), d 4 (by omega)⟩
        have HKP := Lib.hid hkp
        have HJ := Lib.hid hj0
        have hk0' : (0 : Int) < (k : Int) := by omega
        have hmn : (m : Int) < (n : Int) := by omega
        have hm0 : (0 : Int) ≤ (m : Int) := by omega
        have hsub : (k : Int) - 1 = (m : Int) := by omega
        have hwm : IntKind.i64.wrap (m : Int) = (m : Int) := IntWalk.i64_in _ (by omega)
        have hjl3 : k * 1000001 ≤ 2000 * 1000001 := Nat.mul_le_mul (by omega) (Nat.le_refl _)
        have HJL := Lib.hid (show (joinK rs k).length + 1 + tx.size ≤ 140737488355328 by omega)
        clear hjl3 htz
        obtain ⟨J0, hJ0⟩ : ∃ J, J = joinK rs k := ⟨_, rfl⟩
        rw [← hJ0] at HO HJ HJL ⊢
        clear hjl hkp hj0 hap htx hx hy hra hrb hy2 hx2 hkm htxe hk0 hJ0
        go_wp2_with fail
        go_region_held3 (fun W => (W.cell? ⟨g, off + m * 5, none⟩ = some (.int .i64 yk) ∧ W.cell? ⟨g, off + m * 5 + 1, none⟩ = some (.int .i64 yn) ∧ W.cell? ⟨g, off + m * 5 + 2, none⟩ = some (.string ys) ∧ W.cell? ⟨g, off + m * 5 + 3, none⟩ = some (.int .i64 ya) ∧ W.cell? ⟨g, off + m * 5 + 4, none⟩ = some (.int .i64 yf)) ∧
            (W.cell? ⟨g, off + k * 5, none⟩ = some (.int .i64 xk) ∧ W.cell? ⟨g, off + k * 5 + 1, none⟩ = some (.int .i64 xn) ∧ W.cell? ⟨g, off + k * 5 + 2, none⟩ = some (.string xs) ∧ W.cell? ⟨g, off + k * 5 + 3, none⟩ = some (.int .i64 xa) ∧ W.cell? ⟨g, off + k * 5 + 4, none⟩ = some (.int .i64 xf)))
          (with_reducible refine HKP.out _ ?_; (repeat (first | with_reducible exact HO.out.2 | with_reducible assumption | with_reducible apply belowD2)); done)
          (first | (go_at_call 16; (with_reducible refine (HAP.out _ (by repeat (first | with_reducible exact HO.out.2 | with_reducible apply belowD2))).mono ?_); rintro e w' ⟨rfl, hb3⟩; have hb5 := below_two (show Below wr.heap.size wr _ from by repeat (first | with_reducible exact Below.refl _ _ | with_reducible apply belowD2)) hb3; have hb4 := below_le HO.out.2 hb5 HO.out.2.size))
        generalize w' = w3 at *
        have hown3 := owns_below HO.out.1 hb5
        have hw3 := hb4.size
        have HB4 := Lib.hid hb4
        clear hb5 hb4 hb3
        cases hab : apartB ⟨yk, yn, ys, ya, yf⟩ ⟨xk, xn, xs, xa, xf⟩
        · have hj1 : joinK rs (k + 1) = J0 ++ [32] ++ bts tx := by rw [HJ.out, sp, hab]; rfl
          clear hab
          have HJ1 := Lib.hid hj1
          clear hj1
          go_wp2_with (at_builtin; refine wpList_append_own _ rfl _ _ 61 rfl w.heap.size 5 i0 (.int .u8 0) 1 1 Tryz.underlying61 hi hz0 hz1 hz2 rfl (by decide) _ _ _ rfl (hown3.alloc _) ⟨w3.heap.size, 0, none⟩ 1 1 [.int .u8 32] rfl rfl ?c1 ?c2 ?c3 ?c4 ?c5 ?_)
          case c1 =>
            intro j u hj
            match j, hj with
            | 0, hj => simp at hj; subst hj; simp [Addr.add]
          case c2 => intro u hu; simp at hu; subst hu; rfl
          case c3 => have := HJL.out; unfold maxLen; omega
          case c4 => have := HJL.out; omega
          case c5 => simp; omega
          intro v' w4 hown4 hgrow _
          have hb4 := (HB4.out.alloc hw3 _).grown hgrow (by simp; omega) (fun j hj => (owns_ge hown3 j hj).1)
          obtain ⟨ao1, cap1, rfl, _⟩ := owns_form hown4
          obtain ⟨J1, hJ1⟩ : ∃ J, J = J0 ++ [32] := ⟨_, rfl⟩
          have e1 : J0.length + 1 = J1.length := by rw [hJ1]; simp
          have e2 : Lib.byteCells J0 ++ [.int .u8 32] = Lib.byteCells J1 := by rw [hJ1]; simp [Lib.byteCells]
          rw [e1, e2] at hown4
          rw [e1]
          have HT := Lib.hid (And.intro hown4 (And.intro hb4 (And.intro (show joinK rs (k + 1) = J1 ++ bts tx by rw [HJ1.out, hJ1]) (show J1.length + tx.size ≤ 140737488355328 by have := HJL.out; omega))))
          clear hown4 hb4 hgrow hJ1 e1 e2 hown3 hw3
          have e1 := fun j hj => HCL.out w4 HT.out.2.1 k hkr j hj
          have a0 := e1 0 (by omega)
          have a1 := e1 1 (by omega)
          have a2 := e1 2 (by omega)
          have a3 := e1 3 (by omega)
          have a4 := e1 4 (by omega)
          rw [HX.out] at a0 a1 a2 a3 a4
          simp only [RT.cells, List.getElem?_cons_zero, List.getElem?_cons_succ, Nat.add_zero, ← Nat.add_assoc] at a0 a1 a2 a3 a4
          clear e1
          go_wp2_with fail
          refine (HTX.out _ HT.out.2.1).mono ?_
          rintro e w5 ⟨rfl, hg5⟩
          have hown5 := owns_grown HT.out.1 hg5
          have HB5 := Lib.hid (below_grown HT.out.2.1 hg5)
          have hw5 := HB5.out.size
          clear hg5 a0 a1 a2 a3 a4
          go_wp2_with (at_builtin; refine Lib.wpList_append_own_string _ rfl _ _ 61 9 rfl w.heap.size 5 i0 Tryz.underlying61 Tryz.underlying9 hi hz0 hz1 hz2 _ _ _ rfl hown5 tx rfl ?c3 ?c4 ?c5 ?_)
          case c3 => have := HT.out.2.2.2; unfold maxLen; omega
          case c4 => exact HT.out.2.2.2
          case c5 => exact hw5
          intro v' w6 hown6 hgrow _
          have hb6 := HB5.out.grown hgrow hw5 (fun j hj => (owns_ge hown5 j hj).1)
          obtain ⟨ao, cap6, rfl, _⟩ := owns_form hown6
          have H6 := Lib.hid (And.intro hown6 hb6)
          clear hown6 hb6 hgrow hown5
          go_wp2_with fail
          go_roundw
          case rel =>
            refine ⟨k + 1, by omega, by go_num, ?_, H6.out.2⟩
            rw [HT.out.2.2.1]
            have e1 : (J1 ++ bts tx).length = J1.length + tx.size := by rw [List.length_append, bts_length]
            have e2 : Lib.byteCells (J1 ++ bts tx) = Lib.byteCells J1 ++ Lib.strCells tx := by simp [Lib.byteCells, Lib.strCells, bts]
            rw [e1, e2]
            exact H6.out.1
          case measure => simp [intOf]; omega
        · have hj1 : joinK rs (k + 1) = J0 ++ bts tx := by rw [HJ.out, sp, hab]; simp
          clear hab
          obtain ⟨J1, hJ1⟩ : ∃ J, J = J0 := ⟨_, rfl⟩
          subst hJ1
          have HT := Lib.hid (And.intro hown3 (And.intro HB4.out (And.intro hj1 (show J1.length + tx.size ≤ 140737488355328 by have := HJL.out; omega))))
          clear hj1 hown3 hw3
          have e1 := fun j hj => HCL.out w3 HT.out.2.1 k hkr j hj
          have a0 := e1 0 (by omega)
          have a1 := e1 1 (by omega)
          have a2 := e1 2 (by omega)
          have a3 := e1 3 (by omega)
          have a4 := e1 4 (by omega)
          rw [HX.out] at a0 a1 a2 a3 a4
          simp only [RT.cells, List.getElem?_cons_zero, List.getElem?_cons_succ, Nat.add_zero, ← Nat.add_assoc] at a0 a1 a2 a3 a4
          clear e1
          go_wp2_with fail
          refine (HTX.out _ HT.out.2.1).mono ?_
          rintro e w5 ⟨rfl, hg5⟩
          have hown5 := owns_grown HT.out.1 hg5
          have HB5 := Lib.hid (below_grown HT.out.2.1 hg5)
          have hw5 := HB5.out.size
          clear hg5 a0 a1 a2 a3 a4
          go_wp2_with (at_builtin; refine Lib.wpList_append_own_string _ rfl _ _ 61 9 rfl w.heap.size 5 i0 Tryz.underlying61 Tryz.underlying9 hi hz0 hz1 hz2 _ _ _ rfl hown5 tx rfl ?c3 ?c4 ?c5 ?_)
          case c3 => have := HT.out.2.2.2; unfold maxLen; omega
          case c4 => exact HT.out.2.2.2
          case c5 => exact hw5
          intro v' w6 hown6 hgrow _
          have hb6 := HB5.out.grown hgrow hw5 (fun j hj => (owns_ge hown5 j hj).1)
          obtain ⟨ao, cap6, rfl, _⟩ := owns_form hown6
          have H6 := Lib.hid (And.intro hown6 hb6)
          clear hown6 hb6 hgrow hown5
          go_wp2_with fail
          go_roundw
          case rel =>
            refine ⟨k + 1, by omega, by go_num, ?_, H6.out.2⟩
            rw [HT.out.2.2.1]
            have e1 : (J1 ++ bts tx).length = J1.length + tx.size := by rw [List.length_append, bts_length]
            have e2 : Lib.byteCells (J1 ++ bts tx) = Lib.byteCells J1 ++ Lib.strCells tx := by simp [Lib.byteCells, Lib.strCells, bts]
            rw [e1, e2]
            exact H6.out.1
          case measure => simp [intOf]; omega
    · have hkn : n = k := by omega
      subst hkn
      have hown := HO.out.1
      have hjt : joinK rs n = joinT rs := by rw [← H.out.1]; exact joinK_all rs
      rw [hjt] at hown hjl ⊢
      by_cases hbig : 100000 < (joinT rs).length
      · have hbig2 : (100000 : Int) < ((joinT rs).length : Int) := by omega
        have hr : res = .returned (.tuple #[.string ⟨#[]⟩, .int .i64 2]) := by rw [HRES.out, joinR, if_pos HALL.out, if_pos hbig]
        have HR := Lib.hid hr
        clear hr hbig hown hjl hjt
        go_wp2_with fail
        go_ret2
        exact ⟨HR.out.symm, HO.out.2⟩
      · have hbig2 : ((joinT rs).length : Int) ≤ (100000 : Int) := by omega
        have hr : res = .returned (.tuple #[.string (ofB (joinT rs)), .int .i64 0]) := by rw [HRES.out, joinR, if_pos HALL.out, if_neg hbig]
        have HR := Lib.hid hr
        clear hr hbig hjl hjt
        have hrun : (convert 61 9 (.slice a0 (joinT rs).length cap0)).run Tryz.prog wr = .ok (.string (ofB (joinT rs))) wr := by
          rcases hown.2 with ⟨hv, h0⟩ | ⟨g, cap', cur, hv, hgB, hcur, hnc, hcm, hcsz, htk⟩
          · simp only [Value.slice.injEq] at hv
            have e : joinT rs = [] := List.eq_nil_of_length_eq_zero h0
            rw [hv.1, e]
            exact run_convert_bytes_nil (P := Tryz.prog) (w := wr) 61 5 Tryz.underlying61 Tryz.underlying5 _ cap0 9 Tryz.underlying9
          · simp only [Value.slice.injEq] at hv
            rw [hv.1]
            exact run_convert_bytes_back (P := Tryz.prog) wr 61 9 5 ⟨g, 0, none⟩ cap0 (joinT rs) Tryz.underlying61 Tryz.underlying5 Tryz.underlying9 (fun j hj => by
              have e : (⟨g, 0, none⟩ : Addr).add j = ⟨g, j, none⟩ := by by_cases h : j = 0 <;> simp [Addr.add, h]
              have h1 : cur.toList[j]? = (Lib.byteCells (joinT rs))[j]? := by rw [← htk, List.getElem?_take, if_pos (by simpa using hj)]
              rw [e]
              simp only [World.cell?, hcur]
              rw [Array.getElem?_toList] at h1
              simp only [h1, Lib.byteCells, List.getElem?_map, List.getElem?_eq_getElem hj]
              rfl)
        clear hown
        generalize ofB (joinT rs) = S' at *
        go_wp2_with fail
        go_ret2
        exact ⟨HR.out.symm, HO.out.2⟩
end Go.Proofs.YtcjdacdggklifaaGreatDoor

/- Strip: what it does to a text, and to its tokens. -/
namespace Go.Proofs.YtcjdacdggklifaaGreatDoor
open Go.RowKit

/-- A comment's bytes, made blanks. -/
def whit (l : Lx.Bs) : Lx.Bs := l.map fun c => if c ≠ 10 then 32 else c
theorem whit_blank (l : Lx.Bs) : ∀ c ∈ whit l, Lx.blank c = true := by
  intro c hc
  obtain ⟨d, _, rfl⟩ := List.mem_map.1 hc
  by_cases h : d = 10
  · rw [if_neg (by simpa using h), h]; decide
  · rw [if_pos h]; decide
/-- A text with blanks in the place of its comments, as long as it can be cut. -/
def S (l : Lx.Bs) : Lx.Bs :=
  match l with
  | [] => []
  | c :: r =>
    match Lx.step (c :: r) with
    | .bad => c :: r
    | .fill n => (if Lx.opens (c :: r) then whit ((c :: r).take n) else (c :: r).take n) ++ S (r.drop (n - 1))
    | .tok _ _ _ len => (c :: r).take len ++ S (r.drop (len - 1))
termination_by l.length
decreasing_by all_goals (simp; omega)
theorem S_nil : S [] = [] := by rw [S]
theorem S_bad {l : Lx.Bs} (h : Lx.step l = .bad) : S l = l := by
  cases l with
  | nil => exact S_nil
  | cons c r => rw [S, h]
theorem S_fill {l : Lx.Bs} {n : Nat} (h : Lx.step l = .fill n) : S l = (if Lx.opens l then whit (l.take n) else l.take n) ++ S (l.drop n) := by
  cases l with
  | nil => rw [Lx.step_nil] at h; cases h
  | cons c r =>
    have := Lx.step_fill h
    rw [S, h]
    obtain ⟨m, rfl⟩ : ∃ m, n = m + 1 := ⟨n - 1, by omega⟩
    simp
theorem S_tok {l : Lx.Bs} {k n : Nat} {s : Lx.Bs} {len : Nat} (h : Lx.step l = .tok k n s len) : S l = l.take len ++ S (l.drop len) := by
  cases l with
  | nil => rw [Lx.step_nil] at h; cases h
  | cons c r =>
    have := Lx.step_tok h
    rw [S, h]
    obtain ⟨m, rfl⟩ : ∃ m, len = m + 1 := ⟨len - 1, by omega⟩
    simp
theorem whit_len (l : Lx.Bs) : (whit l).length = l.length := by simp [whit]
theorem fill_part (l : Lx.Bs) (n : Nat) : (if Lx.opens l then whit (l.take n) else l.take n).length = min n l.length := by
  split <;> simp [whit_len]
theorem S_len (l : Lx.Bs) : (S l).length = l.length := by
  induction l using Lx.step_induct with
  | h0 => rw [S_nil]
  | hbad l hl hs => rw [S_bad hs]
  | hfill l n hs ih => have := Lx.step_fill hs; rw [S_fill hs, List.length_append, ih, fill_part, List.length_drop]; omega
  | htok l k n s len hs ih => have := Lx.step_tok hs; rw [S_tok hs, List.length_append, ih, List.length_take, List.length_drop]; omega
theorem S_fits (l : Lx.Bs) : Lx.Fits l (S l) := by
  intro c hc
  cases l with
  | nil => rw [S_nil] at hc; cases hc
  | cons d r =>
    cases hs : Lx.step (d :: r) with
    | bad => rw [S_bad hs] at hc; exact .inl hc
    | fill n =>
      have hn := (Lx.step_fill hs).1
      obtain ⟨m, rfl⟩ : ∃ m, n = m + 1 := ⟨n - 1, by omega⟩
      rw [S_fill hs] at hc
      by_cases ho : Lx.opens (d :: r) = true
      · rw [if_pos ho, List.take_succ_cons] at hc
        simp only [whit, List.map_cons, List.cons_append, List.head?_cons, Option.some.injEq] at hc
        exact .inr (hc ▸ whit_blank [d] _ (by simp [whit]))
      · rw [if_neg ho, List.take_succ_cons] at hc
        exact .inl hc
    | tok k n s len =>
      have hn := (Lx.step_tok hs).1
      obtain ⟨m, rfl⟩ : ∃ m, len = m + 1 := ⟨len - 1, by omega⟩
      rw [S_tok hs, List.take_succ_cons] at hc
      exact .inl hc
/-- Blanks in front. -/
theorem T_front (x : Lx.Bs) : ∀ (f : Lx.Bs) (a : Nat), (∀ c ∈ f, Lx.blank c = true) → Lx.T (f ++ x) a = Lx.T x (a + f.length)
  | [], a, _ => by simp
  | c :: f, a, h => by
    have hs : Lx.step (c :: (f ++ x)) = .fill 1 := by unfold Lx.step; rw [Lx.kd_blank (h c (by simp))]
    rw [List.cons_append, Lx.T_fill hs, List.drop_succ_cons, List.drop_zero, T_front x f _ (fun d hd => h d (by simp [hd])), List.length_cons]
    congr 1; omega
theorem not_open {c : UInt8} {r : Lx.Bs} (h : Lx.blank c = true) : Lx.opens (c :: r) = false := by
  cases ho : Lx.opens (c :: r) with
  | false => rfl
  | true => have := Lx.kd_comm ho; rw [Lx.kd_blank h] at this; cases this
theorem S_front (x : Lx.Bs) : ∀ (f : Lx.Bs), (∀ c ∈ f, Lx.blank c = true) → S (f ++ x) = f ++ S x
  | [], _ => by simp
  | c :: f, h => by
    have hs : Lx.step (c :: (f ++ x)) = .fill 1 := by unfold Lx.step; rw [Lx.kd_blank (h c (by simp))]
    rw [List.cons_append, S_fill hs, not_open (h c (by simp)), if_neg (by simp), List.drop_succ_cons, List.drop_zero, S_front x f (fun d hd => h d (by simp [hd]))]
    simp
theorem fill_blanks {l : Lx.Bs} {n : Nat} (h : Lx.step l = .fill n) : ∀ c ∈ (if Lx.opens l then whit (l.take n) else l.take n), Lx.blank c = true := by
  rcases Lx.step_fill_iff.1 h with ⟨hk, rfl⟩ | ⟨hk, _⟩
  · obtain ⟨c, r, rfl, hb⟩ := (Lx.kd_blank_iff l).1 hk
    rw [not_open hb, if_neg (by simp)]
    intro d hd; simp at hd; subst hd; exact hb
  · have ho : Lx.opens l = true := by
      cases hx : Lx.opens l with
      | true => rfl
      | false =>
        exfalso
        cases l with
        | nil => cases hk
        | cons c r =>
          rw [kd_cons, hx] at hk
          revert hk
          cases Lx.blank c <;> cases Lx.letter c <;> cases Lx.digit c <;> cases Lx.symb c <;> simp
    rw [if_pos ho]; exact whit_blank _
theorem tok_S {l : Lx.Bs} {k n : Nat} {s : Lx.Bs} {len : Nat} (h : Lx.step l = .tok k n s len) : Lx.step (S l) = .tok k n s len ∧ (S l).take len = l.take len ∧ (S l).drop len = S (l.drop len) := by
  have hl := Lx.step_tok h
  have hw : (l.take len).length = len := by rw [List.length_take]; omega
  have h' : Lx.step (l.take len ++ l.drop len) = .tok k n s (l.take len).length := by rw [List.take_append_drop, hw]; exact h
  have := Lx.step_fits h' (S_fits (l.drop len))
  rw [← S_tok h, hw] at this
  refine ⟨this, ?_, ?_⟩
  · rw [S_tok h, List.take_left' hw]
  · rw [S_tok h, List.drop_left' hw]
theorem T_S (l : Lx.Bs) : ∀ (a : Nat) (ts : List Lx.Tok), Lx.T l a = .good ts → Lx.T (S l) a = .good ts := by
  induction l using Lx.step_induct with
  | h0 => intro a ts h; rw [S_nil]; exact h
  | hbad l hl hs => intro a ts h; rw [Lx.T_bad hl hs] at h; cases h
  | hfill l n hs ih =>
    intro a ts h
    rw [Lx.T_fill hs] at h
    have hn := Lx.step_fill hs
    rw [S_fill hs, T_front _ _ _ (fill_blanks hs), fill_part, Nat.min_eq_left hn.2]
    exact ih _ _ h
  | htok l k n s len hs ih =>
    intro a ts h
    obtain ⟨h1, h2, h3⟩ := tok_S hs
    rw [Lx.T_tok hs, Lx.Res.pre_good] at h
    obtain ⟨l', hl', rfl⟩ := h
    rw [Lx.T_tok h1, h3, ih _ _ hl']; rfl
theorem S_S (l : Lx.Bs) : ∀ (a : Nat) (ts : List Lx.Tok), Lx.T l a = .good ts → S (S l) = S l := by
  induction l using Lx.step_induct with
  | h0 => intro a ts h; rw [S_nil, S_nil]
  | hbad l hl hs => intro a ts h; rw [Lx.T_bad hl hs] at h; cases h
  | hfill l n hs ih =>
    intro a ts h
    rw [Lx.T_fill hs] at h
    rw [S_fill hs, S_front _ _ (fill_blanks hs), ih _ _ h]
  | htok l k n s len hs ih =>
    intro a ts h
    obtain ⟨h1, h2, h3⟩ := tok_S hs
    rw [Lx.T_tok hs, Lx.Res.pre_good] at h
    obtain ⟨l', hl', rfl⟩ := h
    rw [S_tok h1, h2, h3, ih _ _ hl', S_tok hs]
theorem whit_count (l : Lx.Bs) : (whit l).count 10 = l.count 10 := by
  induction l with
  | nil => rfl
  | cons c l ih =>
    simp only [whit, List.map_cons] at ih ⊢
    rw [List.count_cons, List.count_cons, ih]
    by_cases h : c = 10
    · subst h; rfl
    · rw [if_pos h]; simp [h]
theorem S_count (l : Lx.Bs) : (S l).count 10 = l.count 10 := by
  induction l using Lx.step_induct with
  | h0 => rw [S_nil]
  | hbad l hl hs => rw [S_bad hs]
  | hfill l n hs ih =>
    rw [S_fill hs, List.count_append, ih]
    have : (if Lx.opens l then whit (l.take n) else l.take n).count 10 = (l.take n).count 10 := by split; exact whit_count _; rfl
    rw [this, ← List.count_append, List.take_append_drop]
  | htok l k n s len hs ih => rw [S_tok hs, List.count_append, ih, ← List.count_append, List.take_append_drop]
theorem S_blank_run (l : Lx.Bs) : S l = l.take (Lx.run Lx.blank l) ++ S (l.drop (Lx.run Lx.blank l)) := by
  have h := S_front (l.drop (Lx.run Lx.blank l)) (l.take (Lx.run Lx.blank l)) (take_run_all Lx.blank l)
  rwa [List.take_append_drop] at h

theorem blot1_comm (a b c d : Nat) (l : Lx.Bs) : blot1 a b (blot1 c d l) = blot1 c d (blot1 a b l) := by
  apply List.ext_getElem
  · simp [blot1_len]
  · intro i h1 h2
    simp only [blot1, List.getElem_mapIdx]
    by_cases p : a ≤ i ∧ i < b <;> by_cases q : c ≤ i ∧ i < d <;> by_cases r : l[i]'(by simpa [blot1_len] using h1) = 10 <;> simp [p, q, r] <;> first | rfl | (intros; simp_all)
theorem blot_blot1 (cs : List (Nat × Nat)) (a b : Nat) : ∀ l : Lx.Bs, blot cs (blot1 a b l) = blot1 a b (blot cs l) := by
  induction cs with
  | nil => intro l; rfl
  | cons c cs ih => intro l; show blot cs (blot1 c.1 c.2 (blot1 a b l)) = blot1 a b (blot cs (blot1 c.1 c.2 l)); rw [blot1_comm, ih]
theorem blot1_mid (p m q : Lx.Bs) : blot1 p.length (p.length + m.length) (p ++ m ++ q) = p ++ whit m ++ q := by
  unfold blot1
  rw [List.mapIdx_append, List.mapIdx_append]
  congr 1
  · congr 1
    · apply List.ext_getElem
      · simp
      · intro i h1 h2; simp at h1; simp only [List.getElem_mapIdx]; rw [if_neg (by omega)]
    · apply List.ext_getElem
      · simp [whit]
      · intro i h1 h2; simp at h1; simp only [List.getElem_mapIdx, whit, List.getElem_map]
        by_cases h : m[i] = 10
        · rw [if_neg (fun e => e.2.2 h), if_neg (by simpa using h)]
        · rw [if_pos ⟨by omega, by omega, h⟩, if_pos h]
  · apply List.ext_getElem
    · simp
    · intro i h1 h2; simp at h1; simp only [List.getElem_mapIdx]; rw [if_neg (by simp; omega)]
end Go.Proofs.YtcjdacdggklifaaGreatDoor

/- Strip: the comments that are blotted are all there are. -/
namespace Go.Proofs.YtcjdacdggklifaaGreatDoor
open Go.RowKit

theorem runs_S {b : Lx.Bs} {st : St} {r : Sum Nat St} (h : Runs b dNever st r) : Good b st → ∀ s, r = .inr s → ∃ new, s.cs = st.cs ++ new ∧ blot new b = b.take st.at_ ++ S (b.drop st.at_) := by
  induction h with
  | over st h => intro _ s e; cases e; exact ⟨[], by simp, by rw [List.drop_eq_nil_of_le h, S_nil, List.take_of_length_le h]; simp [blot]⟩
  | done st h hd => cases hd
  | bad st h hd hn => intro _ s e; cases e
  | step st st' r h hd hn hr ih =>
    intro hg s e
    obtain ⟨new, h1, h2⟩ := ih (next_good hg h hn).1 s e
    have tk : ∀ x, Lx.step (b.drop st.at_) = x → stTok st x = some st' → ∃ new, s.cs = st.cs ++ new ∧ blot new b = b.take st.at_ ++ S (b.drop st.at_) := by
      intro x hx ht
      cases x with
      | bad => cases ht
      | fill n => cases ht
      | tok k n q len =>
        simp only [stTok, Option.some.injEq] at ht
        subst ht
        refine ⟨new, h1, ?_⟩
        rw [h2, S_tok hx, List.take_add, List.drop_drop, List.append_assoc]
    unfold nextSt at hn
    cases hk : Lx.kd (b.drop st.at_) with
    | blank =>
      rw [hk] at hn; simp only [Option.some.injEq] at hn
      subst hn
      refine ⟨new, h1, ?_⟩
      rw [h2, S_blank_run (b.drop st.at_), List.take_add, List.drop_drop, List.append_assoc]
    | comm =>
      rw [hk] at hn; simp only at hn
      cases hm : Lx.comm 0 (b.drop st.at_) with
      | none => rw [hm] at hn; cases hn
      | some n =>
        rw [hm] at hn; simp only [Option.map_some, Option.some.injEq] at hn
        have hs : Lx.step (b.drop st.at_) = .fill n := Lx.step_fill_iff.2 (.inr ⟨hk, hm⟩)
        have hnl := Lx.step_fill hs
        rw [List.length_drop] at hnl
        have ho : Lx.opens (b.drop st.at_) = true := by
          have := fill_blanks hs
          cases hx : Lx.opens (b.drop st.at_) with
          | true => rfl
          | false =>
            exfalso
            cases hd : b.drop st.at_ with
            | nil => rw [hd] at hk; cases hk
            | cons c q =>
              rw [hd] at hk hx
              rw [kd_cons, hx] at hk
              revert hk
              cases Lx.blank c <;> cases Lx.letter c <;> cases Lx.digit c <;> cases Lx.symb c <;> simp
        subst hn
        refine ⟨(st.at_, st.at_ + n) :: new, by rw [h1]; simp, ?_⟩
        show blot new (blot1 st.at_ (st.at_ + n) b) = _
        rw [blot_blot1, h2, S_fill hs, if_pos ho, List.take_add, List.drop_drop]
        have e1 : (b.take st.at_).length = st.at_ := by rw [List.length_take]; omega
        have e2 : ((b.drop st.at_).take n).length = n := by rw [List.length_take, List.length_drop]; omega
        have := blot1_mid (b.take st.at_) ((b.drop st.at_).take n) (S (b.drop (st.at_ + n)))
        rw [e1, e2] at this
        rw [this, List.append_assoc]
    | letter => rw [hk] at hn; exact tk _ rfl hn
    | digit => rw [hk] at hn; exact tk _ rfl hn
    | symb => rw [hk] at hn; exact tk _ rfl hn
    | other => rw [hk] at hn; exact tk _ rfl hn

/-- What 'Strip' hands back, in the words of the cutting. -/
theorem strip_is {text : ByteArray} {e : Ending} (hs : text.size ≤ 20000) (h : StripR text e) :
    (∃ a, Lx.T (bts text) 0 = .bad a ∧ e = tup2 ⟨#[]⟩ 10) ∨ ∃ l, Lx.T (bts text) 0 = .good l ∧ e = tup2 (ofB (S (bts text))) 0 := by
  rcases h with ⟨h, _⟩ | ⟨_, r, hr, h⟩
  · omega
  · have hc := runs_never hr
    rw [List.drop_zero] at hc
    rcases h with ⟨a, rfl, rfl⟩ | ⟨st, rfl, h⟩
    · exact .inl ⟨a, hc, rfl⟩
    · obtain ⟨new, hx, hy⟩ := hc
      have hg : Good (bts text) ⟨0, [], []⟩ := ⟨Nat.zero_le _, Nat.le_refl _, Nat.le_refl _⟩
      have hgd := runs_good hr hg st rfl
      have hl : st.ts.length ≤ 20000 := by have h1 := hgd.1; have h2 := hgd.2.1; rw [bts_length] at h1; omega
      rcases h with ⟨h, _⟩ | ⟨_, rfl⟩
      · omega
      · obtain ⟨cs, h1, h2⟩ := runs_S hr hg st rfl
        refine .inr ⟨new, hx, ?_⟩
        have h1 : st.cs = cs := h1
        rw [h1, h2]
        simp
end Go.Proofs.YtcjdacdggklifaaGreatDoor

/- The reference: Strip. -/
namespace Go.Proofs.YtcjdacdggklifaaGreatDoor
open Go.RowKit

/-- A filler that begins with no blank is a comment. -/
theorem fill_kinds {b : Lx.Bs} {n : Nat} (h : Lx.step b = .fill n) : (∃ c r, b = c :: r ∧ Lx.blank c = true ∧ n = 1 ∧ Lx.opens b = false) ∨ (Lx.opens b = true ∧ Lx.comm 0 b = some n ∧ ∀ c r, b = c :: r → Lx.blank c = false) := by
  rcases Lx.step_fill_iff.1 h with ⟨hk, rfl⟩ | ⟨hk, hc⟩
  · obtain ⟨c, r, rfl, hb⟩ := (Lx.kd_blank_iff b).1 hk
    exact .inl ⟨c, r, rfl, hb, rfl, not_open hb⟩
  · have ho : Lx.opens b = true := (Lx.kd_comm_iff b).1 hk
    refine .inr ⟨ho, hc, fun c r e => ?_⟩
    cases hb : Lx.blank c with
    | false => rfl
    | true => subst e; rw [not_open hb] at ho; cases ho
theorem first_at (l : Lx.Bs) (x : Nat) (ts : List Lx.Tok) (h : Lx.T l x = .good ts) (hn : 0 < ts.length) : x ≤ (ts[0]).at_ := (Lx.chain_tok ts l x (Lx.chain _ _ _ h) 0 hn).1
/-- What the reference's Strip hands back. -/
def RStr (text : ByteArray) (e : Ending) : Prop := (∃ a, Lx.T (bts text) 0 = .bad a ∧ e = tup2 ⟨#[]⟩ 10) ∨ ∃ l, Lx.T (bts text) 0 = .good l ∧ e = tup2 (ofB (S (bts text))) 0
set_option maxRecDepth 100000 in
set_option maxHeartbeats 2000000 in
theorem rStrip_any (text : ByteArray) (hs : text.size ≤ 20000) (w : World) : Calls Tryz.prog 14 #[.string text] w fun e w' => RStr text e ∧ Below w.heap.size w w' := by
  have kc := fun (w : World) (s : ByteArray) => run_bytes_of_string (P := Tryz.prog) w 9 61 5 s Tryz.underlying9 Tryz.underlying61 Tryz.underlying5
  have KC := Lib.hid kc
  clear kc
  obtain ⟨P, hP⟩ : ∃ P : Ending → Prop, P = RStr text := ⟨_, rfl⟩
  rw [← hP]
  have HP := Lib.hid hP
  clear hP
  go_enter Tryz.func14, Tryz.ntmps14
  go_wp2_with fail
  refine (rTokens_any text w).mono ?_
  rintro e w2 ⟨hb2, hcs⟩
  have HB2 := Lib.hid hb2
  clear hb2
  rcases hcs with ⟨hbig, _⟩ | ⟨_, hcs⟩
  · omega
  cases hT : Lx.T (bts text) 0 with
  | bad a =>
    rw [hT] at hcs
    simp only at hcs
    subst hcs
    have hp : P (tup2 ⟨#[]⟩ 10) := by rw [HP.out]; exact .inl ⟨a, hT, rfl⟩
    have HPP := Lib.hid hp
    clear hp hT
    unfold three
    go_wp2_with fail
    go_ret2
    exact ⟨HPP.out, HB2.out⟩
  | good l =>
    rw [hT] at hcs
    have hcn := T_count _ _ _ hT
    rw [bts_length] at hcn
    simp only at hcs
    rw [if_neg (by omega)] at hcs
    obtain ⟨v, rfl, hown⟩ := hcs
    obtain ⟨oa, cap, rfl, hcap⟩ := owns_form hown
    have htv := tokV_owned hown
    have hp : P (tup2 (ofB (S (bts text))) 0) := by rw [HP.out]; exact .inr ⟨l, hT, rfl⟩
    have HPP := Lib.hid hp
    have kc := KC.out w2
    obtain ⟨nl, hnl⟩ : ∃ n, l.length = n := ⟨_, rfl⟩
    have HT := Lib.hid (And.intro hT (And.intro hnl htv))
    rw [hnl] at hcn ⊢
    clear hp hT hown hcap htv hnl
    unfold three
    go_wp2_with fail
    have hrb : RowB (w2.alloc (.cells (bytesRow text (grownCap w2 text.size 0 5)) 5 ((bytesRow text (grownCap w2 text.size 0 5)).size, (bytesRow text (grownCap w2 text.size 0 5)).size + 1))).drew w2.heap.size (bts text) := rowB_new w2 text _
    have hgr : w2.grownBy (w2.alloc (.cells (bytesRow text (grownCap w2 text.size 0 5)) 5 ((bytesRow text (grownCap w2 text.size 0 5)).size, (bytesRow text (grownCap w2 text.size 0 5)).size + 1))).drew none := grownD (World.grownBy_alloc _ _ _)
    have HRB := Lib.hid hrb
    have HGR := Lib.hid hgr
    clear hrb hgr kc
    generalize (w2.alloc (.cells (bytesRow text (grownCap w2 text.size 0 5)) 5 ((bytesRow text (grownCap w2 text.size 0 5)).size, (bytesRow text (grownCap w2 text.size 0 5)).size + 1))).drew = w3 at *
    generalize grownCap w2 text.size 0 5 = capq at *
    obtain ⟨q, hq⟩ : ∃ q, w2.heap.size = q := ⟨_, rfl⟩
    have HQ := Lib.hid (And.intro hq HB2.out.size)
    rw [hq] at HRB ⊢
    clear hq
    have hq1 : w2.heap.size = q := HQ.out.1
    go_loopw [8, 9] (fun a b wr => ∃ (j x : Nat) (A : Lx.Bs), j ≤ nl ∧ x ≤ text.size ∧ a = .int .i64 j ∧ b = .int .i64 x ∧ A.length = x ∧ S (bts text) = A ++ S ((bts text).drop x) ∧ Lx.T ((bts text).drop x) x = .good (l.drop j) ∧ RowB wr q (A ++ (bts text).drop x) ∧ w3.grownBy wr (some q)) (fun _ b _ => text.size - (intOf b).toNat)
    case atStart => exact ⟨0, 0, [], Nat.zero_le _, Nat.zero_le _, rfl, rfl, rfl, rfl, HT.out.1, HRB.out, grownZ _ _⟩
    case round =>
      obtain ⟨j, x, A, hj, hx, rfl, rfl, hA, hSA, hTx, hrow, hg⟩ := hrel
      have HW := Lib.hid (And.intro hrow hg)
      have HA := Lib.hid (And.intro hA (And.intro hSA hTx))
      clear hrow hg hA hSA hTx
      by_cases hlt : x < text.size
      · have hxi : (x : Int) < (text.size : Int) := by omega
        have hd := bts_drop text x hlt
        cases hst : Lx.step ((bts text).drop x) with
        | bad => exfalso; have := HA.out.2.2; rw [Lx.T_bad (by rw [hd]; simp) hst] at this; cases this
        | tok kd nn sx len =>
          have hTl := HA.out.2.2
          rw [Lx.T_tok hst, Lx.Res.pre_good] at hTl
          obtain ⟨l', hT', hl'⟩ := hTl
          have hlen := Lx.step_tok hst
          rw [List.length_drop, bts_length] at hlen
          have hjl : j < l.length := by
            rcases Nat.lt_or_ge j l.length with h | h
            · exact h
            · rw [List.drop_eq_nil_of_le h] at hl'; simp at hl'
          rw [List.drop_eq_getElem_cons hjl, List.singleton_append, List.cons.injEq] at hl'
          have hjn : j < nl := by have := HT.out.2.1; omega
          obtain ⟨g, off, rfl, hgl, hcl⟩ := HT.out.2.2 (by rw [List.length_map]; omega)
          have e1 : ∀ i, i < 5 → wr.cell? ⟨g, off + (j * 5 + i), none⟩ = (rt l[j]).cells[i]? := fun i hi => by
            have h1 := hcl j (by rw [List.length_map]; omega) i hi
            rw [List.getElem_map] at h1
            exact (World.cell?_of_block (w := w2) (a := ⟨g, off + (j * 5 + i), none⟩) ((HW.out.2.block g (Nat.lt_of_lt_of_le hgl HGR.out.size) (by have := HQ.out.1; simp; omega)).trans (HGR.out.block g hgl (by simp)))).trans h1
          have a3 := e1 3 (by omega)
          have a4 := e1 4 (by omega)
          simp only [rt, RT.cells, List.getElem?_cons_zero, List.getElem?_cons_succ, ← Nat.add_assoc] at a3 a4
          clear e1 hcl hgl
          rw [hl'.1] at a3 a4
          simp only at a3 a4
          obtain ⟨y, hy⟩ : ∃ y, x + len = y := ⟨_, rfl⟩
          rw [hy] at a4 hT'
          have hSt := S_tok hst
          rw [List.drop_drop, hy] at hSt
          have HN := Lib.hid (show ∃ A', A'.length = y ∧ S (bts text) = A' ++ S ((bts text).drop y) ∧ Lx.T ((bts text).drop y) y = .good (l.drop (j + 1)) ∧ A' ++ (bts text).drop y = A ++ (bts text).drop x from by
            refine ⟨A ++ ((bts text).drop x).take len, ?_, ?_, ?_, ?_⟩
            · rw [List.length_append, HA.out.1, List.length_take, List.length_drop, bts_length]; omega
            · rw [HA.out.2.1, hSt, List.append_assoc]
            · rw [hl'.2, ← hT', List.drop_drop, hy]
            · rw [List.append_assoc, ← hy, ← List.drop_drop, List.take_append_drop])
          have hyx : x < y := by omega
          have hyt : y ≤ text.size := by omega
          clear hst hT' hl' hSt hy hd hlen
          go_wp2_with fail
          obtain ⟨A', n1, n2, n3, n4⟩ := HN.out
          go_roundw
          case rel => exact ⟨j + 1, y, A', by omega, hyt, by go_num, rfl, n1, n2, n3, by rw [n4]; exact HW.out.1, HW.out.2⟩
          case measure => simp [intOf]; omega
        | fill n =>
          have hTl := HA.out.2.2
          rw [Lx.T_fill hst, List.drop_drop] at hTl
          have hn := Lx.step_fill hst
          rw [List.length_drop, bts_length] at hn
          have hat : ∀ h : j < l.length, x < (l[j]).at_ := fun h => by
            have h1 := first_at _ _ _ hTl (by rw [List.length_drop]; omega)
            rw [List.getElem_drop] at h1
            simp only [Nat.add_zero] at h1
            omega
          have HBL := Lib.hid (fun w => rBlank_any text[x] w)
          rcases fill_kinds hst with ⟨c, r, hcr, hcb, rfl, ho⟩ | ⟨ho, hcm, hnb⟩
          · rw [hd] at hcr
            have hc : text[x] = c := by injection hcr
            have hbx : Lx.blank text[x] = true := by rw [hc]; exact hcb
            rw [hbx] at HBL
            clear hbx
            have hSf := S_fill hst
            rw [ho, if_neg (by simp), List.drop_drop] at hSf
            have HN := Lib.hid (show ∃ A', A'.length = x + 1 ∧ S (bts text) = A' ++ S ((bts text).drop (x + 1)) ∧ Lx.T ((bts text).drop (x + 1)) (x + 1) = .good (l.drop j) ∧ A' ++ (bts text).drop (x + 1) = A ++ (bts text).drop x from by
              refine ⟨A ++ ((bts text).drop x).take 1, ?_, ?_, hTl, ?_⟩
              · rw [List.length_append, HA.out.1, List.length_take, List.length_drop, bts_length]; omega
              · rw [HA.out.2.1, hSf, List.append_assoc]
              · rw [List.append_assoc, ← List.drop_drop, List.take_append_drop])
            clear hst hTl hSf hcr hc ho hd hn hcb
            by_cases hjn : j < nl
            · have hjl : j < l.length := by have := HT.out.2.1; omega
              have hx2 := hat hjl
              have hne : (((l[j]).at_ : Int) == (x : Int)) = false := by rw [beq_eq_false_iff_ne]; omega
              obtain ⟨g, off, rfl, hgl, hcl⟩ := HT.out.2.2 (by rw [List.length_map]; omega)
              have e1 : ∀ i, i < 5 → wr.cell? ⟨g, off + (j * 5 + i), none⟩ = (rt l[j]).cells[i]? := fun i hi => by
                have h1 := hcl j (by rw [List.length_map]; omega) i hi
                rw [List.getElem_map] at h1
                exact (World.cell?_of_block (w := w2) (a := ⟨g, off + (j * 5 + i), none⟩) ((HW.out.2.block g (Nat.lt_of_lt_of_le hgl HGR.out.size) (by have := HQ.out.1; simp; omega)).trans (HGR.out.block g hgl (by simp)))).trans h1
              have a3 := e1 3 (by omega)
              have a4 := e1 4 (by omega)
              simp only [rt, RT.cells, List.getElem?_cons_zero, List.getElem?_cons_succ, ← Nat.add_assoc] at a3 a4
              clear e1 hcl hgl
              clear hat hx2 a4
              generalize (l[j]).at_ = lat at *
              go_wp2_with (go_at_call 44; refine (HBL.out _).mono ?_; rintro e w' ⟨rfl, hw⟩; subst hw)
              obtain ⟨A', n1, n2, n3, n4⟩ := HN.out
              go_roundw
              case rel => exact ⟨j, x + 1, A', hj, by omega, rfl, by go_num, n1, n2, n3, by rw [n4]; exact HW.out.1, HW.out.2⟩
              case measure => simp [intOf]; omega
            · have hjn' : ¬ (j : Int) < (nl : Int) := by omega
              clear hat
              go_wp2_with (go_at_call 44; refine (HBL.out _).mono ?_; rintro e w' ⟨rfl, hw⟩; subst hw)
              obtain ⟨A', n1, n2, n3, n4⟩ := HN.out
              go_roundw
              case rel => exact ⟨j, x + 1, A', hj, by omega, rfl, by go_num, n1, n2, n3, by rw [n4]; exact HW.out.1, HW.out.2⟩
              case measure => simp [intOf]; omega
          · have hcb : Lx.blank text[x] = false := hnb _ _ hd
            rw [hcb] at HBL
            have HCM := Lib.hid (fun w => rComment_any text x (by omega) (by omega) ho w)
            rw [hcm, comR_some] at HCM
            have hSf := S_fill hst
            rw [ho, if_pos rfl, List.drop_drop] at hSf
            obtain ⟨y, hy⟩ : ∃ y, x + n = y := ⟨_, rfl⟩
            obtain ⟨L, hL⟩ : ∃ L, L = A ++ (bts text).drop x := ⟨_, rfl⟩
            have hLl : L.length = text.size := by rw [hL, List.length_append, HA.out.1, List.length_drop, bts_length]; omega
            have HLL := Lib.hid (And.intro hL (And.intro hLl True.intro))
            rw [hy] at HCM hTl hSf
            have HN := Lib.hid (show ∃ A', A'.length = y ∧ S (bts text) = A' ++ S ((bts text).drop y) ∧ Lx.T ((bts text).drop y) y = .good (l.drop j) ∧ A' ++ (bts text).drop y = blot1 x y L from by
              have e2 : (((bts text).drop x).take n).length = n := by rw [List.length_take, List.length_drop, bts_length]; omega
              refine ⟨A ++ whit (((bts text).drop x).take n), ?_, ?_, hTl, ?_⟩
              · rw [List.length_append, HA.out.1, whit_len, e2]; exact hy
              · rw [HA.out.2.1, hSf, List.append_assoc]
              · have h1 := blot1_mid A (((bts text).drop x).take n) ((bts text).drop y)
                rw [HA.out.1, e2, hy] at h1
                rw [← h1, hL, ← hy, ← List.drop_drop, List.append_assoc, List.take_append_drop])
            have hyx : x < y := by omega
            have hyt : y ≤ text.size := by omega
            clear hst hTl hSf ho hcm hnb hd hn hcb hy hL hLl
            by_cases hjn : j < nl
            · have hjl : j < l.length := by have := HT.out.2.1; omega
              have hx2 := hat hjl
              have hne : (((l[j]).at_ : Int) == (x : Int)) = false := by rw [beq_eq_false_iff_ne]; omega
              obtain ⟨g, off, rfl, hgl, hcl⟩ := HT.out.2.2 (by rw [List.length_map]; omega)
              have e1 : ∀ i, i < 5 → wr.cell? ⟨g, off + (j * 5 + i), none⟩ = (rt l[j]).cells[i]? := fun i hi => by
                have h1 := hcl j (by rw [List.length_map]; omega) i hi
                rw [List.getElem_map] at h1
                exact (World.cell?_of_block (w := w2) (a := ⟨g, off + (j * 5 + i), none⟩) ((HW.out.2.block g (Nat.lt_of_lt_of_le hgl HGR.out.size) (by have := HQ.out.1; simp; omega)).trans (HGR.out.block g hgl (by simp)))).trans h1
              have a3 := e1 3 (by omega)
              have a4 := e1 4 (by omega)
              simp only [rt, RT.cells, List.getElem?_cons_zero, List.getElem?_cons_succ, ← Nat.add_assoc] at a3 a4
              clear e1 hcl hgl
              clear hat hx2 a4
              generalize (l[j]).at_ = lat at *
              go_wp2_with (first | (go_at_call 44; refine (HBL.out _).mono ?_; rintro e w' ⟨rfl, hw⟩; subst hw) | (go_at_call 45; refine (HCM.out _).mono ?_; rintro e w' ⟨rfl, hw⟩; subst hw))
              go_loopw [11] (fun v wi => ∃ i : Nat, x ≤ i ∧ i ≤ y ∧ v = .int .i64 i ∧ RowB wi q (blot1 x i L) ∧ w3.grownBy wi (some q)) (fun v _ => y - (intOf v).toNat)
              case atStart => exact ⟨x, by omega, by omega, rfl, by rw [blot1_same, HLL.out.1]; exact HW.out.1, HW.out.2⟩
              case round =>
                obtain ⟨i, hi1, hi2, rfl, hrow, hgi⟩ := hrel
                by_cases hli : i < y
                · have hiL : i < L.length := by have := HLL.out.2.1; omega
                  have hiB : i < (blot1 x i L).length := by rw [blot1_len]; exact hiL
                  have hcell := hrow.cell i hiB
                  rw [blot1_at x i L hiL] at hcell
                  have hfree := hrow.free i hiB
                  have hit : i < text.size := by omega
                  have hit2 : (i : Int) < (text.size : Int) := by omega
                  have hli2 : (i : Int) < (y : Int) := by omega
                  by_cases hc : L[i] = 10
                  · have hk2 := blot1_keep x i L hiL hc
                    have HK2 := Lib.hid (And.intro hk2 (And.intro hrow hgi))
                    rw [hc] at hcell
                    clear hk2 hc hrow hgi hfree
                    go_wp2_with fail
                    go_roundw
                    case rel => exact ⟨i + 1, by omega, by omega, by go_num, by rw [HK2.out.1]; exact HK2.out.2.1, HK2.out.2.2⟩
                    case measure => simp [intOf]; omega
                  · have hk2 := blot1_set x i L hiL hi1 hc
                    have hset := hrow.set i 32 hiB
                    have HK2 := Lib.hid (And.intro hk2 (And.intro hset hgi))
                    have hcb : (((L[i]).toNat : Int) == 10) = false := by
                      rw [beq_eq_false_iff_ne]; intro e; exact hc (by rw [← UInt8.toNat_inj]; simpa using (by omega : (L[i]).toNat = _))
                    clear hk2 hset hc hrow hgi
                    generalize (L[i]).toNat = cv at *
                    go_wp2_with fail
                    go_roundw
                    case rel => exact ⟨i + 1, by omega, by omega, by go_num, by rw [HK2.out.1]; exact HK2.out.2.1, grown_trans HK2.out.2.2 (setCell_grown _ _ _ _)⟩
                    case measure => simp [intOf]; omega
                · have his : i = y := by omega
                  have hli2 : ¬ (i : Int) < (y : Int) := by omega
                  have HK2 := Lib.hid (And.intro hrow hgi)
                  clear hrow hgi
                  go_wp2_with fail
                  obtain ⟨A', n1, n2, n3, n4⟩ := HN.out
                  go_roundw
                  case rel => exact ⟨j, y, A', hj, by omega, rfl, by go_num, n1, n2, n3, by rw [n4, ← his]; exact HK2.out.1, HK2.out.2⟩
                  case measure => simp [intOf]; omega
            · have hjn' : ¬ (j : Int) < (nl : Int) := by omega
              clear hat
              go_wp2_with (first | (go_at_call 44; refine (HBL.out _).mono ?_; rintro e w' ⟨rfl, hw⟩; subst hw) | (go_at_call 45; refine (HCM.out _).mono ?_; rintro e w' ⟨rfl, hw⟩; subst hw))
              go_loopw [11] (fun v wi => ∃ i : Nat, x ≤ i ∧ i ≤ y ∧ v = .int .i64 i ∧ RowB wi q (blot1 x i L) ∧ w3.grownBy wi (some q)) (fun v _ => y - (intOf v).toNat)
              case atStart => exact ⟨x, by omega, by omega, rfl, by rw [blot1_same, HLL.out.1]; exact HW.out.1, HW.out.2⟩
              case round =>
                obtain ⟨i, hi1, hi2, rfl, hrow, hgi⟩ := hrel
                by_cases hli : i < y
                · have hiL : i < L.length := by have := HLL.out.2.1; omega
                  have hiB : i < (blot1 x i L).length := by rw [blot1_len]; exact hiL
                  have hcell := hrow.cell i hiB
                  rw [blot1_at x i L hiL] at hcell
                  have hfree := hrow.free i hiB
                  have hit : i < text.size := by omega
                  have hit2 : (i : Int) < (text.size : Int) := by omega
                  have hli2 : (i : Int) < (y : Int) := by omega
                  by_cases hc : L[i] = 10
                  · have hk2 := blot1_keep x i L hiL hc
                    have HK2 := Lib.hid (And.intro hk2 (And.intro hrow hgi))
                    rw [hc] at hcell
                    clear hk2 hc hrow hgi hfree
                    go_wp2_with fail
                    go_roundw
                    case rel => exact ⟨i + 1, by omega, by omega, by go_num, by rw [HK2.out.1]; exact HK2.out.2.1, HK2.out.2.2⟩
                    case measure => simp [intOf]; omega
                  · have hk2 := blot1_set x i L hiL hi1 hc
                    have hset := hrow.set i 32 hiB
                    have HK2 := Lib.hid (And.intro hk2 (And.intro hset hgi))
                    have hcb : (((L[i]).toNat : Int) == 10) = false := by
                      rw [beq_eq_false_iff_ne]; intro e; exact hc (by rw [← UInt8.toNat_inj]; simpa using (by omega : (L[i]).toNat = _))
                    clear hk2 hset hc hrow hgi
                    generalize (L[i]).toNat = cv at *
                    go_wp2_with fail
                    go_roundw
                    case rel => exact ⟨i + 1, by omega, by omega, by go_num, by rw [HK2.out.1]; exact HK2.out.2.1, grown_trans HK2.out.2.2 (setCell_grown _ _ _ _)⟩
                    case measure => simp [intOf]; omega
                · have his : i = y := by omega
                  have hli2 : ¬ (i : Int) < (y : Int) := by omega
                  have HK2 := Lib.hid (And.intro hrow hgi)
                  clear hrow hgi
                  go_wp2_with fail
                  obtain ⟨A', n1, n2, n3, n4⟩ := HN.out
                  go_roundw
                  case rel => exact ⟨j, y, A', hj, by omega, rfl, by go_num, n1, n2, n3, by rw [n4, ← his]; exact HK2.out.1, HK2.out.2⟩
                  case measure => simp [intOf]; omega
      · have hxe : x = text.size := by omega
        have hlt2 : ¬ (x : Int) < (text.size : Int) := by omega
        have hrow := HW.out.1
        have hSA := HA.out.2.1
        rw [List.drop_eq_nil_of_le (by rw [bts_length]; omega), List.append_nil] at hrow
        rw [List.drop_eq_nil_of_le (by rw [bts_length]; omega), S_nil, List.append_nil] at hSA
        rw [← hSA] at hrow
        have hlen : (S (bts text)).length = text.size := by rw [S_len, bts_length]
        have hback := run_convert_bytes_back (P := Tryz.prog) wr 61 9 5 ⟨q, 0, none⟩ capq (S (bts text)) Tryz.underlying61 Tryz.underlying5 Tryz.underlying9 (fun j hj => by
          have e : (⟨q, 0, none⟩ : Addr).add j = ⟨q, j, none⟩ := by by_cases h : j = 0 <;> simp [Addr.add, h]
          rw [e]; exact hrow.cell j hj)
        rw [hlen] at hback
        have hbe : Below w.heap.size w wr := (HB2.out.grown HGR.out HB2.out.size (fun j hj => by simp at hj)).grown HW.out.2 (Nat.le_trans HB2.out.size HGR.out.size) (fun j hj => by simp at hj; have := HQ.out; omega)
        have HBE := Lib.hid hbe
        clear hrow hSA hlen hbe
        obtain ⟨S', hS⟩ : ∃ S', S' = ofB (S (bts text)) := ⟨_, rfl⟩
        rw [show (ByteArray.mk (S (bts text)).toArray) = S' from hS.symm] at hback
        rw [← hS] at HPP
        clear hS
        go_wp2_with fail
        go_ret2
        exact ⟨HPP.out, HBE.out⟩
end Go.Proofs.YtcjdacdggklifaaGreatDoor

/- Place: of lex, and of the reference. -/
namespace Go.Proofs.YtcjdacdggklifaaGreatDoor
open Go.RowKit

theorem lastIdx_same (s u : ByteArray) (c : Int) : ∀ k, (∀ j, j < k → s.data[j]! = u.data[j]!) → Lib.lastIdx s c k = Lib.lastIdx u c k
  | 0, _ => rfl
  | k + 1, h => by rw [Lib.lastIdx, Lib.lastIdx, h k (by omega), lastIdx_same s u c k (fun j hj => h j (by omega))]
theorem lastIdx_ge (s : ByteArray) (c : Int) : ∀ k, -1 ≤ Lib.lastIdx s c k ∧ Lib.lastIdx s c k < (k : Int)
  | 0 => by simp [Lib.lastIdx]
  | k + 1 => by
    have := lastIdx_ge s c k
    rw [Lib.lastIdx]; split <;> omega
theorem lastIdx_ahead (s : ByteArray) (c : Int) (n : Nat) (h : n ≤ s.size) : Lib.lastIndexByte (s.extract 0 n) c = Lib.lastIdx s c n := by
  unfold Lib.lastIndexByte
  rw [show (s.extract 0 n).size = n from by simp; omega]
  apply lastIdx_same
  intro j hj
  have hz : s.data.size = s.size := rfl
  have h2 : j < (s.extract 0 n).data.size := by show j < (s.extract 0 n).size; simp; omega
  rw [getElem!_pos (s.extract 0 n).data j h2, getElem!_pos s.data j (by omega)]
  simp
def place3 (a b e : Int) : Ending := .returned (.tuple #[.int .i64 a, .int .i64 b, .int .i64 e])
/-- Where a byte stands. -/
def placeR (s : ByteArray) (p : Int) : Ending :=
  if 0 ≤ p ∧ p ≤ (s.size : Int) then place3 (1 + ((((bts s).take p.toNat).count 10 : Nat) : Int)) (p - Lib.lastIdx s 10 p.toNat) 0 else place3 0 0 1
set_option maxRecDepth 100000 in
theorem place_any (s : ByteArray) (p : Int) (hs : s.size ≤ 20000) (w : World) : Calls Tryz.prog 11 #[.string s, .int .i64 p] w fun e w' => e = placeR s p ∧ w = w' := by
  obtain ⟨R, hR⟩ : ∃ R, R = placeR s p := ⟨_, rfl⟩
  rw [← hR]
  by_cases h : 0 ≤ p ∧ p ≤ (s.size : Int)
  · obtain ⟨n, rfl⟩ : ∃ n : Nat, p = n := ⟨p.toNat, by omega⟩
    have hn : n ≤ s.size := by omega
    rw [placeR, if_pos h, Int.toNat_natCast] at hR
    have hla := lastIdx_ahead s 10 n hn
    have hge := lastIdx_ge s 10 n
    have hcl : ((bts s).take n).count 10 ≤ n := Nat.le_trans List.count_le_length (by rw [List.length_take]; omega)
    have hct : Lib.countByte (s.extract 0 n).data.toList 10 = ((bts s).take n).count 10 := by
      unfold Lib.countByte
      show (bts (s.extract 0 n)).count 10 = _
      rw [bts_extract, List.drop_zero, Nat.sub_zero]
    obtain ⟨z, hz⟩ : ∃ z, Lib.lastIdx s 10 n = z := ⟨_, rfl⟩
    obtain ⟨k, hk⟩ : ∃ k, ((bts s).take n).count 10 = k := ⟨_, rfl⟩
    rw [hz] at hla hge hR
    rw [hk] at hct hcl hR
    have hxs : (s.extract 0 n).size < 4611686018427387904 := by simp; omega
    have hn2 : (n : Int) ≤ (s.size : Int) := by omega
    have hn0 : (0 : Int) ≤ (n : Int) := by omega
    obtain ⟨k1, hk1⟩ : ∃ k1, 1 + k = k1 := ⟨_, rfl⟩
    obtain ⟨d, hd⟩ : ∃ d : Nat, (n : Int) - z = (d : Int) := ⟨((n : Int) - z).toNat, by omega⟩
    have e1 : (1 : Int) + (k : Int) = (k1 : Int) := by omega
    have e2 : IntKind.i64.wrap (k1 : Int) = (k1 : Int) := IntWalk.i64_in _ (by omega)
    have e3 : IntKind.i64.wrap (d : Int) = (d : Int) := IntWalk.i64_in _ (by omega)
    rw [e1, hd] at hR
    have HR := Lib.hid hR
    have hxs' := Lib.hid hxs
    clear hR hz hk h hge hcl hk1 hxs
    go_enter Tryz.func11, Tryz.ntmps11
    go_wp2_with (first | (go_at_call 40; refine (Tryz.strings_Count_one _ _ _).mono ?_; rintro e w' ⟨rfl, hw⟩; obtain rfl := hw; rw [hct]) | (go_at_call 41; refine (Tryz.strings_LastIndexByte _ _ hxs'.out _).mono ?_; rintro e w' ⟨rfl, hw⟩; obtain rfl := hw; rw [hla]))
    all_goals go_ret3
    all_goals exact ⟨HR.out.symm, rfl⟩
  · rw [placeR, if_neg h] at hR
    have HR := Lib.hid hR
    clear hR
    by_cases h0 : p < 0
    · clear h
      go_enter Tryz.func11, Tryz.ntmps11
      go_wp2_with fail
      go_ret3
      exact ⟨HR.out.symm, rfl⟩
    · obtain ⟨n, rfl⟩ : ∃ n : Nat, p = n := ⟨p.toNat, by omega⟩
      have h1 : (s.size : Int) < (n : Int) := by omega
      clear h h0
      go_enter Tryz.func11, Tryz.ntmps11
      go_wp2_with fail
      go_ret3
      exact ⟨HR.out.symm, rfl⟩
set_option maxRecDepth 100000 in
theorem rplace_any (s : ByteArray) (p : Int) (hs : s.size ≤ 20000) (w : World) : Calls Tryz.prog 12 #[.string s, .int .i64 p] w fun e w' => e = placeR s p ∧ w = w' := by
  obtain ⟨R, hR⟩ : ∃ R, R = placeR s p := ⟨_, rfl⟩
  rw [← hR]
  by_cases h : 0 ≤ p ∧ p ≤ (s.size : Int)
  · obtain ⟨n, rfl⟩ : ∃ n : Nat, p = n := ⟨p.toNat, by omega⟩
    have hn : n ≤ s.size := by omega
    rw [placeR, if_pos h, Int.toNat_natCast] at hR
    have HR := Lib.hid hR
    have hn2 : (n : Int) ≤ (s.size : Int) := by omega
    clear hR h
    go_enter Tryz.func12, Tryz.ntmps12
    go_wp2_with fail
    go_loop [7, 8, 9] (fun a b i => ∃ k : Nat, k ≤ n ∧ i = .int .i64 k ∧ a = .int .i64 (1 + ((((bts s).take k).count 10 : Nat) : Int)) ∧ b = .int .i64 ((k : Int) - Lib.lastIdx s 10 k)) (fun _ _ i => n - (intOf i).toNat)
    case atStart => exact ⟨0, by omega, rfl, rfl, rfl⟩
    case round =>
      obtain ⟨k, hk, rfl, rfl, rfl⟩ := hrel
      have hge := lastIdx_ge s 10 k
      have hcl : ((bts s).take k).count 10 ≤ k := Nat.le_trans List.count_le_length (by rw [List.length_take]; omega)
      by_cases hlt : k < n
      · have hks : k < s.size := by omega
        have hst : Lib.lastIdx s 10 (k + 1) = if s[k].toNat = 10 then (k : Int) else Lib.lastIdx s 10 k := by
          rw [Lib.lastIdx]
          have e : s.data[k]! = s[k] := by rw [getElem!_pos s.data k hks]; rfl
          rw [e]
          by_cases hx : s[k].toNat = 10
          · rw [if_pos hx, if_pos (by omega)]
          · rw [if_neg hx, if_neg (by omega)]
        have hct : ((bts s).take (k + 1)).count 10 = ((bts s).take k).count 10 + if s[k].toNat = 10 then 1 else 0 := by
          have hkb : k < (bts s).length := by rw [bts_length]; exact hks
          rw [List.take_succ_eq_append_getElem hkb, List.count_append]
          congr 1
          have e : (bts s)[k] = s[k] := by simp [bts]; rfl
          rw [e]
          by_cases hx : s[k].toNat = 10
          · rw [if_pos hx, show s[k] = 10 from UInt8.toNat_inj.1 hx]; rfl
          · rw [if_neg hx, List.count_eq_zero]
            intro hm; simp at hm; exact hx (by rw [← hm]; rfl)
        obtain ⟨z, hz⟩ : ∃ z, Lib.lastIdx s 10 k = z := ⟨_, rfl⟩
        obtain ⟨c, hc⟩ : ∃ c, ((bts s).take k).count 10 = c := ⟨_, rfl⟩
        rw [hz] at hge hst ⊢
        rw [hc] at hcl hct ⊢
        obtain ⟨d, hd⟩ : ∃ d : Nat, (k : Int) - z = (d : Int) := ⟨((k : Int) - z).toNat, by omega⟩
        obtain ⟨c1, hc1⟩ : ∃ c1 : Nat, 1 + (c : Int) = (c1 : Int) := ⟨1 + c, by omega⟩
        have hz' : z = (k : Int) - (d : Int) := by omega
        have hdk : d ≤ k + 1 := by omega
        rw [hd, hc1]
        have HS := Lib.hid (And.intro hst (And.intro hct (And.intro hz' hc1)))
        have hck : c1 ≤ k + 1 := by omega
        have hkl : (k : Int) < (n : Int) := by omega
        clear hst hct hz hc hd hge hcl hz' hc1
        by_cases hx : s[k].toNat = 10
        · have hx' : s[k] = 10 := UInt8.toNat_inj.1 hx
          go_wp2_with fail
          refine ⟨⟨k + 1, by omega, by go_num, by rw [HS.out.2.1, if_pos hx]; congr 1; have := HS.out.2.2.2; omega, by rw [HS.out.1, if_pos hx]; congr 1; omega⟩, by simp [intOf]; omega⟩
        · go_wp2_with fail
          refine ⟨⟨k + 1, by omega, by go_num, by rw [HS.out.2.1, if_neg hx]; congr 1; have := HS.out.2.2.2; omega, by rw [HS.out.1, if_neg hx, HS.out.2.2.1]; congr 1; omega⟩, by simp [intOf]; omega⟩
      · have hkn : n = k := by omega
        subst hkn
        clear hge hcl
        go_wp2_with fail
        go_ret3
        exact ⟨HR.out.symm, rfl⟩
  · rw [placeR, if_neg h] at hR
    have HR := Lib.hid hR
    clear hR
    by_cases h0 : p < 0
    · clear h
      go_enter Tryz.func12, Tryz.ntmps12
      go_wp2_with fail
      go_ret3
      exact ⟨HR.out.symm, rfl⟩
    · obtain ⟨n, rfl⟩ : ∃ n : Nat, p = n := ⟨p.toNat, by omega⟩
      have h1 : (s.size : Int) < (n : Int) := by omega
      clear h h0
      go_enter Tryz.func12, Tryz.ntmps12
      go_wp2_with fail
      go_ret3
      exact ⟨HR.out.symm, rfl⟩
end Go.Proofs.YtcjdacdggklifaaGreatDoor

/- LexJoins: the walk. -/
namespace Go.Proofs.YtcjdacdggklifaaGreatDoor
open Go.RowKit

theorem joinR_form (rs : List RT) : ∃ (S : ByteArray) (c : Nat), joinR rs = .returned (.tuple #[.string S, .int .i64 c]) := by
  unfold joinR
  split
  · split
    · exact ⟨_, 2, rfl⟩
    · exact ⟨_, 0, rfl⟩
  · exact ⟨_, 1, rfl⟩
theorem placeR_form (s : ByteArray) (p : Int) : ∃ a b c : Int, placeR s p = place3 a b c := by
  unfold placeR
  split
  · exact ⟨_, _, _, rfl⟩
  · exact ⟨_, _, _, rfl⟩
theorem strip_form (text : ByteArray) (hs : text.size ≤ 20000) : ∃ (S : ByteArray) (c : Nat), (∀ e, StripR text e → e = .returned (.tuple #[.string S, .int .i64 c])) ∧ ∀ e, RStr text e → e = .returned (.tuple #[.string S, .int .i64 c]) := by
  cases hT : Lx.T (bts text) 0 with
  | bad a =>
    refine ⟨⟨#[]⟩, 10, fun e h => ?_, fun e h => ?_⟩
    · rcases strip_is hs h with ⟨_, _, rfl⟩ | ⟨l, h1, _⟩
      · rfl
      · rw [hT] at h1; cases h1
    · rcases h with ⟨_, _, rfl⟩ | ⟨l, h1, _⟩
      · rfl
      · rw [hT] at h1; cases h1
  | good l =>
    refine ⟨ofB (S (bts text)), 0, fun e h => ?_, fun e h => ?_⟩
    · rcases strip_is hs h with ⟨_, h1, _⟩ | ⟨l, _, rfl⟩
      · rw [hT] at h1; cases h1
      · rfl
    · rcases h with ⟨_, h1, _⟩ | ⟨l, _, rfl⟩
      · rw [hT] at h1; cases h1
      · rfl
theorem apR_form (a b : RT) : ∃ (p : Bool) (c : Nat), apR a b = .returned (.tuple #[.bool p, .int .i64 c]) := by
  unfold apR
  split
  · exact ⟨_, 0, rfl⟩
  · exact ⟨_, 1, rfl⟩
set_option maxRecDepth 100000 in
set_option maxHeartbeats 2000000 in
theorem LexJoins_any (rs : List RT) (n : Nat) (hn : rs.length = n) (hn2 : n ≤ 9223372036854775807) (hrs : ∀ t ∈ rs, t.s.size ≤ 140737488355328) (hft : ∀ t ∈ rs, t.fit) (oa : Option Addr) (cap : Nat) (text : ByteArray) (ht : text.size ≤ 140737488355328) (p : Int)
    (w : World) (htok : TokV w oa rs) (haw : ∀ x, oa = some x → x.block < w.heap.size) (htab : Tab w) :
    Calls Tryz.prog 3 #[.slice oa n cap, .string text, .int .i64 p] w fun e w' => e = .returned (.bool true) ∧ Below w.heap.size w w' := by
  have H := Lib.hid (And.intro hn (And.intro hn2 (And.intro hrs (And.intro hft (And.intro ht (And.intro htok (And.intro haw htab)))))))
  clear hn hn2 hrs hft ht htok haw htab
  go_enter Tryz.func3, Tryz.ntmps3
  go_wp2_with fail
  refine (sane_any _).mono ?_
  rintro e w1 ⟨rfl, hb1⟩
  have HB1 := Lib.hid hb1
  clear hb1
  have HTV := Lib.hid (fun W (hb : Below w.heap.size w W) => And.intro (H.out.2.2.2.2.2.1.below hb) (And.intro (fun x hx => Nat.lt_of_lt_of_le (H.out.2.2.2.2.2.2.1 x hx) hb.size) (H.out.2.2.2.2.2.2.2.below hb (Nat.le_refl _))))
  have HFW := Lib.hid (few_any rs n H.out.1 H.out.2.1 H.out.2.2.1 oa cap w1 (HTV.out _ HB1.out).1)
  go_wp2_with fail
  refine HFW.out.mono ?_
  rintro e w2 ⟨b, rfl, hb, hg2⟩
  have HB2 := Lib.hid (below_grown HB1.out hg2)
  clear hg2 HFW
  cases b with
  | false =>
    clear hb
    go_wp2_with fail
    go_ret
    exact ⟨rfl, HB2.out⟩
  | true =>
  obtain ⟨hfew, htot⟩ := hb rfl
  have HFT := Lib.hid (And.intro hfew (fun t (hm : t ∈ rs) => And.intro (H.out.2.2.2.1 t hm) (Nat.le_trans (totS_mem rs t hm) htot)))
  have hsh := short_any [text] 1 rfl (by omega) (by intro s hs; simp only [List.mem_cons, List.not_mem_nil, or_false] at hs; subst hs; exact H.out.2.2.2.2.1) w2.heap.size 1 9 (w2.alloc (.cells #[.string text] 9)) (heap_alloc_new w2 _)
  have hb2 : Below w.heap.size w (w2.alloc (.cells #[.string text] 9)) := HB2.out.alloc HB2.out.size _
  have HSH := Lib.hid hsh
  have HB3 := Lib.hid hb2
  clear hb hfew htot hsh hb2
  go_wp2_with fail
  refine HSH.out.mono ?_
  rintro e w' ⟨rfl, rfl⟩
  generalize (w2.alloc (.cells #[.string text] 9)) = w3 at *
  clear HSH
  by_cases hdd : total [text] ≤ 20000
  · rw [show decide (total [text] ≤ 20000) = true from by simpa using hdd]
    have hsz : text.size ≤ 20000 := by simp [total] at hdd; omega
    clear hdd
    obtain ⟨S1, c1, hj⟩ := joinR_form rs
    obtain ⟨x1, x2, x3, hp⟩ := placeR_form text p
    obtain ⟨S2, c2, hst1, hst2⟩ := strip_form text hsz
    have HJ := Lib.hid (And.intro hj (And.intro hp (And.intro hst1 (And.intro hst2 hsz))))
    clear hj hp hst1 hst2 hsz
    go_wp2_with fail
    refine (Join_all rs n H.out.1 oa cap w3 (HTV.out _ HB3.out).1 (HTV.out _ HB3.out).2.1 (HTV.out _ HB3.out).2.2 HFT.out.1 HFT.out.2).mono ?_
    rintro e w4 ⟨rfl, hb4⟩
    rw [HJ.out.1]
    have HB4 := Lib.hid (below_two HB3.out hb4)
    clear hb4
    go_wp2_with fail
    refine (rJoin_any rs n H.out.1 oa cap w4 (HTV.out _ HB4.out).1 (HTV.out _ HB4.out).2.2 HFT.out.1 HFT.out.2).mono ?_
    rintro e w5 ⟨rfl, hb5⟩
    rw [HJ.out.1]
    have HB5 := Lib.hid (below_two HB4.out hb5)
    clear hb5
    go_wp2_with fail
    refine (place_any text p HJ.out.2.2.2.2 w5).mono ?_
    rintro e w' ⟨rfl, hw⟩
    subst hw
    rw [HJ.out.2.1]
    unfold place3
    go_wp2_with fail
    refine (rplace_any text p HJ.out.2.2.2.2 w5).mono ?_
    rintro e w' ⟨rfl, hw⟩
    subst hw
    rw [HJ.out.2.1]
    unfold place3
    go_wp2_with fail
    refine (Strip_any text w5).mono ?_
    rintro e w6 ⟨he, hb6⟩
    obtain rfl := HJ.out.2.2.1 _ he
    have HB6 := Lib.hid (below_two HB5.out hb6)
    clear hb6 he
    go_wp2_with fail
    refine (rStrip_any text HJ.out.2.2.2.2 w6).mono ?_
    rintro e w7 ⟨he, hb7⟩
    obtain rfl := HJ.out.2.2.2.1 _ he
    have HB7 := Lib.hid (below_two HB6.out hb7)
    clear hb7 he
    go_wp2_with fail
    go_loopw [21] (fun v wr => ∃ k : Nat, k ≤ n ∧ v = .int .i64 k ∧ Below w.heap.size w wr) (fun v _ => n - (intOf v).toNat)
    case atStart => exact ⟨0, by omega, rfl, HB7.out⟩
    case round =>
      obtain ⟨k, hk, rfl, hb⟩ := hrel
      have HB := Lib.hid hb
      clear hb
      have hn2k := HFT.out.1
      by_cases hlt : k < n
      · by_cases h100 : k < 100
        · have h100i : (k : Int) < 100 := by omega
          have hkr : k < rs.length := by have := H.out.1; omega
          obtain ⟨m, hm⟩ : ∃ m, m = k - 1 := ⟨_, rfl⟩
          have hmr : m < rs.length := by omega
          obtain ⟨g, off, rfl, hgl, hcl⟩ := H.out.2.2.2.2.2.1 (by omega)
          have hx2 := HFT.out.2 _ (List.getElem_mem hkr)
          have hy2 := HFT.out.2 _ (List.getElem_mem hmr)
          have hla := fun W (hbw : Below w.heap.size w W) => lApart_any rs[m] rs[k] hy2.1 hx2.1 hy2.2 hx2.2 W (HTV.out _ hbw).2.2
          have hra := fun W (hbw : Below w.heap.size w W) => rApart_any rs[m] rs[k] hy2.1 hx2.1 W (HTV.out _ hbw).2.2
          obtain ⟨q, c, hq⟩ := apR_form rs[m] rs[k]
          rw [hq] at hla hra
          have hc1 : ∀ W, Below w.heap.size w W → ∀ j, j < 5 → W.cell? ⟨g, off + (m * 5 + j), none⟩ = (rs[m]).cells[j]? := fun W hbw j hj => (World.cell?_of_block (w := w) (a := ⟨g, off + (m * 5 + j), none⟩) (hbw.block g hgl)).trans (hcl m hmr j hj)
          have hc2 : ∀ W, Below w.heap.size w W → ∀ j, j < 5 → W.cell? ⟨g, off + (k * 5 + j), none⟩ = (rs[k]).cells[j]? := fun W hbw j hj => (World.cell?_of_block (w := w) (a := ⟨g, off + (k * 5 + j), none⟩) (hbw.block g hgl)).trans (hcl k hkr j hj)
          generalize rs[k] = x at *
          generalize rs[m] = y at *
          obtain ⟨xk, xn, xs, xa, xf⟩ := x
          obtain ⟨yk, yn, ys, ya, yf⟩ := y
          simp only [RT.v] at hla hra
          simp only [← Nat.add_assoc] at hc1 hc2
          have hkp : ∀ W, Below w.heap.size w W → (W.cell? ⟨g, off + m * 5, none⟩ = some (.int .i64 yk) ∧ W.cell? ⟨g, off + m * 5 + 1, none⟩ = some (.int .i64 yn) ∧ W.cell? ⟨g, off + m * 5 + 2, none⟩ = some (.string ys) ∧ W.cell? ⟨g, off + m * 5 + 3, none⟩ = some (.int .i64 ya) ∧ W.cell? ⟨g, off + m * 5 + 4, none⟩ = some (.int .i64 yf)) ∧
            (W.cell? ⟨g, off + k * 5, none⟩ = some (.int .i64 xk) ∧ W.cell? ⟨g, off + k * 5 + 1, none⟩ = some (.int .i64 xn) ∧ W.cell? ⟨g, off + k * 5 + 2, none⟩ = some (.string xs) ∧ W.cell? ⟨g, off + k * 5 + 3, none⟩ = some (.int .i64 xa) ∧ W.cell? ⟨g, off + k * 5 + 4, none⟩ = some (.int .i64 xf)) := fun W hbw =>
            ⟨⟨hc1 W hbw 0 (by omega), hc1 W hbw 1 (by omega), hc1 W hbw 2 (by omega), hc1 W hbw 3 (by omega), hc1 W hbw 4 (by omega)⟩, hc2 W hbw 0 (by omega), hc2 W hbw 1 (by omega), hc2 W hbw 2 (by omega), hc2 W hbw 3 (by omega), hc2 W hbw 4 (by omega)⟩
          have HKP := Lib.hid hkp
          have HLA := Lib.hid hla
          have HRA := Lib.hid hra
          have hmn : (m : Int) < (n : Int) := by omega
          have hm0 : (0 : Int) ≤ (m : Int) := by omega
          clear hkp hla hra hq hc1 hc2 hcl hgl hx2 hy2 hkr hmr
          by_cases hk0 : k = 0
          · have hsub : (k : Int) - 1 = -1 := by omega
            have hwm : IntKind.i64.wrap (-1) = -1 := by decide
            have hmx : max (-1 : Int) 0 = 0 := by decide
            have hn0 : (0 : Int) < (n : Int) := by omega
            have hn0' : 0 < n := by omega
            have hm0' : m = 0 := by omega
            subst hm0'
            simp only [Nat.zero_mul, Nat.add_zero] at HKP
            clear hm hk0 hm0
            go_wp2_with fail
            go_region_held3 (fun W => (W.cell? ⟨g, off, none⟩ = some (.int .i64 yk) ∧ W.cell? ⟨g, off + 1, none⟩ = some (.int .i64 yn) ∧ W.cell? ⟨g, off + 2, none⟩ = some (.string ys) ∧ W.cell? ⟨g, off + 3, none⟩ = some (.int .i64 ya) ∧ W.cell? ⟨g, off + 4, none⟩ = some (.int .i64 yf)) ∧
                        (W.cell? ⟨g, off + k * 5, none⟩ = some (.int .i64 xk) ∧ W.cell? ⟨g, off + k * 5 + 1, none⟩ = some (.int .i64 xn) ∧ W.cell? ⟨g, off + k * 5 + 2, none⟩ = some (.string xs) ∧ W.cell? ⟨g, off + k * 5 + 3, none⟩ = some (.int .i64 xa) ∧ W.cell? ⟨g, off + k * 5 + 4, none⟩ = some (.int .i64 xf)))
              (with_reducible refine HKP.out _ ?_; (repeat (first | with_reducible exact HB.out | with_reducible assumption | with_reducible apply belowD2)); done)
              (first | (go_at_call 15; (with_reducible refine (HLA.out _ (by repeat (first | with_reducible exact HB.out | with_reducible apply belowD2))).mono ?_); rintro e w' ⟨rfl, hb3⟩; have hb4 := below_le (B := w.heap.size) (show Below w.heap.size w _ from by repeat (first | with_reducible exact HB.out | with_reducible apply belowD2)) hb3 (show Below w.heap.size w _ from by repeat (first | with_reducible exact HB.out | with_reducible apply belowD2)).size))
            generalize w' = w8 at *
            have HB8 := Lib.hid hb4
            clear hb3 hb4
            go_wp2_with fail
            go_region_held3 (fun W => (W.cell? ⟨g, off, none⟩ = some (.int .i64 yk) ∧ W.cell? ⟨g, off + 1, none⟩ = some (.int .i64 yn) ∧ W.cell? ⟨g, off + 2, none⟩ = some (.string ys) ∧ W.cell? ⟨g, off + 3, none⟩ = some (.int .i64 ya) ∧ W.cell? ⟨g, off + 4, none⟩ = some (.int .i64 yf)) ∧
                        (W.cell? ⟨g, off + k * 5, none⟩ = some (.int .i64 xk) ∧ W.cell? ⟨g, off + k * 5 + 1, none⟩ = some (.int .i64 xn) ∧ W.cell? ⟨g, off + k * 5 + 2, none⟩ = some (.string xs) ∧ W.cell? ⟨g, off + k * 5 + 3, none⟩ = some (.int .i64 xa) ∧ W.cell? ⟨g, off + k * 5 + 4, none⟩ = some (.int .i64 xf)))
              (with_reducible refine HKP.out _ ?_; (repeat (first | with_reducible exact HB8.out | with_reducible assumption | with_reducible apply belowD2)); done)
              (first | (go_at_call 16; (with_reducible refine (HRA.out _ (by repeat (first | with_reducible exact HB8.out | with_reducible apply belowD2))).mono ?_); rintro e w' ⟨rfl, hb3⟩; have hb4 := below_le (B := w.heap.size) (show Below w.heap.size w _ from by repeat (first | with_reducible exact HB8.out | with_reducible apply belowD2)) hb3 (show Below w.heap.size w _ from by repeat (first | with_reducible exact HB8.out | with_reducible apply belowD2)).size))
            generalize w' = w9 at *
            have HB9 := Lib.hid hb4
            clear hb3 hb4
            cases q
            · go_wp2_with fail
              go_roundw
              case rel => exact ⟨k + 1, by omega, by go_num, HB9.out⟩
              case measure => simp [intOf]; omega
            · go_wp2_with fail
              go_roundw
              case rel => exact ⟨k + 1, by omega, by go_num, HB9.out⟩
              case measure => simp [intOf]; omega
          · have hsub : (k : Int) - 1 = (m : Int) := by omega
            have hwm : IntKind.i64.wrap (m : Int) = (m : Int) := IntWalk.i64_in _ (by omega)
            clear hm hk0
            go_wp2_with fail
            go_region_held3 (fun W => (W.cell? ⟨g, off + m * 5, none⟩ = some (.int .i64 yk) ∧ W.cell? ⟨g, off + m * 5 + 1, none⟩ = some (.int .i64 yn) ∧ W.cell? ⟨g, off + m * 5 + 2, none⟩ = some (.string ys) ∧ W.cell? ⟨g, off + m * 5 + 3, none⟩ = some (.int .i64 ya) ∧ W.cell? ⟨g, off + m * 5 + 4, none⟩ = some (.int .i64 yf)) ∧
                        (W.cell? ⟨g, off + k * 5, none⟩ = some (.int .i64 xk) ∧ W.cell? ⟨g, off + k * 5 + 1, none⟩ = some (.int .i64 xn) ∧ W.cell? ⟨g, off + k * 5 + 2, none⟩ = some (.string xs) ∧ W.cell? ⟨g, off + k * 5 + 3, none⟩ = some (.int .i64 xa) ∧ W.cell? ⟨g, off + k * 5 + 4, none⟩ = some (.int .i64 xf)))
              (with_reducible refine HKP.out _ ?_; (repeat (first | with_reducible exact HB.out | with_reducible assumption | with_reducible apply belowD2)); done)
              (first | (go_at_call 15; (with_reducible refine (HLA.out _ (by repeat (first | with_reducible exact HB.out | with_reducible apply belowD2))).mono ?_); rintro e w' ⟨rfl, hb3⟩; have hb4 := below_le (B := w.heap.size) (show Below w.heap.size w _ from by repeat (first | with_reducible exact HB.out | with_reducible apply belowD2)) hb3 (show Below w.heap.size w _ from by repeat (first | with_reducible exact HB.out | with_reducible apply belowD2)).size))
            generalize w' = w8 at *
            have HB8 := Lib.hid hb4
            clear hb3 hb4
            go_wp2_with fail
            go_region_held3 (fun W => (W.cell? ⟨g, off + m * 5, none⟩ = some (.int .i64 yk) ∧ W.cell? ⟨g, off + m * 5 + 1, none⟩ = some (.int .i64 yn) ∧ W.cell? ⟨g, off + m * 5 + 2, none⟩ = some (.string ys) ∧ W.cell? ⟨g, off + m * 5 + 3, none⟩ = some (.int .i64 ya) ∧ W.cell? ⟨g, off + m * 5 + 4, none⟩ = some (.int .i64 yf)) ∧
                        (W.cell? ⟨g, off + k * 5, none⟩ = some (.int .i64 xk) ∧ W.cell? ⟨g, off + k * 5 + 1, none⟩ = some (.int .i64 xn) ∧ W.cell? ⟨g, off + k * 5 + 2, none⟩ = some (.string xs) ∧ W.cell? ⟨g, off + k * 5 + 3, none⟩ = some (.int .i64 xa) ∧ W.cell? ⟨g, off + k * 5 + 4, none⟩ = some (.int .i64 xf)))
              (with_reducible refine HKP.out _ ?_; (repeat (first | with_reducible exact HB8.out | with_reducible assumption | with_reducible apply belowD2)); done)
              (first | (go_at_call 16; (with_reducible refine (HRA.out _ (by repeat (first | with_reducible exact HB8.out | with_reducible apply belowD2))).mono ?_); rintro e w' ⟨rfl, hb3⟩; have hb4 := below_le (B := w.heap.size) (show Below w.heap.size w _ from by repeat (first | with_reducible exact HB8.out | with_reducible apply belowD2)) hb3 (show Below w.heap.size w _ from by repeat (first | with_reducible exact HB8.out | with_reducible apply belowD2)).size))
            generalize w' = w9 at *
            have HB9 := Lib.hid hb4
            clear hb3 hb4
            cases q
            · go_wp2_with fail
              go_roundw
              case rel => exact ⟨k + 1, by omega, by go_num, HB9.out⟩
              case measure => simp [intOf]; omega
            · go_wp2_with fail
              go_roundw
              case rel => exact ⟨k + 1, by omega, by go_num, HB9.out⟩
              case measure => simp [intOf]; omega
        · have h100i : ¬ (k : Int) < 100 := by omega
          go_wp2_with fail
          go_ret
          exact ⟨rfl, HB.out⟩
      · have hkn : n = k := by omega
        subst hkn
        go_wp2_with fail
        go_ret
        exact ⟨rfl, HB.out⟩
  · rw [show decide (total [text] ≤ 20000) = false from by simpa using hdd]
    clear hdd
    go_wp2_with fail
    go_ret
    exact ⟨rfl, HB3.out⟩
end Go.Proofs.YtcjdacdggklifaaGreatDoor
