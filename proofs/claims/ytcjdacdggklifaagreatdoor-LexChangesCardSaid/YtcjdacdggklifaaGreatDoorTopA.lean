/- Merged: Few, RChg, Changes. -/
import Derived.Test.YtcjdacdggklifaaGreatDoorBoth0
import Derived.Test.YtcjdacdggklifaaGreatDoorChgA
import Derived.Test.YtcjdacdggklifaaGreatDoorRef9

/- Few tokens. -/
namespace Go.Proofs.YtcjdacdggklifaaGreatDoor
open Go.RowKit

def totS (rs : List RT) : Nat := (rs.map (·.s.size)).sum
theorem totS_take (rs : List RT) (k : Nat) (h : k < rs.length) : totS (rs.take (k + 1)) = totS (rs.take k) + (rs[k]).s.size := by
  unfold totS; rw [List.take_succ_eq_append_getElem h, List.map_append, List.sum_append]; simp
theorem totS_le (C : Nat) (rs : List RT) (h : ∀ t ∈ rs, t.s.size ≤ C) : ∀ k, totS (rs.take k) ≤ k * C := by
  intro k
  induction k with
  | zero => exact Nat.zero_le _
  | succ k ih =>
    rw [Nat.succ_mul]
    by_cases hk : k < rs.length
    · rw [totS_take rs k hk]; exact Nat.add_le_add ih (h _ (List.getElem_mem hk))
    · rw [List.take_of_length_le (by omega)]; rw [List.take_of_length_le (by omega)] at ih; exact Nat.le_trans ih (Nat.le_add_right _ _)
theorem totS_mem (rs : List RT) (t : RT) (h : t ∈ rs) : t.s.size ≤ totS rs := by
  unfold totS
  induction rs with
  | nil => cases h
  | cons a l ih =>
    rw [List.map_cons, List.sum_cons]
    rcases List.mem_cons.1 h with rfl | h
    · omega
    · have := ih h; omega
def FewR (rs : List RT) (n : Nat) (w : World) (e : Ending) (w' : World) : Prop := ∃ b, e = .returned (.bool b) ∧ (b = true → n ≤ 2000 ∧ totS rs ≤ 20000) ∧ w.grownBy w' none
set_option maxRecDepth 100000 in
set_option maxHeartbeats 1000000 in
theorem few_any (rs : List RT) (n : Nat) (hn : rs.length = n) (hn2 : n ≤ 9223372036854775807) (hs : ∀ t ∈ rs, t.s.size ≤ 140737488355328) (oa : Option Addr) (cap : Nat) (w : World) (htok : TokV w oa rs) :
    Calls Tryz.prog 7 #[.slice oa n cap] w (FewR rs n w) := by
  have H := Lib.hid (And.intro hn (And.intro hs htok))
  clear hn hs htok
  go_enter Tryz.func7, Tryz.ntmps7
  go_wp2_with fail
  go_loopw [3, 8] (fun v i wr => ∃ (k : Nat) (z : Int), k ≤ n ∧ i = .int .i64 k ∧ v = .int .i64 z ∧ w.grownBy wr none ∧ (n ≤ 2000 → z = totS (rs.take k))) (fun _ i _ => n - (intOf i).toNat)
  case atStart => exact ⟨0, 0, by omega, rfl, rfl, grownZ _ _, fun _ => rfl⟩
  case round =>
    obtain ⟨k, z, hk, rfl, rfl, hg, hz⟩ := hrel
    have HG := Lib.hid (And.intro hg hz)
    clear hg hz
    by_cases hlt : k < n
    · have hka : k < rs.length := by have := H.out.1; omega
      obtain ⟨ga, fa, rfl, hla, hca⟩ := H.out.2.2 (by omega)
      have e1 : ∀ j, j < 5 → wr.cell? ⟨ga, fa + (k * 5 + j), none⟩ = (rs[k]).cells[j]? := fun j hj => (World.cell?_of_block (w := w) (a := ⟨ga, fa + (k * 5 + j), none⟩) (HG.out.1.block ga hla (by simp))).trans (hca k hka j hj)
      have hxs := H.out.2.1 _ (List.getElem_mem hka)
      have hst := totS_take rs k hka
      have hle := totS_le 140737488355328 rs H.out.2.1 k
      have HST := Lib.hid (And.intro hst (And.intro hle hxs))
      clear hst hle hca
      generalize rs[k] = x at *
      have a0 := e1 0 (by omega)
      have a1 := e1 1 (by omega)
      have a2 := e1 2 (by omega)
      have a3 := e1 3 (by omega)
      have a4 := e1 4 (by omega)
      simp only [RT.cells, List.getElem?_cons_zero, List.getElem?_cons_succ, Nat.add_zero, ← Nat.add_assoc] at a0 a1 a2 a3 a4
      clear e1 hka
      go_wp2_with fail
      go_roundw
      case rel =>
        refine ⟨k + 1, _, by omega, by go_num, rfl, grownA _ HG.out.1, fun h2 => ?_⟩
        have h3 := HG.out.2 h2
        have h4 : k * 140737488355328 ≤ 2000 * 140737488355328 := Nat.mul_le_mul (by omega) (Nat.le_refl _)
        have h5 := HST.out
        rw [h5.1, h3, show (totS (List.take k rs) : Int) + (x.s.size : Int) = ((totS (List.take k rs) + x.s.size : Nat) : Int) from by omega]
        exact IntWalk.wrap64_in ((totS (List.take k rs) + x.s.size : Nat) : Int) (by have := HST.out; omega)
      case measure => simp [intOf]; omega
    · have hkn : n = k := by omega
      subst hkn
      have hz := HG.out.2
      rw [List.take_of_length_le (by have := H.out.1; omega)] at hz
      have HZ := Lib.hid hz
      clear hz
      by_cases h2 : n ≤ 2000
      · have h2' : (n : Int) ≤ 2000 := by omega
        go_wp2_with fail
        go_ret
        exact ⟨_, rfl, fun hb => ⟨h2, by have := HZ.out h2; have := of_decide_eq_true hb; omega⟩, HG.out.1⟩
      · have h2' : ¬ (n : Int) ≤ 2000 := by omega
        go_wp2_with fail
        go_ret
        exact ⟨false, rfl, (fun h => by cases h), HG.out.1⟩
end Go.Proofs.YtcjdacdggklifaaGreatDoor

/- Edits: the reference's Change. -/
namespace Go.Proofs.YtcjdacdggklifaaGreatDoor
open Go.RowKit

set_option maxRecDepth 100000 in
set_option maxHeartbeats 2000000 in
theorem rChange_any (text : ByteArray) (rs : List RT) (n : Nat) (hn : rs.length = n) (hn2 : n ≤ 20000) (oa : Option Addr) (cap : Nat) (pe c : Int) (S : ByteArray) (hs : text.size + S.size ≤ 100000)
    (hpe : -9223372036854775808 ≤ pe ∧ pe ≤ 9223372036854775807) (hc : -9223372036854775808 ≤ c ∧ c ≤ 9223372036854775807) (w : World) (htok : TokV w oa rs) :
    Calls Tryz.prog 19 #[.string text, .slice oa n cap, .agg #[.int .i64 pe, .int .i64 c, .string S]] w (ChR text rs pe c S w) := by
  obtain ⟨P, hP⟩ : ∃ P, P = ChR text rs pe c S w := ⟨_, rfl⟩
  rw [← hP]
  have H := Lib.hid (And.intro hP (And.intro hn htok))
  clear hP hn htok
  go_enter Tryz.func19, Tryz.ntmps19
  go_wp2_with fail
  have hbx : (w.alloc (.cells #[.int .i64 pe, .int .i64 c, .string S] 38)).heap[w.heap.size]? = some (.cells #[.int .i64 pe, .int .i64 c, .string S] 38) := heap_alloc_new w _
  have hb1 : Below w.heap.size w (w.alloc (.cells #[.int .i64 pe, .int .i64 c, .string S] 38)) := (Below.refl _ _).alloc (Nat.le_refl _) _
  have hz1 : (w.alloc (.cells #[.int .i64 pe, .int .i64 c, .string S] 38)).heap.size = w.heap.size + 1 := by simp
  generalize (w.alloc (.cells #[.int .i64 pe, .int .i64 c, .string S] 38)) = w1 at *
  refine (rTokens_any text w1).mono ?_
  rintro e w2 ⟨hb2, hcs⟩
  have hbw2 := below_le hb1 hb2 (by omega)
  have hbx2 := (hb2.block w.heap.size (by omega)).trans hbx
  have HB2 := Lib.hid (And.intro hbw2 (And.intro hbx2 (And.intro hb2.size hz1)))
  clear hbx hb1 hbw2 hbx2
  rcases hcs with ⟨hbig, _⟩ | ⟨_, hcs⟩
  · omega
  cases hT : Lx.T (bts text) 0 with
  | bad x =>
    rw [hT] at hcs
    simp only at hcs
    subst hcs
    have hno : P (four ⟨#[]⟩ (.slice none 0 0) 0 1) w2 := by
      rw [H.out.1]
      refine ⟨HB2.out.1, .inl ⟨?_, rfl⟩⟩
      rintro ⟨k, _, _, h, _⟩
      rw [hT] at h; cases h
    have HNO := Lib.hid hno
    clear hT hno hb2 hz1
    unfold three
    go_wp2_with fail
    (try simp only [Exit.inBlock, Exit.then]); refine bodyPost_ret (results_four rfl _ _ _) rfl ?_
    exact HNO.out
  | good known =>
    rw [hT] at hcs
    simp only at hcs
    by_cases hkn : 20000 < known.length
    · rw [if_pos hkn] at hcs
      subst hcs
      have hno : P (four ⟨#[]⟩ (.slice none 0 0) 0 1) w2 := by
        rw [H.out.1]
        refine ⟨HB2.out.1, .inl ⟨?_, rfl⟩⟩
        rintro ⟨k, _, _, h, h2, _⟩
        rw [hT] at h; cases h; omega
      have HNO := Lib.hid hno
      clear hT hno hb2 hz1 hkn
      unfold three
      go_wp2_with fail
      (try simp only [Exit.inBlock, Exit.then]); refine bodyPost_ret (results_four rfl _ _ _) rfl ?_
      exact HNO.out
    · rw [if_neg hkn] at hcs
      obtain ⟨v, rfl, hown⟩ := hcs
      obtain ⟨ka, kc, rfl, hkc⟩ := owns_form hown
      have hkt : TokV w2 ka (known.map rt) := tokV_owned hown
      have hrt : TokV w2 oa rs := H.out.2.2.below HB2.out.1
      obtain ⟨m, hm⟩ : ∃ m, known.length = m := ⟨_, rfl⟩
      rw [hm] at hkc hkn ⊢
      have HEQ := Lib.hid (sameG_any rs (known.map rt) oa ka cap kc n m w2 H.out.2.1 (by rw [List.length_map]; exact hm) hrt hkt (by omega))
      have HKN := Lib.hid (And.intro hT hm)
      have e0 : w2.cell? ⟨w.heap.size, 0, none⟩ = some (.int .i64 pe) := by rw [(cells_of HB2.out.2.1 0).1]; rfl
      clear hown hkt hrt hT hm hb2 hz1
      unfold three
      go_wp2_with fail
      refine HEQ.out.mono ?_
      rintro e w3 ⟨rfl, hg3⟩
      have hbw3 := below_grown HB2.out.1 hg3
      have hbx3 := (hg3.block w.heap.size (by have := HB2.out.2.2; omega) (by simp)).trans HB2.out.2.1
      have HB3 := Lib.hid (And.intro hbw3 hbx3)
      clear e0
      have c0 : w3.cell? ⟨w.heap.size, 0, none⟩ = some (.int .i64 pe) := by rw [(cells_of hbx3 0).1]; rfl
      have c1 : w3.cell? ⟨w.heap.size, 1, none⟩ = some (.int .i64 c) := by rw [(cells_of hbx3 1).1]; rfl
      have c2 : w3.cell? ⟨w.heap.size, 2, none⟩ = some (.string S) := by rw [(cells_of hbx3 2).1]; rfl
      clear hg3 hbw3 hbx3 HEQ
      cases hq : eqs rs (known.map rt)
      · have hno : P (four ⟨#[]⟩ (.slice none 0 0) 0 1) w3 := by
          rw [H.out.1]
          refine ⟨HB3.out.1, .inl ⟨?_, rfl⟩⟩
          rintro ⟨k, _, _, h, _, h3, _⟩
          rw [HKN.out.1] at h; cases h
          rw [(eqs_iff _ _).2 h3] at hq; cases hq
        have HNO := Lib.hid hno
        clear hno hq
        go_wp2_with fail
        (try simp only [Exit.inBlock, Exit.then]); refine bodyPost_ret (results_four rfl _ _ _) rfl ?_
        exact HNO.out
      · have heq := (eqs_iff _ _).1 hq
        have HEQ := Lib.hid heq
        have hno : (¬ (0 ≤ pe ∧ 0 ≤ c ∧ pe ≤ (text.size : Int) ∧ c ≤ (text.size : Int) - pe)) → P (four ⟨#[]⟩ (.slice none 0 0) 0 1) w3 := by
          intro hfit
          rw [H.out.1]
          refine ⟨HB3.out.1, .inl ⟨?_, rfl⟩⟩
          rintro ⟨k, pn, cn, _, _, _, h1, h2, h3⟩
          exact hfit (by omega)
        have HNO := Lib.hid hno
        clear heq hq hno
        by_cases g1 : pe < 0
        · have hz := HNO.out (by omega)
          have HZ := Lib.hid hz
          clear hz
          go_wp2_with fail
          (try simp only [Exit.inBlock, Exit.then]); refine bodyPost_ret (results_four rfl _ _ _) rfl ?_
          exact HZ.out
        obtain ⟨pn, rfl⟩ : ∃ pn : Nat, pe = pn := ⟨pe.toNat, by omega⟩
        by_cases g2 : c < 0
        · have hz := HNO.out (by omega)
          have HZ := Lib.hid hz
          clear hz
          go_wp2_with fail
          (try simp only [Exit.inBlock, Exit.then]); refine bodyPost_ret (results_four rfl _ _ _) rfl ?_
          exact HZ.out
        obtain ⟨cn, rfl⟩ : ∃ cn : Nat, c = cn := ⟨c.toNat, by omega⟩
        by_cases g3 : (text.size : Int) < (pn : Int)
        · have hz := HNO.out (by omega)
          have HZ := Lib.hid hz
          clear hz
          go_wp2_with fail
          (try simp only [Exit.inBlock, Exit.then]); refine bodyPost_ret (results_four rfl _ _ _) rfl ?_
          exact HZ.out
        obtain ⟨r, hr⟩ : ∃ r, text.size - pn = r := ⟨_, rfl⟩
        have r1 : (text.size : Int) - (pn : Int) = (r : Int) := by omega
        have r2 : IntKind.i64.wrap (r : Int) = (r : Int) := IntWalk.i64_in _ (by omega)
        by_cases g4 : (r : Int) < (cn : Int)
        · have hz := HNO.out (by omega)
          have HZ := Lib.hid hz
          clear hz
          go_wp2_with fail
          (try simp only [Exit.inBlock, Exit.then]); refine bodyPost_ret (results_four rfl _ _ _) rfl ?_
          exact HZ.out
        obtain ⟨q, hqq⟩ : ∃ q, pn + cn = q := ⟨_, rfl⟩
        have i1 : (pn : Int) + (cn : Int) = (q : Int) := by omega
        have i2 : (q : Int) ≤ (text.size : Int) := by omega
        have i3 : (0 : Int) ≤ (q : Int) := by omega
        have i4 : (0 : Int) ≤ (pn : Int) := by omega
        have i5 : (pn : Int) ≤ (text.size : Int) := by omega
        have i6 : IntKind.i64.wrap (q : Int) = (q : Int) := IntWalk.i64_in _ (by omega)
        have hz1 : (text.extract 0 pn).size = pn := by simp; omega
        have hz2 : (text.extract q text.size).size = text.size - q := by simp
        have hch : bts (text.extract 0 pn ++ S ++ text.extract q text.size) = edited (bts text) pn cn (bts S) := by
          unfold edited
          rw [bts_append, bts_append, bts_extract, bts_extract, hqq, List.drop_zero, Nat.sub_zero, List.take_of_length_le (l := (bts text).drop q) (by rw [List.length_drop, bts_length]; omega)]
        have i7 : ¬ 9223372036854775807 < (text.extract 0 pn).size + S.size := by omega
        have i8 : ¬ 9223372036854775807 < (text.extract 0 pn).size + S.size + (text.extract q text.size).size := by omega
        have hok : ChOk text rs pn cn := ⟨known, pn, cn, HKN.out.1, by have := HKN.out.2; omega, HEQ.out, rfl, rfl, by omega⟩
        have hct : chT text pn cn S = text.extract 0 pn ++ S ++ text.extract q text.size := chT_is hch
        have hfinal : ∀ W5, Below w3.heap.size w3 W5 → ∀ e w', TokR (text.extract 0 pn ++ S ++ text.extract q text.size) W5 e w' → ∃ v a er, e = three v a er ∧ P (four (text.extract 0 pn ++ S ++ text.extract q text.size) v a er) w' := by
          intro W5 hb5 e w' ht
          have hb5 := below_two HB3.out.1 hb5
          obtain ⟨v, a, er, rfl⟩ := tokR_three ht
          refine ⟨v, a, er, rfl, ?_⟩
          rw [H.out.1]
          refine ⟨below_le hb5 ht.1 hb5.size, .inr ⟨hok, v, a, er, by rw [hct], ?_⟩⟩
          rw [hct]
          exact tokR_le ht hb5
        have HRC := Lib.hid hfinal
        clear hch hok hqq hz1 hz2 hct hfinal hr HNO
        go_wp2_with fail
        go_quiet (fail)
        obtain ⟨W5, hW5⟩ : ∃ W, W = w3.drewN nq := ⟨_, rfl⟩
        rw [← hW5]
        have hb5 : Below w3.heap.size w3 W5 := by subst hW5; exact belowN3 _ (Below.refl _ _)
        have HR5 := Lib.hid (HRC.out W5 hb5)
        clear hW5 hb5 HRC c0 c1 c2
        generalize (text.extract 0 pn ++ S ++ text.extract q text.size) = ch at *
        go_wp2_with fail
        refine (rTokens_any ch W5).mono ?_
        intro e w6 ht
        obtain ⟨v, a, er, rfl, hp⟩ := HR5.out e w6 ht
        have HPP := Lib.hid hp
        clear ht hp
        unfold three
        go_wp2_with fail
        (try simp only [Exit.inBlock, Exit.then])
        refine bodyPost_ret (results_four rfl _ _ _) rfl ?_
        exact HPP.out
end Go.Proofs.YtcjdacdggklifaaGreatDoor

/- LexChanges: the walk. -/
namespace Go.Proofs.YtcjdacdggklifaaGreatDoor
open Go.RowKit

theorem chG_of {ch : ByteArray} {w w' : World} {v : Value} {a er : Int} (hz : ch.size ≤ 20000) (h : TokR ch w (three v a er) w') : ChG ch (four ch v a er) w' := by
  obtain ⟨hb2, h⟩ := h
  rcases h with ⟨h5, _⟩ | ⟨_, h5⟩
  · omega
  cases hT2 : Lx.T (bts ch) 0 with
  | bad x =>
    rw [hT2] at h5
    simp only [three, Ending.returned.injEq, Value.tuple.injEq, Array.mk.injEq, List.cons.injEq, and_true, Value.int.injEq, true_and] at h5
    obtain ⟨rfl, h6, h7⟩ := h5
    exact .inl ⟨x, hT2, by rw [h6, h7]⟩
  | good l' =>
    rw [hT2] at h5
    have hcn := T_count _ _ _ hT2
    rw [bts_length] at hcn
    simp only at h5
    rw [if_neg (by omega)] at h5
    obtain ⟨v', he, ho⟩ := h5
    obtain ⟨m0, mcap, rfl, hmc⟩ := owns_form ho
    simp only [three, Ending.returned.injEq, Value.tuple.injEq, Array.mk.injEq, List.cons.injEq, and_true, Value.int.injEq, true_and] at he
    obtain ⟨rfl, h6, h7⟩ := he
    exact .inr ⟨l', m0, l'.length, mcap, hT2, rfl, hcn, by rw [h6, h7], hmc, tokV_owned ho, owned_lt ho⟩
/-- What a change hands back does not hang on where it is made. -/
theorem chR_form (text : ByteArray) (rs : List RT) (pe c : Int) (S : ByteArray) (hs : text.size + S.size ≤ 20000) :
    ∃ (s : ByteArray) (rows : List RT) (n p er : Nat), rows.length = n ∧ ∀ w e w', ChR text rs pe c S w e w' → Below w.heap.size w w' ∧ n ≤ 20000 ∧ ∃ o cap, e = four s (.slice o n cap) p er ∧ n ≤ cap ∧ TokV w' o rows := by
  by_cases hok : ChOk text rs pe c
  · have hch : (chT text pe c S).size ≤ 20000 := by
      obtain ⟨l, pn, cn, _, _, _, rfl, rfl, h⟩ := hok
      rw [chT_size text pn cn S h]; omega
    obtain ⟨rows, n, p, er, h1, h2⟩ := chG_form (chT text pe c S)
    refine ⟨chT text pe c S, rows, n, p, er, h1, fun w e w' ⟨hb, h⟩ => ⟨hb, ?_⟩⟩
    rcases h with ⟨h, _⟩ | ⟨_, v, a, er', rfl, ht⟩
    · exact absurd hok h
    · obtain ⟨h3, h4⟩ := h2 _ _ (chG_of hch ht)
      exact ⟨by omega, h4⟩
  · refine ⟨⟨#[]⟩, [], 0, 0, 1, rfl, fun w e w' ⟨hb, h⟩ => ⟨hb, by omega, ?_⟩⟩
    rcases h with ⟨_, rfl⟩ | ⟨h, _⟩
    · exact ⟨none, 0, rfl, Nat.le_refl _, fun h => absurd rfl h⟩
    · exact absurd h hok
/-- A list of tokens that a change can be handed. -/
def Row (w : World) (v : Value) (rs : List RT) : Prop := ∃ o n cap, v = .slice o n cap ∧ rs.length = n ∧ n ≤ 20000 ∧ n ≤ cap ∧ TokV w o rs ∧ ∀ x, o = some x → x.block < w.heap.size
theorem rTokens_o (text : ByteArray) (hs : text.size ≤ 20000) (w : World) : Calls Tryz.prog 17 #[.string text] w fun e w' => Below w.heap.size w w' ∧ ∃ v a er rs, e = three v a er ∧ Row w' v rs := by
  refine (rTokens_any text w).mono fun e w' ⟨hb, h⟩ => ⟨hb, ?_⟩
  rcases h with ⟨h1, _⟩ | ⟨_, h⟩
  · omega
  · cases hT : Lx.T (bts text) 0 with
    | bad a => rw [hT] at h; exact ⟨_, _, _, [], h, none, 0, 0, rfl, rfl, by omega, by omega, fun h => absurd rfl h, fun x h => by cases h⟩
    | good l =>
      rw [hT] at h
      have hcn := T_count _ _ _ hT
      rw [bts_length] at hcn
      simp only at h
      rw [if_neg (by omega)] at h
      obtain ⟨v', he, ho⟩ := h
      obtain ⟨m0, mcap, rfl, hmc⟩ := owns_form ho
      exact ⟨_, _, _, l.map rt, he, m0, l.length, mcap, rfl, List.length_map .., by omega, hmc, tokV_owned ho, owned_lt ho⟩
theorem Row.below {w w' : World} {v : Value} {rs : List RT} (h : Row w v rs) (hb : Below w.heap.size w w') : Row w' v rs := by
  obtain ⟨o, n, cap, h1, h2, h3, h4, h5, h6⟩ := h
  exact ⟨o, n, cap, h1, h2, h3, h4, h5.below hb, fun x hx => Nat.lt_of_lt_of_le (h6 x hx) hb.size⟩

set_option maxRecDepth 100000 in
set_option maxHeartbeats 2000000 in
theorem LexChanges_any (a : ByteArray) (rs : List RT) (n : Nat) (hn : rs.length = n) (hn2 : n ≤ 9223372036854775807) (hrs : ∀ t ∈ rs, t.s.size ≤ 140737488355328) (oa : Option Addr) (cap : Nat) (hcap : n ≤ cap) (pe c : Int) (S : ByteArray) (ha : a.size ≤ 140737488355328) (hS : S.size ≤ 140737488355328)
    (hpe : -9223372036854775808 ≤ pe ∧ pe ≤ 9223372036854775807) (hc : -9223372036854775808 ≤ c ∧ c ≤ 9223372036854775807) (w : World) (htok : TokV w oa rs) (haw : ∀ x, oa = some x → x.block < w.heap.size) :
    Calls Tryz.prog 4 #[.string a, .slice oa n cap, .agg #[.int .i64 pe, .int .i64 c, .string S]] w fun e w' => e = .returned (.bool true) ∧ Below w.heap.size w w' := by
  go_enter Tryz.func4, Tryz.ntmps4
  go_wp2_with fail
  obtain ⟨W0, hW0⟩ : ∃ W0, W0 = w.alloc (.cells #[.int .i64 pe, .int .i64 c, .string S] 38) := ⟨_, rfl⟩
  rw [← hW0]
  have hB0 : Below w.heap.size w W0 := by subst hW0; exact (Below.refl _ _).alloc (Nat.le_refl _) _
  have hx0 : W0.heap[w.heap.size]? = some (.cells #[.int .i64 pe, .int .i64 c, .string S] 38) := by
    subst hW0; exact heap_alloc_new w _
  have hz0 : W0.heap.size = w.heap.size + 1 := by subst hW0; simp
  have hcs : ∀ W, Below W0.heap.size W0 W → W.cell? ⟨w.heap.size, 0, none⟩ = some (.int .i64 pe) ∧ W.cell? ⟨w.heap.size, 1, none⟩ = some (.int .i64 c) ∧ W.cell? ⟨w.heap.size, 2, none⟩ = some (.string S) := fun W hb => by
    have h0 := (hb.block w.heap.size (by omega)).trans hx0
    exact ⟨by rw [(cells_of h0 0).1]; rfl, by rw [(cells_of h0 1).1]; rfl, by rw [(cells_of h0 2).1]; rfl⟩
  have HC := Lib.hid hcs
  have hrow : n ≤ 2000 → ∀ W, Below W0.heap.size W0 W → Row W (.slice oa n cap) rs := fun h W hb => ⟨oa, n, cap, rfl, hn, by omega, hcap, htok.below (below_le hB0 hb (by omega)), fun x hx => by have := haw x hx; have := hb.size; omega⟩
  have htv : ∀ W, Below W0.heap.size W0 W → TokV W oa rs := fun W hb => htok.below (below_le hB0 hb (by omega))
  have HR := Lib.hid (And.intro hrow htv)
  have HW := Lib.hid (And.intro hB0 hz0)
  clear hW0 hB0 hx0 hz0 hcs hrow htok haw htv
  generalize hbz : w.heap.size = bz at *
  have hend : ∀ W, Below W0.heap.size W0 W → Below w.heap.size w W := fun W h => by rw [hbz]; exact below_le HW.out.1 h (by have := HW.out.2; omega)
  have HE := Lib.hid hend
  clear hend hbz
  refine (sane_any _).mono ?_
  rintro e w1 ⟨rfl, hb1⟩
  have e2 := (HC.out w1 hb1).2.2
  have hsh := short_any [a, S] 2 rfl (by omega) (by intro s hs; simp only [List.mem_cons, List.not_mem_nil, or_false] at hs; rcases hs with rfl | rfl <;> assumption) w1.heap.size 2 9 (w1.alloc (.cells #[.string a, .string S] 9)) (heap_alloc_new w1 _)
  have hb2 : Below W0.heap.size W0 (w1.alloc (.cells #[.string a, .string S] 9)) := hb1.alloc hb1.size _
  have HSH := Lib.hid hsh
  have HB2 := Lib.hid hb2
  have HI := Lib.hid (And.intro (And.intro hpe hc) (And.intro hn (And.intro hn2 (And.intro hrs hcap))))
  clear hb1 hsh hb2 ha hS hpe hc hn hn2 hrs hcap
  go_wp2_with fail
  refine HSH.out.mono ?_
  rintro e w' ⟨rfl, rfl⟩
  clear e2
  generalize (w1.alloc (.cells #[.string a, .string S] 9)) = w2 at *
  clear HSH
  by_cases hdd : total [a, S] ≤ 20000
  · rw [show decide (total [a, S] ≤ 20000) = true from by simpa using hdd]
    have hsz : a.size + S.size ≤ 20000 := by simp [total] at hdd; omega
    clear hdd
    have HFW := Lib.hid (few_any rs n HI.out.2.1 HI.out.2.2.1 HI.out.2.2.2.1 oa cap w2 (HR.out.2 _ HB2.out))
    go_wp2_with fail
    refine HFW.out.mono ?_
    rintro e w3 ⟨b, rfl, hb, hg3⟩
    have HB3 := Lib.hid (below_grown HB2.out hg3)
    clear hg3 HFW
    cases b with
    | false =>
      clear hb
      go_wp2_with fail
      go_ret
      exact ⟨rfl, HE.out _ HB3.out⟩
    | true =>
    have hfew := (hb rfl).1
    have HRW := Lib.hid (HR.out.1 hfew)
    clear hb hfew
    have HTK := Lib.hid (rTokens_o a (by omega) w3)
    go_wp2_with fail
    refine HTK.out.mono ?_
    rintro e w4 ⟨hb4, v, p, er, ro, rfl, hro⟩
    have HB4 := Lib.hid (below_le HB3.out hb4 HB3.out.size)
    clear hb4 HTK
    have HRO := Lib.hid (fun W (hb : Below w4.heap.size w4 W) => hro.below hb)
    obtain ⟨oo, no, co, rfl, hro⟩ := hro
    clear hro
    obtain ⟨W5, hW5⟩ : ∃ W5, W5 = w4.alloc (.cells #[.slice oa n cap, .slice oo no co] 22) := ⟨_, rfl⟩
    have hb5 : Below w4.heap.size w4 W5 := by subst hW5; exact (Below.refl _ _).alloc (Nat.le_refl _) _
    have hx5 : W5.heap[w4.heap.size]? = some (.cells #[.slice oa n cap, .slice oo no co] 22) := by subst hW5; exact heap_alloc_new w4 _
    have hz5 : W5.heap.size = w4.heap.size + 1 := by subst hW5; simp
    have hB5 := below_two HB4.out hb5
    have hx : ∀ k, k < 2 → ∃ ox nx cx rx, (∀ W, Below W5.heap.size W5 W → W.cell? ⟨w4.heap.size, k, none⟩ = some (.slice ox nx cx)) ∧ ∀ W, Below W5.heap.size W5 W → Row W (.slice ox nx cx) rx := by
      intro k hk
      have hcell : ∀ W, Below W5.heap.size W5 W → W.cell? ⟨w4.heap.size, k, none⟩ = [Value.slice oa n cap, .slice oo no co][k]? := fun W hb => by
        have h0 := (hb.block w4.heap.size (by omega)).trans hx5
        rw [(cells_of h0 k).1, List.getElem?_toArray]
      match k, hk with
      | 0, _ => exact ⟨oa, n, cap, rs, hcell, fun W hb => HRW.out _ (below_two hB5 hb)⟩
      | 1, _ => exact ⟨oo, no, co, ro, hcell, fun W hb => HRO.out _ (below_two hb5 hb)⟩
    have HX := Lib.hid hx
    have HB5 := Lib.hid hB5
    clear hb5 hx5 hz5 hB5 hx
    unfold three
    go_wp2_with fail
    rw [← hW5]
    clear hW5
    generalize w4.heap.size = gz at *
    go_loopw [43] (fun v wr => ∃ k : Nat, k ≤ 2 ∧ v = .int .i64 k ∧ Below W5.heap.size W5 wr) (fun v _ => 2 - (intOf v).toNat)
    case atStart => exact ⟨0, by omega, rfl, Below.refl _ _⟩
    case round =>
      obtain ⟨k, hk, rfl, hb⟩ := hrel
      have HB := Lib.hid hb
      have HBW := Lib.hid (below_two HB5.out hb)
      clear hb
      by_cases hlt : k < 2
      · obtain ⟨ox, nx, cx, rx, h1, h2⟩ := HX.out k hlt
        have a0 := h1 wr HB.out
        have hrx := h2 wr HB.out
        have HR2 := Lib.hid h2
        clear h1 h2
        have e0 := (HC.out wr HBW.out).1
        have e1 := (HC.out wr HBW.out).2.1
        have e2 := (HC.out wr HBW.out).2.2
        obtain ⟨s, rows, m, p2, er2, hm, hform⟩ := chR_form a rx pe c S hsz
        have HF := Lib.hid (And.intro hm hform)
        obtain ⟨o', n', cap', hv, q1, q2, q3, q4, q5⟩ := hrx
        simp only [Value.slice.injEq] at hv
        obtain ⟨rfl, rfl, rfl⟩ := hv
        have HCH := Lib.hid (Change_any a rx nx q1 q2 ox cx q3 pe c S (by omega) HI.out.1.1 HI.out.1.2 wr q4 q5)
        have hnx : (nx : Int) ≤ 20000 := by omega
        clear q1 q2 q3 q4 q5 hm hform
        go_wp2_with fail
        refine HCH.out.mono ?_
        rintro e w6 h6
        obtain ⟨hb6, hm2, o6, c6, rfl, hc6, ht6⟩ := HF.out.2 _ _ _ h6
        have HB6 := Lib.hid (And.intro (below_two HBW.out hb6) (And.intro (below_two HB.out hb6) (And.intro ht6 hm2)))
        clear h6 hb6 ht6 hm2 HCH e0 e1 e2 a0
        have e0 := (HC.out w6 HB6.out.1).1
        have e1 := (HC.out w6 HB6.out.1).2.1
        have e2 := (HC.out w6 HB6.out.1).2.2
        obtain ⟨o', n', cap', hv, q1, q2, q3, q4, q5⟩ := HR2.out w6 HB6.out.2.1
        simp only [Value.slice.injEq] at hv
        obtain ⟨rfl, rfl, rfl⟩ := hv
        have HCH := Lib.hid (rChange_any a rx nx q1 q2 ox cx pe c S (by omega) HI.out.1.1 HI.out.1.2 w6 q4)
        clear q1 q2 q3 q4 q5
        unfold four
        go_wp2_with fail
        refine HCH.out.mono ?_
        rintro e w7 h7
        obtain ⟨hb7, _, o7, c7, rfl, hc7, ht7⟩ := HF.out.2 _ _ _ h7
        have hsm := sameG_any rows rows o6 o7 c6 c7 m m w7 HF.out.1 HF.out.1 (HB6.out.2.2.1.below hb7) ht7 (by have := HB6.out.2.2.2; omega)
        rw [(eqs_iff _ _).2 rfl] at hsm
        have HSM := Lib.hid hsm
        have HB7 := Lib.hid (below_two HB6.out.2.1 hb7)
        clear h7 hb7 ht7 hsm HCH e0 e1 e2
        unfold four
        go_wp2_with fail
        refine HSM.out.mono ?_
        rintro e w8 ⟨rfl, hg8⟩
        have HB8 := Lib.hid (below_grown HB7.out hg8)
        clear hg8
        go_wp2_with fail
        go_roundw
        case rel => exact ⟨k + 1, by omega, by go_num, HB8.out⟩
        case measure => simp [intOf]; omega
      · have hkn : k = 2 := by omega
        subst hkn
        go_wp2_with fail
        go_ret
        exact ⟨rfl, HE.out _ HBW.out⟩
  · rw [show decide (total [a, S] ≤ 20000) = false from by simpa using hdd]
    clear hdd
    go_wp2_with fail
    go_ret
    exact ⟨rfl, HE.out _ HB2.out⟩
end Go.Proofs.YtcjdacdggklifaaGreatDoor
