/- The reference: Tokens. -/
import Derived.Test.YtcjdacdggklifaaGreatDoorRef8
namespace Go.Proofs.YtcjdacdggklifaaGreatDoor
open Go.RowKit

set_option maxRecDepth 100000 in
set_option maxHeartbeats 2000000 in
theorem rTokens_any (text : ByteArray) (w : World) : Calls Tryz.prog 17 #[.string text] w (TokR text w) := by
  obtain ⟨i0, hi0, hz0, hz1, hz2⟩ := info_parts info31
  by_cases hb : 100000 < text.size
  · have hb2 : (100000 : Int) < (text.size : Int) := by omega
    go_enter Tryz.func17, Tryz.ntmps17
    go_wp2_with fail
    go_ret3
    exact ⟨Below.refl _ _, .inl ⟨hb, rfl⟩⟩
  · have hb2 : (text.size : Int) ≤ (100000 : Int) := by omega
    obtain ⟨P, hP⟩ : ∃ P, P = TokR text w := ⟨_, rfl⟩
    rw [← hP]
    have HP := Lib.hid hP
    clear hP
    go_enter Tryz.func17, Tryz.ntmps17
    go_wp2_with fail
    go_loopw [5, 6] (fun v i wr => ∃ (x : Nat) (ts : List Lx.Tok), x ≤ text.size ∧ i = .int .i64 x ∧ wr.ownsRow w.heap.size 35 5 v ts.length (tokCs ts) ∧ Below w.heap.size w wr ∧ ts.length ≤ x ∧ Lx.T (bts text) 0 = (Lx.T ((bts text).drop x) x).pre ts) (fun _ i _ => text.size - (intOf i).toNat)
    case atStart => exact ⟨0, [], by omega, rfl, World.ownsRow_made w #[] 0 (Nat.le_refl _) (Nat.zero_le _) (by simp), (Below.refl _ _).alloc (Nat.le_refl _) _, Nat.le_refl _, by rw [Lx.Res.pre_nil]; rfl⟩
    case round =>
      obtain ⟨x, ts, hx, rfl, hown, hbl, htx, hT⟩ := hrel
      have HSK := Lib.hid (rSkip_any text x hx (by omega) wr)
      obtain ⟨a0, cap0, rfl, hcap⟩ := owns_form hown
      have HO := Lib.hid (And.intro hown (And.intro hbl (And.intro htx hT)))
      clear hown hbl htx hT
      go_wp2_with fail
      refine HSK.out.mono ?_
      rintro e w' ⟨⟨k, hxk, hk, hTk, hc⟩, rfl⟩
      have HTK := Lib.hid hTk
      clear hTk HSK
      rcases hc with ⟨rfl, hc⟩ | ⟨rfl, hlt, hbad⟩
      · by_cases hke : k = text.size
        · have hke2 : ((k : Int) == (text.size : Int)) = true := by rw [beq_iff_eq]; omega
          have hfin : Lx.T (bts text) 0 = .good ts := by
            rw [HO.out.2.2.2, HTK.out, hke, bts_nil text text.size (Nat.le_refl _), Lx.T_nil]; simp [Lx.Res.pre]
          have HF := Lib.hid hfin
          clear hfin hc
          by_cases hn : 20000 < ts.length
          · have hn2 : (20000 : Int) < (ts.length : Int) := by omega
            go_wp2_with fail
            go_ret3
            rw [HP.out]
            refine ⟨HO.out.2.1, .inr ⟨by omega, ?_⟩⟩
            rw [HF.out]
            show (if 20000 < ts.length then _ else _)
            rw [if_pos hn]; rfl
          · have hn2 : (ts.length : Int) ≤ (20000 : Int) := by omega
            go_wp2_with fail
            go_ret3
            rw [HP.out]
            refine ⟨HO.out.2.1, .inr ⟨by omega, ?_⟩⟩
            rw [HF.out]
            show (if 20000 < ts.length then _ else _)
            rw [if_neg hn]
            exact ⟨_, rfl, HO.out.1⟩
        · have hke2 : ((k : Int) == (text.size : Int)) = false := by rw [beq_eq_false_iff_ne]; omega
          have hkd : Lx.kd ((bts text).drop k) ≠ .blank ∧ Lx.kd ((bts text).drop k) ≠ .comm := by
            rcases hc with h | h
            · exact absurd h hke
            · exact h
          have HONE := Lib.hid (fun w => rOne_any text k (by omega) (by omega) hkd.1 hkd.2 w)
          have HKD := Lib.hid hkd
          clear hc hkd
          go_wp2_with fail
          refine (HONE.out _).mono ?_
          rintro e w2 ⟨t, b, rfl, hg2, hm⟩
          have hb2 : Below w.heap.size w w2 := below_grown HO.out.2.1 hg2
          have ho2 : w2.ownsRow w.heap.size 35 5 (.slice a0 ts.length cap0) ts.length (tokCs ts) := owns_of_block HO.out.1 fun g hg => hg2.block g (owns_ge HO.out.1 g hg).2 (by simp)
          have HB2 := Lib.hid (And.intro hb2 ho2)
          clear hb2 ho2 hg2
          cases hst : Lx.step ((bts text).drop k) with
          | fill n => exact absurd hst (step_not_fill HKD.out.1 HKD.out.2 n)
          | bad =>
            rw [hst] at hm
            simp only at hm
            subst hm
            have hTb : Lx.T (bts text) 0 = .bad k := by rw [HO.out.2.2.2, HTK.out, Lx.T_bad (by intro e; have := congrArg List.length e; rw [List.length_drop, bts_length] at this; simp at this; omega) hst]; rfl
            have HTB := Lib.hid hTb
            clear hst hTb
            obtain ⟨tk, tn, tst, ta, tf⟩ := t
            simp only [RT.v]
            go_wp2_with fail
            go_ret3
            rw [HP.out]
            refine ⟨HB2.out.1.alloc HB2.out.1.size _, .inr ⟨by omega, ?_⟩⟩
            rw [HTB.out]; rfl
          | tok kd n sx len =>
            rw [hst] at hm
            simp only at hm
            obtain ⟨rfl, rfl⟩ := hm
            have hlen := Lx.step_tok hst
            rw [List.length_drop, bts_length] at hlen
            have hTn : Lx.T (bts text) 0 = (Lx.T ((bts text).drop (k + len)) (k + len)).pre (ts ++ [⟨kd, n, sx, k, k + len⟩]) := by
              rw [HO.out.2.2.2, HTK.out, Lx.T_tok hst, Lx.Res.pre_pre, List.drop_drop]
            have HTN := Lib.hid hTn
            clear hst hTn
            obtain ⟨q, hq⟩ : ∃ q, k + len = q := ⟨_, rfl⟩
            rw [hq] at HTN ⊢
            have hkq : k < q ∧ q ≤ text.size := by omega
            have HKQ := Lib.hid (And.intro hkq hq)
            clear hlen hq hkq
            simp only [RT.v]
            go_wp2_with (at_builtin; (refine wpList_append_lies _ rfl _ _ 22 rfl w.heap.size 35 i0 _ 5 48 Tryz.underlying22 hi0 hz0 hz1 hz2 rfl (by omega) (.slice a0 ts.length cap0) ts.length (tokCs ts) rfl ((HB2.out.2.alloc _).alloc _) ⟨w2.heap.size + 1, 0, none⟩ 1 1 [.int .i64 kd, .int .i64 n, .string (ofB sx), .int .i64 k, .int .i64 q] rfl rfl ?c1 ?c2 (by omega) ?c3 ?c4 ?c5 _ rfl ?_))
            case c1 => exact World.news_of_block (cs := #[.int .i64 kd, .int .i64 n, .string (ofB sx), .int .i64 k, .int .i64 q]) (t := 35) (fr := (0, 0)) (by rw [alloc_hit _ _ _ (by simp)])
            case c2 => simp [Value.oneCell']
            case c3 => have := HO.out.2.2.1; unfold maxLen; omega
            case c4 => have := HO.out.2.2.1; omega
            case c5 => have := HB2.out.1.size; simp; omega
            intro gg cap w3 hown3 hgrow hat hlt3
            have hh : w3.heap[w2.heap.size]? = some (.cells #[.int .i64 kd, .int .i64 n, .string (ofB sx), .int .i64 k, .int .i64 q] 35) :=
              (hgrow.block w2.heap.size (by simp; omega) (fun e => by have := (owns_ge HB2.out.2 _ e.symm).2; omega)).trans (by rw [alloc_miss _ _ _ (by simp), alloc_hit _ _ _ rfl])
            have d4 := (cells_of hh 4).1
            have hb3 : Below w.heap.size w w3 := ((HB2.out.1.alloc HB2.out.1.size _).alloc (by have := HB2.out.1.size; simp; omega) _).grown hgrow (by have := HB2.out.1.size; simp; omega) (fun j hj => (owns_ge HB2.out.2 j hj).1)
            have ho3 : w3.ownsRow w.heap.size 35 5 (.slice (some ⟨gg, 0, none⟩) (ts.length + 1) cap) (ts ++ [(⟨kd, n, sx, k, q⟩ : Lx.Tok)]).length (tokCs (ts ++ [⟨kd, n, sx, k, q⟩])) := by
              rw [tokCs_snoc, List.length_append]; exact hown3
            have H3 := Lib.hid (And.intro hb3 ho3)
            simp only [List.getElem?_toArray, List.getElem?_cons_zero, List.getElem?_cons_succ] at d4
            clear hh hb3 ho3 hown3 hgrow hat hlt3
            go_wp2_with fail
            go_roundw
            case rel => exact ⟨q, ts ++ [⟨kd, n, sx, k, q⟩], HKQ.out.1.2, by go_num, H3.out.2, H3.out.1, by have := HO.out.2.2.1; have := HKQ.out.1.1; simp; omega, HTN.out⟩
            case measure => have := HKQ.out.1; simp [intOf]; omega
      · have hTb : Lx.T (bts text) 0 = .bad k := by rw [HO.out.2.2.2, HTK.out, hbad]; rfl
        have HTB := Lib.hid hTb
        clear hbad hTb
        go_wp2_with fail
        go_ret3
        rw [HP.out]
        refine ⟨HO.out.2.1, .inr ⟨by omega, ?_⟩⟩
        rw [HTB.out]; rfl

/-- Tokens of a text, short or not: the reference's Kind. -/
theorem kindOf_two {l : Lx.Bs} {ts : List Lx.Tok} (h : Lx.T l 0 = .good ts) (hn : ts.length ≠ 1) : Lx.kindOf l = 0 := by
  unfold Lx.kindOf
  rw [h]
  match ts, hn with
  | [], _ => rfl
  | _ :: _ :: _, _ => rfl
end Go.Proofs.YtcjdacdggklifaaGreatDoor
