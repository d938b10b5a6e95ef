/- LexBlanks: the walk. -/
import Derived.Test.YtkghbecfjeldcaaDoorPlaces
import Derived.Test.YtkghbecfjeldcaaDoorBlank1
namespace Go.Proofs.YtkghbecfjeldcaaDoor
open Go.RowKit

theorem belowG {w w' : World} (h : w.grownBy w' none) : Below w.heap.size w w' := ⟨h.os, h.tape, h.output, h.size, fun b hb => h.block b hb (by simp)⟩
theorem up_zero (t : Lx.Tok) : t.up 0 = t := rfl
theorem wrap_u64_nonneg (x : Int) : (0 : Int) ≤ IntKind.u64.wrap x := by
  simp only [IntKind.wrap, IntKind.signed, IntKind.bits, Bool.false_and]
  rw [if_neg (by decide)]
  exact Int.emod_nonneg _ (by decide)

set_option maxRecDepth 100000 in
set_option maxHeartbeats 2000000 in
theorem LexBlanks_any (a b : ByteArray) (which : Int) (ha : a.size ≤ 140737488355328) (hb : b.size ≤ 140737488355328) (w : World) : Calls Tryd.prog 3 #[.string a, .string b, .int .i64 which] w fun e w' => e = .returned (.bool true) ∧ Below w.heap.size w w' := by
  go_enter Tryd.func3, Tryd.ntmps3
  go_wp2_with fail
  refine (sane_any _).mono ?_
  rintro e w1 ⟨rfl, hb1⟩
  have hsh := short_any [a, b] 2 rfl (by omega) (by intro s hs; simp only [List.mem_cons, List.not_mem_nil, or_false] at hs; rcases hs with rfl | rfl <;> assumption) w1.heap.size 2 9 (w1.alloc (.cells #[.string a, .string b] 9)) (heap_alloc_new w1 _)
  have hb2 : Below w.heap.size w (w1.alloc (.cells #[.string a, .string b] 9)) := hb1.alloc hb1.size _
  have HSH := Lib.hid hsh
  have HB2 := Lib.hid hb2
  clear hb1 hsh hb2 ha hb
  go_wp2_with fail
  refine HSH.out.mono ?_
  rintro e w' ⟨rfl, rfl⟩
  generalize (w1.alloc (.cells #[.string a, .string b] 9)) = w2 at *
  clear HSH
  by_cases hd : total [a, b] ≤ 20000
  · rw [show decide (total [a, b] ≤ 20000) = true from by simpa using hd]
    have hsz : a.size + b.size ≤ 20000 := by simpa [total] using hd
    clear hd
    have HFB := Lib.hid (fun w => filling_any b (by omega) w)
    have HTK := Lib.hid (fun w => tokens_s a (by omega) w)
    go_wp2_with fail
    refine (HFB.out _).mono ?_
    rintro e w3 ⟨q, rfl, hq, hb3⟩
    have HB3 := Lib.hid (below_le HB2.out hb3 HB2.out.size)
    clear hb3 HFB
    cases q
    · clear hq
      go_wp2_with fail
      go_ret
      exact ⟨rfl, HB3.out⟩
    · have hfb := hq.1 rfl
      have HFB := Lib.hid hfb
      clear hq hfb
      by_cases h0 : b.toList = []
      · have h01 : (b.toList == []) = true := by rw [h0]; rfl
        go_wp2_with fail
        all_goals go_ret
        all_goals exact ⟨rfl, HB3.out⟩
      · have h01 : (b.toList == []) = false := by cases hl : b.toList with | nil => exact absurd hl h0 | cons => rfl
        clear h0
        go_wp2_with fail
        refine (HTK.out _).mono ?_
        rintro e w4 ⟨hb4, h⟩
        have HB4 := Lib.hid (And.intro (below_le HB3.out hb4 HB3.out.size) hb4)
        clear hb4 HTK
        rcases h with ⟨p, hT, rfl⟩ | ⟨l, hT, hl, v, rfl, hown⟩
        · clear hT
          unfold three
          go_wp2_with fail
          go_ret
          exact ⟨rfl, HB4.out.1⟩
        · obtain ⟨a0, cap0, rfl, hcap⟩ := owns_form hown
          have HT := Lib.hid (And.intro hT (And.intro hl (tokV_owned hown)))
          clear hT hown
          obtain ⟨n, hn⟩ : ∃ n, l.length = n := ⟨_, rfl⟩
          rw [hn] at hl hcap ⊢
          have HN := Lib.hid hn
          clear hn
          unfold three
          obtain ⟨k, hkn, hkv⟩ : ∃ k : Nat, k ≤ n ∧ wrap64 ((IntKind.u64.wrap which).tmod ((n : Int) + 1)) = (k : Int) := by
            have h1 : (0 : Int) ≤ IntKind.u64.wrap which := wrap_u64_nonneg which
            have h2 := Int.tmod_nonneg ((n : Int) + 1) h1
            have h3 := Int.tmod_lt_of_pos (IntKind.u64.wrap which) (show (0 : Int) < (n : Int) + 1 by omega)
            generalize (IntKind.u64.wrap which).tmod ((n : Int) + 1) = z at *
            refine ⟨z.toNat, by omega, ?_⟩
            rw [IntWalk.wrap64_in _ (by omega)]
            omega
          have hlen : (bts a).length = a.size := bts_length a
          obtain ⟨hpl, hput⟩ := Lx.T_put HT.out.1 HFB.out k (by have := HN.out; omega)
          obtain ⟨p, hp⟩ : ∃ p, p = Lx.spot (bts a) l k := ⟨_, rfl⟩
          rw [← hp] at hpl hput
          have hpa : p ≤ a.size := by omega
          obtain ⟨M, hM⟩ : ∃ M, M = a.extract 0 p ++ ⟨#[32]⟩ ++ b ++ ⟨#[32]⟩ ++ a.extract p a.size := ⟨_, rfl⟩
          have hMb : bts M = (bts a).take p ++ 32 :: (bts b ++ 32 :: (bts a).drop p) := by
            rw [hM]
            simp only [bts_append, bts_extract, List.append_assoc]
            rw [List.drop_zero, Nat.sub_zero, List.take_of_length_le (l := (bts a).drop p) (by rw [List.length_drop, bts_length]; omega)]
            rfl
          rw [← hMb] at hput
          have hMs : M.size = a.size + b.size + 2 := by
            rw [← bts_length, hMb]; simp; omega
          have i1 : (0 : Int) ≤ (p : Int) := Int.natCast_nonneg _
          have i2 : (p : Int) ≤ (a.size : Int) := by omega
          have i3 : ¬ ((p : Int) < 0) := by omega
          have i4 : ¬ ((a.size : Int) < (p : Int)) := by omega
          have i5 : ¬ 9223372036854775807 < p + 1 := by omega
          have i6 : ¬ 9223372036854775807 < p + 1 + b.size := by omega
          have i7 : ¬ 9223372036854775807 < p + 1 + b.size + 1 := by omega
          have i8 : ¬ 9223372036854775807 < p + 1 + b.size + 1 + (a.size - p) := by omega
          obtain ⟨l2, hl2⟩ : ∃ l2, l2 = l.take k ++ (l.drop k).map (Lx.Tok.up ((bts b).length + 2)) := ⟨_, rfl⟩
          rw [← hl2] at hput
          have hl2n : l2.length = n := by rw [hl2]; simp; have := HN.out; omega
          have hl2g : ∀ i (h1 : i < l.length) (h2 : i < l2.length), l2[i] = if i < k then l[i] else (l[i]).up (b.size + 2) := by
            intro i h1 h2
            subst hl2
            rw [List.getElem_append]
            have hkl : (l.take k).length = k := by simp; have := HN.out; omega
            by_cases hik : i < k
            · rw [dif_pos (by omega), if_pos hik, List.getElem_take]
            · rw [dif_neg (by omega), if_neg hik, List.getElem_map, List.getElem_drop]
              simp only [bts_length]
              congr 2; omega
          have HL2 := Lib.hid (And.intro hl2n hl2g)
          have HMT := Lib.hid (And.intro hM hp)
          have htm : ∀ w, Calls Tryd.prog 14 #[.string M] w fun e w' => Below w.heap.size w w' ∧ ∃ m0 mcap, e = three (.slice m0 n mcap) 0 0 ∧ n ≤ mcap ∧ TokV w' m0 (l2.map rt) := fun w =>
            (tokens_l M (by omega) l2 hput (by omega) w).mono fun e w' ⟨hb, v, he, ho⟩ => by
              obtain ⟨m0, mcap, rfl, hc⟩ := owns_form ho
              have ht := tokV_owned ho
              rw [hl2n] at hc he
              exact ⟨hb, m0, mcap, he, hc, ht⟩
          have HTM := Lib.hid htm
          clear hput hMs hMb hpl hlen hl2 hl2n hl2g htm
          by_cases hlt : k < n
          · have hkl : k < l.length := by have := HN.out; omega
            have hkm : k < (l.map rt).length := by rw [List.length_map]; exact hkl
            obtain ⟨g, off, rfl, hgl, hce⟩ := HT.out.2.2 (by rw [List.length_map]; omega)
            have e1 := hce k hkm 3 (by omega)
            have hpt : p = (l[k]).at_ := by rw [hp]; unfold Lx.spot; rw [List.getElem?_eq_getElem hkl]
            rw [List.getElem_map] at e1
            generalize l[k] = t at *
            obtain ⟨tk, tn, tst, ta, tf⟩ := t
            simp only at hpt
            rw [← hpt] at e1
            simp only [rt, RT.cells, List.getElem?_cons_zero, List.getElem?_cons_succ, ← Nat.add_assoc] at e1
            have j1 : (k : Int) < (n : Int) := by omega
            have j2 : (0 : Int) ≤ (k : Int) := by omega
            clear hp hpt hkl hkm hce hM
            go_wp2_with fail
            go_region_held3 (fun _ => True) (trivial) (first | (go_at_call 14; rw [← HMT.out.1]; with_reducible refine (HTM.out _).mono ?_; rintro e w' ⟨hb', m0, mcap, rfl, hmc, hmt⟩; unfold three))
            generalize (some ({ block := g, off := off } : Addr)) = a0 at *
            clear e1 hgl j1 j2 i1 i2 i3 i4 i5 i6 i7 i8
            have htl := HT.out.2.2.below (below_le (B := w4.heap.size) (a := w4) (belowD2 (Below.refl _ _)) hb' (Nat.le_refl _))
            have hbz := below_le HB4.out.1 (below_le (B := w4.heap.size) (a := w4) (belowD2 (Below.refl _ _)) hb' (Nat.le_refl _)) HB4.out.1.size
            have HM5 := Lib.hid (And.intro hmt htl)
            have HB5 := Lib.hid hbz
            clear htl hmt hbz hb'
            generalize w' = w5 at *
            go_wp2_with fail
            go_loopw [105] (fun v wr => ∃ q : Nat, q ≤ n ∧ v = .int .i64 q ∧ Below w5.heap.size w5 wr) (fun v _ => n - (intOf v).toNat)
            case atStart => exact ⟨0, by omega, rfl, Below.refl _ _⟩
            case round =>
              obtain ⟨q, hq, rfl, hbw⟩ := hrel
              have HBW := Lib.hid hbw
              by_cases hlq : q < n
              · have hql : q < l.length := by have := HN.out; omega
                have hqm : q < (l.map rt).length := by rw [List.length_map]; exact hql
                have hq2 : q < l2.length := by have := HL2.out.1; omega
                have hq2m : q < (l2.map rt).length := by rw [List.length_map]; exact hq2
                obtain ⟨g1, o1, rfl, hg1, hc1⟩ := HM5.out.1 (by rw [List.length_map]; omega)
                obtain ⟨g2, o2, rfl, hg2, hc2⟩ := HM5.out.2 (by rw [List.length_map]; omega)
                obtain ⟨D, hD, hDv⟩ : ∃ D : Nat, l2[q] = (l[q]).up D ∧ ((q < k ∧ D = 0) ∨ (¬ q < k ∧ D = b.size + 2)) := by
                  by_cases hqk : q < k
                  · exact ⟨0, by rw [HL2.out.2 q hql hq2, if_pos hqk, up_zero], .inl ⟨hqk, rfl⟩⟩
                  · exact ⟨_, by rw [HL2.out.2 q hql hq2, if_neg hqk], .inr ⟨hqk, rfl⟩⟩
                have e1 : ∀ j, j < 5 → wr.cell? ⟨g1, o1 + (q * 5 + j), none⟩ = (rt ((l[q]).up D)).cells[j]? := fun j hj => by
                  have h1 := hc1 q hq2m j hj
                  rw [List.getElem_map, hD] at h1
                  exact (World.cell?_of_block (w := w5) (a := ⟨g1, o1 + (q * 5 + j), none⟩) (hbw.block g1 hg1)).trans h1
                have e2 : ∀ j, j < 5 → wr.cell? ⟨g2, o2 + (q * 5 + j), none⟩ = (rt l[q]).cells[j]? := fun j hj => by
                  have h1 := hc2 q hqm j hj
                  rw [List.getElem_map] at h1
                  exact (World.cell?_of_block (w := w5) (a := ⟨g2, o2 + (q * 5 + j), none⟩) (hbw.block g2 hg2)).trans h1
                have hfe := tok_facts a l HT.out.1 q hql _ rfl
                have hlk := fun w => Like_any (rt ((l[q]).up D)) (rt l[q]) w
                rw [show alikeB (rt ((l[q]).up D)) (rt l[q]) = true from by simp [alikeB, rt, Lx.Tok.up]] at hlk
                generalize l[q] = t at *
                obtain ⟨tk, tn, tst, ta, tf⟩ := t
                obtain ⟨-, hf2, hf3, -⟩ := hfe
                simp only at hf2 hf3
                have a0 := e1 0 (by omega)
                have a1 := e1 1 (by omega)
                have a2 := e1 2 (by omega)
                have a3 := e1 3 (by omega)
                have a4 := e1 4 (by omega)
                have b0 := e2 0 (by omega)
                have b1 := e2 1 (by omega)
                have b2 := e2 2 (by omega)
                have b3 := e2 3 (by omega)
                have b4 := e2 4 (by omega)
                simp only [rt, Lx.Tok.up, RT.cells, List.getElem?_cons_zero, List.getElem?_cons_succ, Nat.add_zero, ← Nat.add_assoc] at a0 a1 a2 a3 a4 b0 b1 b2 b3 b4
                simp only [rt, Lx.Tok.up, RT.v] at hlk
                have HLK := Lib.hid hlk
                have HHH := Lib.hid (And.intro hf2 hf3)
                clear e1 e2 hc1 hc2 hlk hD hqm hq2m hq2 hql hbw
                have k1 : (q : Int) < (n : Int) := by omega
                have k2 : (0 : Int) ≤ (q : Int) := by omega
                obtain ⟨xa, hxa⟩ : ∃ xa, ta + D = xa := ⟨_, rfl⟩
                obtain ⟨xf, hxf⟩ : ∃ xf, tf + D = xf := ⟨_, rfl⟩
                rw [hxa] at a3
                rw [hxf] at a4
                simp only [hxa, hxf] at HLK
                rcases hDv with ⟨hqk, hDe⟩ | ⟨hqk, hDe⟩
                · have k3 : ¬ ((k : Int) ≤ (q : Int)) := by omega
                  obtain rfl : ta = xa := by omega
                  obtain rfl : tf = xf := by omega
                  have k5 : IntKind.i64.wrap (ta : Int) = (ta : Int) := IntWalk.i64_in _ (by omega)
                  have k6 : IntKind.i64.wrap (tf : Int) = (tf : Int) := IntWalk.i64_in _ (by omega)
                  clear hDe hxa hxf
                  go_wp2_with fail
                  generalize hWt : (wr.alloc (.cells #[.int .i64 tk, .int .i64 tn, .string (ofB tst), .int .i64 ta, .int .i64 tf] 31)) = Wt
                  have hh : Wt.heap[wr.heap.size]? = some (.cells #[.int .i64 tk, .int .i64 tn, .string (ofB tst), .int .i64 ta, .int .i64 tf] 31) := by subst hWt; exact heap_alloc_new wr _
                  have hbt : Below w5.heap.size w5 Wt := by subst hWt; exact HBW.out.alloc HBW.out.size _
                  have hbk : Below wr.heap.size wr Wt := by subst hWt; exact (Below.refl _ _).alloc (Nat.le_refl _) _
                  have hg2r : g2 < wr.heap.size := Nat.lt_of_lt_of_le hg2 HBW.out.size
                  have hkeep : ∀ W, Below Wt.heap.size Wt W → W.cell? ⟨wr.heap.size, 0, none⟩ = some (.int .i64 tk) ∧ W.cell? ⟨wr.heap.size, 1, none⟩ = some (.int .i64 tn) ∧ W.cell? ⟨wr.heap.size, 2, none⟩ = some (.string (ofB tst)) ∧ W.cell? ⟨wr.heap.size, 3, none⟩ = some (.int .i64 ta) ∧ W.cell? ⟨wr.heap.size, 4, none⟩ = some (.int .i64 tf) ∧
                      W.cell? ⟨g2, o2 + q * 5, none⟩ = some (.int .i64 tk) ∧ W.cell? ⟨g2, o2 + q * 5 + 1, none⟩ = some (.int .i64 tn) ∧ W.cell? ⟨g2, o2 + q * 5 + 2, none⟩ = some (.string (ofB tst)) ∧ W.cell? ⟨g2, o2 + q * 5 + 3, none⟩ = some (.int .i64 ta) ∧ W.cell? ⟨g2, o2 + q * 5 + 4, none⟩ = some (.int .i64 tf) := fun W hb => by
                    have hx : W.heap[wr.heap.size]? = some (.cells #[.int .i64 tk, .int .i64 tn, .string (ofB tst), .int .i64 ta, .int .i64 tf] 31) := (hb.block wr.heap.size (Array.getElem?_eq_some_iff.1 hh).1).trans hh
                    have f : ∀ j, W.cell? ⟨g2, j, none⟩ = wr.cell? ⟨g2, j, none⟩ := fun j => World.cell?_of_block (w := wr) ((hb.block g2 (Nat.lt_of_lt_of_le hg2r hbk.size)).trans (hbk.block g2 hg2r))
                    refine ⟨?_, ?_, ?_, ?_, ?_, (f _).trans b0, (f _).trans b1, (f _).trans b2, (f _).trans b3, (f _).trans b4⟩
                    · rw [(cells_of hx 0).1]; rfl
                    · rw [(cells_of hx 1).1]; rfl
                    · rw [(cells_of hx 2).1]; rfl
                    · rw [(cells_of hx 3).1]; rfl
                    · rw [(cells_of hx 4).1]; rfl
                  have HK := Lib.hid hkeep
                  have HBT := Lib.hid hbt
                  clear hWt hh hbt hbk hg2r hkeep a0 a1 a2 a3 a4 b0 b1 b2 b3 b4
                  generalize wr.heap.size = gb at *
                  go_region_held3 (fun W => W.cell? ⟨gb, 0, none⟩ = some (.int .i64 tk) ∧ W.cell? ⟨gb, 1, none⟩ = some (.int .i64 tn) ∧ W.cell? ⟨gb, 2, none⟩ = some (.string (ofB tst)) ∧ W.cell? ⟨gb, 3, none⟩ = some (.int .i64 ta) ∧ W.cell? ⟨gb, 4, none⟩ = some (.int .i64 tf) ∧
                      W.cell? ⟨g2, o2 + q * 5, none⟩ = some (.int .i64 tk) ∧ W.cell? ⟨g2, o2 + q * 5 + 1, none⟩ = some (.int .i64 tn) ∧ W.cell? ⟨g2, o2 + q * 5 + 2, none⟩ = some (.string (ofB tst)) ∧ W.cell? ⟨g2, o2 + q * 5 + 3, none⟩ = some (.int .i64 ta) ∧ W.cell? ⟨g2, o2 + q * 5 + 4, none⟩ = some (.int .i64 tf))
                    (first | (with_reducible refine HK.out _ ?_; (repeat (first | with_reducible exact Below.refl _ _ | with_reducible apply belowD2)); done) | (refine HK.out _ (below_le (B := Wt.heap.size) (a := Wt) ?_ (belowG hg') ?_) <;> (repeat (first | with_reducible exact Below.refl _ _ | with_reducible apply belowD2 | exact Nat.le_refl _)); done))
                    (first | (go_at_call 15; with_reducible refine (HLK.out _).mono ?_; rintro e w' ⟨rfl, hg'⟩))
                  go_wp2_with fail
                  go_roundw
                  case rel => exact ⟨q + 1, by omega, by go_num, below_grown (by repeat (first | with_reducible exact HBT.out | with_reducible apply belowD2)) hg'⟩
                  case measure => simp [intOf]; omega
                · have k3 : (k : Int) ≤ (q : Int) := by omega
                  have k4 : IntKind.i64.wrap ((b.size : Int) + 2) = (D : Int) := by rw [IntWalk.i64_in _ (by omega)]; omega
                  have k5 : IntKind.i64.wrap ((ta : Int) + (D : Int)) = (xa : Int) := by rw [IntWalk.i64_in _ (by omega)]; omega
                  have k6 : IntKind.i64.wrap ((tf : Int) + (D : Int)) = (xf : Int) := by rw [IntWalk.i64_in _ (by omega)]; omega
                  clear hDe hxa hxf
                  go_wp2_with fail
                  generalize hWt : (wr.alloc (.cells #[.int .i64 tk, .int .i64 tn, .string (ofB tst), .int .i64 xa, .int .i64 xf] 31)) = Wt
                  have hh : Wt.heap[wr.heap.size]? = some (.cells #[.int .i64 tk, .int .i64 tn, .string (ofB tst), .int .i64 xa, .int .i64 xf] 31) := by subst hWt; exact heap_alloc_new wr _
                  have hbt : Below w5.heap.size w5 Wt := by subst hWt; exact HBW.out.alloc HBW.out.size _
                  have hbk : Below wr.heap.size wr Wt := by subst hWt; exact (Below.refl _ _).alloc (Nat.le_refl _) _
                  have hg2r : g2 < wr.heap.size := Nat.lt_of_lt_of_le hg2 HBW.out.size
                  have hkeep : ∀ W, Below Wt.heap.size Wt W → W.cell? ⟨wr.heap.size, 0, none⟩ = some (.int .i64 tk) ∧ W.cell? ⟨wr.heap.size, 1, none⟩ = some (.int .i64 tn) ∧ W.cell? ⟨wr.heap.size, 2, none⟩ = some (.string (ofB tst)) ∧ W.cell? ⟨wr.heap.size, 3, none⟩ = some (.int .i64 xa) ∧ W.cell? ⟨wr.heap.size, 4, none⟩ = some (.int .i64 xf) ∧
                      W.cell? ⟨g2, o2 + q * 5, none⟩ = some (.int .i64 tk) ∧ W.cell? ⟨g2, o2 + q * 5 + 1, none⟩ = some (.int .i64 tn) ∧ W.cell? ⟨g2, o2 + q * 5 + 2, none⟩ = some (.string (ofB tst)) ∧ W.cell? ⟨g2, o2 + q * 5 + 3, none⟩ = some (.int .i64 ta) ∧ W.cell? ⟨g2, o2 + q * 5 + 4, none⟩ = some (.int .i64 tf) := fun W hb => by
                    have hx : W.heap[wr.heap.size]? = some (.cells #[.int .i64 tk, .int .i64 tn, .string (ofB tst), .int .i64 xa, .int .i64 xf] 31) := (hb.block wr.heap.size (Array.getElem?_eq_some_iff.1 hh).1).trans hh
                    have f : ∀ j, W.cell? ⟨g2, j, none⟩ = wr.cell? ⟨g2, j, none⟩ := fun j => World.cell?_of_block (w := wr) ((hb.block g2 (Nat.lt_of_lt_of_le hg2r hbk.size)).trans (hbk.block g2 hg2r))
                    refine ⟨?_, ?_, ?_, ?_, ?_, (f _).trans b0, (f _).trans b1, (f _).trans b2, (f _).trans b3, (f _).trans b4⟩
                    · rw [(cells_of hx 0).1]; rfl
                    · rw [(cells_of hx 1).1]; rfl
                    · rw [(cells_of hx 2).1]; rfl
                    · rw [(cells_of hx 3).1]; rfl
                    · rw [(cells_of hx 4).1]; rfl
                  have HK := Lib.hid hkeep
                  have HBT := Lib.hid hbt
                  clear hWt hh hbt hbk hg2r hkeep a0 a1 a2 a3 a4 b0 b1 b2 b3 b4
                  generalize wr.heap.size = gb at *
                  go_region_held3 (fun W => W.cell? ⟨gb, 0, none⟩ = some (.int .i64 tk) ∧ W.cell? ⟨gb, 1, none⟩ = some (.int .i64 tn) ∧ W.cell? ⟨gb, 2, none⟩ = some (.string (ofB tst)) ∧ W.cell? ⟨gb, 3, none⟩ = some (.int .i64 xa) ∧ W.cell? ⟨gb, 4, none⟩ = some (.int .i64 xf) ∧
                      W.cell? ⟨g2, o2 + q * 5, none⟩ = some (.int .i64 tk) ∧ W.cell? ⟨g2, o2 + q * 5 + 1, none⟩ = some (.int .i64 tn) ∧ W.cell? ⟨g2, o2 + q * 5 + 2, none⟩ = some (.string (ofB tst)) ∧ W.cell? ⟨g2, o2 + q * 5 + 3, none⟩ = some (.int .i64 ta) ∧ W.cell? ⟨g2, o2 + q * 5 + 4, none⟩ = some (.int .i64 tf))
                    (first | (with_reducible refine HK.out _ ?_; (repeat (first | with_reducible exact Below.refl _ _ | with_reducible apply belowD2)); done) | (refine HK.out _ (below_le (B := Wt.heap.size) (a := Wt) ?_ (belowG hg') ?_) <;> (repeat (first | with_reducible exact Below.refl _ _ | with_reducible apply belowD2 | exact Nat.le_refl _)); done))
                    (first | (go_at_call 15; with_reducible refine (HLK.out _).mono ?_; rintro e w' ⟨rfl, hg'⟩))
                  go_wp2_with fail
                  go_roundw
                  case rel => exact ⟨q + 1, by omega, by go_num, below_grown (by repeat (first | with_reducible exact HBT.out | with_reducible apply belowD2)) hg'⟩
                  case measure => simp [intOf]; omega
              · have hkn : n = q := by omega
                subst hkn
                clear hbw
                go_wp2_with fail
                go_ret
                exact ⟨rfl, below_le HB5.out HBW.out HB5.out.size⟩
          · have hkk : ¬ ((k : Int) < (n : Int)) := by omega
            have hpp : p = a.size := by have := HMT.out.2; unfold Lx.spot at this; rw [List.getElem?_eq_none (by have := HN.out; omega)] at this; rw [this, bts_length]
            have HPI := Lib.hid (show (a.size : Int) = (p : Int) by omega)
            clear hp hM hpp
            go_wp2_with fail
            rw [HPI.out]
            go_region_held3 (fun _ => True) (trivial) (first | (go_at_call 14; rw [← HMT.out.1]; with_reducible refine (HTM.out _).mono ?_; rintro e w' ⟨hb', m0, mcap, rfl, hmc, hmt⟩; unfold three))
            clear i1 i2 i3 i4 i5 i6 i7 i8
            have htl := HT.out.2.2.below (below_le (B := w4.heap.size) (a := w4) (belowD2 (Below.refl _ _)) hb' (Nat.le_refl _))
            have hbz := below_le HB4.out.1 (below_le (B := w4.heap.size) (a := w4) (belowD2 (Below.refl _ _)) hb' (Nat.le_refl _)) HB4.out.1.size
            have HM5 := Lib.hid (And.intro hmt htl)
            have HB5 := Lib.hid hbz
            clear htl hmt hbz hb'
            generalize w' = w5 at *
            go_wp2_with fail
            go_loopw [105] (fun v wr => ∃ q : Nat, q ≤ n ∧ v = .int .i64 q ∧ Below w5.heap.size w5 wr) (fun v _ => n - (intOf v).toNat)
            case atStart => exact ⟨0, by omega, rfl, Below.refl _ _⟩
            case round =>
              obtain ⟨q, hq, rfl, hbw⟩ := hrel
              have HBW := Lib.hid hbw
              by_cases hlq : q < n
              · have hql : q < l.length := by have := HN.out; omega
                have hqm : q < (l.map rt).length := by rw [List.length_map]; exact hql
                have hq2 : q < l2.length := by have := HL2.out.1; omega
                have hq2m : q < (l2.map rt).length := by rw [List.length_map]; exact hq2
                obtain ⟨g1, o1, rfl, hg1, hc1⟩ := HM5.out.1 (by rw [List.length_map]; omega)
                obtain ⟨g2, o2, rfl, hg2, hc2⟩ := HM5.out.2 (by rw [List.length_map]; omega)
                obtain ⟨D, hD, hDv⟩ : ∃ D : Nat, l2[q] = (l[q]).up D ∧ ((q < k ∧ D = 0) ∨ (¬ q < k ∧ D = b.size + 2)) := by
                  by_cases hqk : q < k
                  · exact ⟨0, by rw [HL2.out.2 q hql hq2, if_pos hqk, up_zero], .inl ⟨hqk, rfl⟩⟩
                  · exact ⟨_, by rw [HL2.out.2 q hql hq2, if_neg hqk], .inr ⟨hqk, rfl⟩⟩
                have e1 : ∀ j, j < 5 → wr.cell? ⟨g1, o1 + (q * 5 + j), none⟩ = (rt ((l[q]).up D)).cells[j]? := fun j hj => by
                  have h1 := hc1 q hq2m j hj
                  rw [List.getElem_map, hD] at h1
                  exact (World.cell?_of_block (w := w5) (a := ⟨g1, o1 + (q * 5 + j), none⟩) (hbw.block g1 hg1)).trans h1
                have e2 : ∀ j, j < 5 → wr.cell? ⟨g2, o2 + (q * 5 + j), none⟩ = (rt l[q]).cells[j]? := fun j hj => by
                  have h1 := hc2 q hqm j hj
                  rw [List.getElem_map] at h1
                  exact (World.cell?_of_block (w := w5) (a := ⟨g2, o2 + (q * 5 + j), none⟩) (hbw.block g2 hg2)).trans h1
                have hfe := tok_facts a l HT.out.1 q hql _ rfl
                have hlk := fun w => Like_any (rt ((l[q]).up D)) (rt l[q]) w
                rw [show alikeB (rt ((l[q]).up D)) (rt l[q]) = true from by simp [alikeB, rt, Lx.Tok.up]] at hlk
                generalize l[q] = t at *
                obtain ⟨tk, tn, tst, ta, tf⟩ := t
                obtain ⟨-, hf2, hf3, -⟩ := hfe
                simp only at hf2 hf3
                have a0 := e1 0 (by omega)
                have a1 := e1 1 (by omega)
                have a2 := e1 2 (by omega)
                have a3 := e1 3 (by omega)
                have a4 := e1 4 (by omega)
                have b0 := e2 0 (by omega)
                have b1 := e2 1 (by omega)
                have b2 := e2 2 (by omega)
                have b3 := e2 3 (by omega)
                have b4 := e2 4 (by omega)
                simp only [rt, Lx.Tok.up, RT.cells, List.getElem?_cons_zero, List.getElem?_cons_succ, Nat.add_zero, ← Nat.add_assoc] at a0 a1 a2 a3 a4 b0 b1 b2 b3 b4
                simp only [rt, Lx.Tok.up, RT.v] at hlk
                have HLK := Lib.hid hlk
                have HHH := Lib.hid (And.intro hf2 hf3)
                clear e1 e2 hc1 hc2 hlk hD hqm hq2m hq2 hql hbw
                have k1 : (q : Int) < (n : Int) := by omega
                have k2 : (0 : Int) ≤ (q : Int) := by omega
                obtain ⟨xa, hxa⟩ : ∃ xa, ta + D = xa := ⟨_, rfl⟩
                obtain ⟨xf, hxf⟩ : ∃ xf, tf + D = xf := ⟨_, rfl⟩
                rw [hxa] at a3
                rw [hxf] at a4
                simp only [hxa, hxf] at HLK
                rcases hDv with ⟨hqk, hDe⟩ | ⟨hqk, hDe⟩
                · have k3 : ¬ ((k : Int) ≤ (q : Int)) := by omega
                  obtain rfl : ta = xa := by omega
                  obtain rfl : tf = xf := by omega
                  have k5 : IntKind.i64.wrap (ta : Int) = (ta : Int) := IntWalk.i64_in _ (by omega)
                  have k6 : IntKind.i64.wrap (tf : Int) = (tf : Int) := IntWalk.i64_in _ (by omega)
                  clear hDe hxa hxf
                  go_wp2_with fail
                  generalize hWt : (wr.alloc (.cells #[.int .i64 tk, .int .i64 tn, .string (ofB tst), .int .i64 ta, .int .i64 tf] 31)) = Wt
                  have hh : Wt.heap[wr.heap.size]? = some (.cells #[.int .i64 tk, .int .i64 tn, .string (ofB tst), .int .i64 ta, .int .i64 tf] 31) := by subst hWt; exact heap_alloc_new wr _
                  have hbt : Below w5.heap.size w5 Wt := by subst hWt; exact HBW.out.alloc HBW.out.size _
                  have hbk : Below wr.heap.size wr Wt := by subst hWt; exact (Below.refl _ _).alloc (Nat.le_refl _) _
                  have hg2r : g2 < wr.heap.size := Nat.lt_of_lt_of_le hg2 HBW.out.size
                  have hkeep : ∀ W, Below Wt.heap.size Wt W → W.cell? ⟨wr.heap.size, 0, none⟩ = some (.int .i64 tk) ∧ W.cell? ⟨wr.heap.size, 1, none⟩ = some (.int .i64 tn) ∧ W.cell? ⟨wr.heap.size, 2, none⟩ = some (.string (ofB tst)) ∧ W.cell? ⟨wr.heap.size, 3, none⟩ = some (.int .i64 ta) ∧ W.cell? ⟨wr.heap.size, 4, none⟩ = some (.int .i64 tf) ∧
                      W.cell? ⟨g2, o2 + q * 5, none⟩ = some (.int .i64 tk) ∧ W.cell? ⟨g2, o2 + q * 5 + 1, none⟩ = some (.int .i64 tn) ∧ W.cell? ⟨g2, o2 + q * 5 + 2, none⟩ = some (.string (ofB tst)) ∧ W.cell? ⟨g2, o2 + q * 5 + 3, none⟩ = some (.int .i64 ta) ∧ W.cell? ⟨g2, o2 + q * 5 + 4, none⟩ = some (.int .i64 tf) := fun W hb => by
                    have hx : W.heap[wr.heap.size]? = some (.cells #[.int .i64 tk, .int .i64 tn, .string (ofB tst), .int .i64 ta, .int .i64 tf] 31) := (hb.block wr.heap.size (Array.getElem?_eq_some_iff.1 hh).1).trans hh
                    have f : ∀ j, W.cell? ⟨g2, j, none⟩ = wr.cell? ⟨g2, j, none⟩ := fun j => World.cell?_of_block (w := wr) ((hb.block g2 (Nat.lt_of_lt_of_le hg2r hbk.size)).trans (hbk.block g2 hg2r))
                    refine ⟨?_, ?_, ?_, ?_, ?_, (f _).trans b0, (f _).trans b1, (f _).trans b2, (f _).trans b3, (f _).trans b4⟩
                    · rw [(cells_of hx 0).1]; rfl
                    · rw [(cells_of hx 1).1]; rfl
                    · rw [(cells_of hx 2).1]; rfl
                    · rw [(cells_of hx 3).1]; rfl
                    · rw [(cells_of hx 4).1]; rfl
                  have HK := Lib.hid hkeep
                  have HBT := Lib.hid hbt
                  clear hWt hh hbt hbk hg2r hkeep a0 a1 a2 a3 a4 b0 b1 b2 b3 b4
                  generalize wr.heap.size = gb at *
                  go_region_held3 (fun W => W.cell? ⟨gb, 0, none⟩ = some (.int .i64 tk) ∧ W.cell? ⟨gb, 1, none⟩ = some (.int .i64 tn) ∧ W.cell? ⟨gb, 2, none⟩ = some (.string (ofB tst)) ∧ W.cell? ⟨gb, 3, none⟩ = some (.int .i64 ta) ∧ W.cell? ⟨gb, 4, none⟩ = some (.int .i64 tf) ∧
                      W.cell? ⟨g2, o2 + q * 5, none⟩ = some (.int .i64 tk) ∧ W.cell? ⟨g2, o2 + q * 5 + 1, none⟩ = some (.int .i64 tn) ∧ W.cell? ⟨g2, o2 + q * 5 + 2, none⟩ = some (.string (ofB tst)) ∧ W.cell? ⟨g2, o2 + q * 5 + 3, none⟩ = some (.int .i64 ta) ∧ W.cell? ⟨g2, o2 + q * 5 + 4, none⟩ = some (.int .i64 tf))
                    (first | (with_reducible refine HK.out _ ?_; (repeat (first | with_reducible exact Below.refl _ _ | with_reducible apply belowD2)); done) | (refine HK.out _ (below_le (B := Wt.heap.size) (a := Wt) ?_ (belowG hg') ?_) <;> (repeat (first | with_reducible exact Below.refl _ _ | with_reducible apply belowD2 | exact Nat.le_refl _)); done))
                    (first | (go_at_call 15; with_reducible refine (HLK.out _).mono ?_; rintro e w' ⟨rfl, hg'⟩))
                  go_wp2_with fail
                  go_roundw
                  case rel => exact ⟨q + 1, by omega, by go_num, below_grown (by repeat (first | with_reducible exact HBT.out | with_reducible apply belowD2)) hg'⟩
                  case measure => simp [intOf]; omega
                · omega
              · have hkn : n = q := by omega
                subst hkn
                clear hbw
                go_wp2_with fail
                go_ret
                exact ⟨rfl, below_le HB5.out HBW.out HB5.out.size⟩
  · rw [show decide (total [a, b] ≤ 20000) = false from by simpa using hd]
    clear hd
    go_wp2_with fail
    go_ret
    exact ⟨rfl, HB2.out⟩
end Go.Proofs.YtkghbecfjeldcaaDoor
