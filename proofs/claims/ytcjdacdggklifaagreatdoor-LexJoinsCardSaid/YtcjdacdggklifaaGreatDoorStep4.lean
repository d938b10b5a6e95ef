/- The scanner's steps, four: comment, bracket. -/
import Derived.Test.YtcjdacdggklifaaGreatDoorStep3
namespace Go.Proofs.YtcjdacdggklifaaGreatDoor
open Go.RowKit

theorem pfx_open (text : ByteArray) (a : Nat) : pfx (text.extract a text.size) ⟨#[40, 42]⟩ = Lx.opens ((bts text).drop a) := by
  rw [pfx_end, Bool.eq_iff_iff, Lx.opens_iff]
  show List.isPrefixOf [40, 42] _ = true ↔ _
  rw [List.isPrefixOf_iff_prefix]
  exact ⟨fun ⟨r, h⟩ => ⟨r, h.symm⟩, fun ⟨r, h⟩ => ⟨r, h.symm⟩⟩
theorem pfx_close (text : ByteArray) (a : Nat) : pfx (text.extract a text.size) ⟨#[42, 41]⟩ = Lx.closes ((bts text).drop a) := by
  rw [pfx_end, Bool.eq_iff_iff, Lx.closes_iff]
  show List.isPrefixOf [42, 41] _ = true ↔ _
  rw [List.isPrefixOf_iff_prefix]
  exact ⟨fun ⟨r, h⟩ => ⟨r, h.symm⟩, fun ⟨r, h⟩ => ⟨r, h.symm⟩⟩

section
variable {B p sg fm sm : Nat} {text : ByteArray} {st : St} {tv cv : Value} {w : World}

/-- A state whose comments have been turned. -/
theorem Sc.turnC (h : Sc B p sg fm sm text st tv cv w) {w1 : World} {o2 : Obj} (hgrow : (w.alloc o2).drew.grownBy w1 cv.ownBlock) {gg n cap : Nat} {cs : List (Nat × Nat)}
    (hown1 : w1.ownsRow B 81 2 (.slice (some ⟨gg, 0, none⟩) n cap) cs.length (spanCs cs)) (hat : cv.ownBlock = some gg ∨ gg = w.heap.size + 1) (fin : Nat) :
    Sc B p sg fm sm text { at_ := fin, ts := st.ts, cs := cs } tv (.slice (some ⟨gg, 0, none⟩) n cap) ((w1.setCell ⟨p, 3, none⟩ (.slice (some ⟨gg, 0, none⟩) n cap)).setCell ⟨p, 1, none⟩ (.int .i64 fin)) ∧
    Moved p tv cv w tv (.slice (some ⟨gg, 0, none⟩) n cap) ((w1.setCell ⟨p, 3, none⟩ (.slice (some ⟨gg, 0, none⟩) n cap)).setCell ⟨p, 1, none⟩ (.int .i64 fin)) := by
  have hn := h.ne
  have hpB := h.pB
  have hBW := h.BW
  have hsz : w.heap.size + 1 ≤ w1.heap.size := by have := hgrow.size; simpa using this
  have hap := h.apart
  have old : ∀ b, b < w.heap.size → some b ≠ cv.ownBlock → w1.heap[b]? = w.heap[b]? := fun b hb hne =>
    (hgrow.block b (by simp; omega) hne).trans (heap_alloc_old _ _ hb)
  have lo : ∀ b, b < B → some b ≠ cv.ownBlock := fun b hb e => by have := owns_ge h.coms b e.symm; omega
  have hself : w1.heap[p]? = some (.cells (scn text st.at_ tv cv sg fm sm) 79) := (old p (by omega) (lo p hpB)).trans h.self
  have s1 := setCell_at w1 ⟨p, 3, none⟩ (.slice (some ⟨gg, 0, none⟩) n cap) _ _ hself rfl
  have s2 := setCell_at (w1.setCell ⟨p, 3, none⟩ (.slice (some ⟨gg, 0, none⟩) n cap)) ⟨p, 1, none⟩ (.int .i64 fin) _ _ s1 rfl
  have far : ∀ b, b ≠ p → ((w1.setCell ⟨p, 3, none⟩ (.slice (some ⟨gg, 0, none⟩) n cap)).setCell ⟨p, 1, none⟩ (.int .i64 fin)).heap[b]? = w1.heap[b]? := fun b hb =>
    (Below.heap_setCell _ _ _ _ hb).trans (Below.heap_setCell _ _ _ _ hb)
  have hs : ((w1.setCell ⟨p, 3, none⟩ (.slice (some ⟨gg, 0, none⟩) n cap)).setCell ⟨p, 1, none⟩ (.int .i64 fin)).heap.size = w1.heap.size := by simp [World.setCell]
  have hgB : B ≤ gg := (owns_ge hown1 gg rfl).1
  refine ⟨⟨s2, ?_, ?_, ?_, ?_, ?_, hpB, h.sgB, h.fmB, h.smB, by rw [hs]; omega, hn, ?_⟩, ⟨hgrow.os, hgrow.tape, hgrow.output, by rw [hs]; omega, fun k hk hp _ ht => (far k hp).trans (old k hk ht), .inl rfl, ?_⟩⟩
  · rw [far sg (Ne.symm hn.1), old sg (by have := h.sgB; omega) (lo sg h.sgB)]; exact h.signs
  · exact h.fixed.of_block ((far fm (Ne.symm hn.2.1)).trans (old fm (by have := h.fmB; omega) (lo fm h.fmB)))
  · rw [far sm (Ne.symm hn.2.2), old sm (by have := h.smB; omega) (lo sm h.smB)]; exact h.steps
  · refine owns_of_block h.toks fun g hg => ?_
    have hg' := owns_ge h.toks g hg
    refine (far g (by omega)).trans (old g hg'.2 fun e => ?_)
    rcases hap with e' | e'
    · rw [hg] at e'; cases e'
    · exact e' (hg.trans e)
  · exact owns_of_block hown1 fun g hg => by simp [Value.ownBlock] at hg; subst hg; exact far gg (by omega)
  · rcases hap with e2 | e2
    · exact .inl e2
    · refine .inr fun e => ?_
      rcases hat with e' | e'
      · exact e2 (by rw [e, e']; rfl)
      · have := owns_ge h.toks gg e; omega
  · rcases hat with e' | e'
    · exact .inl (by rw [e']; rfl)
    · refine .inr fun k hk => ?_
      simp [Value.ownBlock] at hk; omega

theorem info69 : (Tryz.prog.info? 81).map (fun i => (i.zero, i.size, i.bytes)) = some (some (.agg #[.int .i64 0, .int .i64 0]), 2, 16) := by kernel_rfl

set_option maxRecDepth 100000 in
set_option maxHeartbeats 1000000 in
theorem comment_any (h : Sc B p sg fm sm text st tv cv w) (hs : text.size ≤ 2000000) (hat : st.at_ ≤ text.size) (hc : st.cs.length ≤ 2000000) (ho : Lx.opens ((bts text).drop st.at_) = true) :
    Calls Tryz.prog 90 #[.pointer (some ⟨p, 0, none⟩)] w
      (Ends B p sg fm sm text st tv cv w ((Lx.comm 0 ((bts text).drop st.at_)).map fun n => { at_ := st.at_ + n, ts := st.ts, cs := st.cs ++ [(st.at_, st.at_ + n)] })) := by
  obtain ⟨i0, hi0, hz0, hz1, hz2⟩ := info_parts info69
  have c0 := h.c0
  have c1 := h.c1
  have c3 := h.c3
  have f3 := h.fz 3
  have f1 := h.fz 1
  have H := Lib.hid h
  have HO := Lib.hid ho
  clear h ho
  generalize hr : (Lx.comm 0 ((bts text).drop st.at_)).map (fun n => ({ at_ := st.at_ + n, ts := st.ts, cs := st.cs ++ [(st.at_, st.at_ + n)] } : St)) = r
  have HR := Lib.hid hr
  clear hr
  go_enter Tryz.func90, Tryz.ntmps90
  go_wp2_with fail
  go_loop [2, 3] (fun o i => ∃ (d k : Nat), k ≤ text.size ∧ d ≤ k ∧ o = .int .i64 d ∧ i = .int .i64 k ∧ ((d = 0 ∧ k = st.at_) ∨ (1 ≤ d ∧ st.at_ ≤ k)) ∧ Lx.comm 0 ((bts text).drop st.at_) = (Lx.comm d ((bts text).drop k)).map (· + (k - st.at_))) (fun _ i => text.size - (intOf i).toNat)
  case atStart => exact ⟨0, st.at_, hat, by omega, rfl, rfl, .inl ⟨rfl, rfl⟩, by simp⟩
  case round =>
    obtain ⟨d, k, hk, hdk, rfl, rfl, hd, hcm⟩ := hrel
    have HD := Lib.hid hd
    have HC := Lib.hid hcm
    clear hd hcm
    have hk0 : (0 : Int) ≤ (k : Int) := Int.natCast_nonneg _
    have hk1 : (k : Int) ≤ (text.size : Int) := by omega
    have hd0 : (0 : Int) ≤ (d : Int) := Int.natCast_nonneg _
    by_cases hlt : k < text.size
    · have hp1 := pfx_open text k
      have hp2 := pfx_close text k
      cases hop : Lx.opens ((bts text).drop k) with
      | true =>
        rw [hop] at hp1
        have HOP := Lib.hid hop
        clear hop hp2
        have hne0 : (((d : Int) + 1) == 0) = false := by rw [beq_eq_false_iff_ne]; omega
        go_wp2_with (go_at_call 89; refine (hasPrefix_k _ _ _).mono ?_; rintro e w' ⟨rfl, rfl⟩)
        obtain ⟨q, hq⟩ := (Lx.opens_iff _).1 HOP.out
        have hql : k + 2 ≤ text.size := by
          have := congrArg List.length hq; rw [List.length_drop, bts_length] at this; simp at this; omega
        go_round
        case rel =>
          refine ⟨d + 1, k + 2, hql, by omega, by go_num, by go_num, .inr ⟨by omega, by rcases HD.out with ⟨_, h⟩ | ⟨_, h⟩ <;> omega⟩, ?_⟩
          rw [HC.out, hq, Lx.comm_open, ← List.drop_drop, hq]
          have : st.at_ ≤ k := by rcases HD.out with ⟨_, h⟩ | ⟨_, h⟩ <;> omega
          rw [show List.drop 2 (40 :: 42 :: q) = q from rfl]
          cases Lx.comm (d + 1) q with
          | none => rfl
          | some n => simp only [Option.map_some]; congr 1; omega
        case measure => simp [intOf]; omega
      | false =>
        rw [hop] at hp1
        have hd1 : 1 ≤ d := by
          rcases HD.out with ⟨_, h⟩ | ⟨h, _⟩
          · have := HO.out; rw [← h, hop] at this; cases this
          · exact h
        have hka : st.at_ ≤ k := by rcases HD.out with ⟨_, h⟩ | ⟨_, h⟩ <;> omega
        have HOP := Lib.hid hop
        clear hop
        cases hcl : Lx.closes ((bts text).drop k) with
        | true =>
          rw [hcl] at hp2
          have HCL := Lib.hid hcl
          clear hcl
          obtain ⟨q, hq⟩ := (Lx.closes_iff _).1 HCL.out
          have HQ := Lib.hid hq
          clear hq
          have hql : k + 2 ≤ text.size := by
            have := congrArg List.length HQ.out; rw [List.length_drop, bts_length] at this; simp at this; omega
          by_cases hd2 : d = 1
          · subst hd2
            have hcm := HC.out
            rw [HQ.out, Lx.comm_close1] at hcm
            have hr : some { at_ := k + 2, ts := st.ts, cs := st.cs ++ [(st.at_, k + 2)] } = r := by
              rw [← HR.out, hcm]; simp only [Option.map_some]; rw [show st.at_ + (2 + (k - st.at_)) = k + 2 from by omega]
            subst hr
            clear hcm
            go_wp2_with (go_at_call 89; refine (hasPrefix_k _ _ _).mono ?_; rintro e w' ⟨rfl, rfl⟩)
            have hpw := H.out.pw
            have d3 : ∀ o, (w.alloc o).cell? ⟨p, 3, none⟩ = some cv := fun o => by rw [World.cell?_of_block (w := w) (heap_alloc_old w o hpw)]; exact c3
            have d1 : ∀ o, (w.alloc o).cell? ⟨p, 1, none⟩ = some (.int .i64 st.at_) := fun o => by rw [World.cell?_of_block (w := w) (heap_alloc_old w o hpw)]; exact c1
            have hown := H.out.coms
            have HOW := Lib.hid hown
            have hav : cv.ownBlock ≠ some p := fun e => by have := owns_ge H.out.coms p e; have := H.out.pB; omega
            have HA := Lib.hid hav
            have hB1 := H.out.BW
            clear hown hav
            go_region_law (first
              | (refine step_append_lies _ (by rfl) _ _ _ (by rfl) B 81 i0 _ 2 16 Tryz.underlying75 hi0 hz0 hz1 hz2 rfl (by omega) cv st.cs.length (spanCs st.cs) (by rfl) ((HOW.out.alloc _).drew)
                  ⟨w.heap.size, 0, none⟩ 1 1 [.int .i64 st.at_, .int .i64 (k + 2)] (by rfl) (by rfl) (World.news_of_block (cs := #[.int .i64 st.at_, .int .i64 (k + 2)]) (t := 81) (fr := (0, 0)) (heap_alloc_new w _)) (by simp [Value.oneCell'])
                  (by omega) (by unfold maxLen; omega) (by omega) (by simp; omega) (w.heap.size + 1) (by simp) ?_; intro gg cap w1 hown1 hgrow hat hlt; have f2 : w1.frozen? ⟨p, 3, none⟩ = false := (by rw [World.frozen?_of_block (w := w) ((hgrow.block p (by simp; omega) (fun e => HA.out e.symm)).trans (heap_alloc_old w _ hpw))]; exact f3); have g2 : w1.cell? ⟨p, 3, none⟩ = some cv := (by rw [World.cell?_of_block (w := w) ((hgrow.block p (by simp; omega) (fun e => HA.out e.symm)).trans (heap_alloc_old w _ hpw))]; exact c3)))
            all_goals
              have hp1 : w1.heap[p]? = some (.cells (scn text st.at_ tv cv sg fm sm) 79) := ((hgrow.block p (by simp; omega) (fun e => HA.out e.symm)).trans (heap_alloc_old w _ hpw)).trans H.out.self
              have g1 : w1.cell? ⟨p, 1, none⟩ = some (.int .i64 st.at_) := by rw [(cells_of hp1 1).1]; rfl
              have f1' : w1.frozen? ⟨p, 1, none⟩ = false := (cells_of hp1 1).2
              have HG := Lib.hid hgrow
              have HO1 := Lib.hid hown1
              have HAT := Lib.hid hat
              clear hgrow hown1 hat hp1
              go_wp2_with fail
              first | go_end0 | refine bodyPost_ret (results_none rfl _ _ _) rfl ?_
              have ht := H.out.turnC HG.out (cs := st.cs ++ [(st.at_, k + 2)]) (by rw [spanCs_snoc, List.length_append]; exact HO1.out) HAT.out (k + 2)
              exact ⟨rfl, tv, _, ht.1, ht.2⟩
          · have hne0 : (((d : Int) - 1) == 0) = false := by rw [beq_eq_false_iff_ne]; omega
            have hd3 : (1 : Int) ≤ (d : Int) := by omega
            go_wp2_with (go_at_call 89; refine (hasPrefix_k _ _ _).mono ?_; rintro e w' ⟨rfl, rfl⟩)
            go_round
            case rel =>
              refine ⟨d - 1, k + 2, hql, by omega, by rw [show (d : Int) - 1 = ((d - 1 : Nat) : Int) from by omega], by go_num, .inr ⟨by omega, by omega⟩, ?_⟩
              rw [HC.out, HQ.out, Lx.comm_close d hd2, ← List.drop_drop, HQ.out]
              rw [show List.drop 2 (42 :: 41 :: q) = q from rfl]
              cases Lx.comm (d - 1) q with
              | none => rfl
              | some n => simp only [Option.map_some]; congr 1; omega
            case measure => simp [intOf]; omega
        | false =>
          rw [hcl] at hp2
          have HCL := Lib.hid hcl
          clear hcl
          have hne0 : ((d : Int) == 0) = false := by rw [beq_eq_false_iff_ne]; omega
          go_wp2_with (go_at_call 89; refine (hasPrefix_k _ _ _).mono ?_; rintro e w' ⟨rfl, rfl⟩)
          go_round
          case rel =>
            refine ⟨d, k + 1, by omega, by omega, rfl, by go_num, .inr ⟨hd1, by omega⟩, ?_⟩
            have hq := bts_drop text k hlt
            have h1 := HOP.out
            have h2 := HCL.out
            rw [hq] at h1 h2
            rw [HC.out, hq, Lx.comm_other d _ _ h1 h2]
            cases Lx.comm d ((bts text).drop (k + 1)) with
            | none => rfl
            | some n => simp only [Option.map_some]; congr 1; omega
          case measure => simp [intOf]; omega
    · have hr : none = r := by rw [← HR.out, HC.out, bts_nil text k (by omega), Lx.comm_nil]; rfl
      subst hr
      go_wp2_with fail
      refine (refuse_any H.out).mono ?_
      rintro e w' ⟨rfl, rfl⟩
      exact ⟨rfl, rfl, H.out, Moved.refl _ _ _ _⟩

set_option maxRecDepth 100000 in
theorem bracket_any (h : Sc B p sg fm sm text st tv cv w) (hs : text.size ≤ 2000000) (hat : st.at_ ≤ text.size) (hn : st.ts.length ≤ 2000000) (hc : st.cs.length ≤ 2000000) :
    Calls Tryz.prog 57 #[.pointer (some ⟨p, 0, none⟩)] w
      (Ends B p sg fm sm text st tv cv w (bif Lx.opens ((bts text).drop st.at_) then (Lx.comm 0 ((bts text).drop st.at_)).map fun n => { at_ := st.at_ + n, ts := st.ts, cs := st.cs ++ [(st.at_, st.at_ + n)] } else stTok st (Lx.sign ((bts text).drop st.at_)))) := by
  have c0 := h.c0
  have c1 := h.c1
  have hi0 : (0 : Int) ≤ (st.at_ : Int) := Int.natCast_nonneg _
  have hi1 : (st.at_ : Int) ≤ (text.size : Int) := by omega
  have hp := pfx_open text st.at_
  have hq := fun (m : Nat) (ho : Lx.opens ((bts text).drop st.at_) = true) => comment_any (h.drewN m) hs hat hc ho
  have hq2 := fun (m : Nat) => sign_any (h.drewN m) hs hat hn
  have HQ := Lib.hid hq
  have HQ2 := Lib.hid hq2
  clear hq hq2 h
  cases ho : Lx.opens ((bts text).drop st.at_) with
  | true =>
    rw [ho] at hp
    simp only [cond_true]
    have HO := Lib.hid ho
    clear ho
    generalize (Lx.comm 0 ((bts text).drop st.at_)).map (fun n => ({ at_ := st.at_ + n, ts := st.ts, cs := st.cs ++ [(st.at_, st.at_ + n)] } : St)) = r at *
    go_enter Tryz.func57, Tryz.ntmps57
    go_wp2_with fail
    go_quiet ((go_at_call 89; exact Calls.quiet_of_same (hasPrefix_any _ _ _)))
    rw [hp]
    go_wp2_with fail
    refine (HQ.out nq HO.out).mono ?_
    cases r with
    | none =>
      rintro e w1 ⟨rfl, h1, h2⟩
      exact ⟨rfl, rfl, h1, (Moved.drewN nq).trans h2⟩
    | some st' =>
      rintro e w1 ⟨rfl, tv', cv', h1, h2⟩
      have H1 := Lib.hid h1
      have H2 := Lib.hid h2
      clear h1 h2
      go_wp2_with fail
      go_end0
      exact ⟨rfl, tv', cv', H1.out, (Moved.drewN nq).trans H2.out⟩
  | false =>
    rw [ho] at hp
    simp only [cond_false]
    clear ho
    generalize stTok st (Lx.sign ((bts text).drop st.at_)) = r at *
    go_enter Tryz.func57, Tryz.ntmps57
    go_wp2_with fail
    go_quiet ((go_at_call 89; exact Calls.quiet_of_same (hasPrefix_any _ _ _)))
    rw [hp]
    go_wp2_with fail
    refine (HQ2.out nq).mono ?_
    cases r with
    | none =>
      rintro e w1 ⟨rfl, h1, h2⟩
      exact ⟨rfl, rfl, h1, (Moved.drewN nq).trans h2⟩
    | some st' =>
      rintro e w1 ⟨rfl, tv', cv', h1, h2⟩
      have H1 := Lib.hid h1
      have H2 := Lib.hid h2
      clear h1 h2
      go_wp2_with fail
      go_end0
      exact ⟨rfl, tv', cv', H1.out, (Moved.drewN nq).trans H2.out⟩
end
end Go.Proofs.YtcjdacdggklifaaGreatDoor
