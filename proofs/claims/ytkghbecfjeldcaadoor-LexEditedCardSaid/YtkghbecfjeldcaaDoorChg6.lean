/- Edits: resume. -/
import Derived.Test.YtkghbecfjeldcaaDoorChg5
namespace Go.Proofs.YtkghbecfjeldcaaDoor
open Go.RowKit

section
variable {B p sg fm sm : Nat} {text : ByteArray} {st : St} {tv cv : Value} {w : World}
/-- A state whose tokens have been turned, the place as it was. -/
theorem Sc.turnT (h : Sc B p sg fm sm text st tv cv w) {w1 : World} {o o2 : Obj} (hgrow : ((w.alloc o).alloc o2).drew.grownBy w1 tv.ownBlock) {gg n cap : Nat} {ts : List Lx.Tok}
    (hown1 : w1.ownsRow B 31 5 (.slice (some ⟨gg, 0, none⟩) n cap) ts.length (tokCs ts)) (hat : tv.ownBlock = some gg ∨ gg = w.heap.size + 1 + 1) :
    Sc B p sg fm sm text { st with ts := ts } (.slice (some ⟨gg, 0, none⟩) n cap) cv (w1.setCell ⟨p, 2, none⟩ (.slice (some ⟨gg, 0, none⟩) n cap)) ∧
    Moved p tv cv w (.slice (some ⟨gg, 0, none⟩) n cap) cv (w1.setCell ⟨p, 2, none⟩ (.slice (some ⟨gg, 0, none⟩) n cap)) := by
  have hn := h.ne
  have hpB := h.pB
  have hBW := h.BW
  have hsz : w.heap.size + 2 ≤ w1.heap.size := by have := hgrow.size; simpa using this
  have hap := h.apart
  have old : ∀ b, b < w.heap.size → some b ≠ tv.ownBlock → w1.heap[b]? = w.heap[b]? := fun b hb hne =>
    ((hgrow.block b (by simp; omega) hne).trans (heap_alloc_old _ _ (by simp; omega))).trans (heap_alloc_old w _ hb)
  have lo : ∀ b, b < B → some b ≠ tv.ownBlock := fun b hb e => by have := owns_ge h.toks b e.symm; omega
  have hself : w1.heap[p]? = some (.cells (scn text st.at_ tv cv sg fm sm) 67) := (old p (by omega) (lo p hpB)).trans h.self
  have s1 := setCell_at w1 ⟨p, 2, none⟩ (.slice (some ⟨gg, 0, none⟩) n cap) _ _ hself rfl
  have far : ∀ b, b ≠ p → (w1.setCell ⟨p, 2, none⟩ (.slice (some ⟨gg, 0, none⟩) n cap)).heap[b]? = w1.heap[b]? := fun b hb => Below.heap_setCell _ _ _ _ hb
  have hs : (w1.setCell ⟨p, 2, none⟩ (.slice (some ⟨gg, 0, none⟩) n cap)).heap.size = w1.heap.size := by simp [World.setCell]
  have hgB : B ≤ gg := (owns_ge hown1 gg rfl).1
  refine ⟨⟨s1, ?_, ?_, ?_, ?_, ?_, hpB, h.sgB, h.fmB, h.smB, by rw [hs]; omega, hn, ?_⟩, ⟨hgrow.os, hgrow.tape, hgrow.output, by rw [hs]; omega, fun k hk hp ht _ => (far k hp).trans (old k hk ht), ?_, .inl rfl⟩⟩
  · rw [far sg (Ne.symm hn.1), old sg (by have := h.sgB; omega) (lo sg h.sgB)]; exact h.signs
  · exact h.fixed.of_block ((far fm (Ne.symm hn.2.1)).trans (old fm (by have := h.fmB; omega) (lo fm h.fmB)))
  · rw [far sm (Ne.symm hn.2.2), old sm (by have := h.smB; omega) (lo sm h.smB)]; exact h.steps
  · exact owns_of_block hown1 fun g hg => by simp [Value.ownBlock] at hg; subst hg; exact far gg (by omega)
  · refine owns_of_block h.coms fun g hg => ?_
    have hg' := owns_ge h.coms g hg
    refine (far g (by omega)).trans (old g hg'.2 fun e => ?_)
    rcases hap with e' | e'
    · rw [← e] at e'; cases e'
    · exact e' (by rw [hg]; exact e.symm)
  · refine .inr ?_
    intro e
    rcases hat with e' | e'
    · rcases hap with e2 | e2
      · rw [e'] at e2; cases e2
      · exact e2 (e'.trans e)
    · have := owns_ge h.coms gg e.symm; omega
  · rcases hat with e' | e'
    · exact .inl (by rw [e']; rfl)
    · refine .inr fun k hk => ?_
      simp [Value.ownBlock] at hk; omega
/-- The old tokens lie apart from a scanner and what it owns. -/
def Away (p : Nat) (tv cv : Value) (w : World) (oa : Option Addr) : Prop := ∀ a, oa = some a → a.block < w.heap.size ∧ a.block ≠ p ∧ some a.block ≠ tv.ownBlock ∧ some a.block ≠ cv.ownBlock
theorem TokV.moved {tv' cv' : Value} {w' : World} {oa : Option Addr} {rs : List RT} (h : TokV w oa rs) (ha : Away p tv cv w oa) (hm : Moved p tv cv w tv' cv' w') : TokV w' oa rs := fun hn => by
  obtain ⟨g, off, rfl, hl, hc⟩ := h hn
  obtain ⟨h1, h2, h3, h4⟩ := ha _ rfl
  exact ⟨g, off, rfl, Nat.lt_of_lt_of_le hl hm.size, fun i hi j hj => (World.cell?_of_block (w := w) (a := ⟨g, off + (i * 5 + j), none⟩) (hm.block g hl h2 h3 h4)).trans (hc i hi j hj)⟩

theorem sc_grown {tv0 cv0 : Value} {w0 w' : World} (h : Sc B p sg fm sm text st tv cv w) (hm : Moved p tv0 cv0 w0 tv cv w) (hg : w.grownBy w' none) : Sc B p sg fm sm text st tv cv w' ∧ Moved p tv0 cv0 w0 tv cv w' := by
  have hk : ∀ b, b < B → w'.heap[b]? = w.heap[b]? := fun b hb => hg.block b (Nat.lt_of_lt_of_le hb h.BW) (by simp)
  exact ⟨⟨(hk p h.pB).trans h.self, (hk sg h.sgB).trans h.signs, h.fixed.of_block (hk fm h.fmB), (hk sm h.smB).trans h.steps,
    owns_of_block h.toks fun b hb => hg.block b (owns_ge h.toks b hb).2 (by simp), owns_of_block h.coms fun b hb => hg.block b (owns_ge h.coms b hb).2 (by simp), h.pB, h.sgB, h.fmB, h.smB, Nat.le_trans h.BW hg.size, h.ne, h.apart⟩,
    ⟨hg.os.trans hm.os, hg.tape.trans hm.tape, hg.output.trans hm.output, Nat.le_trans hm.size hg.size, fun k hk hp ht hc => (hg.block k (Nat.lt_of_lt_of_le hk hm.size) (by simp)).trans (hm.block k hk hp ht hc), hm.tvR, hm.cvR⟩⟩

set_option maxRecDepth 100000 in
set_option maxHeartbeats 2000000 in
theorem resume_any (h : Sc B p sg fm sm text st tv cv w) (old : List Lx.Tok) {l : Lx.Bs} (hch : Lx.Chain l 0 old) (n : Nat) (hn : old.length = n) (hn2 : n ≤ 20000) (oa : Option Addr) (cap : Nat) (hcap : n ≤ cap) (htok : TokV w oa (old.map rt)) (haw : Away p tv cv w oa)
    (pe c : Nat) (S : ByteArray) (hat : st.at_ ≤ text.size) (hs : text.size ≤ 100000) (hpe : pe ≤ 100000) (hc : c ≤ 100000) (hS : S.size ≤ 100000) (hl : l.length ≤ 100000) (hts : st.ts.length ≤ 100000) :
    Calls Tryd.prog 70 #[.pointer (some ⟨p, 0, none⟩), .slice oa n cap, .agg #[.int .i64 pe, .int .i64 c, .string S]] w fun e w' =>
      e = .returned (.bool (dRes text.size old pe c S.size st).1) ∧ ∃ tv' cv', Sc B p sg fm sm text (dRes text.size old pe c S.size st).2 tv' cv' w' ∧ Moved p tv cv w tv' cv' w' := by
  obtain ⟨i0, hi0, hz0, hz1, hz2⟩ := info_parts info31
  have c0 := h.c0
  have c1 := h.c1
  have H := Lib.hid (And.intro h (And.intro hch (And.intro hn (And.intro htok haw))))
  have hpw := h.pw
  clear h hch hn htok haw
  have hS1 := H.out.1.allocD (w1 := w.alloc (.cells #[.slice oa n cap] 25)) _ rfl rfl rfl rfl
  have hS2 := hS1.1.allocD (w1 := (w.alloc (.cells #[.slice oa n cap] 25)).alloc (.cells #[.int .i64 pe, .int .i64 c, .string S] 38)) _ rfl rfl rfl rfl
  have hM2 := hS1.2.trans hS2.2
  obtain ⟨W2, hW2⟩ : ∃ W, W = (w.alloc (.cells #[.slice oa n cap] 25)).alloc (.cells #[.int .i64 pe, .int .i64 c, .string S] 38) := ⟨_, rfl⟩
  rw [← hW2] at hS2 hM2
  have hbo : W2.heap[w.heap.size]? = some (.cells #[.slice oa n cap] 25) := by subst hW2; rw [alloc_miss _ _ _ (by simp), alloc_hit _ _ _ rfl]
  have hbe : W2.heap[w.heap.size + 1]? = some (.cells #[.int .i64 pe, .int .i64 c, .string S] 38) := by subst hW2; rw [alloc_hit _ _ _ (by simp)]
  have hz2 : W2.heap.size = w.heap.size + 2 := by subst hW2; simp
  have HS2 := Lib.hid (And.intro hS2.1 hM2)
  have HBX := Lib.hid (And.intro hbo (And.intro hbe hz2))
  have HW2 := Lib.hid hW2
  clear hW2 hS1 hS2 hM2 hbo hbe hz2 c0 c1
  have c0 := HS2.out.1.c0
  have c1 := HS2.out.1.c1
  have o0 : W2.cell? ⟨w.heap.size, 0, none⟩ = some (.slice oa n cap) := by rw [(cells_of HBX.out.1 0).1]; rfl
  have d0 : W2.cell? ⟨w.heap.size + 1, 0, none⟩ = some (.int .i64 pe) := by rw [(cells_of HBX.out.2.1 0).1]; rfl
  have d1 : W2.cell? ⟨w.heap.size + 1, 1, none⟩ = some (.int .i64 c) := by rw [(cells_of HBX.out.2.1 1).1]; rfl
  have d2 : W2.cell? ⟨w.heap.size + 1, 2, none⟩ = some (.string S) := by rw [(cells_of HBX.out.2.1 2).1]; rfl
  by_cases hlt : st.at_ < pe + S.size
  · have hl1 : (st.at_ : Int) < (pe : Int) + (S.size : Int) := by omega
    have hd : dRes text.size old pe c S.size st = (false, st) := by unfold dRes; rw [if_pos hlt]
    rw [hd]
    clear hd
    go_enter Tryd.func70, Tryd.ntmps70
    go_wp2_with fail
    rw [← HW2.out]
    go_quiet (fail)
    go_wp2_with fail
    go_ret
    exact ⟨rfl, tv, cv, HS2.out.1.drewN _, HS2.out.2.trans (Moved.drewN _)⟩
  · have hl1 : ¬ (st.at_ : Int) < (pe : Int) + (S.size : Int) := by omega
    obtain ⟨y, hy⟩ : ∃ y, st.at_ + c - S.size = y := ⟨_, rfl⟩
    have hy1 : (st.at_ : Int) - ((S.size : Int) - (c : Int)) = (y : Int) := by omega
    have HY := Lib.hid hy
    clear hy
    go_enter Tryd.func70, Tryd.ntmps70
    go_wp2_with fail
    rw [← HW2.out]
    go_quiet (fail)
    obtain ⟨W3, hW3⟩ : ∃ W, W = W2.drewN nq := ⟨_, rfl⟩
    rw [← hW3]
    have hS3 : Sc B p sg fm sm text st tv cv W3 ∧ Moved p tv cv w tv cv W3 := by subst hW3; exact ⟨HS2.out.1.drewN _, HS2.out.2.trans (Moved.drewN _)⟩
    have hh3 : ∀ b : Nat, W3.heap[b]? = W2.heap[b]? := by subst hW3; exact fun b => rfl
    have hz3 : W3.heap.size = w.heap.size + 2 := by subst hW3; exact HBX.out.2.2
    have HS3 := Lib.hid hS3
    have HB3 := Lib.hid (And.intro ((hh3 _).trans HBX.out.1) (And.intro ((hh3 _).trans HBX.out.2.1) hz3))
    clear hS3 hh3 hz3 hW3 c0 c1 o0 d0 d1 d2
    have c0 := HS3.out.1.c0
    have c1 := HS3.out.1.c1
    have o0 : W3.cell? ⟨w.heap.size, 0, none⟩ = some (.slice oa n cap) := by rw [(cells_of HB3.out.1 0).1]; rfl
    have d0 : W3.cell? ⟨w.heap.size + 1, 0, none⟩ = some (.int .i64 pe) := by rw [(cells_of HB3.out.2.1 0).1]; rfl
    have d1 : W3.cell? ⟨w.heap.size + 1, 1, none⟩ = some (.int .i64 c) := by rw [(cells_of HB3.out.2.1 1).1]; rfl
    have d2 : W3.cell? ⟨w.heap.size + 1, 2, none⟩ = some (.string S) := by rw [(cells_of HB3.out.2.1 2).1]; rfl
    have o0' : ∀ o, (W3.alloc o).cell? ⟨w.heap.size, 0, none⟩ = some (.slice oa n cap) := fun o => by rw [World.cell?_of_block (w := W3) (a := ⟨w.heap.size, 0, none⟩) (heap_alloc_old W3 o (by have := HB3.out.2.2; show w.heap.size < _; omega))]; exact o0
    go_wp2_with fail
    have hW4 := HS3.out.1.allocD (w1 := W3.alloc (.cells #[.int .i64 y] 3)) _ rfl rfl rfl rfl
    have hM4 := HS3.out.2.trans hW4.2
    have hb4 : (W3.alloc (.cells #[.int .i64 y] 3)).heap[W3.heap.size]? = some (.cells #[.int .i64 y] 3) := heap_alloc_new W3 _
    have ho4 := o0' (.cells #[.int .i64 y] 3)
    have hbe4 : (W3.alloc (.cells #[.int .i64 y] 3)).heap[w.heap.size + 1]? = some (.cells #[.int .i64 pe, .int .i64 c, .string S] 38) := (heap_alloc_old W3 _ (by have := HB3.out.2.2; omega)).trans HB3.out.2.1
    have hlt4 : W3.heap.size < (W3.alloc (.cells #[.int .i64 y] 3)).heap.size := by simp
    have hz4 : w.heap.size + 2 = W3.heap.size := HB3.out.2.2.symm
    generalize (W3.alloc (.cells #[.int .i64 y] 3)) = W4 at *
    have hsb := search_begs old H.out.2.1 (by have := H.out.2.2.1; omega) oa cap w.heap.size W3.heap.size y W4 (H.out.2.2.2.1.moved H.out.2.2.2.2 hM4) (by rw [H.out.2.2.1]; exact ho4) (by rw [(cells_of hb4 0).1]; rfl)
    rw [H.out.2.2.1] at hsb
    refine hsb.mono ?_
    rintro e W5 ⟨rfl, hg5⟩
    have hS5 : Sc B p sg fm sm text st tv cv W5 ∧ Moved p tv cv w tv cv W5 := sc_grown hW4.1 hM4 hg5
    have hb5 : W5.heap[W3.heap.size]? = some (.cells #[.int .i64 y] 3) := (hg5.block _ hlt4 (by simp)).trans hb4
    have hbe5 : W5.heap[w.heap.size + 1]? = some (.cells #[.int .i64 pe, .int .i64 c, .string S] 38) := (hg5.block _ (by omega) (by simp)).trans hbe4
    have ho5 : W5.cell? ⟨w.heap.size, 0, none⟩ = some (.slice oa n cap) := (World.cell?_of_block (w := W4) (a := ⟨w.heap.size, 0, none⟩) (hg5.block w.heap.size (by omega) (by simp))).trans ho4
    have hy5 : W5.cell? ⟨W3.heap.size, 0, none⟩ = some (.int .i64 y) := by rw [(cells_of hb5 0).1]; rfl
    have hsp := cnt_split (begsQ old y) old.length (begs_mono H.out.2.1 y)
    have hN : nextN old y ≤ n := by have h1 : nextN old y ≤ old.length := hsp.1; have := H.out.2.2.1; omega
    have hdr : dRes text.size old pe c S.size st = if nextN old y = n ∨ (old.getD (nextN old y) tok0).at_ ≠ y then (false, st) else (true, ⟨text.size, st.ts ++ (old.drop (nextN old y)).map (movedT c S.size), st.cs⟩) := by
      unfold dRes; rw [if_neg hlt, HY.out, H.out.2.2.1]
    have HS5 := Lib.hid hS5
    have HDR := Lib.hid hdr
    have HBE5 := Lib.hid hbe5
    clear hW4 hM4 hb4 ho4 hbe4 hsb hS5 hg5 hb5 hbe5 hsp hdr c0 c1 o0 d0 d1 d2 o0' hlt4
    generalize nextN old y = N at *
    generalize W3.heap.size = gy at *
    by_cases hNn : N = n
    · have hN1 : ((N : Int) == (n : Int)) = true := by rw [beq_iff_eq]; omega
      have hd : dRes text.size old pe c S.size st = (false, st) := by rw [HDR.out, if_pos (.inl hNn)]
      have HD := Lib.hid hd
      clear hd
      have HNn := Lib.hid hNn
      clear hNn
      go_wp2_with fail
      go_quiet (fail)
      go_wp2_with fail
      go_ret
      rw [HD.out]
      exact ⟨rfl, tv, cv, HS5.out.1.drewN _, HS5.out.2.trans (Moved.drewN _)⟩
    · have hN1 : ((N : Int) == (n : Int)) = false := by rw [beq_eq_false_iff_ne]; omega
      have hNl : N < old.length := by have := H.out.2.2.1; omega
      have hNm : N < (old.map rt).length := by rw [List.length_map]; exact hNl
      have htk5 := H.out.2.2.2.1.moved H.out.2.2.2.2 HS5.out.2
      obtain ⟨g, off, hoa, hg5, hce⟩ := htk5 (by rw [List.length_map]; omega)
      have haw := H.out.2.2.2.2
      subst hoa
      obtain ⟨aw1, aw2, aw3, aw4⟩ := haw _ rfl
      have hc3 : W5.cell? ⟨g, off + (N * 5 + 3), none⟩ = some (.int .i64 (old[N]).at_) := by
        have := hce N hNm 3 (by omega)
        rw [List.getElem_map] at this; exact this
      rw [← Nat.add_assoc] at hc3
      rw [getD_lt old N hNl] at HDR
      have HCE := Lib.hid (And.intro hce (And.intro aw1 (And.intro aw2 (And.intro aw3 aw4))))
      have hNi : (N : Int) < (n : Int) := by omega
      clear hce aw1 aw2 aw3 aw4 hNm
      generalize hat_ : (old[N]).at_ = at_ at *
      have HAT := Lib.hid hat_
      clear hat_
      by_cases hay : at_ = y
      · have ha1 : ((at_ : Int) == (y : Int)) = true := by rw [beq_iff_eq]; omega
        have ha2 : ((at_ : Int) != (y : Int)) = false := by rw [bne, ha1]; rfl
        have hd : dRes text.size old pe c S.size st = (true, ⟨text.size, st.ts ++ (old.drop N).map (movedT c S.size), st.cs⟩) := by rw [HDR.out, if_neg (fun h => h.elim hNn (fun h => h hay))]
        have HD := Lib.hid hd
        have HAY := Lib.hid hay
        clear hd hay
        go_wp2_with fail
        go_quiet (fail)
        obtain ⟨W6, hW6⟩ : ∃ W, W = W5.drewN nq := ⟨_, rfl⟩
        rw [← hW6]
        have hS6 : Sc B p sg fm sm text st tv cv W6 ∧ Moved p tv cv w tv cv W6 := by subst hW6; exact ⟨HS5.out.1.drewN _, HS5.out.2.trans (Moved.drewN _)⟩
        have hh6 : ∀ b : Nat, W6.heap[b]? = W5.heap[b]? := by subst hW6; exact fun b => rfl
        have o6 : W6.cell? ⟨w.heap.size, 0, none⟩ = some (.slice (some ⟨g, off, none⟩) n cap) := by subst hW6; exact ho5
        have HS6 := Lib.hid hS6
        have HH6 := Lib.hid (And.intro hh6 o6)
        clear hS6 hh6 hW6 ho5 hy5 hc3 ha1 ha2
        obtain ⟨M, hM⟩ : ∃ M, n - N = M := ⟨_, rfl⟩
        have hM1 : (n : Int) - (N : Int) = (M : Int) := by omega
        have hM2 : N + M = n := by omega
        have HM := Lib.hid hM2
        clear hM
        go_wp2_with fail
        go_loopw [56] (fun v wr => ∃ (k : Nat) (tv' : Value), k ≤ M ∧ v = .int .i64 k ∧ Sc B p sg fm sm text ⟨st.at_, st.ts ++ ((old.drop N).take k).map (movedT c S.size), st.cs⟩ tv' cv wr ∧ Moved p tv cv w tv' cv wr) (fun v _ => M - (intOf v).toNat)
        case atStart => exact ⟨0, tv, by omega, rfl, by rw [List.take_zero, List.map_nil, List.append_nil]; exact HS6.out.1, HS6.out.2⟩
        case round =>
          obtain ⟨k, tv', hk, rfl, hsc, hmv⟩ := hrel
          have HSC := Lib.hid (And.intro hsc hmv)
          by_cases hkM : k < M
          · have hkl : N + k < old.length := by have := H.out.2.2.1; omega
            have hkm : N + k < (old.map rt).length := by rw [List.length_map]; exact hkl
            have htkr := H.out.2.2.2.1.moved H.out.2.2.2.2 hmv
            obtain ⟨g', off', hoa', hgr, hcr⟩ := htkr (by rw [List.length_map]; omega)
            simp only [Option.some.injEq, Addr.mk.injEq, and_true] at hoa'
            obtain ⟨rfl, rfl⟩ := hoa'
            have e1 : ∀ j, j < 5 → wr.cell? ⟨g, off + N * 5 + k * 5 + j, none⟩ = (rt (old[N + k])).cells[j]? := fun j hj => by
              have h1 := hcr (N + k) hkm j hj
              rw [List.getElem_map] at h1
              rw [show off + N * 5 + k * 5 + j = off + ((N + k) * 5 + j) from by omega]; exact h1
            have hge : y ≤ (old[N + k]).at_ := by
              by_cases hk0 : k = 0
              · subst hk0; have h1 := HAT.out; have h2 := HAY.out; simp only [Nat.add_zero]; omega
              · have h1 := (Lx.chain_ends old l 0 H.out.2.1 N (N + k) (by omega) hkl).2
                have h3 := (Lx.chain_tok old l 0 H.out.2.1 N hNl).2.1
                have h1' := HAT.out; have h2 := HAY.out; omega
            have hlt5 := Lx.chain_tok old l 0 H.out.2.1 (N + k) hkl
            have hnext : ((old.drop N).take (k + 1)).map (movedT c S.size) = ((old.drop N).take k).map (movedT c S.size) ++ [movedT c S.size (old[N + k])] := by
              rw [List.take_succ_eq_append_getElem (by rw [List.length_drop]; omega), List.map_append, List.getElem_drop]; rfl
            have HNX := Lib.hid hnext
            generalize old[N + k] = t at *
            obtain ⟨tk, tn, tst, ta, tf⟩ := t
            simp only at hge hlt5
            have a0 := e1 0 (by omega)
            have a1 := e1 1 (by omega)
            have a2 := e1 2 (by omega)
            have a3 := e1 3 (by omega)
            have a4 := e1 4 (by omega)
            simp only [rt, RT.cells, List.getElem?_cons_zero, List.getElem?_cons_succ, Nat.add_zero] at a0 a1 a2 a3 a4
            obtain ⟨na, hna⟩ : ∃ na, ta + S.size - c = na := ⟨_, rfl⟩
            obtain ⟨nf, hnf⟩ : ∃ nf, tf + S.size - c = nf := ⟨_, rfl⟩
            have hyc : c ≤ y := by have := HY.out; omega
            have hna1 : (ta : Int) + ((S.size : Int) - (c : Int)) = (na : Int) := by omega
            have hnf1 : (tf : Int) + ((S.size : Int) - (c : Int)) = (nf : Int) := by omega
            have HNA := Lib.hid (And.intro hna hnf)
            have hkMi : (k : Int) < (M : Int) := by omega
            have hnal : na ≤ 200000 ∧ nf ≤ 200000 := by omega
            clear e1 hcr htkr hkm hnext hna hnf hsc hmv hge hlt5
            go_wp2_with fail
            obtain ⟨TS, hTS⟩ : ∃ TS, TS = st.ts ++ ((old.drop N).take k).map (movedT c S.size) := ⟨_, rfl⟩
            have hTl : TS.length ≤ 120000 := by rw [hTS]; simp only [List.length_append, List.length_map, List.length_take]; omega
            have hsc := HSC.out.1
            have hmv := HSC.out.2
            rw [← hTS] at hsc
            have hpr := hsc.pw
            generalize hW : World.alloc wr (.cells #[.int .i64 tk, .int .i64 tn, .string (ofB tst), .int .i64 na, .int .i64 nf] 31) = W1
            have hbx : W1.heap[wr.heap.size]? = some (.cells #[.int .i64 tk, .int .i64 tn, .string (ofB tst), .int .i64 na, .int .i64 nf] 31) := by subst hW; exact heap_alloc_new wr _
            have hold : ∀ b, b < wr.heap.size → W1.heap[b]? = wr.heap[b]? := by subst hW; exact fun b hb => heap_alloc_old wr _ hb
            have hsz : W1.heap.size = wr.heap.size + 1 := by subst hW; simp
            have hself : W1.heap[p]? = some (.cells (scn text st.at_ tv' cv sg fm sm) 67) := (hold p hpr).trans hsc.self
            have hown : W1.ownsRow B 31 5 tv' TS.length (tokCs TS) := owns_of_block hsc.toks fun g hg => hold g (owns_ge hsc.toks g hg).2
            have d1 : W1.cell? ⟨p, 2, none⟩ = some tv' := by rw [(cells_of hself 2).1]; rfl
            have b0 : W1.cell? ⟨wr.heap.size, 0, none⟩ = some (.int .i64 tk) := by rw [(cells_of hbx 0).1]; rfl
            have b1 : W1.cell? ⟨wr.heap.size, 1, none⟩ = some (.int .i64 tn) := by rw [(cells_of hbx 1).1]; rfl
            have b2 : W1.cell? ⟨wr.heap.size, 2, none⟩ = some (.string (ofB tst)) := by rw [(cells_of hbx 2).1]; rfl
            have b3 : W1.cell? ⟨wr.heap.size, 3, none⟩ = some (.int .i64 na) := by rw [(cells_of hbx 3).1]; rfl
            have b4 : W1.cell? ⟨wr.heap.size, 4, none⟩ = some (.int .i64 nf) := by rw [(cells_of hbx 4).1]; rfl
            have hpB := hsc.pB
            have hBW := hsc.BW
            have hav : tv'.ownBlock ≠ some p := fun e => by have := owns_ge hsc.toks p e; omega
            have HO := Lib.hid hown
            have HA := Lib.hid hav
            have HSF := Lib.hid hself
            have HSS := Lib.hid (And.intro hsc (And.intro hmv hTS))
            have hlt1 : p < W1.heap.size := by omega
            have hB1 : B ≤ W1.heap.size := by omega
            have HZ := Lib.hid hsz
            clear hbx hold hself hown hav hsz hsc hmv a0 a1 a2 a3 a4 hTS hna1 hnf1
            have d2 : ∀ o, (W1.alloc o).cell? ⟨p, 2, none⟩ = some tv' := fun o => by rw [World.cell?_of_block (w := W1) (a := ⟨p, 2, none⟩) (heap_alloc_old W1 o hlt1)]; exact d1
            go_region_law (first
              | (refine step_append_lies _ (by rfl) _ _ _ (by rfl) B 31 i0 _ 5 48 Tryd.underlying25 hi0 hz0 hz1 hz2 rfl (by omega) tv' TS.length (tokCs TS) (by rfl) ((HO.out.alloc _).drew)
                  ⟨W1.heap.size, 0, none⟩ 1 1 [.int .i64 tk, .int .i64 tn, .string (ofB tst), .int .i64 na, .int .i64 nf] (by rfl) (by rfl) (World.news_of_block (cs := #[.int .i64 tk, .int .i64 tn, .string (ofB tst), .int .i64 na, .int .i64 nf]) (t := 31) (fr := (0, 0)) (heap_alloc_new W1 _)) (by simp [Value.oneCell'])
                  (by omega) (by unfold maxLen; omega) (by omega) (by simp; omega) (W1.heap.size + 1) (by simp) ?_; intro gg cap w1 hown1 hgrow hat hlt; have f2 : w1.frozen? ⟨p, 2, none⟩ = false := (by rw [World.frozen?_of_block (w := W1) ((hgrow.block p (by simp; omega) (fun e => HA.out e.symm)).trans (heap_alloc_old W1 _ hlt1))]; exact (cells_of HSF.out 2).2); have g2 : w1.cell? ⟨p, 2, none⟩ = some tv' := (by rw [World.cell?_of_block (w := W1) ((hgrow.block p (by simp; omega) (fun e => HA.out e.symm)).trans (heap_alloc_old W1 _ hlt1))]; exact d1)))
            all_goals
              have HG := Lib.hid hgrow
              have HO1 := Lib.hid hown1
              have HATT := Lib.hid hat
              clear hgrow hown1 hat
              go_wp2_with fail
              subst hW
              have ht := HSS.out.1.turnT HG.out (ts := TS ++ [⟨tk, tn, tst, na, nf⟩]) (by rw [tokCs_snoc, List.length_append]; exact HO1.out) (by have := HATT.out; simpa using this)
              go_roundw
              case rel =>
                refine ⟨k + 1, _, by omega, by go_num, ?_, HSS.out.2.1.trans ht.2⟩
                rw [HNX.out, ← List.append_assoc, ← HSS.out.2.2]
                simp only [movedT, HNA.out.1, HNA.out.2]
                exact ht.1
              case measure => simp [intOf]; omega
          · have hkn : M = k := by omega
            subst hkn
            have hfull : (old.drop N).take M = old.drop N := List.take_of_length_le (by rw [List.length_drop]; have := H.out.2.2.1; have := HM.out; omega)
            have hsc := HSC.out.1
            rw [hfull] at hsc
            have q0 := hsc.c0
            have q1 := hsc.c1
            have qf := hsc.fz 1
            have HSX := Lib.hid (And.intro hsc HSC.out.2)
            clear hsc hmv hfull
            go_wp2_with fail
            go_ret
            rw [HD.out]
            have hm := HSX.out.1.moveTo text.size
            exact ⟨rfl, _, cv, hm.1, HSX.out.2.trans hm.2⟩
      · have ha1 : ((at_ : Int) == (y : Int)) = false := by rw [beq_eq_false_iff_ne]; omega
        have ha2 : ((at_ : Int) != (y : Int)) = true := by rw [bne, ha1]; rfl
        have hd : dRes text.size old pe c S.size st = (false, st) := by rw [HDR.out, if_pos (.inr hay)]
        have HD := Lib.hid hd
        clear hd
        go_wp2_with fail
        go_quiet (fail)
        go_wp2_with fail
        go_ret
        rw [HD.out]
        exact ⟨rfl, tv, cv, HS5.out.1.drewN _, HS5.out.2.trans (Moved.drewN _)⟩
end
end Go.Proofs.YtkghbecfjeldcaaDoor
