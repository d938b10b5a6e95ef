/- The scanner's steps, one: refuse, blank, take. -/
import Derived.Test.YtcjdacdggklifaaGreatDoorState
namespace Go.Proofs.YtcjdacdggklifaaGreatDoor
open Go.RowKit

/-- How a step ends: the state that it comes to, or a panic. -/
def Ends (B p sg fm sm : Nat) (text : ByteArray) (st : St) (tv cv : Value) (w : World) (r : Option St) (e : Ending) (w' : World) : Prop :=
  match r with
  | some st' => e = .returned (.tuple #[]) ∧ ∃ tv' cv', Sc B p sg fm sm text st' tv' cv' w' ∧ Moved p tv cv w tv' cv' w'
  | none => e = .panicked [{ v := .iface 105 (.int .i64 st.at_), recovered := false }] ∧ Sc B p sg fm sm text st tv cv w' ∧ Moved p tv cv w tv cv w'

section
variable {B p sg fm sm : Nat} {text : ByteArray} {st : St} {tv cv : Value} {w : World}

theorem enter_isBlank (args : Array Value) (w : World) : (callFunc 88 args).run Tryz.prog w = .ok (.enter 88 args) w := by go_simp
theorem enter_isInWord (args : Array Value) (w : World) : (callFunc 92 args).run Tryz.prog w = .ok (.enter 92 args) w := by go_simp
theorem enter_isDigit (args : Array Value) (w : World) : (callFunc 93 args).run Tryz.prog w = .ok (.enter 93 args) w := by go_simp
theorem enter_isSymbol (args : Array Value) (w : World) : (callFunc 95 args).run Tryz.prog w = .ok (.enter 95 args) w := by go_simp

theorem refuse_any (h : Sc B p sg fm sm text st tv cv w) :
    Calls Tryz.prog 55 #[.pointer (some ⟨p, 0, none⟩)] w fun e w' => e = .panicked [{ v := .iface 105 (.int .i64 st.at_), recovered := false }] ∧ w' = w := by
  have c1 := h.c1
  clear h
  go_enter Tryz.func55, Tryz.ntmps55
  go_wp2
  exact ⟨rfl, rfl, rfl⟩

theorem blank_any (h : Sc B p sg fm sm text st tv cv w) (hs : text.size ≤ 2000000) (hat : st.at_ ≤ text.size) :
    Calls Tryz.prog 56 #[.pointer (some ⟨p, 0, none⟩)] w (Ends B p sg fm sm text st tv cv w (some { st with at_ := st.at_ + Lx.run Lx.blank ((bts text).drop st.at_) })) := by
  have c0 := h.c0
  have c1 := h.c1
  have f1 := h.fz 1
  have H := Lib.hid h
  clear h
  have hr := run_any Lx.blank 88 (Lib.hid isBlank_any) enter_isBlank p text st.at_ w hs hat c0 c1
  generalize st.at_ + Lx.run Lx.blank ((bts text).drop st.at_) = k' at *
  have HR := Lib.hid hr
  clear hr
  go_enter Tryz.func56, Tryz.ntmps56
  go_wp2_with fail
  refine HR.out.mono ?_
  rintro e w' ⟨rfl, rfl⟩
  go_wp2_with fail
  go_end0
  have hm := H.out.moveTo k'
  exact ⟨rfl, tv, cv, hm.1, hm.2⟩

theorem info31 : (Tryz.prog.info? 35).map (fun i => (i.zero, i.size, i.bytes)) = some (some (.agg #[.int .i64 0, .int .i64 0, .string ⟨#[]⟩, .int .i64 0, .int .i64 0]), 5, 48) := by kernel_rfl

/-- A state whose tokens have been turned, from block p alone and the tokens' block. -/
theorem Sc.turn (h : Sc B p sg fm sm text st tv cv w) {w1 : World} {o o2 : Obj} (hgrow : ((w.alloc o).alloc o2).drew.grownBy w1 tv.ownBlock) {gg n cap : Nat} {ts : List Lx.Tok}
    (hown1 : w1.ownsRow B 35 5 (.slice (some ⟨gg, 0, none⟩) n cap) ts.length (tokCs ts)) (hat : tv.ownBlock = some gg ∨ gg = w.heap.size + 1 + 1) (fin : Nat) :
    Sc B p sg fm sm text { at_ := fin, ts := ts, cs := st.cs } (.slice (some ⟨gg, 0, none⟩) n cap) cv ((w1.setCell ⟨p, 2, none⟩ (.slice (some ⟨gg, 0, none⟩) n cap)).setCell ⟨p, 1, none⟩ (.int .i64 fin)) ∧
    Moved p tv cv w (.slice (some ⟨gg, 0, none⟩) n cap) cv ((w1.setCell ⟨p, 2, none⟩ (.slice (some ⟨gg, 0, none⟩) n cap)).setCell ⟨p, 1, none⟩ (.int .i64 fin)) := by
  have hn := h.ne
  have hpB := h.pB
  have hBW := h.BW
  have hsz : w.heap.size + 2 ≤ w1.heap.size := by have := hgrow.size; simpa using this
  have hap := h.apart
  have old : ∀ b, b < w.heap.size → some b ≠ tv.ownBlock → w1.heap[b]? = w.heap[b]? := fun b hb hne =>
    ((hgrow.block b (by simp; omega) hne).trans (heap_alloc_old _ _ (by simp; omega))).trans (heap_alloc_old w _ hb)
  have lo : ∀ b, b < B → some b ≠ tv.ownBlock := fun b hb e => by have := owns_ge h.toks b e.symm; omega
  have hself : w1.heap[p]? = some (.cells (scn text st.at_ tv cv sg fm sm) 79) := (old p (by omega) (lo p hpB)).trans h.self
  have s1 := setCell_at w1 ⟨p, 2, none⟩ (.slice (some ⟨gg, 0, none⟩) n cap) _ _ hself rfl
  have s2 := setCell_at (w1.setCell ⟨p, 2, none⟩ (.slice (some ⟨gg, 0, none⟩) n cap)) ⟨p, 1, none⟩ (.int .i64 fin) _ _ s1 rfl
  have far : ∀ b, b ≠ p → ((w1.setCell ⟨p, 2, none⟩ (.slice (some ⟨gg, 0, none⟩) n cap)).setCell ⟨p, 1, none⟩ (.int .i64 fin)).heap[b]? = w1.heap[b]? := fun b hb =>
    (Below.heap_setCell _ _ _ _ hb).trans (Below.heap_setCell _ _ _ _ hb)
  have hs : ((w1.setCell ⟨p, 2, none⟩ (.slice (some ⟨gg, 0, none⟩) n cap)).setCell ⟨p, 1, none⟩ (.int .i64 fin)).heap.size = w1.heap.size := by simp [World.setCell]
  have hgB : B ≤ gg := (owns_ge hown1 gg rfl).1
  refine ⟨⟨s2, ?_, ?_, ?_, ?_, ?_, hpB, h.sgB, h.fmB, h.smB, by rw [hs]; omega, hn, ?_⟩, ⟨hgrow.os, hgrow.tape, hgrow.output, by rw [hs]; omega, fun k hk hp ht _ => (far k hp).trans (old k hk ht), ?_, .inl rfl⟩⟩
  · rw [far sg (Ne.symm hn.1), old sg (by have := h.sgB; omega) (lo sg h.sgB)]; exact h.signs
  · exact h.fixed.of_block ((far fm (Ne.symm hn.2.1)).trans (old fm (by have := h.fmB; omega) (lo fm h.fmB)))
  · rw [far sm (Ne.symm hn.2.2), old sm (by have := h.smB; omega) (lo sm h.smB)]; exact h.steps
  · exact owns_of_block hown1 fun g hg => by simp [Value.ownBlock] at hg; subst hg; exact far gg (by omega)
  · refine owns_of_block h.coms fun g hg => ?_
    have hg' := owns_ge h.coms g hg
    refine (far g (by omega)).trans (old g hg'.2 fun e => ?_)
    rcases hap with e' | e'
    · rw [← e] at e'; cases e'
    · exact e' (by rw [hg]; exact e.symm)
  · refine .inr ?_
    intro e
    rcases hat with e' | e'
    · rcases hap with e2 | e2
      · rw [e'] at e2; cases e2
      · exact e2 (e'.trans e)
    · have := owns_ge h.coms gg e.symm; omega
  · rcases hat with e' | e'
    · exact .inl (by rw [e']; rfl)
    · refine .inr fun k hk => ?_
      simp [Value.ownBlock] at hk; omega

set_option maxRecDepth 100000 in
set_option maxHeartbeats 1000000 in
theorem take_any (h : Sc B p sg fm sm text st tv cv w) (k n : Nat) (s : ByteArray) (fin : Nat) (hn : st.ts.length ≤ 2000000) :
    Calls Tryz.prog 94 #[.pointer (some ⟨p, 0, none⟩), .agg #[.int .i64 k, .int .i64 n, .string s, .int .i64 0, .int .i64 0], .int .i64 fin] w
      (Ends B p sg fm sm text st tv cv w (some { st with at_ := fin, ts := st.ts ++ [⟨k, n, bts s, st.at_, fin⟩] })) := by
  obtain ⟨i0, hi0, hz0, hz1, hz2⟩ := info_parts info31
  have c1 := h.c1
  have c2 := h.c2
  have f1 := h.fz 1
  have hpw := h.pw
  have H := Lib.hid h
  clear h
  go_enter Tryz.func94, Tryz.ntmps94
  go_wp2_with fail
  generalize hW : World.alloc w (.cells #[.int .i64 k, .int .i64 n, .string s, .int .i64 st.at_, .int .i64 fin] 35) = W1
  have hbx : W1.heap[w.heap.size]? = some (.cells #[.int .i64 k, .int .i64 n, .string s, .int .i64 st.at_, .int .i64 fin] 35) := by subst hW; exact heap_alloc_new w _
  have hold : ∀ b, b < w.heap.size → W1.heap[b]? = w.heap[b]? := by subst hW; exact fun b hb => heap_alloc_old w _ hb
  have hsz : W1.heap.size = w.heap.size + 1 := by subst hW; simp
  have hself : W1.heap[p]? = some (.cells (scn text st.at_ tv cv sg fm sm) 79) := (hold p hpw).trans H.out.self
  have hown : W1.ownsRow B 35 5 tv st.ts.length (tokCs st.ts) := owns_of_block H.out.toks fun g hg => hold g (owns_ge H.out.toks g hg).2
  have hwne : some w.heap.size ≠ tv.ownBlock := fun e => by have := owns_ge H.out.toks _ e.symm; omega
  have d1 : W1.cell? ⟨p, 2, none⟩ = some tv := by rw [(cells_of hself 2).1]; rfl
  have e1 : W1.frozen? ⟨p, 2, none⟩ = false := (cells_of hself 2).2
  have b0 : W1.cell? ⟨w.heap.size, 0, none⟩ = some (.int .i64 k) := by rw [(cells_of hbx 0).1]; rfl
  have b1 : W1.cell? ⟨w.heap.size, 1, none⟩ = some (.int .i64 n) := by rw [(cells_of hbx 1).1]; rfl
  have b2 : W1.cell? ⟨w.heap.size, 2, none⟩ = some (.string s) := by rw [(cells_of hbx 2).1]; rfl
  have b3 : W1.cell? ⟨w.heap.size, 3, none⟩ = some (.int .i64 st.at_) := by rw [(cells_of hbx 3).1]; rfl
  have b4 : W1.cell? ⟨w.heap.size, 4, none⟩ = some (.int .i64 fin) := by rw [(cells_of hbx 4).1]; rfl
  have hpB := H.out.pB
  have hBW := H.out.BW
  have hav : tv.ownBlock ≠ some p := fun e => by have := owns_ge H.out.toks p e; omega
  have HO := Lib.hid hown
  have HA := Lib.hid hav
  have HWN := Lib.hid hwne
  have HSF := Lib.hid hself
  have HS := Lib.hid hsz
  have hlt1 : p < W1.heap.size := by omega
  have hB1 : B ≤ W1.heap.size := by omega
  clear c1 c2 f1 hbx hold hself hown hav hsz e1 hwne
  have d2 : ∀ o, (W1.alloc o).cell? ⟨p, 2, none⟩ = some tv := fun o => by rw [World.cell?_of_block (w := W1) (heap_alloc_old W1 o hlt1)]; exact d1
  go_region_law (first
    | (refine step_append_lies _ (by rfl) _ _ _ (by rfl) B 35 i0 _ 5 48 Tryz.underlying22 hi0 hz0 hz1 hz2 rfl (by omega) tv st.ts.length (tokCs st.ts) (by rfl) ((HO.out.alloc _).drew)
        ⟨W1.heap.size, 0, none⟩ 1 1 [.int .i64 k, .int .i64 n, .string s, .int .i64 st.at_, .int .i64 fin] (by rfl) (by rfl) (World.news_of_block (cs := #[.int .i64 k, .int .i64 n, .string s, .int .i64 st.at_, .int .i64 fin]) (t := 35) (fr := (0, 0)) (heap_alloc_new W1 _)) (by simp [Value.oneCell'])
        (by omega) (by unfold maxLen; omega) (by omega) (by simp; omega) (W1.heap.size + 1) (by simp) ?_; intro gg cap w1 hown1 hgrow hat hlt; have f2 : w1.frozen? ⟨p, 2, none⟩ = false := (by rw [World.frozen?_of_block (w := W1) ((hgrow.block p (by simp; omega) (fun e => HA.out e.symm)).trans (heap_alloc_old W1 _ hlt1))]; exact (cells_of HSF.out 2).2); have g2 : w1.cell? ⟨p, 2, none⟩ = some tv := (by rw [World.cell?_of_block (w := W1) ((hgrow.block p (by simp; omega) (fun e => HA.out e.symm)).trans (heap_alloc_old W1 _ hlt1))]; exact d1)))
  all_goals
    have hp1 : w1.heap[p]? = some (.cells (scn text st.at_ tv cv sg fm sm) 79) := ((hgrow.block p (by simp; omega) (fun e => HA.out e.symm)).trans (heap_alloc_old W1 _ hlt1)).trans HSF.out
    have g1 : w1.cell? ⟨p, 1, none⟩ = some (.int .i64 st.at_) := by rw [(cells_of hp1 1).1]; rfl
    have f1 : w1.frozen? ⟨p, 1, none⟩ = false := (cells_of hp1 1).2
    have HG := Lib.hid hgrow
    have HO1 := Lib.hid hown1
    have HAT := Lib.hid hat
    clear hgrow hown1 hat hp1
    go_wp2_with fail
    go_end0
    subst hW
    have ht := H.out.turn HG.out (ts := st.ts ++ [⟨k, n, bts s, st.at_, fin⟩]) (by rw [tokCs_snoc, List.length_append]; simp only [tokC, ofB_bts]; exact HO1.out) (by have := HAT.out; simpa using this) fin
    exact ⟨rfl, _, cv, ht.1, ht.2⟩
end
end Go.Proofs.YtcjdacdggklifaaGreatDoor
