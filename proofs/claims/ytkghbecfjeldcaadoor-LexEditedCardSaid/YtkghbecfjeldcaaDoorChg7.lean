/- Edits: the test of the loop, recut. -/
import Derived.Test.YtkghbecfjeldcaaDoorChg6
import Derived.Test.YtkghbecfjeldcaaDoorBoth
namespace Go.Proofs.YtkghbecfjeldcaaDoor
open Go.RowKit

section
variable {B p sg fm sm : Nat} {text : ByteArray} {st : St} {tv cv : Value} {w : World}
theorem Away.moved {tv' cv' : Value} {w' : World} {oa : Option Addr} (ha : Away p tv cv w oa) (hm : Moved p tv cv w tv' cv' w') : Away p tv' cv' w' oa := fun a he => by
  obtain ⟨h1, h2, h3, h4⟩ := ha a he
  refine ⟨Nat.lt_of_lt_of_le h1 hm.size, h2, fun e => ?_, fun e => ?_⟩
  · rcases hm.tvR with h | h
    · exact h3 (e.trans h)
    · have := h _ e.symm; omega
  · rcases hm.cvR with h | h
    · exact h4 (e.trans h)
    · have := h _ e.symm; omega
theorem cell_moved {tv' cv' : Value} {w' : World} {b k : Nat} {v : Value} (h : w.cell? ⟨b, k, none⟩ = some v) (hp : b ≠ p) (ht : some b ≠ tv.ownBlock) (hc : some b ≠ cv.ownBlock) (hm : Moved p tv cv w tv' cv' w') : w'.cell? ⟨b, k, none⟩ = some v :=
  (World.cell?_of_block (w := w) (a := ⟨b, k, none⟩) (hm.block b (World.block_lt_of_cell? _ _ h) hp ht hc)).trans h

/-- What the loop of an edit asks. -/
theorem asks_resume (old : List Lx.Tok) {l : Lx.Bs} (hch : Lx.Chain l 0 old) (n : Nat) (hn : old.length = n) (hn2 : n ≤ 20000) (oa : Option Addr) (cap : Nat) (hcap : n ≤ cap) (htok : TokV w oa (old.map rt)) (haw : Away p tv cv w oa)
    (pe c : Nat) (S : ByteArray) (hs : text.size ≤ 100000) (hpe : pe ≤ 100000) (hc : c ≤ 100000) (hS : S.size ≤ 100000) (hl : l.length ≤ 100000) (bs bo be : Nat)
    (cs : w.cell? ⟨bs, 0, none⟩ = some (.pointer (some ⟨p, 0, none⟩))) (co : w.cell? ⟨bo, 0, none⟩ = some (.slice oa n cap))
    (c0 : w.cell? ⟨be, 0, none⟩ = some (.int .i64 pe)) (c1 : w.cell? ⟨be, 1, none⟩ = some (.int .i64 c)) (c2 : w.cell? ⟨be, 2, none⟩ = some (.string S))
    (hbs : bs ≠ p ∧ some bs ≠ tv.ownBlock ∧ some bs ≠ cv.ownBlock) (hbo : bo ≠ p ∧ some bo ≠ tv.ownBlock ∧ some bo ≠ cv.ownBlock) (hbe : be ≠ p ∧ some be ≠ tv.ownBlock ∧ some be ≠ cv.ownBlock) :
    Asks B p sg fm sm text (dRes text.size old pe c S.size) 69 #[.pointer (some ⟨bs, 0, none⟩), .pointer (some ⟨bo, 0, none⟩), .pointer (some ⟨be, 0, none⟩)] tv cv w := by
  refine ⟨fun _ _ => by go_simp, fun st tv' cv' W hsc hm hgd hlt => ?_⟩
  have d := cell_moved cs hbs.1 hbs.2.1 hbs.2.2 hm
  have d' := cell_moved co hbo.1 hbo.2.1 hbo.2.2 hm
  have d0 := cell_moved c0 hbe.1 hbe.2.1 hbe.2.2 hm
  have d1 := cell_moved c1 hbe.1 hbe.2.1 hbe.2.2 hm
  have d2 := cell_moved c2 hbe.1 hbe.2.1 hbe.2.2 hm
  have hg1 := hgd.1
  have hg2 := hgd.2.1
  rw [bts_length] at hg1
  have hr := fun W' (h1 : W.grownBy W' none) => resume_any (sc_grown hsc (Moved.refl p tv' cv' W) h1).1 old hch n hn hn2 oa cap hcap (htok.moved haw (hm.trans (sc_grown hsc (Moved.refl p tv' cv' W) h1).2)) ((haw.moved hm).moved (sc_grown hsc (Moved.refl p tv' cv' W) h1).2) pe c S hg1 hs hpe hc hS hl (by omega)
  have HR := Lib.hid hr
  have HSC := Lib.hid hsc
  generalize dRes text.size old pe c S.size st = res at *
  clear hr hsc cs co c0 c1 c2 htok haw hm hgd
  go_enter Tryd.func69, Tryd.ntmps69
  go_wp2_with fail
  refine (HR.out W (grownZ _ _)).mono ?_
  rintro e w2 ⟨rfl, tv2, cv2, hsc2, hm2⟩
  have H2 := Lib.hid (And.intro hsc2 hm2)
  clear hsc2 hm2
  go_wp2_with fail
  go_ret
  exact ⟨rfl, tv2, cv2, H2.out.1, H2.out.2⟩
/-- Tokens put in the place of none. -/
theorem Sc.retoks (h : Sc B p sg fm sm text ⟨0, [], []⟩ (.slice none 0 0) (.slice none 0 0) w) {w1 : World} (hb : Below w.heap.size w w1) {v : Value} {ts : List Lx.Tok} (hown : w1.ownsRow w.heap.size 31 5 v ts.length (tokCs ts)) (fin : Nat) :
    Sc B p sg fm sm text ⟨fin, ts, []⟩ v (.slice none 0 0) ((w1.setCell ⟨p, 2, none⟩ v).setCell ⟨p, 1, none⟩ (.int .i64 fin)) ∧ ∀ i, i < w.heap.size → i ≠ p → ((w1.setCell ⟨p, 2, none⟩ v).setCell ⟨p, 1, none⟩ (.int .i64 fin)).heap[i]? = w.heap[i]? := by
  have hn := h.ne
  have hpw := h.pw
  have hBW := h.BW
  have hself := (hb.block p hpw).trans h.self
  have s1 := setCell_at w1 ⟨p, 2, none⟩ v _ _ hself rfl
  have s2 := setCell_at (w1.setCell ⟨p, 2, none⟩ v) ⟨p, 1, none⟩ (.int .i64 fin) _ _ s1 rfl
  have far : ∀ b, b ≠ p → ((w1.setCell ⟨p, 2, none⟩ v).setCell ⟨p, 1, none⟩ (.int .i64 fin)).heap[b]? = w1.heap[b]? := fun b hb => (Below.heap_setCell _ _ _ _ hb).trans (Below.heap_setCell _ _ _ _ hb)
  have hs : ((w1.setCell ⟨p, 2, none⟩ v).setCell ⟨p, 1, none⟩ (.int .i64 fin)).heap.size = w1.heap.size := by simp [World.setCell]
  have old : ∀ i, i < w.heap.size → i ≠ p → ((w1.setCell ⟨p, 2, none⟩ v).setCell ⟨p, 1, none⟩ (.int .i64 fin)).heap[i]? = w.heap[i]? := fun i hi hp => (far i hp).trans (hb.block i hi)
  have hsz := hb.size
  refine ⟨⟨s2, ?_, ?_, ?_, ?_, World.ownsRow_nil _ _ _ _, h.pB, h.sgB, h.fmB, h.smB, by rw [hs]; omega, hn, ?_⟩, old⟩
  · rw [old sg (by have := h.sgB; omega) (Ne.symm hn.1)]; exact h.signs
  · exact h.fixed.of_block (old fm (by have := h.fmB; omega) (Ne.symm hn.2.1))
  · rw [old sm (by have := h.smB; omega) (Ne.symm hn.2.2)]; exact h.steps
  · exact owns_mono (owns_of_block hown fun g hg => far g (by have := (owns_ge hown g hg).1; omega)) (by omega)
  · cases hv : v.ownBlock with
    | none => exact .inl rfl
    | some k => exact .inr (by simp [Value.ownBlock])
end

theorem fins_changed {B p sg fm sm : Nat} {ch : ByteArray} {a : Lx.Bs} {old : List Lx.Tok} {pe c : Nat} {S : Lx.Bs} {tv : Value} {w w1 w2 : World} {e : Ending} (hT : Lx.T a 0 = .good old) (hpc : pe + c ≤ a.length) (hch : bts ch = edited a pe c S)
    (hb : Below w.heap.size w w1) (hp : w.heap.size ≤ p) (hB : w.heap.size ≤ B) (htv : ∀ k, tv.ownBlock = some k → w.heap.size ≤ k)
    (h : Fins B p sg fm sm ch (stKept old pe) (dRes ch.size old pe c S.length) tv (.slice none 0 0) w1 e w2) : TokR ch w e w2 := by
  rcases h with ⟨h1, rfl, rfl⟩ | ⟨h1, r, hr, st', tv', cv', hsc, hmv, hc⟩
  · exact ⟨hb, .inl ⟨h1, rfl⟩⟩
  · refine ⟨hb.trans ⟨hmv.os, hmv.tape, hmv.output, hmv.size, fun k hk => hmv.block k (Nat.lt_of_lt_of_le hk hb.size) (by omega) (fun e => by have := htv k e.symm; omega) (by simp [Value.ownBlock])⟩, .inr ⟨h1, ?_⟩⟩
    rw [hch] at hr ⊢
    have hcm := changed_comes hT pe c S hpc ch.size hr
    rcases hc with ⟨x, rfl, rfl⟩ | ⟨rfl, hn, rfl⟩ | ⟨rfl, hn, rfl⟩
    · rw [show Lx.T (edited a pe c S) 0 = .bad x from hcm]
    · obtain ⟨new, hx, hy⟩ := hcm
      rw [hx]
      have hy : st'.ts = new := hy
      rw [hy] at hn
      show (if 20000 < new.length then _ else _)
      rw [if_pos hn]
    · obtain ⟨new, hx, hy⟩ := hcm
      rw [hx]
      have hy : st'.ts = new := hy
      rw [hy] at hn
      show (if 20000 < new.length then _ else _)
      rw [if_neg (by omega)]
      have ho := hsc.toks
      rw [hy] at ho
      exact ⟨tv', rfl, owns_mono ho hB⟩

set_option maxRecDepth 100000 in
set_option maxHeartbeats 2000000 in
theorem recut_any (a : Lx.Bs) (old : List Lx.Tok) (hT : Lx.T a 0 = .good old) (n : Nat) (hn : old.length = n) (hn2 : n ≤ 20000) (oa : Option Addr) (cap : Nat) (hcap : n ≤ cap) (ch : ByteArray) (pe c : Nat) (S : ByteArray) (hpc : pe + c ≤ a.length)
    (hch : bts ch = edited a pe c (bts S)) (haS : a.length + S.size ≤ 100000) (w : World) (htok : TokV w oa (old.map rt)) (haw : ∀ x, oa = some x → x.block < w.heap.size) :
    Calls Tryd.prog 41 #[.string ch, .slice oa n cap, .agg #[.int .i64 pe, .int .i64 c, .string S]] w (TokR ch w) := by
  have hc := Lx.chain _ _ _ hT
  have ha : a.length ≤ 100000 := by omega
  have hS : S.size ≤ 100000 := by omega
  have H := Lib.hid (And.intro hT (And.intro hn (And.intro htok (And.intro haw (And.intro hch hc)))))
  clear hT hn htok haw hch hc
  go_enter Tryd.func41, Tryd.ntmps41
  go_wp2_with fail
  have hW1b : (((w.alloc (.cells #[.slice oa n cap] 25)).alloc (.cells #[.int .i64 pe, .int .i64 c, .string S] 38))).heap[w.heap.size]? = some (.cells #[.slice oa n cap] 25) := by rw [alloc_miss _ _ _ (by simp), alloc_hit _ _ _ rfl]
  have hW1c : (((w.alloc (.cells #[.slice oa n cap] 25)).alloc (.cells #[.int .i64 pe, .int .i64 c, .string S] 38))).heap[w.heap.size + 1]? = some (.cells #[.int .i64 pe, .int .i64 c, .string S] 38) := by rw [alloc_hit _ _ _ (by simp)]
  have hW1z : (((w.alloc (.cells #[.slice oa n cap] 25)).alloc (.cells #[.int .i64 pe, .int .i64 c, .string S] 38))).heap.size = w.heap.size + 2 := by simp
  have hW1d : Below w.heap.size w ((w.alloc (.cells #[.slice oa n cap] 25)).alloc (.cells #[.int .i64 pe, .int .i64 c, .string S] 38)) := ((Below.refl _ _).alloc (Nat.le_refl _) _).alloc (by simp) _
  generalize ((w.alloc (.cells #[.slice oa n cap] 25)).alloc (.cells #[.int .i64 pe, .int .i64 c, .string S] 38)) = W1 at *
  refine (new_any ch W1).mono ?_
  rintro e w2 ⟨rfl, hnew⟩
  have hsc2 := new_sc hnew
  have hb2 := hnew.below
  have H2 := Lib.hid (And.intro hsc2 (And.intro (below_le hW1d hb2 (by omega)) (And.intro ((hb2.block w.heap.size (by omega)).trans hW1b) (And.intro ((hb2.block (w.heap.size + 1) (by omega)).trans hW1c) (And.intro hW1z hnew.size)))))
  clear hW1b hW1c hW1d hsc2 hb2 hnew
  generalize hp : W1.heap.size + 3 = p at *
  have o2 : ∀ o, (w2.alloc o).cell? ⟨w.heap.size, 0, none⟩ = some (.slice oa n cap) := fun o => by
    rw [World.cell?_of_block (w := w2) (a := ⟨w.heap.size, 0, none⟩) (heap_alloc_old w2 o (by have := H2.out.2.2.2.2.1; have := H2.out.2.2.2.2.2; show w.heap.size < _; omega)), (cells_of H2.out.2.2.1 0).1]; rfl
  go_wp2_with fail
  have hz := H2.out.2.2.2.2.1
  have hz2 := H2.out.2.2.2.2.2
  have hSC3 := H2.out.1.allocD (w1 := w2.alloc (.cells #[.pointer (some ⟨p, 0, none⟩)] 56)) _ rfl rfl rfl rfl
  have hb3 : Below w.heap.size w (w2.alloc (.cells #[.pointer (some ⟨p, 0, none⟩)] 56)) := H2.out.2.1.alloc H2.out.2.1.size _
  have hs3 : (w2.alloc (.cells #[.pointer (some ⟨p, 0, none⟩)] 56)).heap[w2.heap.size]? = some (.cells #[.pointer (some ⟨p, 0, none⟩)] 56) := heap_alloc_new w2 _
  have ho3 := o2 (.cells #[.pointer (some ⟨p, 0, none⟩)] 56)
  have he3 : (w2.alloc (.cells #[.pointer (some ⟨p, 0, none⟩)] 56)).heap[w.heap.size + 1]? = some (.cells #[.int .i64 pe, .int .i64 c, .string S] 38) := (heap_alloc_old w2 _ (by omega)).trans H2.out.2.2.2.1
  have hz3 : (w2.alloc (.cells #[.pointer (some ⟨p, 0, none⟩)] 56)).heap.size = w2.heap.size + 1 := by simp
  generalize (w2.alloc (.cells #[.pointer (some ⟨p, 0, none⟩)] 56)) = W3 at *
  have htk3 : TokV W3 oa (old.map rt) := H.out.2.2.1.below hb3
  have hse := search_ends old H.out.2.2.2.2.2 (by have := H.out.2.1; omega) oa cap w.heap.size (w.heap.size + 1) pe W3 htk3 (by rw [H.out.2.1]; exact ho3) (by rw [(cells_of he3 0).1]; rfl)
  rw [H.out.2.1] at hse
  refine hse.mono ?_
  rintro e W4 ⟨rfl, hg4⟩
  have hSC4 := sc_grown hSC3.1 (Moved.refl p (.slice none 0 0) (.slice none 0 0) W3) hg4
  have hb4 := below_grown hb3 hg4
  have hs4 := (hg4.block w2.heap.size (by omega) (by simp)).trans hs3
  have he4 := (hg4.block (w.heap.size + 1) (by omega) (by simp)).trans he3
  have ho4 : W4.cell? ⟨w.heap.size, 0, none⟩ = some (.slice oa n cap) := (World.cell?_of_block (w := W3) (a := ⟨w.heap.size, 0, none⟩) (hg4.block w.heap.size (by omega) (by simp))).trans ho3
  have hz4 := hg4.size
  have hkf := kept_facts H.out.1 pe c (bts S) hpc
  have hkn : keptN old pe ≤ n := by have := hkf.1; have := H.out.2.1; omega
  have hst : stKept old pe = ⟨Lx.endOf 0 (old.take (keptN old pe)), old.take (keptN old pe), []⟩ := rfl
  obtain ⟨K, hK⟩ : ∃ K, keptN old pe = K := ⟨_, rfl⟩
  rw [hK] at hkn hst ⊢
  have H4 := Lib.hid (And.intro hSC4.1 (And.intro hb4 (And.intro hs4 (And.intro he4 (And.intro ho4 (And.intro hkf hst))))))
  have HZ := Lib.hid (And.intro hz (And.intro hz2 (And.intro hz3 hz4)))
  have c0 : W4.cell? ⟨w2.heap.size, 0, none⟩ = some (.pointer (some ⟨p, 0, none⟩)) := by rw [(cells_of hs4 0).1]; rfl
  have HK := Lib.hid hK
  clear hz hz2 hz3 hz4 hSC3 hb3 hs3 ho3 he3 htk3 hse hSC4 hb4 hs4 he4 hkf hst o2 hK hg4
  have hed : (edited a pe c (bts S)).length = a.length + S.size - c := by rw [edited_len a pe c (bts S) hpc, bts_length]
  have hchs : ch.size = a.length + S.size - c := by rw [← hed, ← H.out.2.2.2.2.1, bts_length]
  have hbig : ¬ 100000 < ch.size := by omega
  by_cases h0 : K = 0
  · subst h0
    have hasks := asks_resume (w := W4) (text := ch) (B := W1.heap.size + 5) (p := p) (sg := W1.heap.size) (fm := W1.heap.size + 1) (sm := W1.heap.size + 2) (tv := .slice none 0 0) (cv := .slice none 0 0) old H.out.2.2.2.2.2 n H.out.2.1 hn2 oa cap hcap (H.out.2.2.1.below H4.out.2.1)
      (fun x hx => ⟨Nat.lt_of_lt_of_le (H.out.2.2.2.1 x hx) H4.out.2.1.size, by have := H.out.2.2.2.1 x hx; have := HZ.out.1; omega, by simp [Value.ownBlock], by simp [Value.ownBlock]⟩) pe c S (by omega) (by omega) (by omega) hS ha w2.heap.size w.heap.size (w.heap.size + 1) c0 H4.out.2.2.2.2.1
      (by rw [(cells_of H4.out.2.2.2.1 0).1]; rfl) (by rw [(cells_of H4.out.2.2.2.1 1).1]; rfl) (by rw [(cells_of H4.out.2.2.2.1 2).1]; rfl)
      ⟨by have := HZ.out.2.1; omega, by simp [Value.ownBlock], by simp [Value.ownBlock]⟩ ⟨by have := HZ.out.1; omega, by simp [Value.ownBlock], by simp [Value.ownBlock]⟩ ⟨by have := HZ.out.1; omega, by simp [Value.ownBlock], by simp [Value.ownBlock]⟩
    have hfin := finish_any H4.out.1 ⟨Nat.zero_le _, Nat.le_refl _, Nat.le_refl _⟩ (dRes ch.size old pe c S.size) (fun st h => dRes_same _ _ _ _ _ st h) 69 _ hasks
    have HF := Lib.hid hfin
    clear hasks hfin
    go_wp2_with fail
    refine HF.out.mono ?_
    intro e w5 hfs
    have hft : TokR ch w e w5 := fins_changed (S := bts S) (B := W1.heap.size + 5) (p := p) (sg := W1.heap.size) (fm := W1.heap.size + 1) (sm := W1.heap.size + 2) (tv := .slice none 0 0) H.out.1 hpc H.out.2.2.2.2.1 H4.out.2.1 (by have := HZ.out.1; omega) (by have := HZ.out.1; omega) (by simp [Value.ownBlock]) (by rw [bts_length, H4.out.2.2.2.2.2.2]; exact hfs)
    obtain ⟨v, x, er, rfl⟩ := tokR_three hft
    have HFT := Lib.hid hft
    clear hfs hft
    unfold three
    go_wp2_with fail
    go_ret3
    exact HFT.out
  · have h01 : (0 : Int) < (K : Int) := by omega
    have hKi : (K : Int) ≤ (n : Int) := by omega
    have o4 := H4.out.2.2.2.2.1
    have hKc : (K : Int) ≤ (cap : Int) := by omega
    have hKc2 : K ≤ cap := by omega
    have hK0 : (0 : Int) ≤ (K : Int) := by omega
    go_wp2_with fail
    have hcl := clone_any old K (by have := H.out.2.1; omega) (by omega) (by have := H.out.2.1; omega) oa cap W4.drew ((H.out.2.2.1.below H4.out.2.1).kept (grownD (grownZ _ _)))
    have HCL := Lib.hid hcl
    clear hcl
    refine wp_region_held_drew (S := fun W => W.cell? ⟨w2.heap.size, 0, none⟩ = some (.pointer (some ⟨p, 0, none⟩)) ∧ W.cell? ⟨w.heap.size, 0, none⟩ = some (.slice oa n cap)) (by kernel_rfl) ?_ (fun hHeld => ?_)
    · exact ⟨c0, o4⟩
    refine wpAnyH_take (i := 0) (v := ?_) rfl (by kernel_rfl) (by kernel_rfl) (by kernel_rfl) (fun _ _ _ h => h) (Or.inl ⟨rfl, ?_⟩) (by assumption) ?_
    rotate_left
    · (intro w hSw; (try dsimp only at hSw); go_simp; try with_reducible rfl)
    simp only [Act.put, List.setIfInBounds_toArray, List.set_cons_zero, List.set_cons_succ, List.getElem_toArray, List.getElem_cons_zero]
    refine wpAnyH_take (i := 1) (v := ?_) rfl (by kernel_rfl) (by kernel_rfl) (by kernel_rfl) (fun _ _ _ h => h) (Or.inl ⟨rfl, ?_⟩) (by assumption) ?_
    rotate_left
    · (intro w hSw; (try dsimp only at hSw); go_simp; try with_reducible rfl)
    simp only [Act.put, List.setIfInBounds_toArray, List.set_cons_zero, List.set_cons_succ, List.getElem_toArray, List.getElem_cons_zero, List.getElem_cons_succ]
    refine wpAnyH_take (i := 2) (v := ?_) rfl (by kernel_rfl) (by kernel_rfl) (by kernel_rfl) (fun _ _ _ h => h) (Or.inl ⟨rfl, ?_⟩) (by assumption) ?_
    rotate_left
    · (intro w hSw; (try dsimp only at hSw); go_simp; try with_reducible rfl)
    simp only [Act.put, List.setIfInBounds_toArray, List.set_cons_zero, List.set_cons_succ, List.getElem_toArray, List.getElem_cons_zero, List.getElem_cons_succ]
    refine wpAnyH_take (i := 3) (v := ?_) rfl (by kernel_rfl) (by kernel_rfl) (by kernel_rfl) (fun _ _ _ h => h) (Or.inl ⟨rfl, ?_⟩) (by assumption) ?_
    rotate_left
    · (intro w hSw; (try dsimp only at hSw); go_simp; try with_reducible rfl)
    simp only [Act.put, List.setIfInBounds_toArray, List.set_cons_zero, List.set_cons_succ, List.getElem_toArray, List.getElem_cons_zero, List.getElem_cons_succ]
    refine wpAnyH_ready (rs := [4]) (by kernel_rfl) (by simp) ?_
    refine AllReadyH.cons rfl (fun K hK => ?_) AllReadyH.nil
    go_simp
    go_at_call 68
    refine HCL.out.mono ?_
    rintro e w5 ⟨v, rfl, hown5, hb5d⟩
    have hb5 : Below W4.heap.size W4 w5 := ⟨hb5d.os, hb5d.tape, hb5d.output, hb5d.size, hb5d.block⟩
    clear hb5d
    obtain ⟨va, vc, rfl, hvc⟩ := owns_form hown5
    have q0 : w5.cell? ⟨w2.heap.size, 0, none⟩ = some (.pointer (some ⟨p, 0, none⟩)) := (World.cell?_of_block (w := W4) (a := ⟨w2.heap.size, 0, none⟩) (hb5.block w2.heap.size (by have := HZ.out.2.2; show _ < W4.heap.size; omega))).trans c0
    have q1 : w5.cell? ⟨w.heap.size, 0, none⟩ = some (.slice oa n cap) := (World.cell?_of_block (w := W4) (a := ⟨w.heap.size, 0, none⟩) (hb5.block w.heap.size (by have := HZ.out.2.2; have := HZ.out.1; have := HZ.out.2.1; show _ < W4.heap.size; omega))).trans o4
    have hsf5 : w5.heap[p]? = some (.cells (scn ch 0 (.slice none 0 0) (.slice none 0 0) W1.heap.size (W1.heap.size + 1) (W1.heap.size + 2)) 67) := (hb5.block p (by have := H4.out.1.pw; show _ < W4.heap.size; omega)).trans H4.out.1.self
    have g2 : w5.cell? ⟨p, 2, none⟩ = some (.slice none 0 0) := by rw [(cells_of hsf5 2).1]; rfl
    have f2 : w5.frozen? ⟨p, 2, none⟩ = false := (cells_of hsf5 2).2
    go_wp2_with fail
    refine hK.out _ _ ?_ (fun hHeld => ?_)
    · exact ⟨q0, q1⟩
    clear hK K
    try simp only [Act.put, List.setIfInBounds_toArray, List.set_cons_zero, List.set_cons_succ, List.getElem_toArray, List.getElem_cons_zero, List.getElem_cons_succ]
    refine wpAnyH_take (i := 5) (v := ?_) rfl (by kernel_rfl) (by kernel_rfl) (by kernel_rfl) (fun _ _ _ h => h) (Or.inl ⟨rfl, ?_⟩) (by assumption) ?_
    rotate_left
    · (intro w hSw; (try dsimp only at hSw); go_simp; try with_reducible rfl)
    simp only [Act.put, List.setIfInBounds_toArray, List.set_cons_zero, List.set_cons_succ, List.getElem_toArray, List.getElem_cons_zero, List.getElem_cons_succ]
    refine wpAnyH_take (i := 6) (v := ?_) rfl (by kernel_rfl) (by kernel_rfl) (by kernel_rfl) (fun _ _ _ h => h) (Or.inl ⟨rfl, ?_⟩) (by assumption) ?_
    rotate_left
    · (intro w hSw; (try dsimp only at hSw); go_simp; try with_reducible rfl)
    simp only [Act.put, List.setIfInBounds_toArray, List.set_cons_zero, List.set_cons_succ, List.getElem_toArray, List.getElem_cons_zero, List.getElem_cons_succ]
    refine wpAnyH_ready (rs := [7]) (by kernel_rfl) (by simp) ?_
    refine AllReadyH.cons rfl (fun K hK => ?_) AllReadyH.nil
    go_simp
    refine hK.out _ _ ?_ (fun hHeld => ?_)
    · exact ⟨(World.cell?_of_block (w := w5) (a := ⟨w2.heap.size, 0, none⟩) (Below.heap_setCell _ _ _ _ (by have := HZ.out.2.1; show w2.heap.size ≠ p; omega))).trans q0, (World.cell?_of_block (w := w5) (a := ⟨w.heap.size, 0, none⟩) (Below.heap_setCell _ _ _ _ (by have := HZ.out.1; show w.heap.size ≠ p; omega))).trans q1⟩
    clear hK K
    try simp only [Act.put, List.setIfInBounds_toArray, List.set_cons_zero, List.set_cons_succ, List.getElem_toArray, List.getElem_cons_zero, List.getElem_cons_succ]
    refine wpAnyH_done (by kernel_rfl) ?_ _
    obtain ⟨g, off, hoa, hgl, hce⟩ := (H.out.2.2.1.below H4.out.2.1) (by rw [List.length_map]; have := H.out.2.1; omega)
    subst hoa
    obtain ⟨K1, hK1⟩ : ∃ K1, K = K1 + 1 := ⟨K - 1, by omega⟩
    have hK2 : (K : Int) - 1 = (K1 : Int) := by omega
    have HK1 := Lib.hid hK1
    have hwK : IntKind.i64.wrap (K1 : Int) = (K1 : Int) := IntWalk.i64_in _ (by omega)
    have hKl : K1 < old.length := by have := H.out.2.1; omega
    have hfin4 := hce K1 (by rw [List.length_map]; exact hKl) 4 (by omega)
    rw [List.getElem_map, ← Nat.add_assoc] at hfin4
    have hend : (old[K1]).fin = Lx.endOf 0 (old.take K) := by rw [hK1]; exact (Lx.endOf_take 0 old K1 hKl).symm
    have hgb := H.out.2.2.2.1 _ rfl
    have HEND := Lib.hid hend
    have hf4 : W4.cell? ⟨g, off + K1 * 5 + 4, none⟩ = some (.int .i64 (old[K1]).fin) := hfin4
    rw [hend] at hf4
    have hret := H4.out.1.retoks (w1 := w5) (by exact hb5) (v := .slice va K vc) (ts := old.take K) (by rw [List.length_take, Nat.min_eq_left (by have := H.out.2.1; omega)]; exact hown5) (Lx.endOf 0 (old.take K))
    have hK1i : (K1 : Int) < (n : Int) := by omega
    have hfar : ∀ b : Nat, b < W4.heap.size → b ≠ p → (w5.setCell ⟨p, 2, none⟩ (.slice va K vc)).heap[b]? = W4.heap[b]? := fun b hb hp => (Below.heap_setCell _ _ _ _ hp).trans (hb5.block b (by exact hb))
    have hself6 := setCell_at w5 ⟨p, 2, none⟩ (.slice va K vc) _ _ hsf5 rfl
    have hsz5 := hb5.size
    have hz6 : (w5.setCell ⟨p, 2, none⟩ (.slice va K vc)).heap.size = w5.heap.size := by simp [World.setCell]
    have hb6 : Below w.heap.size w (w5.setCell ⟨p, 2, none⟩ (.slice va K vc)) := ⟨hb5.os.trans H4.out.2.1.os, hb5.tape.trans H4.out.2.1.tape, hb5.output.trans H4.out.2.1.output, by rw [hz6]; exact Nat.le_trans H4.out.2.1.size hsz5, fun i hi => (hfar i (Nat.lt_of_lt_of_le hi H4.out.2.1.size) (by have := HZ.out.1; omega)).trans (H4.out.2.1.block i hi)⟩
    have HR := Lib.hid (And.intro hret.1 (And.intro hret.2 hb6))
    have hv6 : (Value.slice va K vc).ownBlock = none ∨ ∃ k, (Value.slice va K vc).ownBlock = some k ∧ W4.heap.size ≤ k := by
      cases hvo : (Value.slice va K vc).ownBlock with
      | none => exact .inl rfl
      | some k => exact .inr ⟨k, rfl, (owns_ge hown5 k hvo).1⟩
    have HV6 := Lib.hid hv6
    generalize hW6 : (w5.setCell ⟨p, 2, none⟩ (.slice va K vc)) = W6 at *
    have e0 : W6.cell? ⟨w2.heap.size, 0, none⟩ = some (.pointer (some ⟨p, 0, none⟩)) := (World.cell?_of_block (w := W4) (a := ⟨w2.heap.size, 0, none⟩) (hfar w2.heap.size (by have := HZ.out.2.2; omega) (by have := HZ.out.2.1; omega))).trans c0
    have e1 : W6.cell? ⟨w.heap.size, 0, none⟩ = some (.slice (some ⟨g, off, none⟩) n cap) := (World.cell?_of_block (w := W4) (a := ⟨w.heap.size, 0, none⟩) (hfar w.heap.size (by have := HZ.out.2.2; have := HZ.out.2.1; have := HZ.out.1; omega) (by have := HZ.out.1; omega))).trans o4
    have e2 : W6.cell? ⟨g, off + K1 * 5 + 4, none⟩ = some (.int .i64 (Lx.endOf 0 (old.take K))) := (World.cell?_of_block (w := W4) (a := ⟨g, off + K1 * 5 + 4, none⟩) (hfar g hgl (by have := HZ.out.1; simp only at hgb; omega))).trans hf4
    have e3 : W6.cell? ⟨p, 1, none⟩ = some (.int .i64 0) := by rw [(cells_of hself6 1).1]; rfl
    have e4 : W6.frozen? ⟨p, 1, none⟩ = false := (cells_of hself6 1).2
    clear hK1 hret hfar hself6 hsz5 hz6 hb6 hv6 hsf5 g2 f2 q0 q1 hown5 hb5 hce hfin4 hf4 hend c0 o4
    generalize Lx.endOf 0 (old.take K) = E at *
    go_wp2_with fail
    go_still_tail 9, (by kernel_rfl)
    change wpList _ _ _ _ _ W6.drew
    have e3d : W6.drew.cell? ⟨p, 1, none⟩ = some (.int .i64 0) := e3
    have e4d : W6.drew.frozen? ⟨p, 1, none⟩ = false := e4
    go_wp2_with fail
    have hS7 := HR.out.1.drew
    have hold7 : ∀ i : Nat, i < W4.heap.size → i ≠ p → (W6.setCell ⟨p, 1, none⟩ (.int .i64 E)).drew.heap[i]? = W4.heap[i]? := HR.out.2.1
    have hz7 : (W6.setCell ⟨p, 1, none⟩ (.int .i64 E)).drew.heap.size = W6.heap.size := by show (W6.setCell ⟨p, 1, none⟩ (.int .i64 E)).heap.size = _; simp [World.setCell]
    have hb7 : Below w.heap.size w (W6.setCell ⟨p, 1, none⟩ (.int .i64 E)).drew := ⟨HR.out.2.2.os, HR.out.2.2.tape, HR.out.2.2.output, by rw [hz7]; exact HR.out.2.2.size, fun i hi => (hold7 i (Nat.lt_of_lt_of_le hi H4.out.2.1.size) (by have := HZ.out.1; omega)).trans (H4.out.2.1.block i hi)⟩
    have hz0 := HZ.out.1
    have hz20 := HZ.out.2.1
    have hz30 := HZ.out.2.2
    have hc7 : ∀ (b k : Nat) v, W4.cell? ⟨b, k, none⟩ = some v → b ≠ p → (W6.setCell ⟨p, 1, none⟩ (.int .i64 E)).drew.cell? ⟨b, k, none⟩ = some v := fun b k v h hp => (World.cell?_of_block (w := W4) (a := ⟨b, k, none⟩) (hold7 b (World.block_lt_of_cell? _ _ h) hp)).trans h
    have hnv : ∀ b, b < W4.heap.size → some b ≠ (Value.slice va K vc).ownBlock := fun b hb e => by
      rcases HV6.out with h | ⟨k, h, hk⟩
      · rw [h] at e; cases e
      · rw [h] at e; cases e; omega
    have b0 : W4.cell? ⟨w2.heap.size, 0, none⟩ = some (.pointer (some ⟨p, 0, none⟩)) := by rw [(cells_of H4.out.2.2.1 0).1]; rfl
    have hasks := asks_resume (w := (W6.setCell ⟨p, 1, none⟩ (.int .i64 E)).drew) (text := ch) (B := W1.heap.size + 5) (p := p) (sg := W1.heap.size) (fm := W1.heap.size + 1) (sm := W1.heap.size + 2) (tv := .slice va K vc) (cv := .slice none 0 0) old H.out.2.2.2.2.2 n H.out.2.1 hn2 (some ⟨g, off, none⟩) cap hcap (H.out.2.2.1.below hb7)
      (fun x hx => by
        have hgx := H.out.2.2.2.1 x hx
        exact ⟨Nat.lt_of_lt_of_le hgx hb7.size, by omega, hnv _ (Nat.lt_of_lt_of_le hgx H4.out.2.1.size), by simp [Value.ownBlock]⟩) pe c S (by omega) (by omega) (by omega) hS ha w2.heap.size w.heap.size (w.heap.size + 1) (hc7 _ _ _ b0 (by omega)) (hc7 _ _ _ H4.out.2.2.2.2.1 (by omega))
      (hc7 _ _ _ (by rw [(cells_of H4.out.2.2.2.1 0).1]; rfl) (by omega)) (hc7 _ _ _ (by rw [(cells_of H4.out.2.2.2.1 1).1]; rfl) (by omega)) (hc7 _ _ _ (by rw [(cells_of H4.out.2.2.2.1 2).1]; rfl) (by omega))
      ⟨by omega, hnv _ (by omega), by simp [Value.ownBlock]⟩ ⟨by omega, hnv _ (by omega), by simp [Value.ownBlock]⟩ ⟨by omega, hnv _ (by omega), by simp [Value.ownBlock]⟩
    have hgood : Good (bts ch) ⟨E, old.take K, []⟩ := by rw [← H4.out.2.2.2.2.2.2, H.out.2.2.2.2.1]; exact H4.out.2.2.2.2.2.1.2.1
    have hfin := finish_any hS7 hgood (dRes ch.size old pe c S.size) (fun st h => dRes_same _ _ _ _ _ st h) 69 _ hasks
    refine hfin.mono ?_
    intro e w9 hfs
    have hft : TokR ch w e w9 := fins_changed (S := bts S) (B := W1.heap.size + 5) (p := p) (sg := W1.heap.size) (fm := W1.heap.size + 1) (sm := W1.heap.size + 2) (tv := .slice va K vc) H.out.1 hpc H.out.2.2.2.2.1 hb7 (by omega) (by omega)
      (fun k hk => by
        rcases HV6.out with h | ⟨k', h, hk'⟩
        · rw [h] at hk; cases hk
        · rw [h] at hk; cases hk; omega) (by rw [bts_length, H4.out.2.2.2.2.2.2]; exact hfs)
    obtain ⟨v, x, er, rfl⟩ := tokR_three hft
    have HFT := Lib.hid hft
    clear hfs hft hfin hasks hgood hc7 hnv hold7 hS7 hb7
    unfold three
    go_wp2_with fail
    go_ret3
    exact HFT.out
end Go.Proofs.YtkghbecfjeldcaaDoor
