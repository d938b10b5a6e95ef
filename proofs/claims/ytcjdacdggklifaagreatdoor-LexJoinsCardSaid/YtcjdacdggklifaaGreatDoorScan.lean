/- The scanner's loop. -/
import Derived.Test.YtcjdacdggklifaaGreatDoorStep6
import Derived.Recover
import Derived.Laws.Pointers
import Derived.StillTailTactics
namespace Go.Proofs.YtcjdacdggklifaaGreatDoor
open Go.RowKit

theorem assert_wrong (v : Int) (w : World) : (Instr.typeAssert (.iface 105 (.int .i64 v)) 20 105 true).run Tryz.prog w = .ok (.tuple #[.int .i64 v, .bool true]) w := by kernel_rfl
theorem assert_nil (w : World) : (Instr.typeAssert .nilIface 20 105 true).run Tryz.prog w = .ok (.tuple #[.int .i64 0, .bool false]) w := by kernel_rfl

set_option maxRecDepth 100000 in
theorem catch_panicking (pa pe : Addr) (x y v : Int) (older : List PanicEntry) (w : World) (ha : w.cell? pa = some (.int .i64 x)) (fa : w.frozen? pa = false) (he : w.cell? pe = some (.int .i64 y)) (fe : w.frozen? pe = false) (hne : pa.block ≠ pe.block) :
    CallsD Tryz.prog 99 #[.pointer (some pa), .pointer (some pe)] (.panicking ({ v := .iface 105 (.int .i64 v), recovered := false } :: older)) w fun e u' w' =>
      e = .returned (.tuple #[]) ∧ u' = .panicking ({ v := .iface 105 (.int .i64 v), recovered := true } :: older) ∧ w' = (w.setCell pa (.int .i64 v)).setCell pe (.int .i64 10) := by
  have h2 : (w.setCell pa (.int .i64 v)).cell? pe = some (.int .i64 y) := by
    rw [World.cell?_of_block (w := w) (Below.heap_setCell _ _ _ _ (Ne.symm hne))]; exact he
  have h3 : (w.setCell pa (.int .i64 v)).frozen? pe = false := by
    rw [World.frozen?_of_block (w := w) (Below.heap_setCell _ _ _ _ (Ne.symm hne))]; exact fe
  refine callsD_of_wpS Tryz.func99 rfl fun c₀ cs hu => ?_
  apply wpS_seq
  apply wpS_region
  simp [wpOpsS, go_sem, recoverD, hu, Tryz.ntmps99, Exit.thenS, assert_wrong]
  apply wpS_seq
  apply wpS_region
  simp [wpOpsS, go_sem, Exit.thenS]
  refine wpS_cond (t := true) (by simp [Act.eval]) ?_
  simp only [if_true]
  apply wpS_region
  simp [wpOpsS, go_sem, ha, fa, h2, h3, bodyPostS, results, Tryz.results99]

set_option maxRecDepth 100000 in
theorem catch_idle (pa pe : Addr) (w : World) :
    CallsD Tryz.prog 99 #[.pointer (some pa), .pointer (some pe)] .returning w fun e u' w' => e = .returned (.tuple #[]) ∧ u' = .returning ∧ w' = w := by
  refine callsD_of_wpS Tryz.func99 rfl fun c₀ cs hu => ?_
  apply wpS_seq
  apply wpS_region
  simp [wpOpsS, go_sem, recoverD, hu, Tryz.ntmps99, Exit.thenS, assert_nil]
  apply wpS_seq
  apply wpS_region
  simp [wpOpsS, go_sem, Exit.thenS]
  refine wpS_cond (t := false) (by simp [Act.eval]) ?_
  simp only [Bool.false_eq_true, if_false]
  refine wpS_of_wp (wp_skip ?_)
  cases c₀
  simp_all [bodyPostS, results, Tryz.results99]

/-- How a text is cut from a state on: D says when to stop. -/
inductive Runs (b : Lx.Bs) (D : St → Bool × St) : St → Sum Nat St → Prop
  | over (st : St) (h : b.length ≤ st.at_) : Runs b D st (.inr st)
  | done (st : St) (h : st.at_ < b.length) (hd : (D st).1 = true) : Runs b D st (.inr (D st).2)
  | bad (st : St) (h : st.at_ < b.length) (hd : (D st).1 = false) (hn : nextSt b st = none) : Runs b D st (.inl st.at_)
  | step (st st' : St) (r : Sum Nat St) (h : st.at_ < b.length) (hd : (D st).1 = false) (hn : nextSt b st = some st') (hr : Runs b D st' r) : Runs b D st r

/-- A state in bounds. -/
def Good (b : Lx.Bs) (st : St) : Prop := st.at_ ≤ b.length ∧ st.ts.length ≤ st.at_ ∧ st.cs.length ≤ st.at_
theorem step_not_fill {l : Lx.Bs} (h : Lx.kd l ≠ .blank) (h2 : Lx.kd l ≠ .comm) (n : Nat) : Lx.step l ≠ .fill n := by
  intro e
  rcases Lx.step_fill_iff.1 e with ⟨h', _⟩ | ⟨h', _⟩
  · exact h h'
  · exact h2 h'
theorem next_good {b : Lx.Bs} {st st' : St} (hg : Good b st) (hlt : st.at_ < b.length) (h : nextSt b st = some st') : Good b st' ∧ st.at_ < st'.at_ := by
  obtain ⟨h1, h2, h3⟩ := hg
  have tk : ∀ {x : Lx.Step}, x = Lx.step (b.drop st.at_) → stTok st x = some st' → Good b st' ∧ st.at_ < st'.at_ := by
    intro x hx ht
    cases x with
    | bad => cases ht
    | fill n => cases ht
    | tok k n s len =>
      have hp := Lx.step_tok hx.symm
      rw [List.length_drop] at hp
      simp only [stTok, Option.some.injEq] at ht
      subst ht
      exact ⟨⟨by simp only; omega, by simp only [List.length_append, List.length_singleton]; omega, by simp only; omega⟩, by simp only; omega⟩
  unfold nextSt at h
  cases hk : Lx.kd (b.drop st.at_) with
  | blank =>
    rw [hk] at h; simp only [Option.some.injEq] at h
    have hl := Lx.run_le Lx.blank (b.drop st.at_)
    rw [List.length_drop] at hl
    obtain ⟨c, r, hc, hb⟩ := (Lx.kd_blank_iff _).1 hk
    have hp := Lx.run_pos (r := r) hb
    rw [← hc] at hp
    subst h
    exact ⟨⟨by simp only; omega, by simp only; omega, by simp only; omega⟩, by simp only; omega⟩
  | comm =>
    rw [hk] at h; simp only at h
    cases hm : Lx.comm 0 (b.drop st.at_) with
    | none => rw [hm] at h; cases h
    | some n =>
      rw [hm] at h; simp only [Option.map_some, Option.some.injEq] at h
      have hp := Lx.comm_pos _ _ _ hm
      rw [List.length_drop] at hp
      subst h
      exact ⟨⟨by simp only; omega, by simp only; omega, by simp only [List.length_append, List.length_singleton]; omega⟩, by simp only; omega⟩
  | letter => rw [hk] at h; exact tk rfl h
  | digit => rw [hk] at h; exact tk rfl h
  | symb => rw [hk] at h; exact tk rfl h
  | other => rw [hk] at h; exact tk rfl h

/-- The place of a scanner, read off the world: a loop's measure. -/
def placeIn (p : Nat) (w : World) : Nat := match w.cell? ⟨p, 1, none⟩ with | some (.int _ n) => n.toNat | _ => 0
theorem placeIn_eq {B p sg fm sm : Nat} {text : ByteArray} {st : St} {tv cv : Value} {w : World} (h : Sc B p sg fm sm text st tv cv w) : placeIn p w = st.at_ := by
  unfold placeIn; rw [h.c1]; simp

/-- What the loop's test asks. -/
def Asks (B p sg fm sm : Nat) (text : ByteArray) (D : St → Bool × St) (DF : Nat) (cap : Array Value) (tv0 cv0 : Value) (w0 : World) : Prop :=
  (∀ (args : Array Value) (w : World), (callFunc DF args).run Tryz.prog w = .ok (.enter DF args) w) ∧
  ∀ st tv cv W, Sc B p sg fm sm text st tv cv W → Moved p tv0 cv0 w0 tv cv W → Good (bts text) st → st.at_ < text.size →
    Calls Tryz.prog DF cap W fun e w' => e = .returned (.bool (D st).1) ∧ ∃ tv' cv', Sc B p sg fm sm text (D st).2 tv' cv' w' ∧ Moved p tv cv W tv' cv' w'

/-- What the loop comes to. -/
def Scans (B p sg fm sm : Nat) (text : ByteArray) (tv cv : Value) (w : World) (r : Sum Nat St) (e : Ending) (w' : World) : Prop :=
  ∃ st' tv' cv', Sc B p sg fm sm text st' tv' cv' w' ∧ Moved p tv cv w tv' cv' w' ∧
    match r with
    | .inl a => e = .returned (.tuple #[.int .i64 a, .int .i64 10])
    | .inr st => e = .returned (.tuple #[.int .i64 0, .int .i64 0]) ∧ st' = st

/-- The two cells of the results are no part of a scanner. -/
theorem Sc.far {B p sg fm sm : Nat} {text : ByteArray} {st : St} {tv cv tv0 cv0 : Value} {w w1 w2 : World} (h : Sc B p sg fm sm text st tv cv w1) (hm : Moved p tv0 cv0 w tv cv w1) (q : Nat) (hq : w.heap.size ≤ q) (hBq : B ≤ q)
    (ht : tv.ownBlock ≠ some q ∧ tv.ownBlock ≠ some (q + 1)) (hc : cv.ownBlock ≠ some q ∧ cv.ownBlock ≠ some (q + 1)) (hh : ∀ b, b ≠ q → b ≠ q + 1 → w2.heap[b]? = w1.heap[b]?) (hs : w2.heap.size = w1.heap.size) (h1 : w2.os = w1.os) (h2 : w2.tape = w1.tape) (h3 : w2.output = w1.output) :
    Sc B p sg fm sm text st tv cv w2 ∧ Moved p tv0 cv0 w tv cv w2 := by
  have hpB := h.pB
  have hsB := h.sgB
  have hfB := h.fmB
  have hmB := h.smB
  refine ⟨⟨?_, ?_, ?_, ?_, ?_, ?_, h.pB, h.sgB, h.fmB, h.smB, by rw [hs]; exact h.BW, h.ne, h.apart⟩, ⟨h1.trans hm.os, h2.trans hm.tape, h3.trans hm.output, by rw [hs]; exact hm.size, fun i hi a b c => (hh i (by omega) (by omega)).trans (hm.block i hi a b c), hm.tvR, hm.cvR⟩⟩
  · rw [hh p (by omega) (by omega)]; exact h.self
  · rw [hh sg (by omega) (by omega)]; exact h.signs
  · exact h.fixed.of_block (hh fm (by omega) (by omega))
  · rw [hh sm (by omega) (by omega)]; exact h.steps
  · exact owns_of_block h.toks fun g hg => hh g (fun e => ht.1 (e ▸ hg)) (fun e => ht.2 (e ▸ hg))
  · exact owns_of_block h.coms fun g hg => hh g (fun e => hc.1 (e ▸ hg)) (fun e => hc.2 (e ▸ hg))

theorem two_cells (w : World) (q : Nat) (x y u v : Value) (t t' : TypeId) (h1 : w.heap[q]? = some (.cells #[x] t)) (h2 : w.heap[q + 1]? = some (.cells #[y] t')) :
    ((w.setCell ⟨q, 0, none⟩ u).setCell ⟨q + 1, 0, none⟩ v).cell? ⟨q, 0, none⟩ = some u ∧ ((w.setCell ⟨q, 0, none⟩ u).setCell ⟨q + 1, 0, none⟩ v).cell? ⟨q + 1, 0, none⟩ = some v ∧
    (∀ b, b ≠ q → b ≠ q + 1 → ((w.setCell ⟨q, 0, none⟩ u).setCell ⟨q + 1, 0, none⟩ v).heap[b]? = w.heap[b]?) ∧ ((w.setCell ⟨q, 0, none⟩ u).setCell ⟨q + 1, 0, none⟩ v).heap.size = w.heap.size := by
  have s1 := setCell_at w ⟨q, 0, none⟩ u _ _ h1 rfl
  have s2 : (w.setCell ⟨q, 0, none⟩ u).heap[q + 1]? = some (.cells #[y] t') := (Below.heap_setCell _ _ _ _ (by simp)).trans h2
  have s3 := setCell_at (w.setCell ⟨q, 0, none⟩ u) ⟨q + 1, 0, none⟩ v _ _ s2 rfl
  have s4 : ((w.setCell ⟨q, 0, none⟩ u).setCell ⟨q + 1, 0, none⟩ v).heap[q]? = _ := (Below.heap_setCell _ _ _ _ (by simp)).trans s1
  refine ⟨by rw [(cells_of s4 0).1]; rfl, by rw [(cells_of s3 0).1]; rfl, fun b hb hb' => (Below.heap_setCell _ _ _ _ hb').trans (Below.heap_setCell _ _ _ _ hb), by simp [World.setCell]⟩

set_option maxRecDepth 100000 in
set_option maxHeartbeats 2000000 in
theorem scan_any {B p sg fm sm : Nat} {text : ByteArray} {st0 : St} {tv0 cv0 : Value} {w : World} (h : Sc B p sg fm sm text st0 tv0 cv0 w) (hs : text.size ≤ 2000000) (hg : Good (bts text) st0)
    (D : St → Bool × St) (hD : ∀ st, (D st).1 = false → (D st).2 = st) (DF : Nat) (cap : Array Value) (hA : Asks B p sg fm sm text D DF cap tv0 cv0 w) :
    Calls Tryz.prog 68 #[.pointer (some ⟨p, 0, none⟩), .func (.func DF) #[] cap] w fun e w' => ∃ r, Runs (bts text) D st0 r ∧ Scans B p sg fm sm text tv0 cv0 w r e w' := by
  have hmf : ∀ (fn : Fn) (first cap : Array Value) (w : World), (Instr.makeFunc fn first cap).run Tryz.prog w = .ok (.func fn first cap) w := fun _ _ _ _ => rfl
  have HA := Lib.hid hA
  have hD1 := Lib.hid hD
  have H := Lib.hid h
  have HGD := Lib.hid hg
  clear hA hD h hg
  go_enter_defers Tryz.func68, Tryz.ntmps68
  go_wp2_with fail
  have hS := H.out.allocD (w1 := w.alloc (.cells #[.int .i64 0] 3)) _ rfl rfl rfl rfl
  have hS2 := hS.1.allocD (w1 := (w.alloc (.cells #[.int .i64 0] 3)).alloc (.cells #[.int .i64 0] 26)) _ rfl rfl rfl rfl
  have hM2 := hS.2.trans hS2.2
  have hA0 : ((w.alloc (.cells #[.int .i64 0] 3)).alloc (.cells #[.int .i64 0] 26)).heap[w.heap.size]? = some (.cells #[.int .i64 0] 3) := by
    rw [alloc_miss _ _ _ (by simp), alloc_hit _ _ _ rfl]
  have hE0 : ((w.alloc (.cells #[.int .i64 0] 3)).alloc (.cells #[.int .i64 0] 26)).heap[w.heap.size + 1]? = some (.cells #[.int .i64 0] 26) := by
    rw [alloc_hit _ _ _ (by simp)]
  have hz2 : ((w.alloc (.cells #[.int .i64 0] 3)).alloc (.cells #[.int .i64 0] 26)).heap.size = w.heap.size + 2 := by simp
  have HS2 := Lib.hid hS2.1
  clear hS hS2
  generalize (w.alloc (.cells #[.int .i64 0] 3)).alloc (.cells #[.int .i64 0] 26) = W2 at *
  have HM2 := Lib.hid hM2
  have HA0 := Lib.hid hA0
  have HE0 := Lib.hid hE0
  have HZ2 := Lib.hid hz2
  clear hM2 hA0 hE0 hz2
  have hblk : ∀ (tv cv : Value) (wr : World), Moved p tv0 cv0 W2 tv cv wr → wr.heap[w.heap.size]? = some (.cells #[.int .i64 0] 3) ∧ wr.heap[w.heap.size + 1]? = some (.cells #[.int .i64 0] 26) := by
    intro tv cv wr hm
    have hpw := H.out.pw
    have nt : ∀ k, w.heap.size ≤ k → some k ≠ tv0.ownBlock := fun k hk e => by have := owns_ge H.out.toks k e.symm; omega
    have nc : ∀ k, w.heap.size ≤ k → some k ≠ cv0.ownBlock := fun k hk e => by have := owns_ge H.out.coms k e.symm; omega
    have hz := HZ2.out
    exact ⟨(hm.block _ (by omega) (by omega) (nt _ (by omega)) (nc _ (by omega))).trans HA0.out, (hm.block _ (by omega) (by omega) (nt _ (by omega)) (nc _ (by omega))).trans HE0.out⟩
  have HBLK := Lib.hid hblk
  have hfin : ∀ (st : St) (tv cv : Value) (wr : World) (u v : Int), Sc B p sg fm sm text st tv cv wr → Moved p tv0 cv0 W2 tv cv wr →
      Sc B p sg fm sm text st tv cv ((wr.setCell ⟨w.heap.size, 0, none⟩ (.int .i64 u)).setCell ⟨w.heap.size + 1, 0, none⟩ (.int .i64 v)) ∧
      Moved p tv0 cv0 w tv cv ((wr.setCell ⟨w.heap.size, 0, none⟩ (.int .i64 u)).setCell ⟨w.heap.size + 1, 0, none⟩ (.int .i64 v)) ∧
      ((wr.setCell ⟨w.heap.size, 0, none⟩ (.int .i64 u)).setCell ⟨w.heap.size + 1, 0, none⟩ (.int .i64 v)).cell? ⟨w.heap.size, 0, none⟩ = some (.int .i64 u) ∧
      ((wr.setCell ⟨w.heap.size, 0, none⟩ (.int .i64 u)).setCell ⟨w.heap.size + 1, 0, none⟩ (.int .i64 v)).cell? ⟨w.heap.size + 1, 0, none⟩ = some (.int .i64 v) := by
    intro st tv cv wr u v hs hm
    have hb := HBLK.out tv cv wr hm
    have t := two_cells wr w.heap.size _ _ (.int .i64 u) (.int .i64 v) _ _ hb.1 hb.2
    have hz := HZ2.out
    have ot : tv.ownBlock ≠ some w.heap.size ∧ tv.ownBlock ≠ some (w.heap.size + 1) := by
      rcases hm.tvR with e | e
      · rw [e]; exact ⟨fun e' => by have := owns_ge H.out.toks _ e'; omega, fun e' => by have := owns_ge H.out.toks _ e'; omega⟩
      · exact ⟨fun e' => by have := e _ e'; omega, fun e' => by have := e _ e'; omega⟩
    have oc : cv.ownBlock ≠ some w.heap.size ∧ cv.ownBlock ≠ some (w.heap.size + 1) := by
      rcases hm.cvR with e | e
      · rw [e]; exact ⟨fun e' => by have := owns_ge H.out.coms _ e'; omega, fun e' => by have := owns_ge H.out.coms _ e'; omega⟩
      · exact ⟨fun e' => by have := e _ e'; omega, fun e' => by have := e _ e'; omega⟩
    have f := hs.far (HM2.out.trans hm) w.heap.size (Nat.le_refl _) H.out.BW ot oc t.2.2.1 t.2.2.2 rfl rfl rfl
    exact ⟨f.1, f.2, t.1, t.2.1⟩
  have HFIN := Lib.hid hfin
  clear hblk hfin
  go_loopw [] (fun wr => ∃ st tv cv, Sc B p sg fm sm text st tv cv wr ∧ Moved p tv0 cv0 W2 tv cv wr ∧ Good (bts text) st ∧ ∀ r, Runs (bts text) D st r → Runs (bts text) D st0 r) (fun wr => text.size - placeIn p wr)
  case atStart => exact ⟨st0, tv0, cv0, HS2.out, Moved.refl _ _ _ _, HGD.out, fun _ h => h⟩
  case round =>
    obtain ⟨st, tv, cv, hsc, hmv, hgd, hrn⟩ := hrel
    have c0 := hsc.c0
    have c1 := hsc.c1
    have c6 := hsc.c6
    have HSC := Lib.hid hsc
    have HMV := Lib.hid hmv
    have HGD := Lib.hid hgd
    have HRN := Lib.hid hrn
    clear hsc hmv hgd hrn
    have hbl := bts_length text
    have hcells := HBLK.out _ _ _ HMV.out
    have r0 : wr.cell? ⟨w.heap.size, 0, none⟩ = some (.int .i64 0) := by rw [(cells_of hcells.1 0).1]; rfl
    have r1 : wr.cell? ⟨w.heap.size + 1, 0, none⟩ = some (.int .i64 0) := by rw [(cells_of hcells.2 0).1]; rfl
    have g0 : wr.frozen? ⟨w.heap.size, 0, none⟩ = false := (cells_of hcells.1 0).2
    have g1 : wr.frozen? ⟨w.heap.size + 1, 0, none⟩ = false := (cells_of hcells.2 0).2
    have HCL := Lib.hid hcells
    clear hcells
    by_cases hlt : st.at_ < text.size
    · have hlt2 : (st.at_ : Int) < (text.size : Int) := by omega
      clear hbl
      have hask := fun (n : Nat) => HA.out.2 st tv cv (wr.drewN n) (HSC.out.drewN n) ((HM2.out.trans HMV.out).trans (Moved.drewN n)) HGD.out hlt
      have henter := HA.out.1
      have HASK := Lib.hid hask
      clear hask
      go_wp2_with fail
      go_still_tail 12, (by kernel_rfl)
      change wpList _ _ _ _ _ wr.drew
      go_wp2_with fail
      refine (HASK.out 1).mono ?_
      rintro e w1 ⟨rfl, tv1, cv1, hsc1, hmv1⟩
      have hmv1' : Moved p tv0 cv0 W2 tv1 cv1 w1 := HMV.out.trans ((Moved.drewN 1).trans hmv1)
      have HMV1 := Lib.hid hmv1'
      clear hmv1 hmv1'
      cases hd : (D st).1 with
      | true =>
        have hov : Runs (bts text) D st0 (.inr (D st).2) := HRN.out _ (Runs.done st (by rw [bts_length]; exact hlt) hd)
        have HOV := Lib.hid hov
        have HSC1 := Lib.hid hsc1
        clear hov hsc1
        have hcells := HBLK.out _ _ _ HMV1.out
        have r0 : w1.cell? ⟨w.heap.size, 0, none⟩ = some (.int .i64 0) := by rw [(cells_of hcells.1 0).1]; rfl
        have r1 : w1.cell? ⟨w.heap.size + 1, 0, none⟩ = some (.int .i64 0) := by rw [(cells_of hcells.2 0).1]; rfl
        have g0 : w1.frozen? ⟨w.heap.size, 0, none⟩ = false := (cells_of hcells.1 0).2
        have g1 : w1.frozen? ⟨w.heap.size + 1, 0, none⟩ = false := (cells_of hcells.2 0).2
        clear hcells
        go_wp2_with fail
        have hf := HFIN.out (D st).2 tv1 cv1 w1 0 0 HSC1.out HMV1.out
        refine leaves_cons (f := 99) (args := #[.pointer (some ⟨w.heap.size, 0, none⟩), .pointer (some ⟨w.heap.size + 1, 0, none⟩)]) (by simp) (by simp [go_sem]) ?_
        refine (catch_idle _ _ _).mono ?_
        rintro e u' w'' ⟨rfl, rfl, rfl⟩
        obtain ⟨hf1, hf2, hf3, hf4⟩ := hf
        generalize (w1.setCell ⟨w.heap.size, 0, none⟩ (.int .i64 0)).setCell ⟨w.heap.size + 1, 0, none⟩ (.int .i64 0) = w3 at *
        simp [Leaves, settle, results, Tryz.results68, go_sem, hf3, hf4]
        exact ⟨.inr (D st).2, HOV.out, (D st).2, tv1, cv1, hf1, hf2, rfl, rfl⟩
      | false =>
        have hds := hD1.out st hd
        rw [hds] at hsc1
        have HDS := Lib.hid hd
        clear hds hd
        have c0 := hsc1.c0
        have c1 := hsc1.c1
        have c6 := hsc1.c6
        obtain ⟨F, hlk, hent, hcall⟩ := dispatch hsc1 hs hlt (by have := HGD.out.2.1; omega) (by have := HGD.out.2.2; omega)
        have HCALL := Lib.hid hcall
        have HSC1 := Lib.hid hsc1
        have hk1 : (0 : Int) ≤ (st.at_ : Int) := Int.natCast_nonneg _
        clear hcall hsc1
        go_wp2_with fail
        go_quiet ((go_at_call 100; exact Calls.quiet_of_same (kindOf_any _ _)))
        go_wp2_with fail
        refine (HCALL.out nq).mono ?_
        cases hn : nextSt (bts text) st with
        | none =>
          rintro e w2 ⟨rfl, hsc2, hmv2⟩
          have hbad : Runs (bts text) D st0 (.inl st.at_) := HRN.out _ (Runs.bad st (by rw [bts_length]; exact hlt) HDS.out hn)
          have hmv3 := HMV1.out.trans hmv2
          have hcells := HBLK.out _ _ _ hmv3
          have hf := HFIN.out st tv1 cv1 w2 st.at_ 10 hsc2 hmv3
          refine leaves_cons (f := 99) (args := #[.pointer (some ⟨w.heap.size, 0, none⟩), .pointer (some ⟨w.heap.size + 1, 0, none⟩)]) (by simp) (by simp [go_sem]) ?_
          refine (catch_panicking ⟨w.heap.size, 0, none⟩ ⟨w.heap.size + 1, 0, none⟩ 0 0 st.at_ [] w2 (by rw [(cells_of hcells.1 0).1]; rfl) (cells_of hcells.1 0).2 (by rw [(cells_of hcells.2 0).1]; rfl) (cells_of hcells.2 0).2 (by simp)).mono ?_
          rintro e u' w'' ⟨rfl, rfl, rfl⟩
          obtain ⟨hf1, hf2, hf3, hf4⟩ := hf
          generalize (w2.setCell ⟨w.heap.size, 0, none⟩ (.int .i64 st.at_)).setCell ⟨w.heap.size + 1, 0, none⟩ (.int .i64 10) = w3 at *
          simp [Leaves, settle, results, Tryz.results68, go_sem, hf3, hf4]
          exact ⟨.inl st.at_, hbad, st, tv1, cv1, hf1, hf2, rfl⟩
        | some st' =>
          rintro e w2 ⟨rfl, tv2, cv2, hsc2, hmv2⟩
          have hng := next_good HGD.out (by rw [bts_length]; exact hlt) hn
          have hrn2 : ∀ r, Runs (bts text) D st' r → Runs (bts text) D st0 r := fun r hr => HRN.out _ (Runs.step st st' r (by rw [bts_length]; exact hlt) HDS.out hn hr)
          have hmv3 := HMV1.out.trans hmv2
          have hp1 := placeIn_eq HSC.out
          have hp2 := placeIn_eq hsc2
          have H2 := Lib.hid (And.intro hsc2 (And.intro hmv3 (And.intro hng (And.intro hrn2 (And.intro hp1 hp2)))))
          clear hsc2 hmv2 hng hrn2 hmv3 hp1 hp2 hn
          go_wp2_with fail
          obtain ⟨hsc2, hmv3, hng, hrn2, hp1, hp2⟩ := H2.out
          exact ⟨⟨st', tv2, cv2, hsc2, hmv3, hng.1, hrn2⟩, by rw [hp1, hp2]; have := hng.2; have := hng.1.1; rw [bts_length] at this; omega⟩
    · have hlt2 : decide ((st.at_ : Int) < (text.size : Int)) = false := by simpa using hlt
      have hlt3 : (text.size : Int) ≤ (st.at_ : Int) := by omega
      have hov : Runs (bts text) D st0 (.inr st) := HRN.out _ (Runs.over st (by omega))
      have HOV := Lib.hid hov
      clear hbl hov
      go_wp2_with fail
      go_quiet (fail)
      go_wp2_with fail
      have hf := HFIN.out st tv cv (wr.drewN nq) 0 0 (HSC.out.drewN nq) (HMV.out.trans (Moved.drewN nq))
      refine leaves_cons (f := 99) (args := #[.pointer (some ⟨w.heap.size, 0, none⟩), .pointer (some ⟨w.heap.size + 1, 0, none⟩)]) (by simp) (by simp [go_sem]) ?_
      refine (catch_idle _ _ _).mono ?_
      rintro e u' w'' ⟨rfl, rfl, rfl⟩
      obtain ⟨hf1, hf2, hf3, hf4⟩ := hf
      generalize ((wr.drewN nq).setCell ⟨w.heap.size, 0, none⟩ (.int .i64 0)).setCell ⟨w.heap.size + 1, 0, none⟩ (.int .i64 0) = w3 at *
      simp [Leaves, settle, results, Tryz.results68, go_sem, hf3, hf4]
      exact ⟨.inr st, HOV.out, st, tv, cv, hf1, hf2, rfl, rfl⟩
end Go.Proofs.YtcjdacdggklifaaGreatDoor
