/- Merged: Occ, Occ2. -/
import Derived.Test.YtapdfdjknehhgaaUni
import Derived.Test.YtapdfdjknehhgaaWlk

/- Does a variable occur within a tree? -/
namespace Go.Proofs.Ytapdfdjknehhgaa
open Go.RowKit Go.Tr Go.Maps

/-- What the closure of occurs has in memory. -/
structure OccI (B pu bm : Nat) (b : Bec) (c : Int) (tgt : Int) (q : Nat) (met : List Int) (w : World) (Q : Nat → Prop) : Prop where
  uni : UniI B pu bm b c w
  hu : w.heap[q]? = some (.cells #[.pointer (some ⟨pu, 0, none⟩)] 91)
  hn : w.heap[q + 1]? = some (.cells #[.int .i64 tgt] 3)
  hM : IMap w (q + 3) (setOfI met)
  hm : w.heap[q + 4]? = some (.cells #[.map (some (q + 3))] 116)
  hl : w.heap[q + 5]? = some (.cells #[.func (.func 113) #[] #[.pointer (some ⟨q + 4, 0, none⟩), .pointer (some ⟨q + 1, 0, none⟩), .pointer (some ⟨q, 0, none⟩), .pointer (some ⟨q + 5, 0, none⟩)]] 76)
  nu : pu < q
  nm : bm < q
  nq : ¬ Q (q + 3)
  lt : ∀ b, Q b → b < w.heap.size
theorem occI_of {B pu bm : Nat} {b : Bec} {c tgt : Int} {q : Nat} {met : List Int} {w w' : World} {Q Q' : Nat → Prop} (h : OccI B pu bm b c tgt q met w Q) (hk : ∀ b, b < w.heap.size → b ≠ q + 3 → w'.heap[b]? = w.heap[b]?) (met' : List Int) (hM : IMap w' (q + 3) (setOfI met')) (nq : ¬ Q' (q + 3)) (lt : ∀ b, Q' b → b < w'.heap.size) : OccI B pu bm b c tgt q met' w' Q' := by
  obtain ⟨v, v1, v2⟩ := h.uni.hb
  have := h.nu; have := h.nm; have := h.uni.bu
  have hq := block_lt h.hu
  exact ⟨⟨(hk pu (block_lt h.uni.hu) (by omega)).trans h.uni.hu, ⟨v, v1.of_block (hk bm v1.lt (by omega)), BRel.up (fun b hb => hk b (by omega) (by omega)) v2⟩, h.uni.bu, h.uni.bb, h.uni.ne⟩,
    (hk q hq (by omega)).trans h.hu, (hk (q + 1) (block_lt h.hn) (by omega)).trans h.hn, hM, (hk (q + 4) (block_lt h.hm) (by omega)).trans h.hm, (hk (q + 5) (block_lt h.hl) (by omega)).trans h.hl, h.nu, h.nm, nq, lt⟩
theorem occI_grow {B pu bm : Nat} {b : Bec} {c tgt : Int} {q : Nat} {met : List Int} {w w' : World} {Q Q' : Nat → Prop} (h : OccI B pu bm b c tgt q met w Q) (hb : Below w.heap.size w w') (hq : ∀ b, Q' b → Q b ∨ (w.heap.size ≤ b ∧ b < w'.heap.size)) : OccI B pu bm b c tgt q met w' Q' := by
  have l3 := h.hM.lt
  refine occI_of h (fun b hb' _ => hb.block b hb') met (h.hM.of_block (hb.block _ l3)) (fun hc => ?_) (fun b hb' => ?_)
  · rcases hq _ hc with h1 | h1
    · exact h.nq h1
    · omega
  · rcases hq b hb' with h1 | h1
    · have := h.lt b h1; have := hb.size; omega
    · exact h1.2
theorem kpD {Q : Nat → Prop} (w : World) : Kp Q w w.drew := ⟨rfl, rfl, rfl, Nat.le_refl _, fun _ _ => rfl⟩
theorem occI_drew {B pu bm : Nat} {b : Bec} {c tgt : Int} {q : Nat} {met : List Int} {w : World} {Q : Nat → Prop} (h : OccI B pu bm b c tgt q met w Q) : OccI B pu bm b c tgt q met w.drew Q :=
  occI_of (w' := w.drew) (Q' := Q) h (fun _ _ _ => rfl) met (h.hM.of_block rfl) h.nq h.lt
/-- A look-up in every world in which the unifier's map is the same. -/
theorem uniI_lookB {B pu bm : Nat} {b : Bec} {n : Int} {w : World} (h : UniI B pu bm b n w) {m : Int} (hm : inI m) :
    ∃ u, (∀ W, W.heap[bm]? = w.heap[bm]? → (Instr.lookup 92 (.map (some bm)) (.int .i64 m) false).run Try.prog W = .ok u W) ∧
      TrV w (· < B) ((fndT m b).getD zeroT) u := by
  obtain ⟨v, h1, h2⟩ := h.hb
  cases hf : fndT m b with
  | none =>
    have h3 := h2.none hf
    refine ⟨vzero, fun W hW => ?_, ?_⟩
    · rw [look_int Try.underlying92 zeroTerm (h1.of_block hW) m hm false, h3]
      rfl
    · exact trV_iff.2 ⟨_, rfl, by unfold inI; simp [zeroT, Tm.k], by unfold inI; simp [zeroT, Tm.n], none, 0, 0, 0, rfl, Nat.le_refl _, by decide, fun h => absurd rfl h, trivial⟩
  | some t =>
    obtain ⟨u, h3, h4⟩ := h2.some hf
    refine ⟨u, fun W hW => ?_, h4⟩
    rw [look_int Try.underlying92 zeroTerm (h1.of_block hW) m hm false, h3]
    rfl
theorem occS_ok (b : Bec) (tgt : Int) (f : Nat) (s : List Int) (t : Tm) (d : Int) (m : Nat) (h : okO b f s (m + 1)) (_ : (occS b tgt f s t d).2 = true) : okO b f (occS b tgt f s t d).1 m := by
  unfold okO at *
  exact Nat.lt_of_le_of_lt (rem_mono (occS_sub b tgt f s t d)) h
theorem occS_op {b : Bec} {tgt : Int} {f : Nat} {s : List Int} {t : Tm} {d : Int} (h : t.k ≠ 1) : occS b tgt f s t d = (s, true) := by
  cases f with
  | zero => rfl
  | succ f => simp only [occS]; rw [if_pos (.inl h)]
/-- Which trees the closure speaks of at a number. -/
def ndO (f : Nat) (t : Tm) : Bool := f != 0 || t.k != 1
def dO (f : Nat) : Int := 9000000000000000000 - 1002 * (f : Int)
theorem allN_ndO (f : Nat) (t : Tm) : allN (ndO (f + 1)) t = true := allN_mono (p := fun _ => true) (fun _ _ => by simp [ndO]) t (allN_true t)
set_option maxRecDepth 100000 in
theorem occ_op {B pu bm : Nat} {b : Bec} {c tgt : Int} {q : Nat} (s : List Int) (w : World) (Q : Nat → Prop) (t : Tm) (d : Int) (v : Value) (hkk : t.k ≠ 1) (h : OccI B pu bm b c tgt q s w Q) (hv : TrV w Q t v) :
    Calls Try.prog 113 (#[v, .int .i64 d] ++ #[.pointer (some ⟨q + 4, 0, none⟩), .pointer (some ⟨q + 1, 0, none⟩), .pointer (some ⟨q, 0, none⟩), .pointer (some ⟨q + 5, 0, none⟩)]) w fun e w' => e = .returned (.bool true) ∧ OccI B pu bm b c tgt q s w' Q ∧ Kp Q w w' := by
  obtain ⟨sl, rfl, hk1, hk2, hsl⟩ := trV_iff.1 hv
  obtain ⟨oa, cap, b1, o1, rfl, hlc, hcm, -, -⟩ := trS_at hsl
  have h1 := occI_grow (Q' := Q) h (below_alloc w (.cells #[.int .i64 t.k, .int .i64 t.n, .slice oa t.l.length cap] 24)) (fun b hb => .inl hb)
  have hk := kp_alloc h.lt (.cells #[.int .i64 t.k, .int .i64 t.n, .slice oa t.l.length cap] 24)
  have hb1 : (t.k != 1) = true := by simp [hkk]
  have HH := Lib.hid (And.intro h1 hk)
  clear hk1 hv hsl h h1 hk hkk
  go_enter Try.func113, Try.ntmps113
  go_wp2_with fail
  go_ret
  exact ⟨rfl, HH.out.1, HH.out.2⟩
/-- The closure at trees that are no variables. -/
theorem occ0_sees {B pu bm : Nat} {b : Bec} {c tgt : Int} {q : Nat} (D : Int) :
    SeesD D 113 #[.pointer (some ⟨q + 4, 0, none⟩), .pointer (some ⟨q + 1, 0, none⟩), .pointer (some ⟨q, 0, none⟩), .pointer (some ⟨q + 5, 0, none⟩)] (fun s _ _ => (s, true)) (fun _ _ => True) (OccI B pu bm b c tgt q) (fun t => t.k != 1) :=
  ⟨fun _ _ _ _ _ _ => trivial, fun _ _ => by go_simp, fun s w Q h => h.lt, fun s w w' Q Q' h hb hq => occI_grow h hb hq, fun s w Q t d v m _ _ _ hnd h hv => occ_op s w Q t d v (by simpa using hnd) h hv⟩
set_option maxRecDepth 100000 in
set_option maxHeartbeats 800000 in
theorem occ1_sees {B pu bm : Nat} {b : Bec} {c tgt : Int} {q : Nat} (hdb : ∀ n u, fndT n b = some u → dp u ≤ 1000) (f : Nat) :
    SeesD (dO f) 113 #[.pointer (some ⟨q + 4, 0, none⟩), .pointer (some ⟨q + 1, 0, none⟩), .pointer (some ⟨q, 0, none⟩), .pointer (some ⟨q + 5, 0, none⟩)] (occS b tgt f) (okO b f) (OccI B pu bm b c tgt q) (ndO f) := by
  induction f with
  | zero =>
    refine ⟨occS_ok b tgt 0, fun _ _ => by go_simp, fun s w Q h => h.lt, fun s w w' Q Q' h hb hq => occI_grow h hb hq, fun s w Q t d v m hd hdu hok hnd h hv => ?_⟩
    unfold okO at hok; omega
  | succ f ih =>
    refine ⟨occS_ok b tgt (f + 1), fun _ _ => by go_simp, fun s w Q h => h.lt, fun s w w' Q Q' h hb hq => occI_grow h hb hq, fun s w Q t d v m hd hdu hok hnd h hv => ?_⟩
    obtain ⟨sl, rfl, hk1, hk2, hsl⟩ := trV_iff.1 hv
    obtain ⟨oa, cap, b1, o1, rfl, hlc, hcm, -, -⟩ := trS_at hsl
    obtain ⟨ob, hob⟩ : ∃ o : Obj, o = .cells #[.int .i64 t.k, .int .i64 t.n, .slice oa t.l.length cap] 24 := ⟨_, rfl⟩
    have hal := below_alloc w ob
    have h1 := occI_grow (Q' := Q) h hal (fun b hb => .inl hb)
    have hk := kp_alloc h.lt ob
    have hnew := (heap_alloc_new w ob).trans (congrArg some hob)
    have cm := cell_of_one h1.hm
    have hlk := look_int Try.underlying116 zeroBool h1.hM t.n hk2 false
    rw [fndI_set] at hlk
    have d0 := (cells_of hnew 0).1
    have d1 := (cells_of hnew 1).1
    simp only [List.getElem?_toArray, List.getElem?_cons_zero, List.getElem?_cons_succ] at d0 d1
    by_cases hkk : t.k = 1
    · have hb1 : (t.k != 1) = false := by simp [hkk]
      by_cases hmm : t.n ∈ s
      · have he : occS b tgt (f + 1) s t d = (s, true) := by simp only [occS]; rw [if_pos (.inr hmm)]
        rw [he]
        have hc : s.contains t.n = true := by simpa using hmm
        rw [hc] at hlk
        simp only [if_true, Option.getD_some, Bool.false_eq_true, if_false] at hlk
        have HH := Lib.hid (And.intro h1 hk)
        clear ih hnd hk1 hv hsl h h1 hk hnew hal he hc hmm hkk hok hdb
        subst hob
        go_enter Try.func113, Try.ntmps113
        go_wp2_with fail
        go_ret
        exact ⟨rfl, HH.out.1, HH.out.2⟩
      · have hc : s.contains t.n = false := by simpa using hmm
        rw [hc] at hlk
        simp only [Option.getD_none, Bool.false_eq_true, if_false] at hlk
        obtain ⟨w2, hrun, hm2, hg2⟩ := put_int Try.underlying116 h1.hM t.n hk2 (.bool true) (by rw [fndI_set, hc]; rfl)
        have e : setOfI s ++ [(t.n, Value.bool true)] = setOfI (s ++ [t.n]) := by simp [setOfI]
        rw [e] at hm2
        have h2 : ∀ Q', ¬ Q' (q + 3) → (∀ b, Q' b → b < w2.heap.size) → OccI B pu bm b c tgt q (s ++ [t.n]) w2 Q' := fun Q' n1 n2 => occI_of h1 (fun b hb hne => hg2.block b hb (by simp; exact hne)) _ hm2 n1 n2
        have hs2 := hg2.size
        have hq3 : q + 3 < w.heap.size := h.hM.lt
        have hs1 : (w.alloc ob).heap.size = w.heap.size + 1 := by simp
        have hnew2 := (hg2.block w.heap.size (by omega) (by simp; omega)).trans hnew
        have hk2' : Kp Q w w2 := hk.trans ⟨hg2.os, hg2.tape, hg2.output, hg2.size, fun b hb => hg2.block b (by have := h.lt b hb; omega) (by simp; exact fun e => h.nq (e ▸ hb))⟩
        have y0 := (cells_of hnew2 0).1
        have y1 := (cells_of hnew2 1).1
        simp only [List.getElem?_toArray, List.getElem?_cons_zero, List.getElem?_cons_succ] at y0 y1
        have hI2 := h2 (fun b => b < w2.heap.size ∧ b ≠ q + 3) (fun h => h.2 rfl) (fun b h => h.1)
        have z1 := cell_of_one hI2.hn
        by_cases htg : t.n = tgt
        · have he : occS b tgt (f + 1) s t d = (s ++ [t.n], false) := by simp only [occS]; rw [if_neg (by simp [hkk, hmm]), if_pos htg]
          rw [he]
          have hb2 : (t.n != tgt) = false := by simp [htg]
          have HH := Lib.hid (And.intro (h2 Q h.nq (fun b hb => by have := h.lt b hb; omega)) hk2')
          have z3 := cell_of_one hI2.hu
          have z4 := cell_of_one hI2.hl
          clear ih hnd hk1 hv hsl h h1 hk hnew hal he hc hmm hkk hok h2 hm2 hg2 hnew2 hk2' hI2 e htg hdb hs2 hq3 hs1
          subst hob
          go_enter Try.func113, Try.ntmps113
          go_wp2_with fail
          refine wp_region_held_drew (S := fun W => W.cell? ⟨w.heap.size, 1, none⟩ = some (.int .i64 t.n) ∧ W.cell? ⟨q + 1, 0, none⟩ = some (.int .i64 tgt)) (by kernel_rfl) ?_ (fun hHeld => ?_)
          · exact ⟨y1, z1⟩
          refine wpAnyH_take (i := 0) (v := ?_) rfl (by kernel_rfl) (by kernel_rfl) (by kernel_rfl) (fun _ _ _ h => h) (Or.inl ⟨rfl, ?_⟩) (by assumption) ?_
          rotate_left
          · (intro w hSw; (try dsimp only at hSw); go_simp; try with_reducible rfl)
          simp only [Act.put, List.setIfInBounds_toArray, List.set_cons_zero, List.set_cons_succ, List.getElem_toArray, List.getElem_cons_zero]
          refine wpAnyH_take (i := 1) (v := ?_) rfl (by kernel_rfl) (by kernel_rfl) (by kernel_rfl) (fun _ _ _ h => h) (Or.inl ⟨rfl, ?_⟩) (by assumption) ?_
          rotate_left
          · (intro w hSw; (try dsimp only at hSw); go_simp; try with_reducible rfl)
          simp only [Act.put, List.setIfInBounds_toArray, List.set_cons_zero, List.set_cons_succ, List.getElem_toArray, List.getElem_cons_zero, List.getElem_cons_succ]
          refine wpAnyH_take (i := 2) (v := ?_) rfl (by kernel_rfl) (by kernel_rfl) (by kernel_rfl) (fun _ _ _ h => h) (Or.inl ⟨rfl, ?_⟩) (by assumption) ?_
          rotate_left
          · (intro w hSw; (try dsimp only at hSw); go_simp; try with_reducible rfl)
          simp only [Act.put, List.setIfInBounds_toArray, List.set_cons_zero, List.set_cons_succ, List.getElem_toArray, List.getElem_cons_zero, List.getElem_cons_succ]
          refine wpAnyH_take (i := 3) (v := ?_) rfl (by kernel_rfl) (by kernel_rfl) (by kernel_rfl) (fun _ _ _ h => h) (Or.inl ⟨rfl, ?_⟩) (by assumption) ?_
          rotate_left
          · (intro w hSw; (try dsimp only at hSw); go_simp; try with_reducible rfl)
          simp only [Act.put, List.setIfInBounds_toArray, List.set_cons_zero, List.set_cons_succ, List.getElem_toArray, List.getElem_cons_zero, List.getElem_cons_succ]
          refine wpAnyH_take (i := 4) (v := ?_) rfl (by kernel_rfl) (by kernel_rfl) (by kernel_rfl) (fun _ _ _ h => h) (Or.inl ⟨rfl, ?_⟩) (by assumption) ?_
          rotate_left
          · (intro w hSw; (try dsimp only at hSw); go_simp; try with_reducible rfl)
          simp only [Act.put, List.setIfInBounds_toArray, List.set_cons_zero, List.set_cons_succ, List.getElem_toArray, List.getElem_cons_zero, List.getElem_cons_succ]
          refine wpAnyH_take (i := 5) (v := undef) rfl (by kernel_rfl) (by kernel_rfl) (by kernel_rfl) (fun _ _ _ h => h) (Or.inr ⟨rfl, rfl⟩) (by assumption) ?_
          simp only [Act.put, List.setIfInBounds_toArray, List.set_cons_zero, List.set_cons_succ, List.getElem_toArray, List.getElem_cons_zero, List.getElem_cons_succ]
          refine wpAnyH_take (i := 6) (v := undef) rfl (by kernel_rfl) (by kernel_rfl) (by kernel_rfl) (fun _ _ _ h => h) (Or.inr ⟨rfl, rfl⟩) (by assumption) ?_
          simp only [Act.put, List.setIfInBounds_toArray, List.set_cons_zero, List.set_cons_succ, List.getElem_toArray, List.getElem_cons_zero, List.getElem_cons_succ]
          refine wpAnyH_take (i := 7) (v := undef) rfl (by kernel_rfl) (by kernel_rfl) (by kernel_rfl) (fun _ _ _ h => h) (Or.inr ⟨rfl, rfl⟩) (by assumption) ?_
          simp only [Act.put, List.setIfInBounds_toArray, List.set_cons_zero, List.set_cons_succ, List.getElem_toArray, List.getElem_cons_zero, List.getElem_cons_succ]
          refine wpAnyH_take (i := 8) (v := undef) rfl (by kernel_rfl) (by kernel_rfl) (by kernel_rfl) (fun _ _ _ h => h) (Or.inr ⟨rfl, rfl⟩) (by assumption) ?_
          simp only [Act.put, List.setIfInBounds_toArray, List.set_cons_zero, List.set_cons_succ, List.getElem_toArray, List.getElem_cons_zero, List.getElem_cons_succ]
          refine wpAnyH_take (i := 9) (v := undef) rfl (by kernel_rfl) (by kernel_rfl) (by kernel_rfl) (fun _ _ _ h => h) (Or.inr ⟨rfl, rfl⟩) (by assumption) ?_
          simp only [Act.put, List.setIfInBounds_toArray, List.set_cons_zero, List.set_cons_succ, List.getElem_toArray, List.getElem_cons_zero, List.getElem_cons_succ]
          refine wpAnyH_take (i := 10) (v := undef) rfl (by kernel_rfl) (by kernel_rfl) (by kernel_rfl) (fun _ _ _ h => h) (Or.inr ⟨rfl, rfl⟩) (by assumption) ?_
          simp only [Act.put, List.setIfInBounds_toArray, List.set_cons_zero, List.set_cons_succ, List.getElem_toArray, List.getElem_cons_zero, List.getElem_cons_succ]
          refine wpAnyH_take (i := 11) (v := undef) rfl (by kernel_rfl) (by kernel_rfl) (by kernel_rfl) (fun _ _ _ h => h) (Or.inr ⟨rfl, rfl⟩) (by assumption) ?_
          simp only [Act.put, List.setIfInBounds_toArray, List.set_cons_zero, List.set_cons_succ, List.getElem_toArray, List.getElem_cons_zero, List.getElem_cons_succ]
          refine wpAnyH_take (i := 12) (v := undef) rfl (by kernel_rfl) (by kernel_rfl) (by kernel_rfl) (fun _ _ _ h => h) (Or.inr ⟨rfl, rfl⟩) (by assumption) ?_
          simp only [Act.put, List.setIfInBounds_toArray, List.set_cons_zero, List.set_cons_succ, List.getElem_toArray, List.getElem_cons_zero, List.getElem_cons_succ]
          refine wpAnyH_take (i := 13) (v := undef) rfl (by kernel_rfl) (by kernel_rfl) (by kernel_rfl) (fun _ _ _ h => h) (Or.inr ⟨rfl, rfl⟩) (by assumption) ?_
          simp only [Act.put, List.setIfInBounds_toArray, List.set_cons_zero, List.set_cons_succ, List.getElem_toArray, List.getElem_cons_zero, List.getElem_cons_succ]
          refine wpAnyH_take (i := 14) (v := undef) rfl (by kernel_rfl) (by kernel_rfl) (by kernel_rfl) (fun _ _ _ h => h) (Or.inr ⟨rfl, rfl⟩) (by assumption) ?_
          simp only [Act.put, List.setIfInBounds_toArray, List.set_cons_zero, List.set_cons_succ, List.getElem_toArray, List.getElem_cons_zero, List.getElem_cons_succ]
          refine wpAnyH_take (i := 15) (v := ?_) rfl (by kernel_rfl) (by kernel_rfl) (by kernel_rfl) (fun _ _ _ h => h) (Or.inl ⟨rfl, ?_⟩) (by assumption) ?_
          rotate_left
          · (intro w hSw; (try dsimp only at hSw); go_simp; try with_reducible rfl)
          simp only [Act.put, List.setIfInBounds_toArray, List.set_cons_zero, List.set_cons_succ, List.getElem_toArray, List.getElem_cons_zero, List.getElem_cons_succ]
          refine wpAnyH_take (i := 16) (v := ?_) rfl (by kernel_rfl) (by kernel_rfl) (by kernel_rfl) (fun _ _ _ h => h) (Or.inl ⟨rfl, ?_⟩) (by assumption) ?_
          rotate_left
          · (intro w hSw; (try dsimp only at hSw); go_simp; try with_reducible rfl)
          simp only [Act.put, List.setIfInBounds_toArray, List.set_cons_zero, List.set_cons_succ, List.getElem_toArray, List.getElem_cons_zero, List.getElem_cons_succ]
          refine wpAnyH_done (by kernel_rfl) ?_ _
          go_wp2_with fail
          go_ret
          exact ⟨rfl, occI_drew HH.out.1, HH.out.2.trans (kpD _)⟩
        · have he : occS b tgt (f + 1) s t d = wk (occS b tgt f) ((fndT t.n b).getD zeroT) d (s ++ [t.n]) := by simp only [occS]; rw [if_neg (by simp [hkk, hmm]), if_neg htg]
          rw [he]
          have hb2 : (t.n != tgt) = true := by simp [htg]
          have hdf : d + 1000 ≤ dO f := by unfold dO at *; omega
          have hdf9 : dO f ≤ 9000000000000000000 := by unfold dO; omega
          obtain ⟨u, hlu, hu⟩ := uniI_lookB hI2.uni hk2
          have z3 := cell_of_one hI2.hu
          have z4 := cell_of_one hI2.hl
          have z5 := (cells_of hI2.uni.hu 0).1
          simp only [List.getElem?_toArray, List.getElem?_cons_zero] at z5
          have hu' : TrV w2.drew (fun b => b < w2.heap.size ∧ b ≠ q + 3) ((fndT t.n b).getD zeroT) u := trV_mono (fun b hb => by have hb' : b < B := hb; have := hI2.uni.bu; have := hI2.nu; have := block_lt hI2.hu; exact ⟨by omega, by omega⟩) (w := w2) (w' := w2.drew) (fun _ _ => rfl) _ hu
          have hcall : Calls Try.prog 51 #[u, .int .i64 d, .func (.func 113) #[] #[.pointer (some ⟨q + 4, 0, none⟩), .pointer (some ⟨q + 1, 0, none⟩), .pointer (some ⟨q, 0, none⟩), .pointer (some ⟨q + 5, 0, none⟩)]] w2.drew fun e w' => e = .returned (.bool (wk (occS b tgt f) ((fndT t.n b).getD zeroT) d (s ++ [t.n])).2) ∧ OccI B pu bm b c tgt q (wk (occS b tgt f) ((fndT t.n b).getD zeroT) d (s ++ [t.n])).1 w' (fun b => b < w2.heap.size ∧ b ≠ q + 3) ∧ Kp (fun b => b < w2.heap.size ∧ b ≠ q + 3) w2.drew w' := by
            cases hfn : fndT t.n b with
            | none =>
              rw [hfn] at hu'
              have e0 : wk (occS b tgt f) zeroT d (s ++ [t.n]) = (s ++ [t.n], true) := by
                have := wk_t (occS b tgt f) zeroT d (s ++ [t.n])
                rw [occS_op (by simp [zeroT, Tm.k])] at this
                rw [this]; simp [zeroT, Tm.l, wkL]
              have e1 : wk (fun (s : List Int) (_ : Tm) (_ : Int) => (s, true)) zeroT d (s ++ [t.n]) = (s ++ [t.n], true) := by
                rw [wk_t]; simp [zeroT, Tm.l, wkL]
              have := walkD_any hdf9 (Lib.hid (occ0_sees (B := B) (pu := pu) (bm := bm) (b := b) (c := c) (tgt := tgt) (q := q) (dO f))) 1 zeroT (by decide) u d (s ++ [t.n]) w2.drew _ 0 hu' trivial (by decide) (occI_drew hI2) hd (by rw [show dp zeroT = 1 from by decide]; omega)
              rw [e1] at this
              rw [show (Option.none : Option Tm).getD zeroT = zeroT from rfl, e0]
              exact this
            | some u0 =>
              rw [hfn] at hu'
              have hrl := rem_lt hfn hmm
              unfold okO at hok
              have hdu0 := hdb _ _ hfn
              exact walkD_any hdf9 (Lib.hid ih) (sz u0) u0 (Nat.le_refl _) u d (s ++ [t.n]) w2.drew _ 0 hu' (by show rem b (s ++ [t.n]) < f; omega) (by
                cases f with
                | zero => omega
                | succ f => exact allN_ndO f u0) (occI_drew hI2) hd (by omega)
          have HK : Hid (∀ W, Kp (fun b => b < w2.heap.size ∧ b ≠ q + 3) w2.drew W → W.cell? ⟨w.heap.size, 1, none⟩ = some (.int .i64 t.n) ∧ W.cell? ⟨q + 1, 0, none⟩ = some (.int .i64 tgt) ∧ W.cell? ⟨q, 0, none⟩ = some (.pointer (some ⟨pu, 0, none⟩)) ∧ W.cell? ⟨q + 5, 0, none⟩ = some (.func (.func 113) #[] #[.pointer (some ⟨q + 4, 0, none⟩), .pointer (some ⟨q + 1, 0, none⟩), .pointer (some ⟨q, 0, none⟩), .pointer (some ⟨q + 5, 0, none⟩)]) ∧ W.cell? ⟨pu, 0, none⟩ = some (.map (some bm)) ∧ (Instr.lookup 92 (.map (some bm)) (.int .i64 t.n) false).run Try.prog W = .ok u W) := Lib.hid (fun W hW => by
            have hc : ∀ k o, k < w2.heap.size → k ≠ q + 3 → W.cell? ⟨k, o, none⟩ = w2.cell? ⟨k, o, none⟩ := fun k o h1 h2 => World.cell?_of_block (w := w2) (a := ⟨k, o, none⟩) (hW.block k ⟨h1, h2⟩)
            have l1 := block_lt hI2.hu
            have l2 := block_lt hI2.hn
            have l3 := block_lt hI2.hl
            have l4 := block_lt hI2.uni.hu
            have n1 := hI2.nu
            have n2 := hI2.nm
            have l5 := block_lt hnew2
            exact ⟨(hc _ 1 l5 (by omega)).trans y1, (hc _ 0 l2 (by omega)).trans z1, (hc _ 0 l1 (by omega)).trans z3, (hc _ 0 l3 (by omega)).trans z4, (hc _ 0 l4 (by omega)).trans z5, hlu W (hW.block bm ⟨by omega, by omega⟩)⟩)
          have hsq : ∀ b, Q b → b < w2.heap.size ∧ b ≠ q + 3 := fun b hb => ⟨by have := h.lt b hb; omega, fun e => h.nq (e ▸ hb)⟩
          have HH := Lib.hid (And.intro hk2' (And.intro hsq hcall))
          clear ih hnd hk1 hv hsl h h1 hk hnew hal he hc hmm hkk hok h2 hm2 hg2 hnew2 hk2' hI2 e htg hdb hs2 hq3 hs1 hlu hu hu' hcall hsq z1 z3 z4 z5 hdu hdf hdf9
          subst hob
          go_enter Try.func113, Try.ntmps113
          go_wp2_with fail
          generalize w.heap.size = q1 at *
          go_region_held3 (fun W => W.cell? ⟨q1, 1, none⟩ = some (.int .i64 t.n) ∧ W.cell? ⟨q + 1, 0, none⟩ = some (.int .i64 tgt) ∧ W.cell? ⟨q, 0, none⟩ = some (.pointer (some ⟨pu, 0, none⟩)) ∧ W.cell? ⟨q + 5, 0, none⟩ = some (.func (.func 113) #[] #[.pointer (some ⟨q + 4, 0, none⟩), .pointer (some ⟨q + 1, 0, none⟩), .pointer (some ⟨q, 0, none⟩), .pointer (some ⟨q + 5, 0, none⟩)]) ∧ W.cell? ⟨pu, 0, none⟩ = some (.map (some bm)) ∧ (Instr.lookup 92 (.map (some bm)) (.int .i64 t.n) false).run Try.prog W = .ok u W)
            (first | with_reducible assumption | exact HK.out _ (by assumption) | exact HK.out _ (Kp.refl _ _))
            (((with_reducible refine (HH.out.2.2).mono ?_); rintro e w6 ⟨rfl, hq1, hq2⟩))
          all_goals
            have HQ := Lib.hid (And.intro hq1 hq2)
            clear hq1 hq2
            go_wp2_with fail
            go_ret
            exact ⟨rfl, occI_grow HQ.out.1 (Below.refl _ _) (fun b hb => .inl (HH.out.2.1 b hb)), (HH.out.1.trans (kpD _)).trans (HQ.out.2.mono HH.out.2.1)⟩
    · rw [occS_op hkk]
      exact occ_op s w Q t d _ hkk h hv
end Go.Proofs.Ytapdfdjknehhgaa

/- Does a variable occur within a tree? The whole. -/
namespace Go.Proofs.Ytapdfdjknehhgaa
open Go.RowKit Go.Tr Go.Maps

set_option maxRecDepth 100000 in
set_option maxHeartbeats 800000 in
theorem occurs_any {B pu bm : Nat} {b : Bec} {c : Int} (hdb : ∀ n u, fndT n b = some u → dp u ≤ 1000) (hbl : b.length ≤ 1000000) (tgt : Int) (t : Tm) (hdt : dp t ≤ 1000) (v : Value) (w : World) (h : UniI B pu bm b c w) (hv : TrV w (· < B) t v) :
    Calls Try.prog 110 #[.pointer (some ⟨pu, 0, none⟩), .int .i64 tgt, v] w fun e w' => e = .returned (.bool (occB b tgt t)) ∧ Below w.heap.size w w' := by
  obtain ⟨sl, rfl, hk1, hk2, hsl⟩ := trV_iff.1 hv
  obtain ⟨oa, cap, b1, o1, rfl, hlc, hcm, -, -⟩ := trS_at hsl
  obtain ⟨W6, hW6⟩ : ∃ W, W = ((((((w.alloc (.cells #[.pointer (some ⟨pu, 0, none⟩)] 91)).alloc (.cells #[.int .i64 tgt] 3)).alloc (.cells #[.int .i64 t.k, .int .i64 t.n, .slice oa t.l.length cap] 24)).alloc (.map #[] 0)).alloc (.cells #[.map (some (w.heap.size + 3))] 116)).alloc (.cells #[.func (.func 113) #[] #[.pointer (some ⟨w.heap.size + 4, 0, none⟩), .pointer (some ⟨w.heap.size + 1, 0, none⟩), .pointer (some ⟨w.heap.size, 0, none⟩), .pointer (some ⟨w.heap.size + 5, 0, none⟩)]] 76)) := ⟨_, rfl⟩
  have hB := uniI_B h
  have hgr : Below w.heap.size w W6 := by subst hW6; exact bA (bA (bA (bA (bA (bA (bZ w) _) _) _) _) _) _
  have s6 : W6.heap.size = w.heap.size + 6 := by subst hW6; simp only [alloc_size]
  have hI : OccI B pu bm b c tgt w.heap.size [] W6 (· < w.heap.size) := by
    refine ⟨uniI_below h hB hgr, ?_, ?_, ?_, ?_, ?_, ?_, ?_, ?_, ?_⟩
    · subst hW6; (simp only [heap_alloc, alloc_size]; repeat (first | rw [if_pos trivial] | rw [if_pos (by omega)] | rw [if_neg (by omega)]))
    · subst hW6; (simp only [heap_alloc, alloc_size]; repeat (first | rw [if_pos trivial] | rw [if_pos (by omega)] | rw [if_neg (by omega)]))
    · exact ⟨#[], 0, by subst hW6; (simp only [heap_alloc, alloc_size]; repeat (first | rw [if_pos trivial] | rw [if_pos (by omega)] | rw [if_neg (by omega)])), rfl⟩
    · subst hW6; (simp only [heap_alloc, alloc_size]; repeat (first | rw [if_pos trivial] | rw [if_pos (by omega)] | rw [if_neg (by omega)]))
    · subst hW6; (simp only [heap_alloc, alloc_size]; repeat (first | rw [if_pos trivial] | rw [if_pos (by omega)] | rw [if_neg (by omega)]))
    · exact block_lt h.hu
    · obtain ⟨v, v1, -⟩ := h.hb; exact v1.lt
    · omega
    · intro b hb; have hb' : b < w.heap.size := hb; omega
  have hcall := walkD_any (D := dO (b.length + 1)) (by unfold dO; omega) (Lib.hid (occ1_sees (B := B) (pu := pu) (bm := bm) (c := c) (tgt := tgt) (q := w.heap.size) hdb (b.length + 1))) (sz t) t (Nat.le_refl _) _ 1 [] W6 (· < w.heap.size) 0 (trV_mono (w' := W6) (fun b hb => by have hb' : b < B := hb; show b < w.heap.size; omega) (fun b hb => hgr.block b (by have hb' : b < B := hb; omega)) t hv) (by show rem b [] < _; have := rem_le b []; omega) (allN_ndO _ _) hI (by omega) (by unfold dO; omega)
  have HH := Lib.hid (And.intro hgr (And.intro hcall (show ((wk (occS b tgt (b.length + 1)) t 1 []).2 = !(occB b tgt t)) from by unfold occB; simp)))
  clear hgr hcall hI hB hdb h hv hsl hk1 hk2 hbl hdt
  have hmm := @run_makeMap Try.prog
  have hmf : ∀ (fn : Fn) (first cap : Array Value) (w : World), (Instr.makeFunc fn first cap).run Try.prog w = .ok (.func fn first cap) w := fun _ _ _ _ => rfl
  go_enter Try.func110, Try.ntmps110
  go_wp2_with fail
  have h1 := HH.out.2.1
  rw [hW6] at h1
  refine h1.mono ?_
  rintro e w2 ⟨rfl, -, hk⟩
  rw [← hW6] at hk
  rw [HH.out.2.2]
  have HK := Lib.hid hk
  clear hk h1
  go_wp2_with fail
  go_ret
  refine ⟨by simp, ?_⟩
  exact ⟨HK.out.os.trans HH.out.1.os, HK.out.tape.trans HH.out.1.tape, HK.out.output.trans HH.out.1.output, by have := HK.out.size; have := HH.out.1.size; omega, fun b hb => (HK.out.block b hb).trans (HH.out.1.block b hb)⟩
end Go.Proofs.Ytapdfdjknehhgaa
