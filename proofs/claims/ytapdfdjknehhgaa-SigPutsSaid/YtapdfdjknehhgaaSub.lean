/- Merged: Subst, Subst2. -/
import Derived.Test.YtapdfdjknehhgaaRpl
import Derived.Test.YtapdfdjknehhgaaTx

/- Substitution. -/
namespace Go.Proofs.Ytapdfdjknehhgaa
open Go.RowKit Go.Tr

set_option maxRecDepth 100000 in
theorem areTrees_any (l : List Tm) (s : Value) (w : World) (h : TrS w (· < w.heap.size) l s) :
    Calls Try.prog 59 #[s] w fun e w' => e = .returned (.int .i64 (errT (l.all good))) ∧ Below w.heap.size w w' := by
  obtain ⟨oa, cap, b, o, rfl, hlc, hcm, hoa, hel⟩ := trS_at h
  have HEL := Lib.hid (And.intro hoa hel)
  clear h hoa hel
  go_enter Try.func59, Try.ntmps59
  go_wp2_with fail
  go_loopw [8] (fun i wr => ∃ k : Nat, k ≤ l.length ∧ i = .int .i64 k ∧ Hid (l.all good = (l.drop k).all good) ∧ Hid (Below w.heap.size w wr)) (fun i _ => l.length - (intOf i).toNat)
  case atStart => exact ⟨0, by omega, rfl, rfl, bZ w⟩
  case round =>
    obtain ⟨k, hk, rfl, HR, HI⟩ := hrel
    by_cases hlt : k < l.length
    · obtain ⟨rfl, hQb⟩ := HEL.out.1 (by omega)
      obtain ⟨oa2, cap2, e0, e1, e2, e3⟩ := HEL.out.2 k hlt
      have hbl := HI.out.block b hQb
      have d0 := (World.cell?_of_block (w := w) (a := ⟨b, o + k * 3, none⟩) hbl).trans e0
      have d1 := (World.cell?_of_block (w := w) (a := ⟨b, o + k * 3 + 1, none⟩) hbl).trans e1
      have d2 := (World.cell?_of_block (w := w) (a := ⟨b, o + k * 3 + 2, none⟩) hbl).trans e2
      have hgr := below_alloc wr (.cells #[.int .i64 l[k].k, .int .i64 l[k].n, .slice oa2 l[k].l.length cap2] 24)
      have hb3 := below_le HI.out hgr HI.out.size
      have hcall := Tree_any l[k] _ _ (trV_up hb3 e3)
      have hdr : (l.drop k).all good = (good l[k] && (l.drop (k + 1)).all good) := by rw [List.drop_eq_getElem_cons hlt]; rfl
      have HC := Lib.hid hcall
      have HK := Lib.hid hb3
      clear e0 e1 e2 e3 hbl hgr hb3 hcall
      cases hg : good l[k] with
      | false =>
        have hres : l.all good = false := by rw [HR.out, hdr, hg]; rfl
        have HRS := Lib.hid hres
        have HG := Lib.hid hg
        clear hres hdr hg
        go_wp2_with fail
        refine HC.out.mono ?_
        rintro e w3 ⟨rfl, hb'⟩
        rw [HG.out]
        have HN := Lib.hid (below_le HK.out hb' HK.out.size)
        clear hb'
        unfold errT
        go_wp2_with fail
        go_ret
        exact ⟨by rw [HRS.out]; rfl, HN.out⟩
      | true =>
        have hres : l.all good = (l.drop (k + 1)).all good := by rw [HR.out, hdr, hg]; rfl
        have HRS := Lib.hid hres
        have HG := Lib.hid hg
        clear hres hdr hg
        go_wp2_with fail
        refine HC.out.mono ?_
        rintro e w3 ⟨rfl, hb'⟩
        rw [HG.out]
        have HN := Lib.hid (below_le HK.out hb' HK.out.size)
        clear hb'
        unfold errT
        go_wp2_with fail
        go_roundw
        case rel => exact ⟨k + 1, by omega, by go_num, HRS.out, HN.out⟩
        case measure => simp [intOf]; omega
    · have hres : l.all good = true := by rw [HR.out, List.drop_eq_nil_of_le (by omega)]; rfl
      have HRS := Lib.hid hres
      clear hres
      go_wp2_with fail
      go_ret
      exact ⟨by rw [HRS.out]; rfl, HI.out⟩

set_option maxRecDepth 100000 in
theorem greatest_any (l : List Tm) (s : Value) (w : World) (h : TrS w (· < w.heap.size) l s) (hsz : szL l ≤ 10000000000) (hdp : dpL l ≤ 1000000000) :
    Calls Try.prog 66 #[s] w fun e w' => e = .returned (.int .i64 (most (vars l))) ∧ Below w.heap.size w w' := by
  have hcall := variables_any l s w h hsz hdp
  obtain ⟨oa, cap, b, o, rfl, hlc, hcm, -, -⟩ := trS_at h
  have HC := Lib.hid hcall
  clear h hcall
  go_enter Try.func66, Try.ntmps66
  go_wp2_with fail
  refine HC.out.mono ?_
  rintro e w2 ⟨v, rfl, hi, hb⟩
  obtain ⟨oa2, cap2, b2, o2, rfl, g1, g2, g3, g4⟩ := hi
  generalize hvs : vars l = vs at *
  have HV := Lib.hid (And.intro hb (And.intro g3 g4))
  have HVS := Lib.hid hvs
  clear hb g3 g4 hvs
  go_wp2_with fail
  go_loop [3, 9] (fun m i => ∃ (k : Nat) (z : Int), k ≤ vs.length ∧ i = .int .i64 k ∧ m = .int .i64 z ∧ Hid (most vs = (vs.drop k).foldl max z)) (fun _ i => vs.length - (intOf i).toNat)
  case atStart => exact ⟨0, -1, by omega, rfl, rfl, rfl⟩
  case round =>
    obtain ⟨k, z, hk, rfl, rfl, HR⟩ := hrel
    by_cases hlt : k < vs.length
    · obtain ⟨rfl, hQb⟩ := HV.out.2.1 (by omega)
      have d0 := HV.out.2.2 k hlt
      have hdr : (vs.drop k).foldl max z = (vs.drop (k + 1)).foldl max (max z vs[k]) := by rw [List.drop_eq_getElem_cons hlt]; rfl
      have HD := Lib.hid (HR.out.trans hdr)
      clear hdr
      go_wp2_with fail
      go_round
      case rel => exact ⟨k + 1, max z vs[k], by omega, by go_num, by congr 1; split <;> omega, HD.out⟩
      case measure => simp [intOf]; omega
    · have hres : most vs = z := by rw [HR.out, List.drop_eq_nil_of_le (by omega)]; rfl
      have HRS := Lib.hid hres
      clear hres
      go_wp2_with fail
      go_ret
      exact ⟨ret_i64 (by rw [HVS.out]; exact HRS.out.symm), HV.out.1⟩

/-- What the closures of grown have in memory. -/
structure GrowI (c pf : Nat) (left : Int) (w : World) (Q : Nat → Prop) : Prop where
  hc : w.heap[c]? = some (.cells #[.int .i64 left] 3)
  hf : w.heap[pf]? = some (.cells #[.func (.func 90) #[] #[.pointer (some ⟨c, 0, none⟩)]] 77)
  nf : pf ≠ c
  nq : ¬ Q c
  lt : ∀ b, Q b → b < w.heap.size
theorem growI_grow {c pf : Nat} {left : Int} {w w' : World} {Q Q' : Nat → Prop} (h : GrowI c pf left w Q) (hb : Below w.heap.size w w') (hq : ∀ b, Q' b → Q b ∨ (w.heap.size ≤ b ∧ b < w'.heap.size)) : GrowI c pf left w' Q' := by
  have l1 := block_lt h.hc
  refine ⟨(hb.block c l1).trans h.hc, (hb.block pf (block_lt h.hf)).trans h.hf, h.nf, fun hc => ?_, fun b hb' => ?_⟩
  · rcases hq c hc with h1 | h1
    · exact h.nq h1
    · omega
  · rcases hq b hb' with h1 | h1
    · have := h.lt b h1; have := hb.size; omega
    · exact h1.2
theorem growI_set {c pf : Nat} {left : Int} {w : World} {Q : Nat → Prop} (h : GrowI c pf left w Q) (u : Int) : GrowI c pf u (w.setCell ⟨c, 0, none⟩ (.int .i64 u)) Q :=
  ⟨one_setCell h.hc, (Below.heap_setCell _ _ _ _ h.nf).trans h.hf, h.nf, h.nq, fun b hb => by simpa [World.setCell] using h.lt b hb⟩
theorem fitS_ok (s : Int) (t : Tm) (d : Int) (hs : okL s) (hf : (fitS s t d).2 = true) : okL (fitS s t d).1 := by
  simp only [fitS, Bool.and_eq_true, decide_eq_true_eq] at hf
  unfold okL at *
  simp only [fitS]
  omega
set_option maxRecDepth 100000 in
theorem grown1_sees {c pf : Nat} : Sees 102 #[.pointer (some ⟨pf, 0, none⟩)] fitS (fun s _ => okL s) (GrowI c pf) (fun _ => true) := by
  refine ⟨fun s t d m hs hf => fitS_ok s t d hs hf, fun _ _ => by go_simp, fun s w Q h => h.lt, fun s w w' Q Q' h hb hq => growI_grow h hb hq, fun s w Q t d v m _ hok _ h hv => ?_⟩
  obtain ⟨sl, rfl, hk1, hk2, hsl⟩ := trV_iff.1 hv
  obtain ⟨oa, cap, b, o, rfl, hlc, hcm, -, -⟩ := trS_at hsl
  have h1 := growI_grow (Q' := Q) h (below_alloc w (.cells #[.int .i64 t.k, .int .i64 t.n, .slice oa t.l.length cap] 24)) (fun b hb => .inl hb)
  have hk := kp_alloc h.lt (.cells #[.int .i64 t.k, .int .i64 t.n, .slice oa t.l.length cap] 24)
  have hfit := fits_any c s d (w.alloc (.cells #[.int .i64 t.k, .int .i64 t.n, .slice oa t.l.length cap] 24)) h1.hc (by unfold okL at hok; omega) (by unfold okL at hok; omega)
  have cf := cell_of_one h1.hf
  have ef := enter_fits
  have HH := Lib.hid (And.intro (growI_set h1 (s - 1)) (hk.trans (kp_set h.nq 0 (.int .i64 (s - 1)))))
  have HF := Lib.hid hfit
  clear hv hsl h h1 hk hfit hk1 hk2 hok
  simp only [fitS]
  go_enter Try.func102, Try.ntmps102
  go_wp2_with fail
  refine HF.out.mono ?_
  rintro e w2 ⟨rfl, rfl⟩
  go_wp2_with fail
  go_ret
  exact ⟨ret_bool (by rw [show decide (1 ≤ s) = decide (0 ≤ s - 1) from decide_eq_decide.2 (by omega)]), HH.out.1, HH.out.2⟩

structure Grow2I (w0 : World) (G : Nat) (caps : Array Value) (c pf pc pp : Nat) (left : Int) (w : World) (Q : Nat → Prop) : Prop where
  gi : GrowI c pf left w Q
  hcnt : w.heap[pc]? = some (.cells #[.func (.func 102) #[] #[.pointer (some ⟨pf, 0, none⟩)]] 76)
  hput : w.heap[pp]? = some (.cells #[.func (.func G) #[] caps] 43)
  nc : pc ≠ c
  np : pp ≠ c
  bel : Below w0.heap.size w0 w
  cw : w0.heap.size ≤ c
theorem grow2I_grow {w0 : World} {G : Nat} {caps : Array Value} {c pf pc pp : Nat} {left : Int} {w w' : World} {Q Q' : Nat → Prop} (h : Grow2I w0 G caps c pf pc pp left w Q) (hb : Below w.heap.size w w') (hq : ∀ b, Q' b → Q b ∨ (w.heap.size ≤ b ∧ b < w'.heap.size)) : Grow2I w0 G caps c pf pc pp left w' Q' :=
  ⟨growI_grow h.gi hb hq, (hb.block pc (block_lt h.hcnt)).trans h.hcnt, (hb.block pp (block_lt h.hput)).trans h.hput, h.nc, h.np, below_next h.bel hb, h.cw⟩
theorem growS_ok {g : Int → Tm} (s : Int) (t : Tm) (d : Int) (hs : okL s) (hf : (growS g s t d).2 = true) : okL (growS g s t d).1 := by
  unfold growS at *
  split at hf
  · rename_i h; rw [if_pos h]; exact wk_ok (ok := fun s _ => okL s) fitS (fun s t d m => fitS_ok s t d) (g t.n) d s 0 hs hf
  · rename_i h; rw [if_neg h]; exact fitS_ok s t d hs hf
theorem kp_of_kp2 {w : World} {w' : World} {Q : Nat → Prop} {c : Nat} (h : Kp (fun b => b < w.heap.size ∧ b ≠ c) w w') (hq : ∀ b, Q b → b < w.heap.size) (hc : ¬ Q c) : Kp Q w w' :=
  h.mono fun b hb => ⟨hq b hb, fun e => hc (e ▸ hb)⟩

set_option maxRecDepth 100000 in
set_option maxHeartbeats 400000 in
theorem grown2_sees {w0 : World} {G : Nat} {caps : Array Value} {g : Int → Tm} {p : Int → Bool} {c pf pc pp : Nat} (hP : Puts G caps g p w0) :
    Sees 103 #[.pointer (some ⟨pp, 0, none⟩), .pointer (some ⟨pc, 0, none⟩), .pointer (some ⟨pf, 0, none⟩)] (growS g) (fun s _ => okL s) (Grow2I w0 G caps c pf pc pp) (okP p) := by
  refine ⟨fun s t d m hs hf => growS_ok s t d hs hf, fun _ _ => by go_simp, fun s w Q h => h.gi.lt, fun s w w' Q Q' h hb hq => grow2I_grow h hb hq, fun s w Q t d v m hd hok hnd h hv => ?_⟩
  obtain ⟨sl, rfl, hk1, hk2, hsl⟩ := trV_iff.1 hv
  obtain ⟨oa, cap, b, o, rfl, hlc, hcm, -, -⟩ := trS_at hsl
  have h1 := grow2I_grow (Q' := Q) h (below_alloc w (.cells #[.int .i64 t.k, .int .i64 t.n, .slice oa t.l.length cap] 24)) (fun b hb => .inl hb)
  have hk := kp_alloc h.gi.lt (.cells #[.int .i64 t.k, .int .i64 t.n, .slice oa t.l.length cap] 24)
  have hnew := heap_alloc_new w (.cells #[.int .i64 t.k, .int .i64 t.n, .slice oa t.l.length cap] 24)
  have hcl : w.heap.size ≠ c := by have := block_lt h.gi.hc; omega
  have eg := hP.enters
  by_cases hkk : t.k = 1
  · have hb1 : (t.k == 1) = true := by simp [hkk]
    have hgs : growS g s t d = wk fitS (g t.n) d s := by unfold growS; rw [if_pos hkk]
    rw [hgs]
    have hpn : p t.n = true := by simpa [okP, hkk] using hnd
    generalize hW : (w.alloc (.cells #[.int .i64 t.k, .int .i64 t.n, .slice oa t.l.length cap] 24)) = W1 at *
    have y0 := (cells_of hnew 0).1
    have d1 := (cells_of hnew 1).1
    have x1 := cell_of_one h1.hput
    have x2 := cell_of_one h1.hcnt
    simp only [List.getElem?_toArray, List.getElem?_cons_zero, List.getElem?_cons_succ] at d1 y0
    have hkk2 : ∀ W, Below W1.heap.size W1 W → W.cell? ⟨pp, 0, none⟩ = some (.func (.func G) #[] caps) ∧ W.cell? ⟨w.heap.size, 1, none⟩ = some (.int .i64 t.n) ∧ W.cell? ⟨pc, 0, none⟩ = some (.func (.func 102) #[] #[.pointer (some ⟨pf, 0, none⟩)]) := fun W hW =>
      ⟨(World.cell?_of_block (w := W1) (a := ⟨pp, 0, none⟩) (hW.block _ (block_lt h1.hput))).trans x1, (World.cell?_of_block (w := W1) (a := ⟨w.heap.size, 1, none⟩) (hW.block _ (block_lt hnew))).trans d1, (World.cell?_of_block (w := W1) (a := ⟨pc, 0, none⟩) (hW.block _ (block_lt h1.hcnt))).trans x2⟩
    have hput : ∀ W, Below W1.heap.size W1 W → Calls Try.prog G (#[.int .i64 t.n] ++ caps) W fun e W' => ∃ v', e = .returned v' ∧ TrV W' (fun b => b < W'.heap.size ∧ b ≠ c) (g t.n) v' ∧ Below W1.heap.size W1 W' := fun W hW => by
      refine (hP.gives t.n hpn hk2 W (below_next h1.bel hW)).mono ?_
      rintro e W' ⟨v', he, hv', hW'⟩
      have hcW : c < W.heap.size := Nat.lt_of_lt_of_le (block_lt h1.gi.hc) hW.size
      have hw0 : w0.heap.size ≤ W.heap.size := Nat.le_trans h1.bel.size hW.size
      have hs2 := hW'.size
      refine ⟨v', he, trV_mono (fun b hb => ?_) (fun _ _ => rfl) _ hv', below_next hW hW'⟩
      rcases hb with h | h
      · have := h1.cw; exact ⟨by omega, by omega⟩
      · exact ⟨h.2, by have := h.1; omega⟩
    have hwalk : ∀ W' v', Below W1.heap.size W1 W' → TrV W' (fun b => b < W'.heap.size ∧ b ≠ c) (g t.n) v' → Calls Try.prog 51 #[v', .int .i64 d, .func (.func 102) #[] #[.pointer (some ⟨pf, 0, none⟩)]] W' fun e w5 => e = .returned (.bool (wk fitS (g t.n) d s).2) ∧ (Grow2I w0 G caps c pf pc pp (wk fitS (g t.n) d s).1 w5 Q ∧ Kp Q w w5) ∧ (w5.cell? ⟨pp, 0, none⟩ = some (.func (.func G) #[] caps) ∧ w5.cell? ⟨w.heap.size, 1, none⟩ = some (.int .i64 t.n) ∧ w5.cell? ⟨pc, 0, none⟩ = some (.func (.func 102) #[] #[.pointer (some ⟨pf, 0, none⟩)])) := fun W' v' hb hv2 => by
      have hl1 := hb.size
      have hG : GrowI c pf s W' (fun b => b < W'.heap.size ∧ b ≠ c) := ⟨(hb.block c (block_lt h1.gi.hc)).trans h1.gi.hc, (hb.block pf (block_lt h1.gi.hf)).trans h1.gi.hf, h1.gi.nf, fun h => h.2 rfl, fun b h => h.1⟩
      refine (walk_any (Lib.hid grown1_sees) (sz (g t.n)) _ (Nat.le_refl _) v' d s W' _ 0 hv2 hok (allN_true _) hG hd (.inl (fun s t d h => by simp only [fitS, Bool.and_eq_true, decide_eq_true_eq] at h; omega))).mono ?_
      rintro e w5 ⟨he, hG5, hk5⟩
      have hQl := h.gi.lt
      have hkQ : Kp Q W' w5 := hk5.mono fun b hb => ⟨by have := hQl b hb; have := h1.gi.lt b hb; omega, fun e => h.gi.nq (e ▸ hb)⟩
      have z1 := (hk5.block pc ⟨Nat.lt_of_lt_of_le (block_lt h1.hcnt) hl1, h1.nc⟩).trans ((hb.block pc (block_lt h1.hcnt)).trans h1.hcnt)
      have z2 := (hk5.block pp ⟨Nat.lt_of_lt_of_le (block_lt h1.hput) hl1, h1.np⟩).trans ((hb.block pp (block_lt h1.hput)).trans h1.hput)
      have z3 := (hk5.block w.heap.size ⟨Nat.lt_of_lt_of_le (block_lt hnew) hl1, hcl⟩).trans ((hb.block w.heap.size (block_lt hnew)).trans hnew)
      refine ⟨he, ⟨⟨⟨hG5.hc, hG5.hf, h1.gi.nf, h.gi.nq, fun b hb' => ?_⟩, z1, z2, h1.nc, h1.np, ?_, h1.cw⟩, ?_⟩, cell_of_one z2, (cells_of z3 1).1, cell_of_one z1⟩
      · have := h1.gi.lt b hb'; have := hk5.size; omega
      · refine (below_next h1.bel hb).trans (hk5.mono (R := (· < w0.heap.size)) fun b hb' => ⟨by have := h1.bel.size; omega, by have := h1.cw; omega⟩).below
      · exact hk.trans ((below_kp hb h1.gi.lt).trans hkQ)
    have HH := Lib.hid (And.intro hkk2 (And.intro hput hwalk))
    obtain ⟨y1, y2, y3⟩ := hkk2 W1 (bZ W1)
    clear hkk2 hput hwalk h1 hk hnew d1 x1 x2 hcl hv hsl h hok hnd hpn hkk hgs hP
    go_enter Try.func103, Try.ntmps103
    go_wp2_with fail
    clear hW
    generalize w.heap.size = q1 at *
    go_region_held3 (fun W => W.cell? ⟨pp, 0, none⟩ = some (.func (.func G) #[] caps) ∧ W.cell? ⟨q1, 1, none⟩ = some (.int .i64 t.n) ∧ W.cell? ⟨pc, 0, none⟩ = some (.func (.func 102) #[] #[.pointer (some ⟨pf, 0, none⟩)]))
      (first | with_reducible assumption | (refine HH.out.1 _ ?_; (repeat (first | with_reducible assumption | with_reducible exact bZ _ | with_reducible apply bA | with_reducible apply bD)); done))
      (first
        | (go_at_call 51; (with_reducible refine (HH.out.2.2 _ _ (by assumption) (by assumption)).mono ?_); rintro e w6 ⟨rfl, hq1, hq2⟩; clear hb5)
        | ((with_reducible refine (HH.out.2.1 _ (by (repeat (first | with_reducible assumption | with_reducible exact bZ _ | with_reducible apply bA | with_reducible apply bD)))).mono ?_); rintro e w5 ⟨v', rfl, hv5, hb5⟩))
    all_goals
      have HQ := Lib.hid hq1
      clear hq1 hq2
      go_wp2_with fail
      go_ret
      exact ⟨rfl, HQ.out.1, HQ.out.2⟩
  · have hb1 : (t.k == 1) = false := by simp [hkk]
    have hgs : growS g s t d = fitS s t d := by unfold growS; rw [if_neg hkk]
    rw [hgs]
    have hfit := fits_any c s d (w.alloc (.cells #[.int .i64 t.k, .int .i64 t.n, .slice oa t.l.length cap] 24)) h1.gi.hc (by unfold okL at hok; omega) (by unfold okL at hok; omega)
    have cf := cell_of_one h1.gi.hf
    have y0 := (cells_of hnew 0).1
    have ef := enter_fits
    have hset : Grow2I w0 G caps c pf pc pp (s - 1) ((w.alloc (.cells #[.int .i64 t.k, .int .i64 t.n, .slice oa t.l.length cap] 24)).setCell ⟨c, 0, none⟩ (.int .i64 (s - 1))) Q :=
      ⟨growI_set h1.gi (s - 1), (Below.heap_setCell _ _ _ _ h1.nc).trans h1.hcnt, (Below.heap_setCell _ _ _ _ h1.np).trans h1.hput, h1.nc, h1.np, h1.bel.setCell (p := ⟨c, 0, none⟩) h1.cw _, h1.cw⟩
    have HH := Lib.hid (And.intro hset (hk.trans (kp_set h.gi.nq 0 (.int .i64 (s - 1)))))
    have HF := Lib.hid hfit
    clear hv hsl h h1 hk hfit hk1 hk2 hok hnd hset hgs hnew hcl hP
    simp only [fitS]
    go_enter Try.func103, Try.ntmps103
    go_wp2_with fail
    refine HF.out.mono ?_
    rintro e w2 ⟨rfl, rfl⟩
    go_wp2_with fail
    go_ret
    exact ⟨ret_bool (by rw [show decide (1 ≤ s) = decide (0 ≤ s - 1) from decide_eq_decide.2 (by omega)]), HH.out.1, HH.out.2⟩

theorem growS_d {g : Int → Tm} (s : Int) (t : Tm) (d : Int) (h : (growS g s t d).2 = true) : d ≤ 9000000000000000000 := by
  unfold growS at h
  split at h
  · rw [wk_t] at h
    split at h
    · rename_i h'; simp only [fitS, Bool.and_eq_true, decide_eq_true_eq] at h'; omega
    · cases h
  · simp only [fitS, Bool.and_eq_true, decide_eq_true_eq] at h; omega
def vzero : Value := .agg #[.int .i64 0, .int .i64 0, .slice none 0 0]
set_option maxRecDepth 100000 in
theorem grown_any {G : Nat} {caps : Array Value} {g : Int → Tm} {p : Int → Bool} (t : Tm) (v : Value) (w : World) (hP : Puts G caps g p w) (hgt : good t = true) (hall : allN (okP p) t = true) (hv : TrV w (· < w.heap.size) t v) :
    Calls Try.prog 70 #[v, .func (.func G) #[] caps] w fun e w' => ∃ v', e = .returned (.tuple #[v', .bool (fit (repT g t))]) ∧ (fit (repT g t) = true → TrV w' (Nw w w') (repT g t) v') ∧ (fit (repT g t) = false → v' = vzero) ∧ Below w.heap.size w w' := by
  obtain ⟨sl, rfl, hk1, hk2, hsl⟩ := trV_iff.1 hv
  obtain ⟨oa, cap, b, o, rfl, hlc, hcm, -, -⟩ := trS_at hsl
  clear hk1 hk2 hsl
  have HV := Lib.hid hv
  have hfit := growS_fit (g := g) t (good_leaf hgt)
  have hszt : sz t ≤ 2000 := ((good_iff t).1 hgt).1
  have HP := Lib.hid (And.intro hP (And.intro hall hszt))
  clear hv hP hgt hall hszt
  have hmf : ∀ (fn : Fn) (first cap : Array Value) (w : World), (Instr.makeFunc fn first cap).run Try.prog w = .ok (.func fn first cap) w := fun _ _ _ _ => rfl
  obtain ⟨o1, ho1⟩ : ∃ o : Obj, o = .cells #[.int .i64 t.k, .int .i64 t.n, .slice oa t.l.length cap] 24 := ⟨_, rfl⟩
  obtain ⟨o2, ho2⟩ : ∃ o : Obj, o = .cells #[.func (.func G) #[] caps] 43 := ⟨_, rfl⟩
  obtain ⟨o3, ho3⟩ : ∃ o : Obj, o = .cells #[.int .i64 0, .int .i64 0, .slice none 0 0] 24 := ⟨_, rfl⟩
  obtain ⟨o4, ho4⟩ : ∃ o : Obj, o = .cells #[.int .i64 2000] 3 := ⟨_, rfl⟩
  obtain ⟨o5, ho5⟩ : ∃ o : Obj, o = .cells #[.func (.func 90) #[] #[.pointer (some ⟨w.heap.size + 1 + 1 + 1, 0, none⟩)]] 77 := ⟨_, rfl⟩
  obtain ⟨o6, ho6⟩ : ∃ o : Obj, o = .cells #[.func (.func 102) #[] #[.pointer (some ⟨w.heap.size + 1 + 1 + 1 + 1, 0, none⟩)]] 76 := ⟨_, rfl⟩
  have hgr : Below w.heap.size w ((((((w.alloc o1).alloc o2).alloc o3).alloc o4).alloc o5).alloc o6) := bA (bA (bA (bA (bA (bA (bZ w) _) _) _) _) _) _
  have hI : Grow2I w G caps (w.heap.size + 1 + 1 + 1) (w.heap.size + 1 + 1 + 1 + 1) (w.heap.size + 1 + 1 + 1 + 1 + 1) (w.heap.size + 1) 2000 ((((((w.alloc o1).alloc o2).alloc o3).alloc o4).alloc o5).alloc o6) (· < w.heap.size + 1 + 1 + 1) :=
    ⟨⟨by rw [← ho4]; (simp only [heap_alloc, alloc_size]; repeat (first | rw [if_pos trivial] | rw [if_pos (by omega)] | rw [if_neg (by omega)])), by rw [← ho5]; (simp only [heap_alloc, alloc_size]; repeat (first | rw [if_pos trivial] | rw [if_pos (by omega)] | rw [if_neg (by omega)])), by omega, by simp only [Nat.lt_irrefl, not_false_eq_true], fun b hb => by simp only [alloc_size]; omega⟩, by rw [← ho6]; (simp only [heap_alloc, alloc_size]; repeat (first | rw [if_pos trivial] | rw [if_pos (by omega)] | rw [if_neg (by omega)])), by rw [← ho2]; (simp only [heap_alloc, alloc_size]; repeat (first | rw [if_pos trivial] | rw [if_pos (by omega)] | rw [if_neg (by omega)])), by omega, by omega, hgr, by omega⟩
  have hq1 : ((((((w.alloc o1).alloc o2).alloc o3).alloc o4).alloc o5).alloc o6).heap[w.heap.size]? = some o1 := by (simp only [heap_alloc, alloc_size]; repeat (first | rw [if_pos trivial] | rw [if_pos (by omega)] | rw [if_neg (by omega)]))
  have hq2 : ((((((w.alloc o1).alloc o2).alloc o3).alloc o4).alloc o5).alloc o6).heap[w.heap.size + 1]? = some o2 := by (simp only [heap_alloc, alloc_size]; repeat (first | rw [if_pos trivial] | rw [if_pos (by omega)] | rw [if_neg (by omega)]))
  have hq3 : ((((((w.alloc o1).alloc o2).alloc o3).alloc o4).alloc o5).alloc o6).heap[w.heap.size + 1 + 1]? = some o3 := by (simp only [heap_alloc, alloc_size]; repeat (first | rw [if_pos trivial] | rw [if_pos (by omega)] | rw [if_neg (by omega)]))
  have hwalk := walk_any (Lib.hid (grown2_sees (pf := w.heap.size + 1 + 1 + 1 + 1) (pc := w.heap.size + 1 + 1 + 1 + 1 + 1) (pp := w.heap.size + 1) (c := w.heap.size + 1 + 1 + 1) HP.out.1)) (sz t) t (Nat.le_refl _) _ 1 2000 ((((((w.alloc o1).alloc o2).alloc o3).alloc o4).alloc o5).alloc o6) (· < w.heap.size + 1 + 1 + 1) 0
    (trV_mono (fun b (h : b < w.heap.size) => by omega) (fun b h => hgr.block b h) t HV.out) (by unfold okL; omega) HP.out.2.1 hI (by omega) (.inl growS_d)
  have HWK := Lib.hid (And.intro hwalk (And.intro hgr (And.intro hq1 (And.intro hq2 hq3))))
  clear hI hgr hq1 hq2 hq3 hwalk
  subst ho1 ho2 ho3 ho4 ho5 ho6
  cases hb : fit (repT g t) with
  | false =>
    rw [hb] at hfit
    have HF := Lib.hid hfit
    clear hfit hb
    go_enter Try.func70, Try.ntmps70
    go_wp2_with fail
    refine (limits_any _).mono ?_
    rintro e w1 ⟨rfl, rfl⟩
    go_wp2_with fail
    refine HWK.out.1.mono ?_
    rintro e w2 ⟨rfl, -, hk2⟩
    rw [HF.out]
    have r3 := (hk2.block (w.heap.size + 1 + 1) (by omega)).trans HWK.out.2.2.2.2
    have b0 := (cells_of r3 0).1
    have b1 := (cells_of r3 1).1
    have b2 := (cells_of r3 2).1
    have f2 := fun j => (cells_of r3 j).2
    simp only [List.getElem?_toArray, List.getElem?_cons_zero, List.getElem?_cons_succ] at b0 b1 b2
    have hbel := HWK.out.2.1.trans (hk2.mono (R := (· < w.heap.size)) fun b hb => by omega).below
    have HR := Lib.hid (And.intro hbel r3)
    clear hbel r3 hk2
    go_wp2_with fail
    have hfin := three_set (a' := .int .i64 0) (b' := .int .i64 0) (c' := .slice none 0 0) HR.out.2
    have e0 := (cells_of hfin 0).1
    have e1 := (cells_of hfin 1).1
    have e2 := (cells_of hfin 2).1
    simp only [List.getElem?_toArray, List.getElem?_cons_zero, List.getElem?_cons_succ] at e0 e1 e2
    refine bodyPost_ret (v := .tuple #[vzero, .bool false]) (by simp [results, Try.results70, go_sem, e0, e1, e2, vzero]) rfl ?_
    exact ⟨_, rfl, (fun h => by cases h), fun _ => rfl, ((HR.out.1.setCell (p := ⟨w.heap.size + 1 + 1, 0, none⟩) (by simp; omega) _).setCell (p := ⟨w.heap.size + 1 + 1, 1, none⟩) (by simp; omega) _).setCell (p := ⟨w.heap.size + 1 + 1, 2, none⟩) (by simp; omega) _⟩
  | true =>
    rw [hb] at hfit
    have HF := Lib.hid hfit
    clear hfit hb
    go_enter Try.func70, Try.ntmps70
    go_wp2_with fail
    refine (limits_any _).mono ?_
    rintro e w1 ⟨rfl, rfl⟩
    go_wp2_with fail
    refine HWK.out.1.mono ?_
    rintro e w2 ⟨rfl, -, hk2⟩
    rw [HF.out]
    have r1 := (hk2.block w.heap.size (by omega)).trans HWK.out.2.2.1
    have r2 := (hk2.block (w.heap.size + 1) (by omega)).trans HWK.out.2.2.2.1
    have r3 := (hk2.block (w.heap.size + 1 + 1) (by omega)).trans HWK.out.2.2.2.2
    have a0 := (cells_of r1 0).1
    have a1 := (cells_of r1 1).1
    have a2 := (cells_of r1 2).1
    have a3 := cell_of_one r2
    simp only [List.getElem?_toArray, List.getElem?_cons_zero, List.getElem?_cons_succ] at a0 a1 a2
    have hbel := HWK.out.2.1.trans (hk2.mono (R := (· < w.heap.size)) fun b hb => by omega).below
    have hrep := replaced_any t _ w2 (by have := HP.out.2.2; omega) HP.out.2.1 (puts_up HP.out.1 hbel) (trV_up hbel HV.out)
    have hs2 := block_lt r3
    have HR := Lib.hid (And.intro hbel (And.intro r3 (And.intro hrep hs2)))
    clear hbel r3 hk2 hrep r1 r2 hs2
    go_wp2_with fail
    refine HR.out.2.2.1.mono ?_
    rintro e w3 ⟨v', rfl, hv', hb'⟩
    obtain ⟨sl', rfl, q1, q2, hsl'⟩ := trV_iff.1 hv'
    obtain ⟨oa4, cap4, b4, o4, rfl, q3, q4, -, -⟩ := trS_at hsl'
    have r4 := (hb'.block _ (block_lt HR.out.2.1)).trans HR.out.2.1
    have b0 := (cells_of r4 0).1
    have b1 := (cells_of r4 1).1
    have b2 := (cells_of r4 2).1
    have f2 := fun j => (cells_of r4 j).2
    simp only [List.getElem?_toArray, List.getElem?_cons_zero, List.getElem?_cons_succ] at b0 b1 b2
    have HS := Lib.hid (And.intro r4 (And.intro hv' hb'))
    clear hv' hb' hsl' q1 q2 r4
    go_wp2_with fail
    have hfin := three_set (a' := .int .i64 (repT g t).k) (b' := .int .i64 (repT g t).n) (c' := .slice oa4 (repT g t).l.length cap4) HS.out.1
    have e0 := (cells_of hfin 0).1
    have e1 := (cells_of hfin 1).1
    have e2 := (cells_of hfin 2).1
    simp only [List.getElem?_toArray, List.getElem?_cons_zero, List.getElem?_cons_succ] at e0 e1 e2
    refine bodyPost_ret (v := .tuple #[.agg #[.int .i64 (repT g t).k, .int .i64 (repT g t).n, .slice oa4 (repT g t).l.length cap4], .bool true]) (by simp [results, Try.results70, go_sem, e0, e1, e2]) rfl ?_
    have hs2 := HR.out.2.2.2
    have hs1 := HR.out.1.size
    refine ⟨_, rfl, fun _ => trV_mono (fun b (hb : Nw _ _ b) => ⟨by have := hb.1; omega, by have := hb.2; simpa [World.setCell] using this⟩) (fun b (hb : Nw _ _ b) => ?_) _ HS.out.2.1, (fun h => by cases h), (((below_next HR.out.1 HS.out.2.2).setCell (p := ⟨w.heap.size + 1 + 1, 0, none⟩) (by simp; omega) _).setCell (p := ⟨w.heap.size + 1 + 1, 1, none⟩) (by simp; omega) _).setCell (p := ⟨w.heap.size + 1 + 1, 2, none⟩) (by simp; omega) _⟩
    have h1 := hb.1
    rw [Below.heap_setCell _ _ _ _ (by simp; omega), Below.heap_setCell _ _ _ _ (by simp; omega), Below.heap_setCell _ _ _ _ (by simp; omega)]

theorem trV_sz {t : Tm} (h : good t = true) : sz t ≤ 2000 := ((good_iff t).1 h).1
set_option maxRecDepth 100000 in
theorem subst1_puts {pl : Nat} {l : List Tm} {s : Value} {w : World} (hl : w.heap[pl]? = some (.cells #[s] 22)) (hs : TrS w (· < w.heap.size) l s) (hg : l.all good = true) :
    Puts 71 #[.pointer (some ⟨pl, 0, none⟩)] (fun n => l.getD n.toNat default) (inRange l.length) w := by
  refine ⟨fun _ _ => by go_simp, fun n hn => ?_, fun n hn hi W hW => ?_⟩
  · simp only [inRange, Bool.and_eq_true, decide_eq_true_eq] at hn
    have hlt : n.toNat < l.length := by omega
    rw [List.getD_eq_getElem?_getD, List.getElem?_eq_getElem hlt]
    have := trV_sz ((List.all_eq_true.1 hg) _ (List.getElem_mem hlt))
    simp only [Option.getD_some]; omega
  · simp only [inRange, Bool.and_eq_true, decide_eq_true_eq] at hn
    obtain ⟨h0, h1⟩ := hn
    obtain ⟨k, rfl⟩ : ∃ k : Nat, n = k := ⟨n.toNat, by omega⟩
    have hlt : k < l.length := by omega
    have hgd : l.getD (k : Int).toNat default = l[k] := by rw [Int.toNat_natCast, List.getD_eq_getElem?_getD, List.getElem?_eq_getElem hlt]; rfl
    rw [hgd]
    obtain ⟨oa, cap, b, o, rfl, hlc, hcm, hoa, hel⟩ := trS_at hs
    obtain ⟨rfl, hQb⟩ := hoa (by omega)
    obtain ⟨oa2, cap2, e0, e1, e2, e3⟩ := hel k hlt
    have hbl := hW.block b hQb
    have d0 := (World.cell?_of_block (w := w) (a := ⟨b, o + k * 3, none⟩) hbl).trans e0
    have d1 := (World.cell?_of_block (w := w) (a := ⟨b, o + k * 3 + 1, none⟩) hbl).trans e1
    have d2 := (World.cell?_of_block (w := w) (a := ⟨b, o + k * 3 + 2, none⟩) hbl).trans e2
    have hbl' : b < W.heap.size := Nat.lt_of_lt_of_le hQb hW.size
    have hpl' := Nat.lt_of_lt_of_le (block_lt hl) hW.size
    have dl := cell_of_one ((hW.block pl (block_lt hl)).trans hl)
    have hne : pl ≠ W.heap.size := by omega
    have HE := Lib.hid (And.intro e3 hW)
    clear e0 e1 e2 e3 hbl hW hs hg hgd hl hi hel hoa
    show Calls Try.prog 71 #[.int .i64 k, .pointer (some ⟨pl, 0, none⟩)] W _
    go_enter Try.func71, Try.ntmps71
    go_wp2_with fail
    refine bodyPost_ret (results_cell_row rfl _ _ W.heap.size 24 _ _ _ rfl (heap_alloc_new W _) Try.underlying24 rfl infoTk) rfl ?_
    have hb := below_alloc W (.cells #[.int .i64 l[k].k, .int .i64 l[k].n, .slice oa2 l[k].l.length cap2] 24)
    exact ⟨_, rfl, trV_mono (fun b h => .inl h) (fun b (h : b < w.heap.size) => (hb.block b (Nat.lt_of_lt_of_le h HE.out.2.size)).trans (HE.out.2.block b h)) _ HE.out.1, hb⟩

end Go.Proofs.Ytapdfdjknehhgaa

/- Substitution: the function itself. -/
namespace Go.Proofs.Ytapdfdjknehhgaa
open Go.RowKit Go.Tr

/-- One tree, laid into a new row. -/
theorem trS_one {w w' : World} {t : Tm} {oa : Option Addr} {cap : Nat} (hv : TrV w (· < w.heap.size) t (.agg #[.int .i64 t.k, .int .i64 t.n, .slice oa t.l.length cap]))
    (hh : w'.heap = (w.alloc (.cells #[.int .i64 t.k, .int .i64 t.n, .slice oa t.l.length cap] 24)).heap) : TrS w' (· < w'.heap.size) [t] (.slice (some ⟨w.heap.size, 0, none⟩) 1 1) := by
  have hn : w'.heap[w.heap.size]? = some (.cells #[.int .i64 t.k, .int .i64 t.n, .slice oa t.l.length cap] 24) := by rw [hh]; exact heap_alloc_new w _
  refine ⟨_, _, w.heap.size, 0, rfl, Nat.le_refl _, by decide, fun _ => ⟨rfl, by rw [hh]; simp⟩, trC_iff.2 fun i hi => ?_⟩
  have hi0 : i = 0 := by simpa using hi
  subst hi0
  refine ⟨.slice oa t.l.length cap, (cells_of hn 0).1, (cells_of hn 1).1, (cells_of hn 2).1, trV_mono (fun b (h : b < w.heap.size) => by rw [hh]; simp; omega) (fun b (h : b < w.heap.size) => by rw [hh]; exact Below.heap_alloc _ _ _ h) _ hv⟩

set_option maxRecDepth 100000 in
set_option maxHeartbeats 400000 in
theorem Subst_any (t : Tm) (l : List Tm) (v s : Value) (w : World) (hv : TrV w (· < w.heap.size) t v) (hs : TrS w (· < w.heap.size) l s) :
    Calls Try.prog 30 #[v, s] w fun e w' => ∃ v', e = .returned (.tuple #[v', .int .i64 (substE t l)]) ∧ (substE t l = 0 → TrV w' (Nw w w') (substT l t) v') ∧ (substE t l ≠ 0 → v' = vzero) ∧ Below w.heap.size w w' := by
  obtain ⟨sl, rfl, hk1, hk2, hsl⟩ := trV_iff.1 hv
  obtain ⟨oa, cap, b, o, rfl, hlc, hcm, -, -⟩ := trS_at hsl
  obtain ⟨oa', cap', b', o', rfl, hlc', hcm', -, -⟩ := trS_at hs
  clear hk1 hk2 hsl
  obtain ⟨o1, ho1⟩ : ∃ o : Obj, o = .cells #[.int .i64 t.k, .int .i64 t.n, .slice oa t.l.length cap] 24 := ⟨_, rfl⟩
  obtain ⟨o2, ho2⟩ : ∃ o : Obj, o = .cells #[.slice oa' l.length cap'] 22 := ⟨_, rfl⟩
  obtain ⟨o3, ho3⟩ : ∃ o : Obj, o = .cells #[.int .i64 0, .int .i64 0, .slice none 0 0] 24 := ⟨_, rfl⟩
  have hgr : Below w.heap.size w (((w.alloc o1).alloc o2).alloc o3) := bA (bA (bA (bZ w) _) _) _
  have hq1 : (((w.alloc o1).alloc o2).alloc o3).heap[w.heap.size]? = some o1 := by (simp only [heap_alloc, alloc_size]; repeat (first | rw [if_pos trivial] | rw [if_pos (by omega)] | rw [if_neg (by omega)]))
  have hq2 : (((w.alloc o1).alloc o2).alloc o3).heap[w.heap.size + 1]? = some o2 := by (simp only [heap_alloc, alloc_size]; repeat (first | rw [if_pos trivial] | rw [if_pos (by omega)] | rw [if_neg (by omega)]))
  have hq3 : (((w.alloc o1).alloc o2).alloc o3).heap[w.heap.size + 1 + 1]? = some o3 := by (simp only [heap_alloc, alloc_size]; repeat (first | rw [if_pos trivial] | rw [if_pos (by omega)] | rw [if_neg (by omega)]))
  have hT := Tree_any t _ _ (trV_up hgr hv)
  have hA := fun W (hW : Below (((w.alloc o1).alloc o2).alloc o3).heap.size (((w.alloc o1).alloc o2).alloc o3) W) => areTrees_any l _ W (trS_up (below_next hgr hW) hs)
  have HH := Lib.hid (And.intro hgr (And.intro hq1 (And.intro hq2 (And.intro hq3 (And.intro hv hs)))))
  have HC := Lib.hid (And.intro hT hA)
  clear hgr hq1 hq2 hq3 hT hA hv hs
  cases hg : good t with
  | false =>
    have he : substE t l = 4 := by simp [substE, hg]
    have HG := Lib.hid hg
    rw [he]
    clear he hg
    subst ho1 ho2 ho3
    go_enter Try.func30, Try.ntmps30
    go_wp2_with fail
    refine HC.out.1.mono ?_
    rintro e w2 ⟨rfl, hb2⟩
    rw [HG.out]
    have r3 := (hb2.block _ (block_lt HH.out.2.2.2.1)).trans HH.out.2.2.2.1
    have b0 := (cells_of r3 0).1
    have b1 := (cells_of r3 1).1
    have b2 := (cells_of r3 2).1
    have f2 := fun j => (cells_of r3 j).2
    simp only [List.getElem?_toArray, List.getElem?_cons_zero, List.getElem?_cons_succ] at b0 b1 b2
    have HR := Lib.hid (And.intro (below_next HH.out.1 hb2) r3)
    clear r3 hb2
    unfold errT
    go_wp2_with fail
    have hfin := three_set (a' := .int .i64 0) (b' := .int .i64 0) (c' := .slice none 0 0) HR.out.2
    have e0 := (cells_of hfin 0).1
    have e1 := (cells_of hfin 1).1
    have e2 := (cells_of hfin 2).1
    simp only [List.getElem?_toArray, List.getElem?_cons_zero, List.getElem?_cons_succ] at e0 e1 e2
    refine bodyPost_ret (v := .tuple #[vzero, .int .i64 4]) (by simp [results, Try.results30, go_sem, e0, e1, e2, vzero]) rfl ?_
    exact ⟨_, rfl, (fun h => by cases h), fun _ => rfl, ((HR.out.1.setCell (p := ⟨w.heap.size + 1 + 1, 0, none⟩) (by simp; omega) _).setCell (p := ⟨w.heap.size + 1 + 1, 1, none⟩) (by simp; omega) _).setCell (p := ⟨w.heap.size + 1 + 1, 2, none⟩) (by simp; omega) _⟩
  | true =>
    cases hl : l.all good with
    | false =>
      have he : substE t l = 4 := by simp [substE, hl]
      have HG := Lib.hid (And.intro hg hl)
      rw [he]
      clear he hg hl
      subst ho1 ho2 ho3
      go_enter Try.func30, Try.ntmps30
      go_wp2_with fail
      refine HC.out.1.mono ?_
      rintro e w2 ⟨rfl, hb2⟩
      rw [HG.out.1]
      have a3 := cell_of_one ((hb2.block _ (block_lt HH.out.2.2.1)).trans HH.out.2.2.1)
      have hA := HC.out.2 w2 hb2
      have HA := Lib.hid (And.intro hA hb2)
      clear hA hb2
      unfold errT
      go_wp2_with fail
      refine HA.out.1.mono ?_
      rintro e w3 ⟨rfl, hb3⟩
      rw [HG.out.2]
      have hb2 := below_next HA.out.2 hb3
      clear hb3
      have r3 := (hb2.block _ (block_lt HH.out.2.2.2.1)).trans HH.out.2.2.2.1
      have b0 := (cells_of r3 0).1
      have b1 := (cells_of r3 1).1
      have b2 := (cells_of r3 2).1
      have f2 := fun j => (cells_of r3 j).2
      simp only [List.getElem?_toArray, List.getElem?_cons_zero, List.getElem?_cons_succ] at b0 b1 b2
      have HR := Lib.hid (And.intro (below_next HH.out.1 hb2) r3)
      clear r3 hb2
      unfold errT
      go_wp2_with fail
      have hfin := three_set (a' := .int .i64 0) (b' := .int .i64 0) (c' := .slice none 0 0) HR.out.2
      have e0 := (cells_of hfin 0).1
      have e1 := (cells_of hfin 1).1
      have e2 := (cells_of hfin 2).1
      simp only [List.getElem?_toArray, List.getElem?_cons_zero, List.getElem?_cons_succ] at e0 e1 e2
      refine bodyPost_ret (v := .tuple #[vzero, .int .i64 4]) (by simp [results, Try.results30, go_sem, e0, e1, e2, vzero]) rfl ?_
      exact ⟨_, rfl, (fun h => by cases h), fun _ => rfl, ((HR.out.1.setCell (p := ⟨w.heap.size + 1 + 1, 0, none⟩) (by simp; omega) _).setCell (p := ⟨w.heap.size + 1 + 1, 1, none⟩) (by simp; omega) _).setCell (p := ⟨w.heap.size + 1 + 1, 2, none⟩) (by simp; omega) _⟩
    | true =>
      have HG := Lib.hid (And.intro hg hl)
      by_cases hm : (l.length : Int) ≤ most (vars [t])
      · have he : substE t l = 1 := by simp [substE, hl, hg, hm]
        rw [he]
        have HE := Lib.hid he
        clear he hg hl
        subst ho1 ho2 ho3
        go_enter Try.func30, Try.ntmps30
        go_wp2_with fail
        refine HC.out.1.mono ?_
        rintro e w2 ⟨rfl, hb2⟩
        rw [HG.out.1]
        have a3 := cell_of_one ((hb2.block _ (block_lt HH.out.2.2.1)).trans HH.out.2.2.1)
        have hA := HC.out.2 w2 hb2
        have HA := Lib.hid (And.intro hA hb2)
        clear hA hb2
        unfold errT
        go_wp2_with fail
        refine HA.out.1.mono ?_
        rintro e w3 ⟨rfl, hb3⟩
        rw [HG.out.2]
        have hb2 := below_next HA.out.2 hb3
        clear hb3 a3
        have r1 := (hb2.block _ (block_lt HH.out.2.1)).trans HH.out.2.1
        have r2 := (hb2.block _ (block_lt HH.out.2.2.1)).trans HH.out.2.2.1
        have r3 := (hb2.block _ (block_lt HH.out.2.2.2.1)).trans HH.out.2.2.2.1
        have a0 := (cells_of r1 0).1
        have a1 := (cells_of r1 1).1
        have a2 := (cells_of r1 2).1
        have a3 := cell_of_one r2
        simp only [List.getElem?_toArray, List.getElem?_cons_zero, List.getElem?_cons_succ] at a0 a1 a2
        have hbw := below_next HH.out.1 hb2
        have hkk : ∀ W, Below w3.heap.size w3 W → W.cell? ⟨w.heap.size, 0, none⟩ = some (.int .i64 t.k) ∧ W.cell? ⟨w.heap.size, 1, none⟩ = some (.int .i64 t.n) ∧ W.cell? ⟨w.heap.size, 2, none⟩ = some (.slice oa t.l.length cap) ∧ W.cell? ⟨w.heap.size + 1, 0, none⟩ = some (.slice oa' l.length cap') := fun W hW =>
          ⟨(World.cell?_of_block (w := w3) (a := ⟨w.heap.size, 0, none⟩) (hW.block _ (block_lt r1))).trans a0, (World.cell?_of_block (w := w3) (a := ⟨w.heap.size, 1, none⟩) (hW.block _ (block_lt r1))).trans a1, (World.cell?_of_block (w := w3) (a := ⟨w.heap.size, 2, none⟩) (hW.block _ (block_lt r1))).trans a2, (World.cell?_of_block (w := w3) (a := ⟨w.heap.size + 1, 0, none⟩) (hW.block _ (block_lt r2))).trans a3⟩
        have hsz : szL [t] ≤ 2000 := by have := trV_sz HG.out.1; simpa [szL] using this
        have hdp : dpL [t] ≤ 2000 := by have := ((good_iff t).1 HG.out.1).2.1; simp [dpL]; omega
        have hgre := fun W (hW : Below w3.heap.size w3 W) W' (hh : W'.heap = (W.alloc (.cells #[.int .i64 t.k, .int .i64 t.n, .slice oa t.l.length cap] 24)).heap) =>
          greatest_any [t] _ W' (trS_one (trV_up (below_next hbw hW) HH.out.2.2.2.2.1) hh) (by omega) (by omega)
        have HK := Lib.hid (And.intro hkk (And.intro hgre (And.intro hbw (And.intro r1 (And.intro r2 r3)))))
        clear hkk hgre hbw r1 r2 r3 hsz hdp hb2
        unfold errT
        go_wp2_with fail
        go_region_held3 (fun W => W.cell? ⟨w.heap.size, 0, none⟩ = some (.int .i64 t.k) ∧ W.cell? ⟨w.heap.size, 1, none⟩ = some (.int .i64 t.n) ∧ W.cell? ⟨w.heap.size, 2, none⟩ = some (.slice oa t.l.length cap) ∧ W.cell? ⟨w.heap.size + 1, 0, none⟩ = some (.slice oa' l.length cap'))
          (first | (refine HK.out.1 _ ?_; (repeat (first | with_reducible assumption | with_reducible exact bZ _ | with_reducible apply bA | with_reducible apply bD)); done))
          (first
            | (go_at_call 66; (with_reducible refine (HK.out.2.1 _ (by (repeat (first | with_reducible assumption | with_reducible exact bZ _ | with_reducible apply bA | with_reducible apply bD))) _ (Go.heap_drew _)).mono ?_); rintro e w6 ⟨rfl, hb6⟩; have hb7 := below_next (show Below w3.heap.size w3 _ from by (repeat (first | with_reducible assumption | with_reducible exact bZ _ | with_reducible apply bA | with_reducible apply bD))) hb6; clear hb6))
        all_goals
          have r1 := (hb7.block _ (block_lt HK.out.2.2.2.1)).trans HK.out.2.2.2.1
          have r2 := (hb7.block _ (block_lt HK.out.2.2.2.2.1)).trans HK.out.2.2.2.2.1
          have r3 := (hb7.block _ (block_lt HK.out.2.2.2.2.2)).trans HK.out.2.2.2.2.2
          have b0 := (cells_of r3 0).1
          have b1 := (cells_of r3 1).1
          have b2 := (cells_of r3 2).1
          have f2 := fun j => (cells_of r3 j).2
          have a0 := (cells_of r1 0).1
          have a1 := (cells_of r1 1).1
          have a2 := (cells_of r1 2).1
          have a3 := cell_of_one r2
          simp only [List.getElem?_toArray, List.getElem?_cons_zero, List.getElem?_cons_succ] at b0 b1 b2 a0 a1 a2
          have HR := Lib.hid (And.intro (below_next HK.out.2.2.1 hb7) r3)
          have HR2 := Lib.hid r2
          clear r1 r2 r3 hb7
          clear a0 a1 a2 a3
          go_wp2_with fail
          have hfin := three_set (a' := .int .i64 0) (b' := .int .i64 0) (c' := .slice none 0 0) HR.out.2
          have e0 := (cells_of hfin 0).1
          have e1 := (cells_of hfin 1).1
          have e2 := (cells_of hfin 2).1
          simp only [List.getElem?_toArray, List.getElem?_cons_zero, List.getElem?_cons_succ] at e0 e1 e2
          refine bodyPost_ret (v := .tuple #[vzero, .int .i64 1]) (by simp [results, Try.results30, go_sem, e0, e1, e2, vzero]) rfl ?_
          exact ⟨_, rfl, (fun h => by cases h), fun _ => rfl, ((HR.out.1.setCell (p := ⟨w.heap.size + 1 + 1, 0, none⟩) (by simp; omega) _).setCell (p := ⟨w.heap.size + 1 + 1, 1, none⟩) (by simp; omega) _).setCell (p := ⟨w.heap.size + 1 + 1, 2, none⟩) (by simp; omega) _⟩
      · have hm' : most (vars [t]) < l.length := by omega
        clear hm
        cases hf : fit (substT l t) with
        | false =>
          have he : substE t l = 2 := by unfold substE; rw [hg, hl, hf]; simp only [Bool.and_self, if_true, Bool.false_eq_true, if_false]; rw [if_neg (by omega)]
          rw [he]
          have HF := Lib.hid hf
          clear he hf
          clear hg hl
          subst ho1 ho2 ho3
          go_enter Try.func30, Try.ntmps30
          go_wp2_with fail
          refine HC.out.1.mono ?_
          rintro e w2 ⟨rfl, hb2⟩
          rw [HG.out.1]
          have a3 := cell_of_one ((hb2.block _ (block_lt HH.out.2.2.1)).trans HH.out.2.2.1)
          have hA := HC.out.2 w2 hb2
          have HA := Lib.hid (And.intro hA hb2)
          clear hA hb2
          unfold errT
          go_wp2_with fail
          refine HA.out.1.mono ?_
          rintro e w3 ⟨rfl, hb3⟩
          rw [HG.out.2]
          have hb2 := below_next HA.out.2 hb3
          clear hb3 a3
          have r1 := (hb2.block _ (block_lt HH.out.2.1)).trans HH.out.2.1
          have r2 := (hb2.block _ (block_lt HH.out.2.2.1)).trans HH.out.2.2.1
          have r3 := (hb2.block _ (block_lt HH.out.2.2.2.1)).trans HH.out.2.2.2.1
          have a0 := (cells_of r1 0).1
          have a1 := (cells_of r1 1).1
          have a2 := (cells_of r1 2).1
          have a3 := cell_of_one r2
          simp only [List.getElem?_toArray, List.getElem?_cons_zero, List.getElem?_cons_succ] at a0 a1 a2
          have hbw := below_next HH.out.1 hb2
          have hkk : ∀ W, Below w3.heap.size w3 W → W.cell? ⟨w.heap.size, 0, none⟩ = some (.int .i64 t.k) ∧ W.cell? ⟨w.heap.size, 1, none⟩ = some (.int .i64 t.n) ∧ W.cell? ⟨w.heap.size, 2, none⟩ = some (.slice oa t.l.length cap) ∧ W.cell? ⟨w.heap.size + 1, 0, none⟩ = some (.slice oa' l.length cap') := fun W hW =>
            ⟨(World.cell?_of_block (w := w3) (a := ⟨w.heap.size, 0, none⟩) (hW.block _ (block_lt r1))).trans a0, (World.cell?_of_block (w := w3) (a := ⟨w.heap.size, 1, none⟩) (hW.block _ (block_lt r1))).trans a1, (World.cell?_of_block (w := w3) (a := ⟨w.heap.size, 2, none⟩) (hW.block _ (block_lt r1))).trans a2, (World.cell?_of_block (w := w3) (a := ⟨w.heap.size + 1, 0, none⟩) (hW.block _ (block_lt r2))).trans a3⟩
          have hsz : szL [t] ≤ 2000 := by have := trV_sz HG.out.1; simpa [szL] using this
          have hdp : dpL [t] ≤ 2000 := by have := ((good_iff t).1 HG.out.1).2.1; simp [dpL]; omega
          have hgre := fun W (hW : Below w3.heap.size w3 W) W' (hh : W'.heap = (W.alloc (.cells #[.int .i64 t.k, .int .i64 t.n, .slice oa t.l.length cap] 24)).heap) =>
            greatest_any [t] _ W' (trS_one (trV_up (below_next hbw hW) HH.out.2.2.2.2.1) hh) (by omega) (by omega)
          have HK := Lib.hid (And.intro hkk (And.intro hgre (And.intro hbw (And.intro r1 (And.intro r2 r3)))))
          clear hkk hgre hbw r1 r2 r3 hsz hdp hb2
          unfold errT
          go_wp2_with fail
          go_region_held3 (fun W => W.cell? ⟨w.heap.size, 0, none⟩ = some (.int .i64 t.k) ∧ W.cell? ⟨w.heap.size, 1, none⟩ = some (.int .i64 t.n) ∧ W.cell? ⟨w.heap.size, 2, none⟩ = some (.slice oa t.l.length cap) ∧ W.cell? ⟨w.heap.size + 1, 0, none⟩ = some (.slice oa' l.length cap'))
            (first | (refine HK.out.1 _ ?_; (repeat (first | with_reducible assumption | with_reducible exact bZ _ | with_reducible apply bA | with_reducible apply bD)); done))
            (first
              | (go_at_call 66; (with_reducible refine (HK.out.2.1 _ (by (repeat (first | with_reducible assumption | with_reducible exact bZ _ | with_reducible apply bA | with_reducible apply bD))) _ (Go.heap_drew _)).mono ?_); rintro e w6 ⟨rfl, hb6⟩; have hb7 := below_next (show Below w3.heap.size w3 _ from by (repeat (first | with_reducible assumption | with_reducible exact bZ _ | with_reducible apply bA | with_reducible apply bD))) hb6; clear hb6))
          all_goals
            have r1 := (hb7.block _ (block_lt HK.out.2.2.2.1)).trans HK.out.2.2.2.1
            have r2 := (hb7.block _ (block_lt HK.out.2.2.2.2.1)).trans HK.out.2.2.2.2.1
            have r3 := (hb7.block _ (block_lt HK.out.2.2.2.2.2)).trans HK.out.2.2.2.2.2
            have b0 := (cells_of r3 0).1
            have b1 := (cells_of r3 1).1
            have b2 := (cells_of r3 2).1
            have f2 := fun j => (cells_of r3 j).2
            have a0 := (cells_of r1 0).1
            have a1 := (cells_of r1 1).1
            have a2 := (cells_of r1 2).1
            have a3 := cell_of_one r2
            simp only [List.getElem?_toArray, List.getElem?_cons_zero, List.getElem?_cons_succ] at b0 b1 b2 a0 a1 a2
            have HR := Lib.hid (And.intro (below_next HK.out.2.2.1 hb7) r3)
            have HR2 := Lib.hid r2
            clear r1 r2 r3 hb7
            have hgr := grown_any t _ w6 (subst1_puts HR2.out (trS_up HR.out.1 HH.out.2.2.2.2.2) HG.out.2) HG.out.1 (range_of HG.out.1 (by omega)) (trV_up HR.out.1 HH.out.2.2.2.2.1)
            have HGR := Lib.hid hgr
            clear hgr
            have hmf : ∀ (fn : Fn) (first cap : Array Value) (w : World), (Instr.makeFunc fn first cap).run Try.prog w = .ok (.func fn first cap) w := fun _ _ _ _ => rfl
            go_wp2_with fail
            refine HGR.out.mono ?_
            rintro e w7 ⟨v', rfl, -, hv', hb'⟩
            obtain rfl := hv' HF.out
            rw [show fit (repT (fun n => l.getD n.toNat default) t) = false from HF.out]
            have r3 := (hb'.block _ (block_lt HR.out.2)).trans HR.out.2
            have b0 := (cells_of r3 0).1
            have b1 := (cells_of r3 1).1
            have b2 := (cells_of r3 2).1
            have f2 := fun j => (cells_of r3 j).2
            simp only [List.getElem?_toArray, List.getElem?_cons_zero, List.getElem?_cons_succ] at b0 b1 b2
            have hlt3 := block_lt r3
            have HS := Lib.hid (And.intro (below_next HR.out.1 hb') r3)
            have hsz7 := (below_next HR.out.1 hb').size
            clear r3 hb' hv'
            unfold vzero
            go_wp2_with fail
            have hfin := (Below.heap_alloc (((w7.setCell ⟨w.heap.size + 1 + 1, 0, none⟩ (.int .i64 0)).setCell ⟨w.heap.size + 1 + 1, 1, none⟩ (.int .i64 0)).setCell ⟨w.heap.size + 1 + 1, 2, none⟩ (.slice none 0 0)) (.cells #[.int .i64 0, .int .i64 0, .slice none 0 0] 24) (w.heap.size + 1 + 1) (by simpa [World.setCell] using hlt3)).trans (three_set (a' := .int .i64 0) (b' := .int .i64 0) (c' := .slice none 0 0) HS.out.2)
            have e0 := (cells_of hfin 0).1
            have e1 := (cells_of hfin 1).1
            have e2 := (cells_of hfin 2).1
            simp only [List.getElem?_toArray, List.getElem?_cons_zero, List.getElem?_cons_succ] at e0 e1 e2
            refine bodyPost_ret (v := .tuple #[vzero, .int .i64 2]) (by simp [results, Try.results30, go_sem, e0, e1, e2, vzero]) rfl ?_
            have hall := (((HS.out.1.setCell (p := ⟨w.heap.size + 1 + 1, 0, none⟩) (by simp; omega) (.int .i64 0)).setCell (p := ⟨w.heap.size + 1 + 1, 1, none⟩) (by simp; omega) (.int .i64 0)).setCell (p := ⟨w.heap.size + 1 + 1, 2, none⟩) (by simp; omega) (.slice none 0 0)).alloc (by simpa [World.setCell] using hsz7) (.cells #[.int .i64 0, .int .i64 0, .slice none 0 0] 24)
            exact ⟨_, rfl, (fun h => by cases h), fun _ => rfl, hall⟩
        | true =>
          have he : substE t l = 0 := by unfold substE; rw [hg, hl, hf]; simp only [Bool.and_self, if_true]; rw [if_neg (by omega)]
          rw [he]
          have HF := Lib.hid hf
          clear he hf
          clear hg hl
          subst ho1 ho2 ho3
          go_enter Try.func30, Try.ntmps30
          go_wp2_with fail
          refine HC.out.1.mono ?_
          rintro e w2 ⟨rfl, hb2⟩
          rw [HG.out.1]
          have a3 := cell_of_one ((hb2.block _ (block_lt HH.out.2.2.1)).trans HH.out.2.2.1)
          have hA := HC.out.2 w2 hb2
          have HA := Lib.hid (And.intro hA hb2)
          clear hA hb2
          unfold errT
          go_wp2_with fail
          refine HA.out.1.mono ?_
          rintro e w3 ⟨rfl, hb3⟩
          rw [HG.out.2]
          have hb2 := below_next HA.out.2 hb3
          clear hb3 a3
          have r1 := (hb2.block _ (block_lt HH.out.2.1)).trans HH.out.2.1
          have r2 := (hb2.block _ (block_lt HH.out.2.2.1)).trans HH.out.2.2.1
          have r3 := (hb2.block _ (block_lt HH.out.2.2.2.1)).trans HH.out.2.2.2.1
          have a0 := (cells_of r1 0).1
          have a1 := (cells_of r1 1).1
          have a2 := (cells_of r1 2).1
          have a3 := cell_of_one r2
          simp only [List.getElem?_toArray, List.getElem?_cons_zero, List.getElem?_cons_succ] at a0 a1 a2
          have hbw := below_next HH.out.1 hb2
          have hkk : ∀ W, Below w3.heap.size w3 W → W.cell? ⟨w.heap.size, 0, none⟩ = some (.int .i64 t.k) ∧ W.cell? ⟨w.heap.size, 1, none⟩ = some (.int .i64 t.n) ∧ W.cell? ⟨w.heap.size, 2, none⟩ = some (.slice oa t.l.length cap) ∧ W.cell? ⟨w.heap.size + 1, 0, none⟩ = some (.slice oa' l.length cap') := fun W hW =>
            ⟨(World.cell?_of_block (w := w3) (a := ⟨w.heap.size, 0, none⟩) (hW.block _ (block_lt r1))).trans a0, (World.cell?_of_block (w := w3) (a := ⟨w.heap.size, 1, none⟩) (hW.block _ (block_lt r1))).trans a1, (World.cell?_of_block (w := w3) (a := ⟨w.heap.size, 2, none⟩) (hW.block _ (block_lt r1))).trans a2, (World.cell?_of_block (w := w3) (a := ⟨w.heap.size + 1, 0, none⟩) (hW.block _ (block_lt r2))).trans a3⟩
          have hsz : szL [t] ≤ 2000 := by have := trV_sz HG.out.1; simpa [szL] using this
          have hdp : dpL [t] ≤ 2000 := by have := ((good_iff t).1 HG.out.1).2.1; simp [dpL]; omega
          have hgre := fun W (hW : Below w3.heap.size w3 W) W' (hh : W'.heap = (W.alloc (.cells #[.int .i64 t.k, .int .i64 t.n, .slice oa t.l.length cap] 24)).heap) =>
            greatest_any [t] _ W' (trS_one (trV_up (below_next hbw hW) HH.out.2.2.2.2.1) hh) (by omega) (by omega)
          have HK := Lib.hid (And.intro hkk (And.intro hgre (And.intro hbw (And.intro r1 (And.intro r2 r3)))))
          clear hkk hgre hbw r1 r2 r3 hsz hdp hb2
          unfold errT
          go_wp2_with fail
          go_region_held3 (fun W => W.cell? ⟨w.heap.size, 0, none⟩ = some (.int .i64 t.k) ∧ W.cell? ⟨w.heap.size, 1, none⟩ = some (.int .i64 t.n) ∧ W.cell? ⟨w.heap.size, 2, none⟩ = some (.slice oa t.l.length cap) ∧ W.cell? ⟨w.heap.size + 1, 0, none⟩ = some (.slice oa' l.length cap'))
            (first | (refine HK.out.1 _ ?_; (repeat (first | with_reducible assumption | with_reducible exact bZ _ | with_reducible apply bA | with_reducible apply bD)); done))
            (first
              | (go_at_call 66; (with_reducible refine (HK.out.2.1 _ (by (repeat (first | with_reducible assumption | with_reducible exact bZ _ | with_reducible apply bA | with_reducible apply bD))) _ (Go.heap_drew _)).mono ?_); rintro e w6 ⟨rfl, hb6⟩; have hb7 := below_next (show Below w3.heap.size w3 _ from by (repeat (first | with_reducible assumption | with_reducible exact bZ _ | with_reducible apply bA | with_reducible apply bD))) hb6; clear hb6))
          all_goals
            have r1 := (hb7.block _ (block_lt HK.out.2.2.2.1)).trans HK.out.2.2.2.1
            have r2 := (hb7.block _ (block_lt HK.out.2.2.2.2.1)).trans HK.out.2.2.2.2.1
            have r3 := (hb7.block _ (block_lt HK.out.2.2.2.2.2)).trans HK.out.2.2.2.2.2
            have b0 := (cells_of r3 0).1
            have b1 := (cells_of r3 1).1
            have b2 := (cells_of r3 2).1
            have f2 := fun j => (cells_of r3 j).2
            have a0 := (cells_of r1 0).1
            have a1 := (cells_of r1 1).1
            have a2 := (cells_of r1 2).1
            have a3 := cell_of_one r2
            simp only [List.getElem?_toArray, List.getElem?_cons_zero, List.getElem?_cons_succ] at b0 b1 b2 a0 a1 a2
            have HR := Lib.hid (And.intro (below_next HK.out.2.2.1 hb7) r3)
            have HR2 := Lib.hid r2
            clear r1 r2 r3 hb7
            have hgr := grown_any t _ w6 (subst1_puts HR2.out (trS_up HR.out.1 HH.out.2.2.2.2.2) HG.out.2) HG.out.1 (range_of HG.out.1 (by omega)) (trV_up HR.out.1 HH.out.2.2.2.2.1)
            have HGR := Lib.hid hgr
            clear hgr
            have hmf : ∀ (fn : Fn) (first cap : Array Value) (w : World), (Instr.makeFunc fn first cap).run Try.prog w = .ok (.func fn first cap) w := fun _ _ _ _ => rfl
            go_wp2_with fail
            refine HGR.out.mono ?_
            rintro e w7 ⟨v', rfl, hv', -, hb'⟩
            have hv7 := hv' HF.out
            rw [show fit (repT (fun n => l.getD n.toNat default) t) = true from HF.out]
            change TrV w7 (Nw w6 w7) (substT l t) v' at hv7
            obtain ⟨sl', rfl, q1, q2, hsl'⟩ := trV_iff.1 hv7
            obtain ⟨oa4, cap4, b4, o4, rfl, q3, q4, -, -⟩ := trS_at hsl'
            have r3 := (hb'.block _ (block_lt HR.out.2)).trans HR.out.2
            have b0 := (cells_of r3 0).1
            have b1 := (cells_of r3 1).1
            have b2 := (cells_of r3 2).1
            have f2 := fun j => (cells_of r3 j).2
            simp only [List.getElem?_toArray, List.getElem?_cons_zero, List.getElem?_cons_succ] at b0 b1 b2
            have hlt3 := block_lt r3
            have HS := Lib.hid (And.intro (below_next HR.out.1 hb') r3)
            have hsz7 := (below_next HR.out.1 hb').size
            have hsz6 := HR.out.1.size
            have hl6 := block_lt HR.out.2
            have HV := Lib.hid hv7
            clear r3 hb' hv' hv7 hsl' q1 q2
            go_wp2_with fail
            have hfin := (Below.heap_alloc (((w7.setCell ⟨w.heap.size + 1 + 1, 0, none⟩ (.int .i64 (substT l t).k)).setCell ⟨w.heap.size + 1 + 1, 1, none⟩ (.int .i64 (substT l t).n)).setCell ⟨w.heap.size + 1 + 1, 2, none⟩ (.slice oa4 (substT l t).l.length cap4)) (.cells #[.int .i64 (substT l t).k, .int .i64 (substT l t).n, .slice oa4 (substT l t).l.length cap4] 24) (w.heap.size + 1 + 1) (by simpa [World.setCell] using hlt3)).trans (three_set (a' := .int .i64 (substT l t).k) (b' := .int .i64 (substT l t).n) (c' := .slice oa4 (substT l t).l.length cap4) HS.out.2)
            have e0 := (cells_of hfin 0).1
            have e1 := (cells_of hfin 1).1
            have e2 := (cells_of hfin 2).1
            simp only [List.getElem?_toArray, List.getElem?_cons_zero, List.getElem?_cons_succ] at e0 e1 e2
            refine bodyPost_ret (v := .tuple #[.agg #[.int .i64 (substT l t).k, .int .i64 (substT l t).n, .slice oa4 (substT l t).l.length cap4], .int .i64 0]) (by simp [results, Try.results30, go_sem, e0, e1, e2]) rfl ?_
            have hall := (((HS.out.1.setCell (p := ⟨w.heap.size + 1 + 1, 0, none⟩) (by simp; omega) (.int .i64 (substT l t).k)).setCell (p := ⟨w.heap.size + 1 + 1, 1, none⟩) (by simp; omega) (.int .i64 (substT l t).n)).setCell (p := ⟨w.heap.size + 1 + 1, 2, none⟩) (by simp; omega) (.slice oa4 (substT l t).l.length cap4)).alloc (by simpa [World.setCell] using hsz7) (.cells #[.int .i64 (substT l t).k, .int .i64 (substT l t).n, .slice oa4 (substT l t).l.length cap4] 24)
            refine ⟨_, rfl, fun _ => trV_mono (fun b (hb : Nw _ _ b) => ⟨by have := hb.1; omega, by have := hb.2; simp [World.setCell]; omega⟩) (fun b (hb : Nw _ _ b) => ?_) _ HV.out, (fun h => absurd rfl h), hall⟩
            have h1 := hb.1
            rw [Below.heap_alloc _ _ _ (by simpa [World.setCell] using hb.2), Below.heap_setCell _ _ _ _ (by simp; omega), Below.heap_setCell _ _ _ _ (by simp; omega), Below.heap_setCell _ _ _ _ (by simp; omega)]
end Go.Proofs.Ytapdfdjknehhgaa
