/- SigNormal: true at every list of trees and every number. -/
import Derived.Test.YtapdfdjknehhgaaLc
import Derived.Test.YtapdfdjknehhgaaNormal
import Derived.Test.YtapdfdjknehhgaaRInts
import Derived.Test.YtapdfdjknehhgaaNorP
import Derived.Deep.CutRange
import Derived.Deep.RegionHeld3
import Derived.Deep.QuietTactic
import Derived.BigQuiet
namespace Go.Proofs.Ytapdfdjknehhgaa
open Go.RowKit Go.Tr

/-- Normal, where it numbers. -/
theorem normal_ok {l m : List Tm} (hg : l.all good = true) (hm : nrm l = m) (s : Value) (w : World) (hs : TrS w (· < w.heap.size) l s) (hsz : szL l ≤ 1000000000) :
    Calls Try.prog 42 #[s] w fun e w' => ∃ o c o' c', e = .returned (.tuple #[.slice o l.length c, .slice o' (vars l).length c', .int .i64 0]) ∧ TrS w' (· < w'.heap.size) m (.slice o l.length c) ∧ IntS w' (· < w'.heap.size) (vars l) (.slice o' (vars l).length c') ∧ Below w.heap.size w w' := by
  refine (Normal_any l s w hs hsz).mono ?_
  rintro e w' ⟨v1, v2, rfl, h1, -, h3⟩
  obtain ⟨h4, h5⟩ := h1 hg
  have h4' : TrS w' (Nw w w') m v1 := by rw [← hm]; exact h4
  have h6 := trS_new h4'
  have h7 := intS_new h5
  obtain ⟨o, c, b, q, e1, -⟩ := id h6
  obtain ⟨o', c', b', q', e2, -⟩ := id h7
  have hl : m.length = l.length := by rw [← hm]; exact List.length_map _
  rw [hl] at e1
  subst e1 e2
  rw [hg]
  exact ⟨o, c, o', c', rfl, h6, h7, h3⟩
theorem normal_no {l : List Tm} (hg : l.all good = false) (s : Value) (w : World) (hs : TrS w (· < w.heap.size) l s) (hsz : szL l ≤ 1000000000) :
    Calls Try.prog 42 #[s] w fun e w' => e = .returned (.tuple #[.slice none 0 0, .slice none 0 0, .int .i64 4]) ∧ Below w.heap.size w w' := by
  refine (Normal_any l s w hs hsz).mono ?_
  rintro e w' ⟨v1, v2, rfl, -, h2, h3⟩
  obtain ⟨rfl, rfl⟩ := h2 hg
  rw [hg]
  exact ⟨rfl, h3⟩
theorem all_q {l m : List Tm} (h : l = m) (s s' : Value) (w : World) (hs : TrS w (· < w.heap.size) l s) (hs' : TrS w (· < w.heap.size) m s') : Calls Try.prog 43 #[s, s'] w fun e w' => e = .returned (.bool true) ∧ Below w.heap.size w w' := by
  have h2 := RSameAll_any l m s s' w hs hs'
  rw [show eqAll l m = true from eqAll_len h] at h2
  exact h2
theorem intS_cellsN {w : World} {P : Nat → Prop} {l : List Int} {oa : Option Addr} {n c : Nat} (h : IntS w P l (.slice oa n c)) : ∃ b o, (0 < l.length → oa = some ⟨b, o, none⟩ ∧ P b) ∧ ∀ i (h : i < l.length), w.cell? ⟨b, o + i, none⟩ = some (.int .i64 l[i]) := by
  obtain ⟨oa', c', b, o, e, -, -, h1, h2⟩ := h
  simp only [Value.slice.injEq] at e
  obtain ⟨rfl, -, -⟩ := e
  exact ⟨b, o, h1, h2⟩
theorem var_v (w : World) (P : Nat → Prop) {n : Int} (hn : inI n) : TrV w P (var n) (.agg #[.int .i64 (var n).k, .int .i64 (var n).n, .slice none 0 0]) :=
  trV_iff.2 ⟨_, rfl, by unfold inI; show -9223372036854775808 ≤ (1 : Int) ∧ (1 : Int) ≤ _; omega, hn, none, 0, 0, 0, rfl, Nat.le_refl _, by decide, fun h => absurd rfl h, trivial⟩
set_option maxRecDepth 100000 in
set_option maxHeartbeats 4000000 in
theorem SigNormal_any (l : List Tm) (vl : Value) (by_ : Int) (hby : inI by_) (w : World) (hl : TrS w (· < w.heap.size) l vl) :
    Calls Try.prog 10 #[vl, .int .i64 by_] w fun e w' => e = .returned (.bool true) ∧ Below w.heap.size w w' := by
  obtain ⟨oa, cap, b, o, rfl, hlc, hcm, hoa, hel⟩ := trS_at hl
  have HT := Lib.hid (show ∀ W, Below w.heap.size w W → TrS W (· < W.heap.size) l (.slice oa l.length cap) from fun W hW => trS_up hW hl)
  have HEL := Lib.hid (And.intro hoa (And.intro hel hby))
  clear hl hoa hel hby
  go_enter Try.func10, Try.ntmps10
  go_wp2_with fail
  refine (sane_any _).mono ?_
  rintro e w1 ⟨rfl, hb1⟩
  go_wp2_with fail
  refine (few_any l _ _ (HT.out _ hb1)).mono ?_
  rintro e w2 ⟨rfl, hb2⟩
  have hc2 := below_next hb1 hb2
  clear hb2 hb1
  obtain ⟨fq, hfq⟩ : ∃ q, few l = q := ⟨_, rfl⟩
  rw [hfq]
  cases fq
  · go_wp2_with fail
    go_ret
    exact ⟨rfl, hc2⟩
  have HF := Lib.hid ((few_iff l).1 hfq)
  clear hfq
  go_upto_region 5 with fail
  cases hg : l.all good
  · have HG := Lib.hid hg
    clear hg
    go_wp2_with fail
    refine (normal_no HG.out _ _ (HT.out _ hc2) (by have := HF.out.1; omega)).mono ?_
    rintro e w3 ⟨rfl, hb3⟩
    have hc3 := below_next hc2 hb3
    clear hb3
    go_wp2_with fail
    refine (RAll_any l _ _ (HT.out _ hc3)).mono ?_
    rintro e w4 ⟨rfl, hb4⟩
    have hc4 := below_next hc3 hb4
    rw [HG.out]
    clear hb4
    go_wp2_with fail
    go_ret
    exact ⟨rfl, hc4⟩
  obtain ⟨N, hN⟩ : ∃ N, nrm l = N := ⟨_, rfl⟩
  obtain ⟨vs, hvs⟩ : ∃ vs, vars l = vs := ⟨_, rfl⟩
  have HG := Lib.hid (And.intro hg (And.intro hN hvs))
  have HN2 := Lib.hid (show N.all good = true ∧ nrm N = N ∧ szL N ≤ 6000 ∧ (vars N).length = vs.length ∧ (∀ i (h : i < (vars N).length), (vars N)[i] = i) ∧ N.length = l.length from by
    rw [← hN, ← hvs]
    refine ⟨nrm_good hg, nrm_nrm hg, ?_, nrm_vars_len hg, fun i h => nrm_vars_at hg i h, List.length_map _⟩
    have := szL_all (h := idx (vars l)) hg
    show szL (l.map (ren (idx (vars l)))) ≤ 6000
    rw [this]; exact HF.out.1)
  clear hg hN
  go_wp2_with fail
  refine (normal_ok HG.out.1 HG.out.2.1 _ _ (HT.out _ hc2) (by have := HF.out.1; omega)).mono ?_
  rintro e w3 ⟨o3, c3, o4, c4, rfl, ht3, hi3, hb3⟩
  have hc3 := below_next hc2 hb3
  rw [hvs] at hi3 ⊢
  have H3 := Lib.hid (And.intro ht3 hi3)
  clear hb3 ht3 hi3 hvs hc2
  go_wp2_with fail
  refine (normal_ok HN2.out.1 HN2.out.2.1 _ _ H3.out.1 (by have := HN2.out.2.2.1; omega)).mono ?_
  rintro e w5 ⟨o5, c5, o6, c6, rfl, ht5, hi5, hb5⟩
  rw [HN2.out.2.2.2.1] at hi5
  rw [HN2.out.2.2.2.2.2] at ht5
  rw [HN2.out.2.2.2.1, HN2.out.2.2.2.2.2]
  have hc5 := below_next hc3 hb5
  have H5 := Lib.hid (And.intro ht5 (And.intro hi5 hb5))
  clear hb5 ht5 hi5 hc3
  go_wp2_with fail
  refine (all_q (rfl : N = N) _ _ _ (trS_up H5.out.2.2 H3.out.1) H5.out.1).mono ?_
  rintro e w6 ⟨rfl, hb6⟩
  have hc6 := below_next hc5 hb6
  have h36 := below_next H5.out.2.2 hb6
  obtain ⟨b4, q4, hP4, hi4⟩ := intS_cellsN (intS_up h36 H3.out.2)
  obtain ⟨b6, q6, hP6, hi6⟩ := intS_cellsN (intS_up hb6 H5.out.2.1)
  rw [HN2.out.2.2.2.1] at hP6
  have hi6' : ∀ i (h : i < vs.length), w6.cell? ⟨b6, q6 + i, none⟩ = some (.int .i64 (i : Int)) := fun i h => by
    have h' : i < (vars N).length := by rw [HN2.out.2.2.2.1]; exact h
    rw [hi6 i h', HN2.out.2.2.2.2.1 i h']
  have hvi : ∀ v ∈ vs, inI v := fun v hv => trS_occ (HT.out _ hc5) v (by rw [HG.out.2.2]; exact hv)
  have H6 := Lib.hid (And.intro hc6 (And.intro h36 (And.intro hP4 (And.intro hi4 (And.intro hP6 (And.intro hi6' hvi))))))
  have hml : vs.length ≤ 6000 := by
    have := vars_len l
    rw [HG.out.2.2] at this
    have := HF.out.1
    omega
  have HML := Lib.hid hml
  clear hb6 hc6 h36 hP4 hi4 hP6 hi6 hi6' hvi hc5 hml
  go_upto_region 11 with fail
  go_wp2_with fail
  go_loopw [10, 73] (fun both i wr => ∃ (j : Nat), j ≤ vs.length ∧ i = .int .i64 j ∧ Hid (OwnT wr w6.heap.size both ((vs.take j).map var) ∧ Below w6.heap.size w6 wr)) (fun _ i _ => vs.length - (intOf i).toNat)
  case atStart => exact ⟨0, by omega, rfl, ownT_made0 (Nat.le_refl _), bA (bZ w6) _⟩
  case round =>
    obtain ⟨j, hj, rfl, HR⟩ := hrel
    by_cases hlt : j < vs.length
    · obtain ⟨rfl, hQ4⟩ := H6.out.2.2.1 (by omega)
      obtain ⟨rfl, hQ6⟩ := H6.out.2.2.2.2.1 (by omega)
      have d0 := (World.cell?_of_block (a := ⟨b4, q4 + j, none⟩) (HR.out.2.block b4 hQ4)).trans (H6.out.2.2.2.1 j hlt)
      have d1 := (World.cell?_of_block (a := ⟨b6, q6 + j, none⟩) (HR.out.2.block b6 hQ6)).trans (H6.out.2.2.2.2.2.1 j hlt)
      have i0 : (0 : Int) ≤ (j : Int) := Int.natCast_nonneg _
      have i1 : (j : Int) < (vs.length : Int) := by omega
      have i2 := HML.out
      go_upto_region 17 with fail
      have hown : OwnT ((wr.alloc (.cells #[.int .i64 1, .int .i64 vs[j], .slice none 0 0] 24)).alloc (.cells #[.int .i64 1, .int .i64 vs[j], .slice none 0 0] 24)) w6.heap.size u10 ((vs.take j).map var) := ownT_up (bA (bA (bZ wr) _) _) HR.out.1
      have hsrc : TrS ((wr.alloc (.cells #[.int .i64 1, .int .i64 vs[j], .slice none 0 0] 24)).alloc (.cells #[.int .i64 1, .int .i64 vs[j], .slice none 0 0] 24)) (fun b => wr.heap.size ≤ b ∧ b < ((wr.alloc (.cells #[.int .i64 1, .int .i64 vs[j], .slice none 0 0] 24)).alloc (.cells #[.int .i64 1, .int .i64 vs[j], .slice none 0 0] 24)).heap.size) [var vs[j]] (.slice (some ⟨wr.heap.size + 1, 0, none⟩) 1 1) :=
        trS_single (t := var vs[j]) (s := .slice none 0 0) (has_new (by simp)) ⟨by omega, by simp only [alloc_size]; omega⟩ (var_v _ _ (H6.out.2.2.2.2.2.2 _ (List.getElem_mem hlt)))
      have hlen : ((vs.take j).map var).length + [var vs[j]].length ≤ 1000000000 := by have := HML.out; simp; omega
      have hsz : w6.heap.size ≤ ((wr.alloc (.cells #[.int .i64 1, .int .i64 vs[j], .slice none 0 0] 24)).alloc (.cells #[.int .i64 1, .int .i64 vs[j], .slice none 0 0] 24)).heap.size := by have := HR.out.2.size; simp only [alloc_size]; omega
      have HO := Lib.hid (And.intro hown (And.intro hsrc (And.intro hlen hsz)))
      clear hown hsrc hlen hsz
      go_wp2_with (first
        | (go_at_call 31; refine (lvariable_any _ _).mono ?_; rintro e w7 ⟨rfl, rfl⟩)
        | (at_builtin; refine app_trees rfl _ _ rfl rfl rfl HO.out.1 HO.out.2.2.2 HO.out.2.1 (fun b hb => ⟨hb.2, ownT_far HR.out.1 hb.1⟩) (.inr ⟨_, _, _, rfl⟩) HO.out.2.2.1 ?_))
      intro v11 w11 hv11 hg11
      have hc11 : Below w6.heap.size w6 w11 := below_grown (below_next HR.out.2 (bA (bA (bZ wr) _) _)) (Nat.le_refl _) hg11 (ownT_base HR.out.1)
      have HF2 := Lib.hid (And.intro hv11 hc11)
      clear hv11 hg11 hc11
      go_wp2_with fail
      go_roundw
      case rel =>
        refine ⟨j + 1, by omega, by go_num, ?_, HF2.out.2⟩
        rw [List.take_succ_eq_append_getElem hlt, List.map_append, List.map_take]
        exact HF2.out.1
      case measure => simp [intOf]; omega
    · obtain rfl : j = vs.length := by omega
      have hback := HR.out.1
      rw [List.take_length] at hback
      have HBK := Lib.hid hback
      clear hback
      have hw := HR.out.2
      have HW := Lib.hid hw
      clear hw
      have hbks : ∀ W, Below wr.heap.size wr W → TrS W (· < W.heap.size) (vs.map var) (u10) := fun W hW => ownT_trS (ownT_up hW HBK.out)
      obtain ⟨ob, cb, bb, qb, rfl, -⟩ := ownT_trS HBK.out
      rw [List.length_map] at hbks ⊢
      have HBK2 := Lib.hid hbks
      clear hbks
      go_upto_region 20 with fail
      obtain ⟨y1, hy1⟩ : ∃ y, y = wr := ⟨_, rfl⟩
      subst hy1
      have hwy : Below w.heap.size w y1 := below_next H6.out.1 HW.out
      have hN6 : TrS y1 (· < y1.heap.size) N (.slice o3 l.length c3) := trS_up (below_next H6.out.2.1 HW.out) H3.out.1
      obtain ⟨oN, capN, bN, qN, eN, -, -, hoN, helN⟩ := trS_at hN6
      simp only [Value.slice.injEq] at eN
      obtain ⟨rfl, -, rfl⟩ := eN
      rw [HN2.out.2.2.2.2.2] at hoN
      have hbk : ∀ j (h : j < l.length) (h' : j < N.length), substE N[j] (vs.map var) = 0 ∧ substT (vs.map var) N[j] = l[j] := by
        intro j h h'
        have e : N[j] = numT vs l[j] := by
          have e1 := HG.out.2.1
          subst e1
          have e2 := HG.out.2.2
          subst e2
          exact List.getElem_map _
        have := nrm_back HG.out.1 (List.getElem_mem h)
        rw [HG.out.2.2] at this
        rw [e]; exact this
      have HZ := Lib.hid (And.intro hwy (And.intro hoN (And.intro helN hbk)))
      clear hwy hN6 hoN helN hbk
      go_wp2_with fail
      go_loopw [13, 93] (fun mv i wr => ∃ (j : Nat), j ≤ l.length ∧ i = .int .i64 j ∧ Hid ((∀ t ∈ l.take j, shiftE t 0 by_ = 0) ∧ OwnT wr y1.heap.size mv ((l.take j).map (shiftT 0 by_)) ∧ Below y1.heap.size y1 wr)) (fun _ i _ => l.length - (intOf i).toNat)
      case atStart => exact ⟨0, by omega, rfl, fun y h => absurd h (by simp), ownT_made0 (Nat.le_refl _), bA (bZ y1) _⟩
      case round =>
        obtain ⟨j, hj, rfl, HR2⟩ := hrel
        have hcr := below_next HZ.out.1 HR2.out.2.2
        by_cases hlt : j < l.length
        · obtain ⟨rfl, hQN⟩ := HZ.out.2.1 (by omega)
          have hltN : j < N.length := by rw [HN2.out.2.2.2.2.2]; exact hlt
          obtain ⟨oa2, cap2, e0, e1, e2, e3⟩ := HZ.out.2.2.1 j hltN
          have hbl := HR2.out.2.2.block bN hQN
          have d0 := (World.cell?_of_block (w := y1) (a := ⟨bN, qN + j * 3, none⟩) hbl).trans e0
          have d1 := (World.cell?_of_block (w := y1) (a := ⟨bN, qN + j * 3 + 1, none⟩) hbl).trans e1
          have d2 := (World.cell?_of_block (w := y1) (a := ⟨bN, qN + j * 3 + 2, none⟩) hbl).trans e2
          have htN := trV_up HR2.out.2.2 e3
          obtain ⟨rfl, hQb⟩ := HEL.out.1 (by omega)
          obtain ⟨oal, capl, a0, a1, a2, a3⟩ := HEL.out.2.1 j hlt
          have hla : ∀ W, Below wr.heap.size wr W → W.cell? ⟨b, o + j * 3, none⟩ = some (.int .i64 l[j].k) ∧ W.cell? ⟨b, o + j * 3 + 1, none⟩ = some (.int .i64 l[j].n) ∧ W.cell? ⟨b, o + j * 3 + 2, none⟩ = some (.slice oal l[j].l.length capl) ∧ TrV W (· < W.heap.size) l[j] (.agg #[.int .i64 l[j].k, .int .i64 l[j].n, .slice oal l[j].l.length capl]) := by
            intro W hW
            have hb := (below_next hcr hW).block b hQb
            exact ⟨(World.cell?_of_block (a := ⟨b, o + j * 3, none⟩) hb).trans a0, (World.cell?_of_block (a := ⟨b, o + j * 3 + 1, none⟩) hb).trans a1, (World.cell?_of_block (a := ⟨b, o + j * 3 + 2, none⟩) hb).trans a2, trV_up (below_next hcr hW) a3⟩
          have hsb := HZ.out.2.2.2 j hlt hltN
          have HLA := Lib.hid hla
          have HNJ := Lib.hid (And.intro htN hsb)
          clear e0 e1 e2 e3 hbl htN a0 a1 a2 a3 hla hsb
          have i0 : (0 : Int) ≤ (j : Int) := Int.natCast_nonneg _
          have i1 : (j : Int) < (l.length : Int) := by omega
          generalize N[j] = Nj at *
          go_upto_region 23 with fail
          generalize hw9 : wr.alloc _ = w9
          have hd9 : Below wr.heap.size wr w9 := by rw [← hw9]; exact bA (bZ wr) _
          have h9 : Has w9 wr.heap.size (.cells #[.int .i64 Nj.k, .int .i64 Nj.n, .slice oa2 Nj.l.length cap2] 24) := by rw [← hw9]; exact has_new rfl
          have t0 := (cells_of h9 0).1
          have t1 := (cells_of h9 1).1
          have t2 := (cells_of h9 2).1
          simp only [List.getElem?_toArray, List.getElem?_cons_zero, List.getElem?_cons_succ] at t0 t1 t2
          clear hw9 h9 d0 d1 d2
          go_wp2_with fail
          refine (subst_ok HNJ.out.2.1 HNJ.out.2.2 _ _ _ (trV_up hd9 HNJ.out.1) (HBK2.out _ (below_next HR2.out.2.2 hd9))).mono ?_
          rintro e w10 ⟨ox, cx, rfl, hx, hb10⟩
          have hd10 := below_next hd9 hb10
          have HX := Lib.hid (trV_new hx)
          clear hx hb10 t0 t1 t2
          go_upto_region 24 with fail
          generalize hwA : w10.alloc _ = wA
          have hdA : Below wr.heap.size wr wA := by rw [← hwA]; exact bA hd10 _
          have hA : Has wA w10.heap.size (.cells #[.int .i64 l[j].k, .int .i64 l[j].n, .slice ox l[j].l.length cx] 24) := by rw [← hwA]; exact has_new rfl
          have htA : TrV wA (· < wA.heap.size) l[j] (.agg #[.int .i64 l[j].k, .int .i64 l[j].n, .slice ox l[j].l.length cx]) := by rw [← hwA]; exact trV_up (bA (bZ w10) _) HX.out
          clear hwA
          generalize w10.heap.size = px at hA ⊢
          have HXA := Lib.hid (show ∀ W, Below wA.heap.size wA W → (W.cell? ⟨px, 0, none⟩ = some (.int .i64 l[j].k) ∧ W.cell? ⟨px, 1, none⟩ = some (.int .i64 l[j].n) ∧ W.cell? ⟨px, 2, none⟩ = some (.slice ox l[j].l.length cx) ∧ W.cell? ⟨b, o + j * 3, none⟩ = some (.int .i64 l[j].k) ∧ W.cell? ⟨b, o + j * 3 + 1, none⟩ = some (.int .i64 l[j].n) ∧ W.cell? ⟨b, o + j * 3 + 2, none⟩ = some (.slice oal l[j].l.length capl)) ∧ TrV W (· < W.heap.size) l[j] (.agg #[.int .i64 l[j].k, .int .i64 l[j].n, .slice ox l[j].l.length cx]) ∧ TrV W (· < W.heap.size) l[j] (.agg #[.int .i64 l[j].k, .int .i64 l[j].n, .slice oal l[j].l.length capl]) from fun W hW => by
            obtain ⟨a0, a1, a2, a3⟩ := HLA.out W (below_next hdA hW)
            have r := has_call hW hA
            exact ⟨⟨(cells_of r 0).1, (cells_of r 1).1, (cells_of r 2).1, a0, a1, a2⟩, trV_up hW htA, a3⟩)
          have HDA := Lib.hid hdA
          clear hA htA hdA hd10 hd9
          go_cut [114] from 104 to 113 (fun a wx => a = .bool false ∧ Hid (Below wA.heap.size wA wx))
          case first =>
            go_region_held3 (fun W => W.cell? ⟨px, 0, none⟩ = some (.int .i64 l[j].k) ∧ W.cell? ⟨px, 1, none⟩ = some (.int .i64 l[j].n) ∧ W.cell? ⟨px, 2, none⟩ = some (.slice ox l[j].l.length cx) ∧ W.cell? ⟨b, o + j * 3, none⟩ = some (.int .i64 l[j].k) ∧ W.cell? ⟨b, o + j * 3 + 1, none⟩ = some (.int .i64 l[j].n) ∧ W.cell? ⟨b, o + j * 3 + 2, none⟩ = some (.slice oal l[j].l.length capl)) (first | (refine (HXA.out _ ?_).1; (repeat (first | with_reducible assumption | with_reducible exact bZ _ | with_reducible apply bA | with_reducible apply bD)); done)) (first
              | (go_at_call 18; (with_reducible refine (rsame_q ((eqT_iff l[j] l[j]).2 rfl) _ _ _ ?_ ?_).mono ?_); (focus (exact (HXA.out _ (show Below wA.heap.size wA _ from by (repeat (first | with_reducible assumption | with_reducible exact bZ _ | with_reducible apply bA | with_reducible apply bD)))).2.1)); (focus (exact (HXA.out _ (show Below wA.heap.size wA _ from by (repeat (first | with_reducible assumption | with_reducible exact bZ _ | with_reducible apply bA | with_reducible apply bD)))).2.2)); rintro e wz ⟨rfl, hbz⟩; have hcz := below_next (show Below wA.heap.size wA _ from by (repeat (first | with_reducible assumption | with_reducible exact bZ _ | with_reducible apply bA | with_reducible apply bD))) hbz; clear hbz))
            all_goals
              go_wp2_with fail
              go_meet
              exact ⟨rfl, (show Below wA.heap.size wA _ from by (repeat (first | with_reducible assumption | with_reducible exact bZ _ | with_reducible apply bA | with_reducible apply bD)))⟩
          case rest =>
            obtain ⟨rfl, HB24⟩ := hcut
            obtain ⟨v24, hv24⟩ : ∃ v, v = wc := ⟨_, rfl⟩
            subst hv24
            have hd24 : Below wr.heap.size wr v24 := below_next HDA.out HB24.out
            obtain ⟨a0, a1, a2, a3⟩ := HLA.out _ hd24
            have H24 := Lib.hid a3
            clear a3
            by_cases hE : shiftE l[j] 0 by_ = 0
            · obtain ⟨Y, hY⟩ : ∃ Y, shiftT 0 by_ l[j] = Y := ⟨_, rfl⟩
              have HE := Lib.hid (And.intro hE hY)
              clear hE hY
              go_wp2_with fail
              refine (shift_y HE.out.1 HE.out.2 _ (by unfold inI; omega) HEL.out.2.2 _ H24.out).mono ?_
              rintro e w14 ⟨oy, cy, rfl, hy, hb14⟩
              have hd14 := below_next hd24 hb14
              have HYV := Lib.hid (And.intro hy hd14)
              clear hy hb14 a0 a1 a2
              have hown : OwnT ((w14.alloc (.cells #[.int .i64 Y.k, .int .i64 Y.n, .slice oy Y.l.length cy] 24)).alloc (.cells #[.int .i64 Y.k, .int .i64 Y.n, .slice oy Y.l.length cy] 24)) y1.heap.size u13 ((l.take j).map (shiftT 0 by_)) := ownT_up (bA (bA HYV.out.2 _) _) HR2.out.2.1
              have hsrc : TrS ((w14.alloc (.cells #[.int .i64 Y.k, .int .i64 Y.n, .slice oy Y.l.length cy] 24)).alloc (.cells #[.int .i64 Y.k, .int .i64 Y.n, .slice oy Y.l.length cy] 24)) (fun b => wr.heap.size ≤ b ∧ b < ((w14.alloc (.cells #[.int .i64 Y.k, .int .i64 Y.n, .slice oy Y.l.length cy] 24)).alloc (.cells #[.int .i64 Y.k, .int .i64 Y.n, .slice oy Y.l.length cy] 24)).heap.size) [Y] (.slice (some ⟨w14.heap.size + 1, 0, none⟩) 1 1) :=
                trS_single (has_new (by simp)) ⟨by have := HYV.out.2.size; omega, by simp only [alloc_size]; omega⟩ (trV_mono (fun b hb => ⟨by have := hb.1; have := hd24.size; omega, by have := hb.2; simp only [alloc_size]; omega⟩) (fun b hb => (bA (bA (bZ w14) _) _).block b hb.2) _ HYV.out.1)
              have hlen : ((l.take j).map (shiftT 0 by_)).length + [Y].length ≤ 1000000000 := by have := HF.out.1; have := len_szL l; simp; omega
              have hsz : y1.heap.size ≤ ((w14.alloc (.cells #[.int .i64 Y.k, .int .i64 Y.n, .slice oy Y.l.length cy] 24)).alloc (.cells #[.int .i64 Y.k, .int .i64 Y.n, .slice oy Y.l.length cy] 24)).heap.size := by have := HR2.out.2.2.size; have := HYV.out.2.size; simp only [alloc_size]; omega
              have HO := Lib.hid (And.intro hown (And.intro hsrc (And.intro hlen hsz)))
              clear hown hsrc hlen hsz
              have i2 : l.length ≤ 6000 := by have := HF.out.1; have := len_szL l; omega
              go_wp2_with (at_builtin; refine app_trees rfl _ _ rfl rfl rfl HO.out.1 HO.out.2.2.2 HO.out.2.1 (fun b hb => ⟨hb.2, ownT_far HR2.out.2.1 hb.1⟩) (.inr ⟨_, _, _, rfl⟩) HO.out.2.2.1 ?_)
              intro v11 w11 hv11 hg11
              have hc11 : Below y1.heap.size y1 w11 := below_grown (below_next HR2.out.2.2 (bA (bA HYV.out.2 _) _)) (Nat.le_refl _) hg11 (ownT_base HR2.out.2.1)
              have HF2 := Lib.hid (And.intro hv11 hc11)
              clear hv11 hg11 hc11
              go_wp2_with fail
              go_roundw
              case rel =>
                refine ⟨j + 1, by omega, by go_num, ?_, ?_, HF2.out.2⟩
                · intro t ht
                  rw [List.take_succ_eq_append_getElem hlt] at ht
                  rcases List.mem_append.1 ht with ht | ht
                  · exact HR2.out.1 t ht
                  · rw [List.mem_singleton.1 ht]; exact HE.out.1
                · have hf := HF2.out.1
                  rw [← HE.out.2] at hf
                  rw [List.take_succ_eq_append_getElem hlt, List.map_append, List.map_take]
                  exact hf
              case measure => simp [intOf]; omega
            · obtain ⟨ne, hne⟩ : ∃ ne, shiftE l[j] 0 by_ = ne := ⟨_, rfl⟩
              have hn1 : ne = 1 := by rw [← hne]; exact shiftE_one (List.all_eq_true.1 HG.out.1 _ (List.getElem_mem hlt)) hE
              subst hn1
              have HN := Lib.hid hne
              clear hE hne
              go_wp2_with fail
              refine (shift_n HN.out (by decide) _ (by unfold inI; omega) HEL.out.2.2 _ H24.out).mono ?_
              rintro e w14 ⟨rfl, hb14⟩
              have hd14 := below_next hcr (below_next hd24 hb14)
              clear hb14 a0 a1 a2 hd24
              go_wp2_with fail
              go_ret
              exact ⟨rfl, (show Below w.heap.size w _ from by (repeat (first | with_reducible assumption | with_reducible exact bZ _ | with_reducible apply bA | with_reducible apply bD)))⟩
        · obtain rfl : j = l.length := by omega
          obtain ⟨hr1, hr2, hr3⟩ := HR2.out
          rw [List.take_length] at hr1 hr2
          obtain ⟨M, hM⟩ : ∃ M, l.map (shiftT 0 by_) = M := ⟨_, rfl⟩
          obtain ⟨g1, g2⟩ := nrm_shift HG.out.1 hr1
          rw [hM] at g1 g2 hr2
          rw [HG.out.2.1] at g2
          have g3 : szL M ≤ 1000000000 := by
            have h1 := szL_all (h := shiftN 0 by_) HG.out.1
            rw [show l.map (ren (shiftN 0 by_)) = M from hM] at h1
            have := HF.out.1
            omega
          have HMM := Lib.hid (And.intro g1 (And.intro g2 (And.intro g3 (And.intro (ownT_trS hr2) hr3))))
          clear hr1 hr2 hr3 hM g1 g2 g3
          go_wp2_with fail
          refine (normal_ok HMM.out.1 HMM.out.2.1 _ _ HMM.out.2.2.2.1 HMM.out.2.2.1).mono ?_
          rintro e w20 ⟨o20, c20, o21, c21, rfl, ht20, hi20, hb20⟩
          have hc20 := below_next HMM.out.2.2.2.2 hb20
          have HT20 := Lib.hid ht20
          clear hb20 ht20 hi20
          go_wp2_with fail
          refine (all_q (rfl : N = N) _ _ _ HT20.out (trS_up (below_next H6.out.2.1 (below_next HW.out hc20)) H3.out.1)).mono ?_
          rintro e w21 ⟨rfl, hb21⟩
          have hc21 := below_next hc20 hb21
          clear hb21 hc20
          go_wp2_with fail
          go_ret
          exact ⟨rfl, below_next HZ.out.1 hc21⟩
end Go.Proofs.Ytapdfdjknehhgaa
