/- SigBehind: true at every tree and lists (not too long). -/
import Derived.Test.YtapdfdjknehhgaaLc
import Derived.Test.YtapdfdjknehhgaaBehP
namespace Go.Proofs.Ytapdfdjknehhgaa
open Go.RowKit Go.Tr

set_option maxRecDepth 100000 in
set_option maxHeartbeats 4000000 in
theorem SigBehind_any (T : Tm) (l m : List Tm) (vt vl vm : Value) (w : World) (ht : TrV w (· < w.heap.size) T vt) (hl : TrS w (· < w.heap.size) l vl) (hm : TrS w (· < w.heap.size) m vm) (nl : NilS vl) (nm : NilS vm) (hlen : l.length + m.length ≤ 900000000) :
    Calls Try.prog 7 #[vt, vl, vm] w fun e w' => e = .returned (.bool true) ∧ Below w.heap.size w w' := by
  obtain ⟨k, n, lt⟩ := T
  generalize hA : Tm.node k n lt = T at *
  obtain ⟨sa, rfl⟩ := node_w (hA.symm ▸ ht)
  obtain ⟨oa, cap, b, o, rfl, hlc, hcm, hoa, hel⟩ := trS_at hl
  have HI := Lib.hid (And.intro ht (And.intro hl hm))
  have HL := Lib.hid (And.intro nl (And.intro nm hlen))
  have HEL := Lib.hid (And.intro hoa hel)
  clear ht hl hm nl nm hlen hoa hel
  go_enter Try.func7, Try.ntmps7
  go_wp2_with fail
  generalize hW : w.alloc _ = w0
  have hbw : Below w.heap.size w w0 := by rw [← hW]; exact bA (bZ w) _
  have h0 : Has w0 w.heap.size (.cells #[.int .i64 k, .int .i64 n, sa] 24) := by rw [← hW]; exact has_new rfl
  clear hW
  have HT := Lib.hid (show ∀ W, Below w0.heap.size w0 W → TrV W (· < W.heap.size) T (.agg #[.int .i64 k, .int .i64 n, sa]) ∧ TrS W (· < W.heap.size) l (.slice oa l.length cap) ∧ TrS W (· < W.heap.size) m vm ∧ TrS W (· < w0.heap.size) l (.slice oa l.length cap) ∧ TrS W (· < w0.heap.size) m vm from
    fun W hW => ⟨trV_up (below_next hbw hW) HI.out.1, trS_up (below_next hbw hW) HI.out.2.1, trS_up (below_next hbw hW) HI.out.2.2, trS_mono (fun _ h => h) (fun b h => hW.block b h) (trS_up hbw HI.out.2.1), trS_mono (fun _ h => h) (fun b h => hW.block b h) (trS_up hbw HI.out.2.2)⟩)
  have hQ : ∀ W, Below w0.heap.size w0 W → W.cell? ⟨w.heap.size, 0, none⟩ = some (.int .i64 k) ∧ W.cell? ⟨w.heap.size, 1, none⟩ = some (.int .i64 n) ∧ W.cell? ⟨w.heap.size, 2, none⟩ = some sa := by
    intro W hW
    have r0 := has_call hW h0
    exact ⟨(cells_of r0 0).1, (cells_of r0 1).1, (cells_of r0 2).1⟩
  have HEW := Lib.hid (show ∀ W, Below w0.heap.size w0 W → ∀ b', b' < w.heap.size → W.heap[b']? = w.heap[b']? from fun W hW b' hb' => (below_next hbw hW).block b' hb')
  generalize hpa : w.heap.size = pa at hQ ⊢
  clear h0
  have HW := Lib.hid (And.intro hbw hpa)
  have HQ := Lib.hid hQ
  clear hQ hbw hpa
  refine (sane_any _).mono ?_
  rintro e w1 ⟨rfl, hb1⟩
  obtain ⟨s0, s1, s2⟩ := HQ.out _ hb1
  go_wp2_with (at_builtin; refine app_trees rfl _ _ rfl rfl rfl (ownT_one (B := w0.heap.size) (t := T) hb1.size (HT.out _ hb1).1) (by rw [alloc_size]; have := hb1.size; omega) (HT.out _ (bA hb1 _)).2.2.2.1 (fun b hb => ⟨by rw [alloc_size]; have := hb1.size; omega, fun e => by have : w1.heap.size = b := Option.some.inj e; have := hb1.size; omega⟩) HL.out.1 (by have := HL.out.2.2; simp; omega) ?_)
  intro v1 w2 hv1 hg2
  have hc2 := below_grown (bA hb1 _) (Nat.le_refl _) hg2 (fun g hg => by have e : w1.heap.size = g := Option.some.inj hg; have := hb1.size; omega)
  have HV1 := Lib.hid hv1
  clear s0 s1 s2 hg2 hv1
  go_wp2_with (at_builtin; refine app_trees rfl _ _ rfl rfl rfl HV1.out hc2.size (HT.out _ hc2).2.2.2.2 (fun b hb => ⟨Nat.lt_of_lt_of_le hb hc2.size, fun e => by have := ownT_base HV1.out b e; omega⟩) HL.out.2.1 (by have := HL.out.2.2; simp; omega) ?_)
  intro v2 w3 hv2 hg3
  have hc3 := below_grown hc2 (Nat.le_refl _) hg3 (ownT_base HV1.out)
  have HV2 := Lib.hid hv2
  clear hg3 hv2 hc2
  go_wp2_with fail
  refine (few_any ([T] ++ l ++ m) _ _ (ownT_trS HV2.out)).mono ?_
  rintro e w4 ⟨rfl, hb4⟩
  have hc4 := below_next hc3 hb4
  clear hb4 hc3 HV1 HV2
  generalize few ([T] ++ l ++ m) = fq
  obtain ⟨s0, s1, s2⟩ := HQ.out _ hc4
  cases fq
  · go_wp2_with fail
    go_ret
    exact ⟨rfl, below_next HW.out.1 hc4⟩
  obtain ⟨qm, hqm⟩ : ∃ q, m.all good = q := ⟨_, rfl⟩
  go_wp2_with fail
  refine (RAll_any m _ _ (HT.out _ hc4).2.2.1).mono ?_
  rintro e w5 ⟨rfl, hb5⟩
  have hc5 := below_next hc4 hb5
  clear hb5 s0 s1 s2
  rw [hqm]
  obtain ⟨s0, s1, s2⟩ := HQ.out _ hc5
  cases qm
  · go_wp2_with fail
    go_ret
    exact ⟨rfl, below_next HW.out.1 hc5⟩
  have HM := Lib.hid hqm
  clear hqm
  go_upto_region 5 with fail
  by_cases hE : substE T l = 0
  rotate_left
  · obtain ⟨ne, hne⟩ : ∃ ne, substE T l = ne := ⟨_, rfl⟩
    have hn0 : ne ≠ 0 := by rw [← hne]; exact hE
    have HN := Lib.hid (And.intro hne hn0)
    clear hE hne
    go_wp2_with fail
    refine (subst_no HN.out.1 HN.out.2 _ _ _ (HT.out _ hc5).1 (HT.out _ hc5).2.1).mono ?_
    rintro e w6 ⟨rfl, hb6⟩
    have hc6 := below_next hc5 hb6
    clear hb6
    go_wp2_with fail
    go_ret
    exact ⟨rfl, below_next HW.out.1 (show Below w0.heap.size w0 _ from by (repeat (first | with_reducible assumption | with_reducible exact bZ _ | with_reducible apply bA | with_reducible apply bD)))⟩
  obtain ⟨X, hX⟩ : ∃ X, substT l T = X := ⟨_, rfl⟩
  have HE := Lib.hid (And.intro hE hX)
  clear hE hX
  go_wp2_with fail
  refine (subst_ok HE.out.1 HE.out.2 _ _ _ (HT.out _ hc5).1 (HT.out _ hc5).2.1).mono ?_
  rintro e w6 ⟨ox, cx, rfl, hx6, hb6⟩
  have hc6 := below_next hc5 hb6
  have HX6 := Lib.hid (trV_new hx6)
  clear hb6 hx6 s0 s1 s2
  go_upto_region 8 with fail
  generalize hw7 : w6.alloc _ = w7
  have hc7 : Below w0.heap.size w0 w7 := by rw [← hw7]; exact bA hc6 _
  have hx7 : TrV w7 (· < w7.heap.size) X (.agg #[.int .i64 X.k, .int .i64 X.n, .slice ox X.l.length cx]) := by rw [← hw7]; exact trV_up (bA (bZ w6) _) HX6.out
  have h7 : Has w7 w6.heap.size (.cells #[.int .i64 X.k, .int .i64 X.n, .slice ox X.l.length cx] 24) := by rw [← hw7]; exact has_new rfl
  have hpb : w0.heap.size ≤ w6.heap.size := hc6.size
  have hpb7 : w6.heap.size < w7.heap.size := has_lt h7
  clear hw7 hc5 hc6 HX6
  generalize w6.heap.size = pb at h7 hpb hpb7 ⊢
  have q0 := (cells_of h7 0).1
  have q1 := (cells_of h7 1).1
  have q2 := (cells_of h7 2).1
  simp only [List.getElem?_toArray, List.getElem?_cons_zero, List.getElem?_cons_succ] at q0 q1 q2
  have HX7 := Lib.hid (And.intro hx7 (And.intro h7 (And.intro hpb hpb7)))
  clear hx7 h7 hpb hpb7
  obtain ⟨e2, he2⟩ : ∃ e2, substE X m = e2 := ⟨_, rfl⟩
  obtain ⟨X2, hX2⟩ : ∃ X2, substZ X m = X2 := ⟨_, rfl⟩
  have HE2 := Lib.hid (And.intro he2 hX2)
  clear he2 hX2
  go_wp2_with fail
  refine (subst_z HE2.out.1 HE2.out.2 _ _ _ HX7.out.1 (HT.out _ hc7).2.2.1).mono ?_
  rintro e w8 ⟨o8, c8, rfl, hx8, hb8⟩
  have hc8 := below_next hc7 hb8
  have h8 := has_call hb8 HX7.out.2.1
  have r0 := (cells_of h8 0)
  have r1 := (cells_of h8 1)
  have r2 := (cells_of h8 2)
  simp only [List.getElem?_toArray, List.getElem?_cons_zero, List.getElem?_cons_succ] at r0 r1 r2
  have HX8 := Lib.hid (And.intro hx8 (And.intro hb8 h8))
  clear hx8 hb8 h8 q0 q1 q2
  go_upto_region 9 with fail
  have hy := three_set (a' := .int .i64 X2.k) (b' := .int .i64 X2.n) (c' := .slice o8 X2.l.length c8) HX8.out.2.2
  have hty : TrV (((w8.setCell ⟨pb, 0, none⟩ (.int .i64 X2.k)).setCell ⟨pb, 1, none⟩ (.int .i64 X2.n)).setCell ⟨pb, 2, none⟩ (.slice o8 X2.l.length c8)) (· < (((w8.setCell ⟨pb, 0, none⟩ (.int .i64 X2.k)).setCell ⟨pb, 1, none⟩ (.int .i64 X2.n)).setCell ⟨pb, 2, none⟩ (.slice o8 X2.l.length c8)).heap.size) X2 (.agg #[.int .i64 X2.k, .int .i64 X2.n, .slice o8 X2.l.length c8]) :=
    trV_mono (fun b hb => by have := hb.2; simpa [World.setCell] using this) (fun b hb => by
      have hne : b ≠ pb := by have h1 := hb.1; have := HX7.out.2.2.2; omega
      rw [Below.heap_setCell _ _ _ _ hne, Below.heap_setCell _ _ _ _ hne, Below.heap_setCell _ _ _ _ hne]) _ HX8.out.1
  have hpbn := HX7.out.2.2.1
  have hcy : Below w0.heap.size w0 (((w8.setCell ⟨pb, 0, none⟩ (.int .i64 X2.k)).setCell ⟨pb, 1, none⟩ (.int .i64 X2.n)).setCell ⟨pb, 2, none⟩ (.slice o8 X2.l.length c8)) :=
    ((hc8.setCell (p := ⟨pb, 0, none⟩) (by simp only; omega) _).setCell (p := ⟨pb, 1, none⟩) (by simp only; omega) _).setCell (p := ⟨pb, 2, none⟩) (by simp only; omega) _
  generalize (((w8.setCell ⟨pb, 0, none⟩ (.int .i64 X2.k)).setCell ⟨pb, 1, none⟩ (.int .i64 X2.n)).setCell ⟨pb, 2, none⟩ (.slice o8 X2.l.length c8)) = y0 at *
  have HY := Lib.hid (And.intro hcy (show ∀ W, Below y0.heap.size y0 W → TrV W (· < W.heap.size) X2 (.agg #[.int .i64 X2.k, .int .i64 X2.n, .slice o8 X2.l.length c8]) ∧ Has W pb (.cells #[.int .i64 X2.k, .int .i64 X2.n, .slice o8 X2.l.length c8] 24) from fun W hW => ⟨trV_up hW hty, has_call hW hy⟩))
  clear hy hty hpbn hcy r0 r1 r2 HX8 hc8 hc7
  go_wp2_with fail
  go_loopw [9, 48] (fun both i wr => ∃ (j : Nat), j ≤ l.length ∧ i = .int .i64 j ∧ Hid ((∀ y ∈ l.take j, substE y m = 0) ∧ OwnT wr y0.heap.size both ((l.take j).map (substT m)) ∧ Below y0.heap.size y0 wr)) (fun _ i _ => l.length - (intOf i).toNat)
  case atStart =>
    exact ⟨0, by omega, rfl, fun y h => absurd h (by simp), ownT_made0 (Nat.le_refl _), bA (bZ y0) _⟩
  case round =>
    obtain ⟨j, hj, rfl, HR⟩ := hrel
    have hcr := below_next HY.out.1 HR.out.2.2
    by_cases hlt : j < l.length
    · obtain ⟨rfl, hQb⟩ := HEL.out.1 (by omega)
      obtain ⟨oa2, cap2, e0, e1, e2', e3⟩ := HEL.out.2 j hlt
      have hbl := HEW.out _ hcr b hQb
      have d0 := (World.cell?_of_block (w := w) (a := ⟨b, o + j * 3, none⟩) hbl).trans e0
      have d1 := (World.cell?_of_block (w := w) (a := ⟨b, o + j * 3 + 1, none⟩) hbl).trans e1
      have d2 := (World.cell?_of_block (w := w) (a := ⟨b, o + j * 3 + 2, none⟩) hbl).trans e2'
      have hlj : TrV wr (· < wr.heap.size) l[j] (.agg #[.int .i64 l[j].k, .int .i64 l[j].n, .slice oa2 l[j].l.length cap2]) := trV_up (below_next HW.out.1 hcr) e3
      have HJ := Lib.hid hlj
      clear e0 e1 e2' e3 hbl hlj
      have i0 : (0 : Int) ≤ (j : Int) := Int.natCast_nonneg _
      have i1 : (j : Int) < (l.length : Int) := by omega
      go_upto_region 13 with fail
      generalize hw9 : wr.alloc _ = w9
      have hd9 : Below wr.heap.size wr w9 := by rw [← hw9]; exact bA (bZ wr) _
      have h9 : Has w9 wr.heap.size (.cells #[.int .i64 l[j].k, .int .i64 l[j].n, .slice oa2 l[j].l.length cap2] 24) := by rw [← hw9]; exact has_new rfl
      have t0 := (cells_of h9 0).1
      have t1 := (cells_of h9 1).1
      have t2 := (cells_of h9 2).1
      simp only [List.getElem?_toArray, List.getElem?_cons_zero, List.getElem?_cons_succ] at t0 t1 t2
      have hlj9 := trV_up hd9 HJ.out
      have hm9 := (HT.out _ (below_next hcr hd9)).2.2.1
      have HJ9 := Lib.hid (And.intro hlj9 hm9)
      clear hw9 h9 hlj9 hm9 d0 d1 d2
      by_cases hE : substE l[j] m = 0
      · obtain ⟨Z, hZ⟩ : ∃ Z, substT m l[j] = Z := ⟨_, rfl⟩
        have HZ := Lib.hid (And.intro hE hZ)
        clear hE hZ
        go_wp2_with fail
        refine (subst_ok HZ.out.1 HZ.out.2 _ _ _ HJ9.out.1 HJ9.out.2).mono ?_
        rintro e w10 ⟨oz, cz, rfl, hz, hb10⟩
        have hd10 := below_next hd9 hb10
        have HZV := Lib.hid (And.intro hz hd10)
        clear hz hb10 t0 t1 t2
        have hown : OwnT ((w10.alloc (.cells #[.int .i64 Z.k, .int .i64 Z.n, .slice oz Z.l.length cz] 24)).alloc (.cells #[.int .i64 Z.k, .int .i64 Z.n, .slice oz Z.l.length cz] 24)) y0.heap.size u9 ((l.take j).map (substT m)) := ownT_up (bA (bA hd10 _) _) HR.out.2.1
        have hsrc : TrS ((w10.alloc (.cells #[.int .i64 Z.k, .int .i64 Z.n, .slice oz Z.l.length cz] 24)).alloc (.cells #[.int .i64 Z.k, .int .i64 Z.n, .slice oz Z.l.length cz] 24)) (fun b => wr.heap.size ≤ b ∧ b < ((w10.alloc (.cells #[.int .i64 Z.k, .int .i64 Z.n, .slice oz Z.l.length cz] 24)).alloc (.cells #[.int .i64 Z.k, .int .i64 Z.n, .slice oz Z.l.length cz] 24)).heap.size) [Z] (.slice (some ⟨w10.heap.size + 1, 0, none⟩) 1 1) :=
          trS_single (has_new (by simp)) ⟨by have := hd10.size; omega, by simp only [alloc_size]; omega⟩ (trV_mono (fun b hb => ⟨by have := hb.1; have := hd9.size; omega, by have := hb.2; simp only [alloc_size]; omega⟩) (fun b hb => (bA (bA (bZ w10) _) _).block b hb.2) _ HZV.out.1)
        have HO := Lib.hid (And.intro hown hsrc)
        have hlen : ((l.take j).map (substT m)).length + [Z].length ≤ 1000000000 := by have := HL.out.2.2; simp; omega
        have hsz : y0.heap.size ≤ ((w10.alloc (.cells #[.int .i64 Z.k, .int .i64 Z.n, .slice oz Z.l.length cz] 24)).alloc (.cells #[.int .i64 Z.k, .int .i64 Z.n, .slice oz Z.l.length cz] 24)).heap.size := by have := HR.out.2.2.size; have := hd10.size; simp only [alloc_size]; omega
        have HLN := Lib.hid (And.intro hlen hsz)
        clear hown hsrc hlen hsz
        go_wp2_with (at_builtin; refine app_trees rfl _ _ rfl rfl rfl HO.out.1 HLN.out.2 HO.out.2 (fun b hb => ⟨hb.2, ownT_far HR.out.2.1 hb.1⟩) (.inr ⟨_, _, _, rfl⟩) HLN.out.1 ?_)
        intro v11 w11 hv11 hg11
        have hc11 : Below y0.heap.size y0 w11 := below_grown (below_next HR.out.2.2 (bA (bA hd10 _) _)) (Nat.le_refl _) hg11 (ownT_base HR.out.2.1)
        have HF := Lib.hid (And.intro hv11 hc11)
        clear hv11 hg11 hc11 hd9 hd10
        go_wp2_with fail
        go_roundw
        case rel =>
          refine ⟨j + 1, by omega, by go_num, ?_, ?_, HF.out.2⟩
          · intro y hy
            rw [List.take_succ_eq_append_getElem hlt] at hy
            rcases List.mem_append.1 hy with hy | hy
            · exact HR.out.1 y hy
            · rw [List.mem_singleton.1 hy]; exact HZ.out.1
          · have hf := HF.out.1
            rw [← HZ.out.2] at hf
            rw [List.take_succ_eq_append_getElem hlt, List.map_append, List.map_take]
            exact hf
        case measure => simp [intOf]; omega
      · obtain ⟨ne, hne⟩ : ∃ ne, substE l[j] m = ne := ⟨_, rfl⟩
        have hn0 : ne ≠ 0 := by rw [← hne]; exact hE
        have HN := Lib.hid (And.intro hne hn0)
        clear hE hne
        go_wp2_with fail
        refine (subst_no HN.out.1 HN.out.2 _ _ _ HJ9.out.1 HJ9.out.2).mono ?_
        rintro e w10 ⟨rfl, hb10⟩
        have hd10 := below_next hcr (below_next hd9 hb10)
        clear hb10 t0 t1 t2 hd9
        go_wp2_with fail
        go_ret
        exact ⟨rfl, below_next HW.out.1 (show Below w0.heap.size w0 _ from by (repeat (first | with_reducible assumption | with_reducible exact bZ _ | with_reducible apply bA | with_reducible apply bD)))⟩
    · obtain rfl : j = l.length := by omega
      obtain ⟨s0, s1, s2⟩ := HQ.out _ hcr
      obtain ⟨hB1, hB2⟩ := behind_same HE.out.1 HM.out (fun y hy => HR.out.1 y (by rw [List.take_length]; exact hy))
      rw [HE.out.2] at hB1 hB2
      have he3 : substE T (l.map (substT m)) = e2 := by rw [← hB1]; exact HE2.out.1
      have hx3 : substZ T (l.map (substT m)) = X2 := by rw [← substZ_eq hB1 hB2]; exact HE2.out.2
      have hown := HR.out.2.1
      rw [List.take_length] at hown
      have H3 := Lib.hid (And.intro he3 (And.intro hx3 (ownT_trS hown)))
      clear hB1 hB2 he3 hx3 hown
      go_wp2_with fail
      refine (subst_z H3.out.1 H3.out.2.1 _ _ _ (HT.out _ hcr).1 H3.out.2.2).mono ?_
      rintro e w12 ⟨o12, c12, rfl, hx12, hb12⟩
      have hd12 := below_next HR.out.2.2 hb12
      have hq := fun o => HY.out.2 _ (bA hd12 o)
      have q0 : ∀ o, (w12.alloc o).cell? ⟨pb, 0, none⟩ = some (.int .i64 X2.k) := fun o => (cells_of (hq o).2 0).1
      have q1 : ∀ o, (w12.alloc o).cell? ⟨pb, 1, none⟩ = some (.int .i64 X2.n) := fun o => (cells_of (hq o).2 1).1
      have q2 : ∀ o, (w12.alloc o).cell? ⟨pb, 2, none⟩ = some (.slice o8 X2.l.length c8) := fun o => (cells_of (hq o).2 2).1
      have H12 := Lib.hid (And.intro (trV_new hx12) hd12)
      clear hx12 hb12 hd12 hq s0 s1 s2
      go_wp2_with fail
      refine (rsame_q ((eqT_iff X2 X2).2 rfl) _ _ _ ?_ ?_).mono ?_
      · exact (HY.out.2 _ (bA H12.out.2 _)).1
      · exact trV_up (show Below w12.heap.size w12 _ from by (repeat (first | with_reducible assumption | with_reducible exact bZ _ | with_reducible apply bA | with_reducible apply bD))) H12.out.1
      rintro e w13 ⟨rfl, hb13⟩
      have hc13 := below_next HY.out.1 (below_next (bA H12.out.2 _) hb13)
      clear hb13
      go_wp2_with fail
      go_ret
      exact ⟨rfl, below_next HW.out.1 hc13⟩
end Go.Proofs.Ytapdfdjknehhgaa
