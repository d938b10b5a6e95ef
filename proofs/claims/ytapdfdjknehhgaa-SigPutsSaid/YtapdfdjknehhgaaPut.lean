/- Put. -/
import Derived.Test.YtapdfdjknehhgaaLoc
namespace Go.Proofs.Ytapdfdjknehhgaa
open Go.RowKit Go.Tr

def PutR (t : Tm) (l : List Int) (u : Tm) (w : World) (e : Ending) (w' : World) : Prop :=
  Below w.heap.size w w' ∧ (((good t && good u) = false ∧ e = .returned (.tuple #[vzero, .int .i64 4])) ∨ ((good t && good u) = true ∧
    ((nodeT t l = none ∧ e = .returned (.tuple #[vzero, .int .i64 41])) ∨ ∃ x, nodeT t l = some x ∧
      ((good (putT t l u) = false ∧ e = .returned (.tuple #[vzero, .int .i64 2])) ∨ (good (putT t l u) = true ∧ ∃ v', e = .returned (.tuple #[v', .int .i64 0]) ∧ TrV w' (Nw w w') (putT t l u) v')))))
set_option maxRecDepth 100000 in
set_option maxHeartbeats 800000 in
theorem Put_any (t : Tm) (l : List Int) (u : Tm) (vt s vu : Value) (w : World) (hvt : TrV w (· < w.heap.size) t vt) (hs : IntS w (· < w.heap.size) l s) (hl : ∀ n ∈ l, inI n) (hvu : TrV w (· < w.heap.size) u vu) :
    Calls Try.prog 35 #[vt, s, vu] w (PutR t l u w) := by
  obtain ⟨sl, rfl, hpk, hpn, hsl⟩ := trV_iff.1 hvt
  obtain ⟨oa, cap, b, o, rfl, hlc, hcm, -, -⟩ := trS_at hsl
  obtain ⟨sl', rfl, -, -, hsl'⟩ := trV_iff.1 hvu
  obtain ⟨oa', cap', b', o', rfl, hlc', hcm', -, -⟩ := trS_at hsl'
  have HH := Lib.hid (And.intro hvt (And.intro hs (And.intro hl hvu)))
  clear hvt hs hl hvu hsl hsl' hpk hpn
  go_enter Try.func35, Try.ntmps35
  go_wp2_with fail
  generalize hW : ((w.alloc _).alloc _).alloc _ = w0
  have hbw : Below w.heap.size w w0 := by rw [← hW]; exact bA (bA (bA (bZ w) _) _) _
  have h0 : Has w0 w.heap.size (.cells #[.int .i64 t.k, .int .i64 t.n, .slice oa t.l.length cap] 24) := by rw [← hW]; show _ = _; (simp only [heap_alloc, alloc_size]; repeat (first | rw [if_pos trivial] | rw [if_pos (by omega)] | rw [if_neg (by omega)]))
  have h1 : Has w0 (w.heap.size + 1) (.cells #[.int .i64 u.k, .int .i64 u.n, .slice oa' u.l.length cap'] 24) := by rw [← hW]; show _ = _; (simp only [heap_alloc, alloc_size]; repeat (first | rw [if_pos trivial] | rw [if_pos (by omega)] | rw [if_neg (by omega)]))
  have h2 : Has w0 (w.heap.size + 1 + 1) (.cells #[.int .i64 0, .int .i64 0, .slice none 0 0] 24) := by rw [← hW]; show _ = _; (simp only [heap_alloc, alloc_size]; repeat (first | rw [if_pos trivial] | rw [if_pos (by omega)] | rw [if_neg (by omega)]))
  have hsz : w.heap.size + 1 + 1 + 1 = w0.heap.size := by rw [← hW]; simp
  clear hW
  rw [hsz]
  have HT := Lib.hid (show ∀ W, Below w0.heap.size w0 W → TrV W (· < W.heap.size) t (.agg #[.int .i64 t.k, .int .i64 t.n, .slice oa t.l.length cap]) ∧ TrV W (· < W.heap.size) u (.agg #[.int .i64 u.k, .int .i64 u.n, .slice oa' u.l.length cap']) from
    fun W hW => ⟨trV_up (below_next hbw hW) HH.out.1, trV_up (below_next hbw hW) HH.out.2.2.2⟩)
  have HQ := Lib.hid (show ∀ W, Below w0.heap.size w0 W → W.heap[w.heap.size]? = some (.cells #[.int .i64 t.k, .int .i64 t.n, .slice oa t.l.length cap] 24) ∧ W.heap[w.heap.size + 1]? = some (.cells #[.int .i64 u.k, .int .i64 u.n, .slice oa' u.l.length cap'] 24) ∧ W.heap[w.heap.size + 1 + 1]? = some (.cells #[.int .i64 0, .int .i64 0, .slice none 0 0] 24) from
    fun W hW => ⟨has_call hW h0, has_call hW h1, has_call hW h2⟩)
  have HW := Lib.hid (And.intro hbw (And.intro hsz (show w.heap.size ≤ w.heap.size + 1 + 1 by omega)))
  clear h0 h1 h2 hbw hsz
  generalize w.heap.size + 1 + 1 = pr at *
  generalize w.heap.size + 1 = pu at *
  generalize hpt : w.heap.size = pt at HQ ⊢
  refine (areTrees_any [t, u] _ _ (trS_two (w := w0) (HT.out _ (bZ w0)).1 (HT.out _ (bZ w0)).2 rfl)).mono ?_
  rintro e w2 ⟨rfl, hb2⟩
  have hall : [t, u].all good = (good t && good u) := by simp
  rw [hall]
  have hc2 : Below w0.heap.size w0 w2 := below_next (bA (bZ w0) _) hb2
  clear hb2 hall
  obtain ⟨r1, r2, r3⟩ := HQ.out _ hc2
  have d0 := (cells_of r3 0).1
  have d1 := (cells_of r3 1).1
  have d2 := (cells_of r3 2).1
  have g3 := fun j => (cells_of r3 j).2
  have a0 := (cells_of r1 0).1
  have a1 := (cells_of r1 1).1
  have a2 := (cells_of r1 2).1
  simp only [List.getElem?_toArray, List.getElem?_cons_zero, List.getElem?_cons_succ] at d0 d1 d2 a0 a1 a2
  have HR := Lib.hid (And.intro hc2 r3)
  clear hc2 r1 r2 r3
  obtain ⟨q, hq⟩ : ∃ q, (good t && good u) = q := ⟨_, rfl⟩
  rw [hq]
  have HG := Lib.hid hq
  clear hq
  unfold errT
  cases q
  · clear a0 a1 a2
    go_wp2_with fail
    have hfin := three_set (a' := .int .i64 0) (b' := .int .i64 0) (c' := .slice none 0 0) HR.out.2
    have e0 := (cells_of hfin 0).1
    have e1 := (cells_of hfin 1).1
    have e2 := (cells_of hfin 2).1
    simp only [List.getElem?_toArray, List.getElem?_cons_zero, List.getElem?_cons_succ] at e0 e1 e2
    refine bodyPost_ret (v := .tuple #[vzero, .int .i64 4]) (by simp [results, Try.results35, go_sem, e0, e1, e2, vzero]) rfl ?_
    exact ⟨(((below_next HW.out.1 HR.out.1).setCell (p := ⟨pr, 0, none⟩) HW.out.2.2 _).setCell (p := ⟨pr, 1, none⟩) HW.out.2.2 _).setCell (p := ⟨pr, 2, none⟩) HW.out.2.2 _, .inl ⟨HG.out, rfl⟩⟩
  have HGT := Lib.hid (show good t = true ∧ good u = true by have := HG.out; simp only [Bool.and_eq_true] at this; exact this)
  clear d0 d1 d2 g3
  go_wp2_with fail
  refine (cloneS_any t (by have := ((good_iff t).1 HGT.out.1).1; omega) _ _ (HT.out _ HR.out.1).1).mono ?_
  rintro e w3 ⟨o3, c3, rfl, hsp, hb3⟩
  have hc3 := below_next HR.out.1 hb3
  have HS := Lib.hid (And.intro hsp (And.intro hc3 HR.out.1.size))
  clear hsp hb3 hc3 a0 a1 a2
  go_wp2_with fail
  have hw1 : SpP (w3.alloc (.cells #[.int .i64 t.k, .int .i64 t.n, .slice o3 t.l.length c3] 24)) t w3.heap.size 0 w2.heap.size w3.heap.size := by
    have hq := heap_alloc_new w3 (.cells #[.int .i64 t.k, .int .i64 t.n, .slice o3 t.l.length c3] 24)
    refine ⟨.slice o3 t.l.length c3, (cells_of hq 0).1, (cells_of hq 1).1, (cells_of hq 2).1, spV_world t _ _ _ HS.out.1 (fun b _ h => Below.heap_alloc _ _ _ h), by omega, _, hq⟩
  have hb4 : Below w0.heap.size w0 (w3.alloc (.cells #[.int .i64 t.k, .int .i64 t.n, .slice o3 t.l.length c3] 24)) := bA HS.out.2.1 _
  have hsz4 : (w3.alloc (.cells #[.int .i64 t.k, .int .i64 t.n, .slice o3 t.l.length c3] 24)).heap.size = w3.heap.size + 1 := by simp
  generalize (w3.alloc (.cells #[.int .i64 t.k, .int .i64 t.n, .slice o3 t.l.length c3] 24)) = W1 at *
  have hint : IntS W1 (· < w.heap.size) l s := intS_mono (w := w) (w' := W1) (fun _ h => h) (fun x hx => (below_next HW.out.1 hb4).block x hx) HH.out.2.1
  have HN := Lib.hid (And.intro hb4 hsz4)
  refine (node_loc (N := W1.heap.size) t l w3.heap.size 0 w2.heap.size w3.heap.size s W1 (by omega) (by omega) hw1 hint HH.out.2.2.1).mono ?_
  clear hw1 hint hb4 hsz4
  rintro e w4 ⟨rfl, ⟨hno, rfl⟩ | ⟨x, bk, ok, rfl, hway⟩⟩
  · obtain ⟨r1, r2, r3⟩ := HQ.out _ HN.out.1
    have d0 := (cells_of r3 0).1
    have d1 := (cells_of r3 1).1
    have d2 := (cells_of r3 2).1
    have g3 := fun j => (cells_of r3 j).2
    simp only [List.getElem?_toArray, List.getElem?_cons_zero, List.getElem?_cons_succ] at d0 d1 d2
    have HX := Lib.hid (And.intro hno r3)
    clear hno r1 r2 r3
    go_wp2_with fail
    have hfin := three_set (a' := .int .i64 0) (b' := .int .i64 0) (c' := .slice none 0 0) HX.out.2
    have e0 := (cells_of hfin 0).1
    have e1 := (cells_of hfin 1).1
    have e2 := (cells_of hfin 2).1
    simp only [List.getElem?_toArray, List.getElem?_cons_zero, List.getElem?_cons_succ] at e0 e1 e2
    refine bodyPost_ret (v := .tuple #[vzero, .int .i64 41]) (by simp [results, Try.results35, go_sem, e0, e1, e2, vzero]) rfl ?_
    exact ⟨(((below_next HW.out.1 HN.out.1).setCell (p := ⟨pr, 0, none⟩) HW.out.2.2 _).setCell (p := ⟨pr, 1, none⟩) HW.out.2.2 _).setCell (p := ⟨pr, 2, none⟩) HW.out.2.2 _, .inr ⟨HG.out, .inl ⟨HX.out.1, rfl⟩⟩⟩
  obtain ⟨r1, r2, r3⟩ := HQ.out _ HN.out.1
  have a0 := (cells_of r2 0).1
  have a1 := (cells_of r2 1).1
  have a2 := (cells_of r2 2).1
  simp only [List.getElem?_toArray, List.getElem?_cons_zero, List.getElem?_cons_succ] at a0 a1 a2
  have HY := Lib.hid hway
  clear hway r1 r2 r3
  go_wp2_with fail
  refine (clone_any u _ _ (by have := ((good_iff u).1 HGT.out.2).1; omega) (HT.out _ HN.out.1).2).mono ?_
  rintro e w5 ⟨v5, rfl, hv5, hb5⟩
  obtain ⟨s5, rfl, -, -, hs5⟩ := trV_iff.1 hv5
  obtain ⟨o5, c5, bb5, ob5, rfl, -, -, -, -⟩ := trS_at hs5
  obtain ⟨oc, cc, y0, y1, y2, y3, y4, y5, y6⟩ := way_at HY.out
  have hbk := hb5.block bk y4
  have z0 := (World.cell?_of_block (a := ⟨bk, ok, none⟩) hbk).trans y0
  have z1 := (World.cell?_of_block (a := ⟨bk, ok + 1, none⟩) hbk).trans y1
  have z2 := (World.cell?_of_block (a := ⟨bk, ok + 2, none⟩) hbk).trans y2
  have zf := fun j => (hb5.frozen (p := ⟨bk, j, none⟩) y4).trans (y3 j)
  have hw2 : w0.heap.size ≤ w2.heap.size := HR.out.1.size
  have hw3 : w2.heap.size ≤ w3.heap.size := by
    obtain ⟨sl, h⟩ := spV_head HS.out.1
    exact spV_le HS.out.1
  have hsz1 := HN.out.2
  obtain ⟨o6, c6, p0, p1, p2, p3⟩ := put_end (c := w2.heap.size) HY.out hb5 (Nat.le_refl _) (by omega) (by omega) hv5
  have hb6 : Below w0.heap.size w0 (((w5.setCell ⟨bk, ok, none⟩ (.int .i64 u.k)).setCell ⟨bk, ok + 1, none⟩ (.int .i64 u.n)).setCell ⟨bk, ok + 2, none⟩ (.slice o5 u.l.length c5)) := by
    have h1 := below_next HN.out.1 hb5
    have h4 : w0.heap.size ≤ bk := by omega
    exact ((h1.setCell (p := ⟨bk, ok, none⟩) h4 _).setCell (p := ⟨bk, ok + 1, none⟩) h4 _).setCell (p := ⟨bk, ok + 2, none⟩) h4 _
  have hsz6 : w3.heap.size < (((w5.setCell ⟨bk, ok, none⟩ (.int .i64 u.k)).setCell ⟨bk, ok + 1, none⟩ (.int .i64 u.n)).setCell ⟨bk, ok + 2, none⟩ (.slice o5 u.l.length c5)).heap.size := by
    have := hb5.size
    simp [World.setCell]
    omega
  have HP := Lib.hid (And.intro p3 (And.intro hb6 (And.intro y6 (And.intro hsz6 (And.intro p0 (And.intro p1 (And.intro p2 hw2)))))))
  clear hsz1 hw2 hw3 hbk y0 y1 y2 y3 y4 y5 y6 hv5 hs5 hb5 p3 hb6 hsz6
  go_wp2_with fail
  generalize ((w5.setCell ⟨bk, ok, none⟩ (.int .i64 u.k)).setCell ⟨bk, ok + 1, none⟩ (.int .i64 u.n)).setCell ⟨bk, ok + 2, none⟩ (.slice o5 u.l.length c5) = w6 at *
  clear z0 z1 z2 zf a0 a1 a2 p0 p1 p2
  refine (Tree_any (putT t l u) _ w6 (trV_mono (fun _ h => h.2) (fun _ _ => rfl) _ HP.out.1)).mono ?_
  rintro e w7 ⟨rfl, hb7⟩
  obtain ⟨r1, r2, r3⟩ := HQ.out _ (below_next HP.out.2.1 hb7)
  have d0 := (cells_of r3 0).1
  have d1 := (cells_of r3 1).1
  have d2 := (cells_of r3 2).1
  have g3 := fun j => (cells_of r3 j).2
  simp only [List.getElem?_toArray, List.getElem?_cons_zero, List.getElem?_cons_succ] at d0 d1 d2
  have hbo := hb7.block w3.heap.size HP.out.2.2.2.1
  have f0 := (World.cell?_of_block (a := ⟨w3.heap.size, 0, none⟩) hbo).trans HP.out.2.2.2.2.1
  have f1 := (World.cell?_of_block (a := ⟨w3.heap.size, 0 + 1, none⟩) hbo).trans HP.out.2.2.2.2.2.1
  have f2 := (World.cell?_of_block (a := ⟨w3.heap.size, 0 + 2, none⟩) hbo).trans HP.out.2.2.2.2.2.2.1
  simp only [Nat.zero_add] at f1 f2
  have hprl := block_lt (HQ.out _ (bZ w0)).2.2
  have HZ := Lib.hid (And.intro r3 (And.intro hb7 (And.intro hbo hprl)))
  clear r1 r2 r3 hb7 hbo hprl
  obtain ⟨q, hq⟩ : ∃ q, good (putT t l u) = q := ⟨_, rfl⟩
  rw [hq]
  have HGP := Lib.hid hq
  clear hq
  unfold errT
  cases q
  · clear f0 f1 f2
    go_wp2_with fail
    have hfin := three_set (a' := .int .i64 0) (b' := .int .i64 0) (c' := .slice none 0 0) HZ.out.1
    have e0 := (cells_of hfin 0).1
    have e1 := (cells_of hfin 1).1
    have e2 := (cells_of hfin 2).1
    simp only [List.getElem?_toArray, List.getElem?_cons_zero, List.getElem?_cons_succ] at e0 e1 e2
    refine bodyPost_ret (v := .tuple #[vzero, .int .i64 2]) (by simp [results, Try.results35, go_sem, e0, e1, e2, vzero]) rfl ?_
    exact ⟨(((below_next HW.out.1 (below_next HP.out.2.1 HZ.out.2.1)).setCell (p := ⟨pr, 0, none⟩) HW.out.2.2 _).setCell (p := ⟨pr, 1, none⟩) HW.out.2.2 _).setCell (p := ⟨pr, 2, none⟩) HW.out.2.2 _, .inr ⟨HG.out, .inr ⟨x, HP.out.2.2.1, .inl ⟨HGP.out, rfl⟩⟩⟩⟩
  · go_wp2_with fail
    have hfin := three_set (a' := .int .i64 (putT t l u).k) (b' := .int .i64 (putT t l u).n) (c' := .slice o6 (putT t l u).l.length c6) HZ.out.1
    have e0 := (cells_of hfin 0).1
    have e1 := (cells_of hfin 1).1
    have e2 := (cells_of hfin 2).1
    simp only [List.getElem?_toArray, List.getElem?_cons_zero, List.getElem?_cons_succ] at e0 e1 e2
    refine bodyPost_ret (v := .tuple #[.agg #[.int .i64 (putT t l u).k, .int .i64 (putT t l u).n, .slice o6 (putT t l u).l.length c6], .int .i64 0]) (by simp [results, Try.results35, go_sem, e0, e1, e2]) rfl ?_
    refine ⟨(((below_next HW.out.1 (below_next HP.out.2.1 HZ.out.2.1)).setCell (p := ⟨pr, 0, none⟩) HW.out.2.2 _).setCell (p := ⟨pr, 1, none⟩) HW.out.2.2 _).setCell (p := ⟨pr, 2, none⟩) HW.out.2.2 _, .inr ⟨HG.out, .inr ⟨x, HP.out.2.2.1, .inr ⟨HGP.out, _, rfl, ?_⟩⟩⟩⟩
    have k1 := HW.out.1.size
    have k2 := HP.out.2.2.2.2.2.2.2
    have k3 := HZ.out.2.2.2
    have k4 := HZ.out.2.1.size
    refine trV_mono (w := w6) (fun y hy => ⟨by have := hy.1; omega, by have := hy.2; simp [World.setCell]; omega⟩) (fun y hy => ?_) _ HP.out.1
    have hy1 := hy.1
    rw [Below.heap_setCell _ _ _ _ (by simp; omega), Below.heap_setCell _ _ _ _ (by simp; omega), Below.heap_setCell _ _ _ _ (by simp; omega)]
    exact HZ.out.2.1.block y hy.2
end Go.Proofs.Ytapdfdjknehhgaa
