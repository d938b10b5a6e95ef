/- At. -/
import Derived.Test.YtapdfdjknehhgaaNode
import Derived.Test.YtapdfdjknehhgaaShift
namespace Go.Proofs.Ytapdfdjknehhgaa
open Go.RowKit Go.Tr

theorem nodeT_sz : ∀ (l : List Int) (t u : Tm), nodeT t l = some u → sz u ≤ sz t
  | [], t, u, h => by rw [nodeT] at h; cases h; exact Nat.le_refl _
  | i :: r, t, u, h => by
    rw [nodeT] at h
    split at h
    · rename_i hi
      have h1 := nodeT_sz r _ u h
      have h2 := sz_mem (List.getElem_mem hi.2)
      have h3 := sz_l t
      omega
    · cases h
def AtP (t : Tm) (l : List Int) (w : World) (e : Ending) (w' : World) : Prop :=
  Below w.heap.size w w' ∧ ((good t = false ∧ e = .returned (.tuple #[vzero, .int .i64 4])) ∨ (good t = true ∧
    ((nodeT t l = none ∧ e = .returned (.tuple #[vzero, .int .i64 41])) ∨ ∃ u, nodeT t l = some u ∧ ∃ v', e = .returned (.tuple #[v', .int .i64 0]) ∧ TrV w' (Nw w w') u v')))
set_option maxRecDepth 100000 in
set_option maxHeartbeats 400000 in
theorem At_any (t : Tm) (l : List Int) (v s : Value) (w : World) (hv : TrV w (· < w.heap.size) t v) (hs : IntS w (· < w.heap.size) l s) (hl : ∀ n ∈ l, inI n) :
    Calls Try.prog 34 #[v, s] w (AtP t l w) := by
  obtain ⟨sl, rfl, hk1, hk2, hsl⟩ := trV_iff.1 hv
  obtain ⟨oa, cap, b, o, rfl, hlc, hcm, -, -⟩ := trS_at hsl
  clear hk1 hk2 hsl
  obtain ⟨o1, ho1⟩ : ∃ o : Obj, o = .cells #[.int .i64 t.k, .int .i64 t.n, .slice oa t.l.length cap] 24 := ⟨_, rfl⟩
  obtain ⟨o4, ho4⟩ : ∃ o : Obj, o = .cells #[.int .i64 0, .int .i64 0, .slice none 0 0] 24 := ⟨_, rfl⟩
  have hgr : Below w.heap.size w ((w.alloc o1).alloc o4) := bA (bA (bZ w) _) _
  have hq1 : ((w.alloc o1).alloc o4).heap[w.heap.size]? = some o1 := by (simp only [heap_alloc, alloc_size]; repeat (first | rw [if_pos trivial] | rw [if_pos (by omega)] | rw [if_neg (by omega)]))
  have hq4 : ((w.alloc o1).alloc o4).heap[w.heap.size + 1]? = some o4 := by (simp only [heap_alloc, alloc_size]; repeat (first | rw [if_pos trivial] | rw [if_pos (by omega)] | rw [if_neg (by omega)]))
  have hT := Tree_any t _ _ (trV_up hgr hv)
  have HH := Lib.hid (And.intro hgr (And.intro hq1 (And.intro hq4 (And.intro hv (And.intro hs hl)))))
  have HC := Lib.hid hT
  clear hgr hq1 hq4 hT hv hs hl
  subst ho1 ho4
  cases hg : good t with
  | false =>
    have HG := Lib.hid hg
    clear hg
    go_enter Try.func34, Try.ntmps34
    go_wp2_with fail
    refine HC.out.mono ?_
    rintro e w2 ⟨rfl, hb2⟩
    rw [HG.out]
    have r1 := (hb2.block _ (block_lt HH.out.2.1)).trans HH.out.2.1
    have r3 := (hb2.block _ (block_lt HH.out.2.2.1)).trans HH.out.2.2.1
    have b0 := (cells_of r3 0).1
    have b1 := (cells_of r3 1).1
    have b2 := (cells_of r3 2).1
    have f2 := fun j => (cells_of r3 j).2
    simp only [List.getElem?_toArray, List.getElem?_cons_zero, List.getElem?_cons_succ] at b0 b1 b2
    have hb := below_next HH.out.1 hb2
    have HR := Lib.hid (And.intro hb (And.intro r3 r1))
    clear r3 r1 hb2 hb
    unfold errT
    go_wp2_with fail
    have hfin := three_set (a' := .int .i64 0) (b' := .int .i64 0) (c' := .slice none 0 0) HR.out.2.1
    have e0 := (cells_of hfin 0).1
    have e1 := (cells_of hfin 1).1
    have e2 := (cells_of hfin 2).1
    simp only [List.getElem?_toArray, List.getElem?_cons_zero, List.getElem?_cons_succ] at e0 e1 e2
    refine bodyPost_ret (v := .tuple #[vzero, .int .i64 4]) (by simp [results, Try.results34, go_sem, e0, e1, e2, vzero]) rfl ?_
    refine ⟨((HR.out.1.setCell (p := ⟨w.heap.size + 1, 0, none⟩) (by simp) _).setCell (p := ⟨w.heap.size + 1, 1, none⟩) (by simp) _).setCell (p := ⟨w.heap.size + 1, 2, none⟩) (by simp) _, ?_⟩
    exact .inl ⟨HG.out, rfl⟩
  | true =>
    have HG := Lib.hid hg
    clear hg
    go_enter Try.func34, Try.ntmps34
    go_wp2_with fail
    refine HC.out.mono ?_
    rintro e w2 ⟨rfl, hb2⟩
    rw [HG.out]
    have r1 := (hb2.block _ (block_lt HH.out.2.1)).trans HH.out.2.1
    have r3 := (hb2.block _ (block_lt HH.out.2.2.1)).trans HH.out.2.2.1
    have b0 := (cells_of r3 0).1
    have b1 := (cells_of r3 1).1
    have b2 := (cells_of r3 2).1
    have f2 := fun j => (cells_of r3 j).2
    simp only [List.getElem?_toArray, List.getElem?_cons_zero, List.getElem?_cons_succ] at b0 b1 b2
    have hb := below_next HH.out.1 hb2
    have HR := Lib.hid (And.intro hb (And.intro r3 r1))
    clear r3 r1 hb2 hb
    unfold errT
    have hpt : PtrT w2 (· < w2.heap.size) t w.heap.size 0 := ⟨oa, cap, (cells_of HR.out.2.2 0).1, (cells_of HR.out.2.2 1).1, (cells_of HR.out.2.2 2).1, trV_up HR.out.1 HH.out.2.2.2.1⟩
    have hnode := node_any t l w.heap.size 0 s w2 hpt (intS_mono (w := w) (w' := w2) (fun _ h => h) (fun x hx => HR.out.1.block x hx) HH.out.2.2.2.2.1) HH.out.2.2.2.2.2
    have HNO := Lib.hid hnode
    clear hpt hnode
    go_wp2_with fail
    refine HNO.out.mono ?_
    rintro e w3 ⟨rfl, ⟨hno, rfl⟩ | ⟨u, b', o', hyes, rfl, oc, capc, c0, c1, c2, c3⟩⟩
    · have HN := Lib.hid hno
      clear hno
      go_wp2_with fail
      have hfin := three_set (a' := .int .i64 0) (b' := .int .i64 0) (c' := .slice none 0 0) HR.out.2.1
      have e0 := (cells_of hfin 0).1
      have e1 := (cells_of hfin 1).1
      have e2 := (cells_of hfin 2).1
      simp only [List.getElem?_toArray, List.getElem?_cons_zero, List.getElem?_cons_succ] at e0 e1 e2
      refine bodyPost_ret (v := .tuple #[vzero, .int .i64 41]) (by simp [results, Try.results34, go_sem, e0, e1, e2, vzero]) rfl ?_
      refine ⟨((HR.out.1.setCell (p := ⟨w.heap.size + 1, 0, none⟩) (by simp) _).setCell (p := ⟨w.heap.size + 1, 1, none⟩) (by simp) _).setCell (p := ⟨w.heap.size + 1, 2, none⟩) (by simp) _, ?_⟩
      exact .inr ⟨HG.out, .inl ⟨HN.out, rfl⟩⟩
    · have hcl := clone_any u _ w3 (by have h1 := nodeT_sz l t u hyes; have h2 := ((good_iff t).1 HG.out).1; omega) c3
      have HCL := Lib.hid (And.intro hcl hyes)
      clear hcl hyes c3
      go_wp2_with fail
      refine HCL.out.1.mono ?_
      rintro e w4 ⟨v4, rfl, hv4, hb4⟩
      obtain ⟨s4, rfl, -, -, hs4⟩ := trV_iff.1 hv4
      obtain ⟨o5, cap5, b5, o6, rfl, -, -, -, -⟩ := trS_at hs4
      have r4 := (hb4.block _ (block_lt HR.out.2.1)).trans HR.out.2.1
      have b0' := (cells_of r4 0).1
      have b1' := (cells_of r4 1).1
      have b2' := (cells_of r4 2).1
      have f2' := fun j => (cells_of r4 j).2
      simp only [List.getElem?_toArray, List.getElem?_cons_zero, List.getElem?_cons_succ] at b0' b1' b2'
      have hlt4 := block_lt HR.out.2.1
      have HR2 := Lib.hid (And.intro (below_next HR.out.1 hb4) (And.intro r4 (And.intro hv4 hlt4)))
      clear hb4 r4 hv4 hs4 hlt4
      go_wp2_with fail
      have hfin := three_set (a' := .int .i64 u.k) (b' := .int .i64 u.n) (c' := .slice o5 u.l.length cap5) HR2.out.2.1
      have e0 := (cells_of hfin 0).1
      have e1 := (cells_of hfin 1).1
      have e2 := (cells_of hfin 2).1
      simp only [List.getElem?_toArray, List.getElem?_cons_zero, List.getElem?_cons_succ] at e0 e1 e2
      refine bodyPost_ret (v := .tuple #[.agg #[.int .i64 u.k, .int .i64 u.n, .slice o5 u.l.length cap5], .int .i64 0]) (by simp [results, Try.results34, go_sem, e0, e1, e2]) rfl ?_
      refine ⟨((HR2.out.1.setCell (p := ⟨w.heap.size + 1, 0, none⟩) (by simp) _).setCell (p := ⟨w.heap.size + 1, 1, none⟩) (by simp) _).setCell (p := ⟨w.heap.size + 1, 2, none⟩) (by simp) _, .inr ⟨HG.out, .inr ⟨u, HCL.out.2, _, rfl, ?_⟩⟩⟩
      have hs3 := HR.out.1.size
      refine trV_mono (w := w4) (fun x hx => ⟨Nat.le_trans hs3 hx.1, by have := hx.2; simpa using this⟩) (fun x hx => ?_) _ HR2.out.2.2.1
      have hx1 := hx.1
      have hx2 := HR2.out.2.2.2
      rw [Below.heap_setCell _ _ _ _ (by simp; omega), Below.heap_setCell _ _ _ _ (by simp; omega), Below.heap_setCell _ _ _ _ (by simp; omega)]
end Go.Proofs.Ytapdfdjknehhgaa
