/- Merged: Match, Match2, Match3. -/
import Derived.Test.YtapdfdjknehhgaaCmp
import Derived.Test.YtapdfdjknehhgaaNormal
import Derived.Test.YtapdfdjknehhgaaTx

/- Matching. -/
namespace Go.Proofs.Ytapdfdjknehhgaa
open Go.RowKit Go.Tr

/-- The row g holds the trees of a list, all else of which lies below B. -/
def RowI (B g : Nat) (l : List Tm) (w : World) : Prop :=
  B ≤ g ∧ ∃ xs, w.heap[g]? = some (.cells xs 24) ∧ xs.size = l.length * 3 ∧ ∀ j (h : j < l.length), ∃ oa cap, xs[j * 3]? = some (.int .i64 l[j].k) ∧ xs[j * 3 + 1]? = some (.int .i64 l[j].n) ∧ xs[j * 3 + 2]? = some (.slice oa l[j].l.length cap) ∧ TrV w (· < B) l[j] (.agg #[.int .i64 l[j].k, .int .i64 l[j].n, .slice oa l[j].l.length cap])
theorem rowI_lt {B g : Nat} {l : List Tm} {w : World} (h : RowI B g l w) : g < w.heap.size := by obtain ⟨-, xs, h1, -⟩ := h; exact block_lt h1
theorem rowI_kp {B g : Nat} {l : List Tm} {w w' : World} (h : RowI B g l w) (hk : ∀ b, b ≤ g → w'.heap[b]? = w.heap[b]?) : RowI B g l w' := by
  obtain ⟨h0, xs, h1, h2, h3⟩ := h
  refine ⟨h0, xs, (hk g (Nat.le_refl _)).trans h1, h2, fun j hj => ?_⟩
  obtain ⟨oa, cap, a, b, c, d⟩ := h3 j hj
  exact ⟨oa, cap, a, b, c, trV_mono (fun _ h => h) (fun b (hb : b < B) => hk b (by omega)) _ d⟩
theorem rowI_cells {B g k : Nat} {l : List Tm} {w : World} (h : RowI B g l w) (hk : k < l.length) : ∃ oa cap,
    w.cell? ⟨g, k * 3, none⟩ = some (.int .i64 l[k].k) ∧ w.cell? ⟨g, k * 3 + 1, none⟩ = some (.int .i64 l[k].n) ∧ w.cell? ⟨g, k * 3 + 2, none⟩ = some (.slice oa l[k].l.length cap) ∧ (∀ j, w.frozen? ⟨g, j, none⟩ = false) ∧ TrV w (· < B) l[k] (.agg #[.int .i64 l[k].k, .int .i64 l[k].n, .slice oa l[k].l.length cap]) := by
  obtain ⟨h0, xs, h1, h2, h3⟩ := h
  obtain ⟨oa, cap, a, b, c, d⟩ := h3 k hk
  exact ⟨oa, cap, (cells_of h1 _).1.trans a, (cells_of h1 _).1.trans b, (cells_of h1 _).1.trans c, fun j => (cells_of h1 j).2, d⟩
theorem rowI_set {B g k : Nat} {l : List Tm} {w : World} {t : Tm} {oa : Option Addr} {cap : Nat} (h : RowI B g l w) (hk : k < l.length) (hv : TrV w (· < B) t (.agg #[.int .i64 t.k, .int .i64 t.n, .slice oa t.l.length cap])) :
    RowI B g (l.set k t) (((w.setCell ⟨g, k * 3, none⟩ (.int .i64 t.k)).setCell ⟨g, k * 3 + 1, none⟩ (.int .i64 t.n)).setCell ⟨g, k * 3 + 2, none⟩ (.slice oa t.l.length cap)) := by
  obtain ⟨h0, xs, h1, h2, h3⟩ := h
  have e1 := heap_setCell_same w g (k * 3) xs _ (.int .i64 t.k) h1
  have e2 := heap_setCell_same _ g (k * 3 + 1) _ _ (.int .i64 t.n) e1
  have e3 := heap_setCell_same _ g (k * 3 + 2) _ _ (.slice oa t.l.length cap) e2
  have oth : ∀ b, b ≠ g → (((w.setCell ⟨g, k * 3, none⟩ (.int .i64 t.k)).setCell ⟨g, k * 3 + 1, none⟩ (.int .i64 t.n)).setCell ⟨g, k * 3 + 2, none⟩ (.slice oa t.l.length cap)).heap[b]? = w.heap[b]? := fun b hb =>
    (Below.heap_setCell _ _ _ _ hb).trans ((Below.heap_setCell _ _ _ _ hb).trans (Below.heap_setCell _ _ _ _ hb))
  refine ⟨h0, _, e3, by simpa using h2, fun j hj => ?_⟩
  simp only [List.length_set] at hj
  by_cases hje : j = k
  · subst hje
    simp only [List.getElem_set_self]
    refine ⟨oa, cap, ?_, ?_, ?_, trV_mono (fun _ h => h) (fun b (hb : b < B) => oth b (by omega)) _ hv⟩
    · rw [Array.getElem?_setIfInBounds_ne (by omega), Array.getElem?_setIfInBounds_ne (by omega), Array.getElem?_setIfInBounds_self_of_lt (by omega)]
    · rw [Array.getElem?_setIfInBounds_ne (by omega), Array.getElem?_setIfInBounds_self_of_lt (by simp; omega)]
    · rw [Array.getElem?_setIfInBounds_self_of_lt (by simp; omega)]
  · obtain ⟨oa', cap', a, b, c, d⟩ := h3 j hj
    have hg : (l.set k t)[j]'(by simpa using hj) = l[j] := List.getElem_set_ne (by omega) _
    rw [hg]
    refine ⟨oa', cap', ?_, ?_, ?_, trV_mono (fun _ h => h) (fun b (hb : b < B) => oth b (by omega)) _ d⟩
    · rw [Array.getElem?_setIfInBounds_ne (by omega), Array.getElem?_setIfInBounds_ne (by omega), Array.getElem?_setIfInBounds_ne (by omega)]; exact a
    · rw [Array.getElem?_setIfInBounds_ne (by omega), Array.getElem?_setIfInBounds_ne (by omega), Array.getElem?_setIfInBounds_ne (by omega)]; exact b
    · rw [Array.getElem?_setIfInBounds_ne (by omega), Array.getElem?_setIfInBounds_ne (by omega), Array.getElem?_setIfInBounds_ne (by omega)]; exact c

theorem sameRoot_any (a b : Tm) (va vb : Value) (P P' : Nat → Prop) (w : World) (ha : TrV w P a va) (hb : TrV w P' b vb) :
    Calls Try.prog 96 #[va, vb] w fun e w' => e = .returned (.bool (a.k == b.k && a.n == b.n && decide (a.l.length = b.l.length))) ∧ Below w.heap.size w w' := by
  obtain ⟨sl, rfl, -, -, hsl⟩ := trV_iff.1 ha
  obtain ⟨oa, cap, b1, o1, rfl, hlc, hcm, -, -⟩ := trS_at hsl
  obtain ⟨sl', rfl, -, -, hsl'⟩ := trV_iff.1 hb
  obtain ⟨oa', cap', b1', o1', rfl, hlc', hcm', -, -⟩ := trS_at hsl'
  have HG := Lib.hid (fun (o1 o2 : Obj) => bA (bA (bZ w) o1) o2)
  clear ha hb hsl hsl'
  generalize a.k = ak at *
  generalize a.n = an at *
  generalize a.l.length = am at *
  generalize b.k = bk at *
  generalize b.n = bn at *
  generalize b.l.length = bm at *
  by_cases h1 : ak = bk
  · have x1 : (ak == bk) = true := by simp [h1]
    by_cases h2 : an = bn
    · have x2 : (an == bn) = true := by simp [h2]
      by_cases h3 : am = bm
      · have x3 : ((am : Int) == (bm : Int)) = true := by simp [h3]
        have x4 : decide (am = bm) = true := by simp [h3]
        rw [x1, x2, x4]
        clear h1 h2 h3
        go_enter Try.func96, Try.ntmps96
        go_wp2_with fail
        all_goals go_ret
        all_goals exact ⟨ret_bool (by simp_all), HG.out _ _⟩
      · have x3 : ((am : Int) == (bm : Int)) = false := by simp; omega
        have x4 : decide (am = bm) = false := by simp [h3]
        rw [x1, x2, x4]
        clear h1 h2
        go_enter Try.func96, Try.ntmps96
        go_wp2_with fail
        all_goals go_ret
        all_goals exact ⟨ret_bool (by simp_all), HG.out _ _⟩
    · have x2 : (an == bn) = false := by simp [h2]
      rw [x1, x2]
      clear h1 h2
      go_enter Try.func96, Try.ntmps96
      go_wp2_with fail
      all_goals go_ret
      all_goals exact ⟨ret_bool (by simp_all), HG.out _ _⟩
  · have x1 : (ak == bk) = false := by simp [h1]
    rw [x1]
    clear h1
    go_enter Try.func96, Try.ntmps96
    go_wp2_with fail
    all_goals go_ret
    all_goals exact ⟨ret_bool (by simp_all), HG.out _ _⟩
end Go.Proofs.Ytapdfdjknehhgaa

/- Matching: the walk. -/
namespace Go.Proofs.Ytapdfdjknehhgaa
open Go.RowKit Go.Tr

theorem trV_lt {B C : Nat} {w : World} {t : Tm} {v : Value} (h : TrV w (· < B) t v) (hb : B ≤ C) : TrV w (· < C) t v := trV_mono (fun _ h => Nat.lt_of_lt_of_le h hb) (fun _ _ => rfl) _ h

set_option maxRecDepth 100000 in
set_option maxHeartbeats 800000 in
theorem match_n (B g : Nat) (N : Nat) : ∀ p, sz p ≤ N → ∀ t vp vt l w, TrV w (· < B) p vp → TrV w (· < B) t vt → RowI B g l w → (∀ n, occ n p = true → 0 ≤ n ∧ n < l.length) →
    Calls Try.prog 81 #[vp, vt, .slice (some ⟨g, 0, none⟩) l.length l.length] w fun e w' => e = .returned (.bool (matchT p t l).2) ∧ RowI B g (matchT p t l).1 w' ∧ Kp (fun b => b < w.heap.size ∧ b ≠ g) w w' := by
  induction N with
  | zero => intro p hp; have := sz_pos p; omega
  | succ N ih =>
    intro p hp t vp vt l w hvp hvt hrow hocc
    have IH := Lib.hid ih
    clear ih
    obtain ⟨sl, rfl, hpk, hpn, hsl⟩ := trV_iff.1 hvp
    obtain ⟨oa, cap, b, o, rfl, hlc, hcm, hoa, hel⟩ := trS_at hsl
    obtain ⟨sl', rfl, -, -, hsl'⟩ := trV_iff.1 hvt
    obtain ⟨oa', cap', b', o', rfl, hlc', hcm', hoa', hel'⟩ := trS_at hsl'
    have hgw := rowI_lt hrow
    have hBg := hrow.1
    obtain ⟨o1, ho1⟩ : ∃ o : Obj, o = .cells #[.int .i64 p.k, .int .i64 p.n, .slice oa p.l.length cap] 24 := ⟨_, rfl⟩
    obtain ⟨o2, ho2⟩ : ∃ o : Obj, o = .cells #[.int .i64 t.k, .int .i64 t.n, .slice oa' t.l.length cap'] 24 := ⟨_, rfl⟩
    have hgr : Below w.heap.size w ((w.alloc o1).alloc o2) := bA (bA (bZ w) _) _
    have hq1 : ((w.alloc o1).alloc o2).heap[w.heap.size]? = some o1 := by (simp only [heap_alloc, alloc_size]; repeat (first | rw [if_pos trivial] | rw [if_pos (by omega)] | rw [if_neg (by omega)]))
    have hq2 : ((w.alloc o1).alloc o2).heap[w.heap.size + 1]? = some o2 := by (simp only [heap_alloc, alloc_size]; repeat (first | rw [if_pos trivial] | rw [if_pos (by omega)] | rw [if_neg (by omega)]))
    have hrow2 : RowI B g l ((w.alloc o1).alloc o2) := rowI_kp hrow (fun b hb => hgr.block b (by omega))
    have HEL := Lib.hid (And.intro hoa (And.intro hel (And.intro hoa' hel')))
    by_cases hk : p.k = 1
    · have hb1 : (p.k == 1) = true := by simp [hk]
      have hm := matchT_p p t l
      rw [if_pos hk] at hm
      have hn := hocc p.n (by obtain ⟨pk, pn, pl⟩ := p; simp only [Tm.k] at hk; simp [occ, Tm.n, hk])
      obtain ⟨k, hkn⟩ : ∃ k : Nat, p.n = k := ⟨p.n.toNat, by omega⟩
      have hkl : k < l.length := by omega
      have hgd : l.getD p.n.toNat default = l[k] := by rw [hkn, Int.toNat_natCast, List.getD_eq_getElem?_getD, List.getElem?_eq_getElem hkl]; rfl
      have htn : p.n.toNat = k := by omega
      rw [hgd, htn] at hm
      clear hgd htn hn hocc
      generalize p.n = pn at *
      subst hkn
      obtain ⟨oa3, cap3, x0, x1, x2, x3, x4⟩ := rowI_cells hrow2 hkl
      by_cases hz : l[k].k = 0
      · have hb2 : (l[k].k != 0) = false := by simp [hz]
        rw [if_neg (by simp [hz])] at hm
        rw [hm]
        have hset := rowI_set hrow hkl hvt
        have g0 := x3 (k * 3)
        have g1 := x3 (k * 3 + 1)
        have g2 := x3 (k * 3 + 2)
        obtain ⟨oa5, cap5, z0, z1, z2, z3, -⟩ := rowI_cells hrow hkl
        have h0 := z3 (k * 3)
        have h1 := z3 (k * 3 + 1)
        have h2 := z3 (k * 3 + 2)
        have HH := Lib.hid (And.intro hset hgr)
        clear z3 hm hz hset hgr hq1 hq2 hrow2 hrow hvp hvt hsl hsl' hoa hel hoa' hel' x3 x4 hpk hpn
        subst ho1 ho2
        clear hk
        go_enter Try.func81, Try.ntmps81
        go_wp2_with fail
        go_ret
        refine ⟨rfl, ?_, ?_⟩
        · refine rowI_kp HH.out.1 (fun b hb => ?_)
          rw [Below.heap_alloc _ _ _ (by simp [World.setCell]; omega), Below.heap_alloc _ _ _ (by simp [World.setCell]; omega)]
        · exact (((kp_set (fun h => h.2 rfl) _ _).trans (kp_set (fun h => h.2 rfl) _ _)).trans (kp_set (fun h => h.2 rfl) _ _)).trans ((kp_alloc (fun b h => by simpa [World.setCell] using h.1) _).trans (kp_alloc (fun b h => by simp [World.setCell]; omega) _))
      · have hb2 : (l[k].k != 0) = true := by simp [hz]
        rw [if_pos hz] at hm
        rw [hm]
        have q1c := hq1.trans (congrArg some ho1)
        have q2c := hq2.trans (congrArg some ho2)
        have c0 := (cells_of q1c 0).1
        have c2 := (cells_of q1c 1).1
        have t0 := (cells_of q2c 0).1
        have t1 := (cells_of q2c 1).1
        have t2 := (cells_of q2c 2).1
        simp only [List.getElem?_toArray, List.getElem?_cons_zero, List.getElem?_cons_succ] at c0 c2 t0 t1 t2
        have l1 := block_lt hq1
        have l2 := block_lt hq2
        have hgl2 := rowI_lt hrow2
        have hvt2 := trV_lt (trV_mono (fun _ h => h) (fun b (h : b < B) => hgr.block b (by omega)) _ hvt) (show B ≤ ((w.alloc o1).alloc o2).heap.size from by omega)
        have x42 := trV_lt x4 (show B ≤ ((w.alloc o1).alloc o2).heap.size from by omega)
        have hS := fun W (hW : Below ((w.alloc o1).alloc o2).heap.size ((w.alloc o1).alloc o2) W) => Same_any l[k] t _ _ W (trV_up hW x42) (trV_up hW hvt2)
        have hkk : ∀ W, Below ((w.alloc o1).alloc o2).heap.size ((w.alloc o1).alloc o2) W → W.cell? ⟨w.heap.size, 1, none⟩ = some (.int .i64 k) ∧ W.cell? ⟨g, k * 3, none⟩ = some (.int .i64 l[k].k) ∧ W.cell? ⟨g, k * 3 + 1, none⟩ = some (.int .i64 l[k].n) ∧ W.cell? ⟨g, k * 3 + 2, none⟩ = some (.slice oa3 l[k].l.length cap3) ∧ W.cell? ⟨w.heap.size + 1, 0, none⟩ = some (.int .i64 t.k) ∧ W.cell? ⟨w.heap.size + 1, 1, none⟩ = some (.int .i64 t.n) ∧ W.cell? ⟨w.heap.size + 1, 2, none⟩ = some (.slice oa' t.l.length cap') := fun W hW => by
          have e1 : ∀ j, W.cell? ⟨w.heap.size, j, none⟩ = _ := fun j => World.cell?_of_block (w := (w.alloc o1).alloc o2) (hW.block _ l1)
          have e2 : ∀ j, W.cell? ⟨w.heap.size + 1, j, none⟩ = _ := fun j => World.cell?_of_block (w := (w.alloc o1).alloc o2) (hW.block _ l2)
          have e3 : ∀ j, W.cell? ⟨g, j, none⟩ = _ := fun j => World.cell?_of_block (w := (w.alloc o1).alloc o2) (hW.block _ hgl2)
          rw [e1, e2, e2, e2, e3, e3, e3]
          exact ⟨c2, x0, x1, x2, t0, t1, t2⟩
        have HH := Lib.hid (And.intro hkk (And.intro hS (And.intro hgr hrow2)))
        have i0 : (0 : Int) ≤ (k : Int) := Int.natCast_nonneg _
        have i1 : (k : Int) < (l.length : Int) := by omega
        clear x3 x4 x42 hvt2 hkk hS hgr hrow2 hrow hvp hvt hsl hsl' hoa hel hoa' hel' hpk hpn hm hk hz q1c q2c hq1 hq2
        subst ho1 ho2
        go_enter Try.func81, Try.ntmps81
        go_wp2_with fail
        generalize ((w.alloc (.cells #[.int .i64 p.k, .int .i64 k, .slice oa p.l.length cap] 24)).alloc (.cells #[.int .i64 t.k, .int .i64 t.n, .slice oa' t.l.length cap'] 24)) = wb at *
        go_region_held3 (fun W => W.cell? ⟨w.heap.size, 1, none⟩ = some (.int .i64 k) ∧ W.cell? ⟨g, k * 3, none⟩ = some (.int .i64 l[k].k) ∧ W.cell? ⟨g, k * 3 + 1, none⟩ = some (.int .i64 l[k].n) ∧ W.cell? ⟨g, k * 3 + 2, none⟩ = some (.slice oa3 l[k].l.length cap3) ∧ W.cell? ⟨w.heap.size + 1, 0, none⟩ = some (.int .i64 t.k) ∧ W.cell? ⟨w.heap.size + 1, 1, none⟩ = some (.int .i64 t.n) ∧ W.cell? ⟨w.heap.size + 1, 2, none⟩ = some (.slice oa' t.l.length cap'))
          (first | (refine HH.out.1 _ ?_; (repeat (first | with_reducible assumption | with_reducible exact bZ _ | with_reducible apply bA | with_reducible apply bD)); done))
          (first
            | (go_at_call 17; (with_reducible refine (HH.out.2.1 _ (by (repeat (first | with_reducible assumption | with_reducible exact bZ _ | with_reducible apply bA | with_reducible apply bD)))).mono ?_); rintro e w5 ⟨rfl, hb5⟩; have hb6 := below_next (show Below wb.heap.size wb _ from by (repeat (first | with_reducible assumption | with_reducible exact bZ _ | with_reducible apply bA | with_reducible apply bD))) hb5; clear hb5))
        all_goals
          have HX := Lib.hid hb6
          clear hb6
          go_wp2_with fail
          go_ret
          refine ⟨rfl, rowI_kp HH.out.2.2.2 (fun b hb => HX.out.block b (by omega)), below_kp (below_next HH.out.2.2.1 HX.out) (fun b h => h.1)⟩
    · have hb1 : (p.k == 1) = false := by simp [hk]
      have hm := matchT_p p t l
      rw [if_neg hk] at hm
      have q1c := hq1.trans (congrArg some ho1)
      have q2c := hq2.trans (congrArg some ho2)
      have c0 := (cells_of q1c 0).1
      have c1 := (cells_of q1c 1).1
      have c2 := (cells_of q1c 2).1
      have t0 := (cells_of q2c 0).1
      have t1 := (cells_of q2c 1).1
      have t2 := (cells_of q2c 2).1
      simp only [List.getElem?_toArray, List.getElem?_cons_zero, List.getElem?_cons_succ] at c0 c1 c2 t0 t1 t2
      have hsr := sameRoot_any p t _ _ _ _ ((w.alloc o1).alloc o2) (trV_mono (fun _ h => h) (fun b (h : b < B) => hgr.block b (by omega)) _ hvp) (trV_mono (fun _ h => h) (fun b (h : b < B) => hgr.block b (by omega)) _ hvt)
      have hch : ∀ x ∈ p.l, ∀ n, occ n x = true → 0 ≤ n ∧ n < l.length := fun x hx n hn => hocc n (by
        obtain ⟨pk, pn, pl⟩ := p
        simp only [occ, Bool.or_eq_true]; exact .inr ((occL_iff n pl).2 ⟨x, hx, hn⟩))
      have HH := Lib.hid (And.intro hsr (And.intro hgr (And.intro hrow2 (And.intro q1c (And.intro q2c hch)))))
      have HEV := Lib.hid (And.intro hvp hvt)
      by_cases hr : p.k = t.k ∧ p.n = t.n ∧ p.l.length = t.l.length
      · rw [if_pos hr] at hm
        have hbr : (p.k == t.k && p.n == t.n && decide (p.l.length = t.l.length)) = true := by simp [hr.1, hr.2.1, hr.2.2]
        have HR := Lib.hid (And.intro hr hbr)
        rw [hm]
        clear hsr hch hgr hrow2 hrow hvp hvt hsl hsl' hoa hel hoa' hel' hpk hpn hm hk q1c q2c hq1 hq2 hocc hr hbr
        subst ho1 ho2
        go_enter Try.func81, Try.ntmps81
        go_wp2_with fail
        refine HH.out.1.mono ?_
        rintro e w3 ⟨rfl, hb3⟩
        rw [HR.out.2]
        have r1 := (hb3.block _ (block_lt HH.out.2.2.2.1)).trans HH.out.2.2.2.1
        have a2 := (cells_of r1 2).1
        simp only [List.getElem?_toArray, List.getElem?_cons_zero, List.getElem?_cons_succ] at a2
        have HB3 := Lib.hid hb3
        clear hb3 r1
        go_wp2_with fail
        go_loopw [38] (fun i wr => ∃ (k : Nat) (lk : List Tm), k ≤ p.l.length ∧ i = .int .i64 k ∧ lk.length = l.length ∧ Hid (matchL p.l t.l l = matchL (p.l.drop k) (t.l.drop k) lk) ∧ Hid (RowI B g lk wr ∧ Kp (fun b => b < w3.heap.size ∧ b ≠ g) w3 wr)) (fun i _ => p.l.length - (intOf i).toNat)
        case atStart => exact ⟨0, l, by omega, rfl, rfl, rfl, rowI_kp HH.out.2.2.1 (fun b hb => HB3.out.block b (by have := rowI_lt HH.out.2.2.1; omega)), Kp.refl _ _⟩
        case round =>
          obtain ⟨k, lk, hk, rfl, hlk, HRR, HI⟩ := hrel
          by_cases hlt : k < p.l.length
          · have hlt' : k < t.l.length := by have := HR.out.1.2.2; omega
            obtain ⟨rfl, hQb⟩ := HEL.out.1 (by omega)
            obtain ⟨rfl, hQb'⟩ := HEL.out.2.2.1 (by omega)
            obtain ⟨oa2, cap2, e0, e1, e2, e3⟩ := HEL.out.2.1 k hlt
            obtain ⟨oa4, cap4, f0, f1, f2, f3⟩ := HEL.out.2.2.2 k hlt'
            have hs3 : w.heap.size ≤ w3.heap.size := (below_next HH.out.2.1 HB3.out).size
            have old : ∀ b, b < w.heap.size → b ≠ g → wr.heap[b]? = w.heap[b]? := fun b hb hg => (HI.out.2.block b ⟨by omega, hg⟩).trans ((below_next HH.out.2.1 HB3.out).block b hb)
            have d0 := (World.cell?_of_block (w := w) (a := ⟨b, o + k * 3, none⟩) (old b (by omega) (by omega))).trans e0
            have d1 := (World.cell?_of_block (w := w) (a := ⟨b, o + k * 3 + 1, none⟩) (old b (by omega) (by omega))).trans e1
            have d2 := (World.cell?_of_block (w := w) (a := ⟨b, o + k * 3 + 2, none⟩) (old b (by omega) (by omega))).trans e2
            have g0 := (World.cell?_of_block (w := w) (a := ⟨b', o' + k * 3, none⟩) (old b' (by omega) (by omega))).trans f0
            have g1 := (World.cell?_of_block (w := w) (a := ⟨b', o' + k * 3 + 1, none⟩) (old b' (by omega) (by omega))).trans f1
            have g2 := (World.cell?_of_block (w := w) (a := ⟨b', o' + k * 3 + 2, none⟩) (old b' (by omega) (by omega))).trans f2
            have hl2 := block_lt HH.out.2.2.2.2.1
            have hl3 := HB3.out.size
            have r2 := (HI.out.2.block _ ⟨by omega, by omega⟩).trans ((HB3.out.block _ hl2).trans HH.out.2.2.2.2.1)
            have t2' := (cells_of r2 2).1
            simp only [List.getElem?_toArray, List.getElem?_cons_zero, List.getElem?_cons_succ] at t2'
            have hsr := HI.out.2.size
            have hgr3 := rowI_lt HI.out.1
            obtain ⟨ox, hox⟩ : ∃ ox : Obj, ox = .cells #[.int .i64 p.l[k].k, .int .i64 p.l[k].n, .slice oa2 p.l[k].l.length cap2] 24 := ⟨_, rfl⟩
            have hnew := heap_alloc_new wr ox
            have hnewc := hnew.trans (congrArg some hox)
            have hal := below_alloc wr ox
            have hS : ∀ W : World, (∀ b, b < (wr.alloc ox).heap.size → b ≠ g → W.heap[b]? = (wr.alloc ox).heap[b]?) → W.cell? ⟨wr.heap.size, 0, none⟩ = some (.int .i64 p.l[k].k) ∧ W.cell? ⟨wr.heap.size, 1, none⟩ = some (.int .i64 p.l[k].n) ∧ W.cell? ⟨wr.heap.size, 2, none⟩ = some (.slice oa2 p.l[k].l.length cap2) ∧ W.cell? ⟨w.heap.size + 1, 2, none⟩ = some (.slice (some ⟨b', o', none⟩) t.l.length cap') ∧ W.cell? ⟨b', o' + k * 3, none⟩ = some (.int .i64 t.l[k].k) ∧ W.cell? ⟨b', o' + k * 3 + 1, none⟩ = some (.int .i64 t.l[k].n) ∧ W.cell? ⟨b', o' + k * 3 + 2, none⟩ = some (.slice oa4 t.l[k].l.length cap4) := fun W hW => by
              have e1 : ∀ j, W.cell? ⟨wr.heap.size, j, none⟩ = _ := fun j => World.cell?_of_block (w := wr.alloc ox) (hW wr.heap.size (by simp) (by omega))
              have e2 : ∀ j, W.cell? ⟨w.heap.size + 1, j, none⟩ = _ := fun j => World.cell?_of_block (w := wr) ((hW (w.heap.size + 1) (by simp; omega) (by omega)).trans (hal.block _ (by omega)))
              have e3 : ∀ j, W.cell? ⟨b', j, none⟩ = _ := fun j => World.cell?_of_block (w := wr) ((hW b' (by simp; omega) (by omega)).trans (hal.block _ (by omega)))
              rw [e1, e1, e1, e2, e3, e3, e3]
              exact ⟨(cells_of hnewc 0).1, (cells_of hnewc 1).1, (cells_of hnewc 2).1, t2', g0, g1, g2⟩
            have hcall : ∀ W, Below (wr.alloc ox).heap.size (wr.alloc ox) W → Calls Try.prog 81 #[.agg #[.int .i64 p.l[k].k, .int .i64 p.l[k].n, .slice oa2 p.l[k].l.length cap2], .agg #[.int .i64 t.l[k].k, .int .i64 t.l[k].n, .slice oa4 t.l[k].l.length cap4], .slice (some ⟨g, 0, none⟩) l.length l.length] W fun e w' =>
                e = .returned (.bool (matchT p.l[k] t.l[k] lk).2) ∧ (RowI B g (matchT p.l[k] t.l[k] lk).1 w' ∧ Kp (fun b => b < w3.heap.size ∧ b ≠ g) w3 w') ∧ (w'.cell? ⟨wr.heap.size, 0, none⟩ = some (.int .i64 p.l[k].k) ∧ w'.cell? ⟨wr.heap.size, 1, none⟩ = some (.int .i64 p.l[k].n) ∧ w'.cell? ⟨wr.heap.size, 2, none⟩ = some (.slice oa2 p.l[k].l.length cap2) ∧ w'.cell? ⟨w.heap.size + 1, 2, none⟩ = some (.slice (some ⟨b', o', none⟩) t.l.length cap') ∧ w'.cell? ⟨b', o' + k * 3, none⟩ = some (.int .i64 t.l[k].k) ∧ w'.cell? ⟨b', o' + k * 3 + 1, none⟩ = some (.int .i64 t.l[k].n) ∧ w'.cell? ⟨b', o' + k * 3 + 2, none⟩ = some (.slice oa4 t.l[k].l.length cap4)) := fun W hW => by
              have hbW : ∀ b, b < wr.heap.size → W.heap[b]? = wr.heap[b]? := fun b hb => (hW.block b (by simp; omega)).trans (hal.block b hb)
              have hrW : RowI B g lk W := rowI_kp HI.out.1 (fun b hb => hbW b (by omega))
              have h := IH.out p.l[k] (by have := sz_l p; have := sz_mem (List.getElem_mem hlt); omega) t.l[k] _ _ lk W (trV_mono (fun _ h => h) (fun b (h : b < B) => (hbW b (by omega)).trans (old b (by omega) (by omega))) _ e3) (trV_mono (fun _ h => h) (fun b (h : b < B) => (hbW b (by omega)).trans (old b (by omega) (by omega))) _ f3) hrW (fun n hn => by rw [hlk]; exact HH.out.2.2.2.2.2 _ (List.getElem_mem hlt) n hn)
              rw [hlk] at h
              refine h.mono ?_
              rintro e w' ⟨he, hr', hk'⟩
              have hWs := hW.size
              have hws : (wr.alloc ox).heap.size = wr.heap.size + 1 := by simp
              refine ⟨he, ⟨hr', HI.out.2.trans ?_⟩, hS w' (fun b hb hg => (hk'.block b ⟨by omega, hg⟩).trans (hW.block b hb))⟩
              exact (below_kp (below_next hal hW) (fun b hb => by omega)).trans (hk'.mono fun b hb => ⟨by omega, hb.2⟩)
            have hdr : matchL (p.l.drop k) (t.l.drop k) lk = if (matchT p.l[k] t.l[k] lk).2 then matchL (p.l.drop (k + 1)) (t.l.drop (k + 1)) (matchT p.l[k] t.l[k] lk).1 else ((matchT p.l[k] t.l[k] lk).1, false) := by
              rw [List.drop_eq_getElem_cons hlt, List.drop_eq_getElem_cons hlt']; rfl
            have hml := matchT_len p.l[k] t.l[k] lk
            have HX := Lib.hid (And.intro (fun W (hW : Below (wr.alloc ox).heap.size (wr.alloc ox) W) => hS W (fun b hb _ => hW.block b hb)) (And.intro hcall (And.intro (HRR.out.trans hdr) hml)))
            have i0 : (0 : Int) ≤ (k : Int) := Int.natCast_nonneg _
            have i1 : (k : Int) < (t.l.length : Int) := by omega
            have i2 : (k : Int) < (p.l.length : Int) := by omega
            clear hdr hml hcall hS hal hnew hnewc t2' r2 old e0 e1 e2 e3 f0 f1 f2 f3 g0 g1 g2
            cases hb : (matchT p.l[k] t.l[k] lk).2 with
            | false =>
              have HB := Lib.hid hb
              clear hb
              subst hox
              go_wp2_with fail
              generalize (wr.alloc (.cells #[.int .i64 p.l[k].k, .int .i64 p.l[k].n, .slice oa2 p.l[k].l.length cap2] 24)) = wb at *
              go_region_held3 (fun W => W.cell? ⟨wr.heap.size, 0, none⟩ = some (.int .i64 p.l[k].k) ∧ W.cell? ⟨wr.heap.size, 1, none⟩ = some (.int .i64 p.l[k].n) ∧ W.cell? ⟨wr.heap.size, 2, none⟩ = some (.slice oa2 p.l[k].l.length cap2) ∧ W.cell? ⟨w.heap.size + 1, 2, none⟩ = some (.slice (some ⟨b', o', none⟩) t.l.length cap') ∧ W.cell? ⟨b', o' + k * 3, none⟩ = some (.int .i64 t.l[k].k) ∧ W.cell? ⟨b', o' + k * 3 + 1, none⟩ = some (.int .i64 t.l[k].n) ∧ W.cell? ⟨b', o' + k * 3 + 2, none⟩ = some (.slice oa4 t.l[k].l.length cap4))
                (first | with_reducible assumption | (refine HX.out.1 _ ?_; (repeat (first | with_reducible assumption | with_reducible exact bZ _ | with_reducible apply bA | with_reducible apply bD)); done))
                (first
                  | (go_at_call 81; (with_reducible refine (HX.out.2.1 _ (by (repeat (first | with_reducible assumption | with_reducible exact bZ _ | with_reducible apply bA | with_reducible apply bD)))).mono ?_); rintro e w6 ⟨rfl, hq1, hq2⟩; rw [HB.out]))
              all_goals
                have HQ := Lib.hid hq1
                clear hq1 hq2
                go_wp2_with fail
                go_ret
                rw [HX.out.2.2.1, HB.out]
                exact ⟨rfl, HQ.out.1, (below_kp (below_next HH.out.2.1 HB3.out) (fun b hb => hb.1)).trans (HQ.out.2.mono fun b hb => ⟨by have := hb.1; omega, hb.2⟩)⟩
            | true =>
              have HB := Lib.hid hb
              clear hb
              subst hox
              go_wp2_with fail
              generalize (wr.alloc (.cells #[.int .i64 p.l[k].k, .int .i64 p.l[k].n, .slice oa2 p.l[k].l.length cap2] 24)) = wb at *
              go_region_held3 (fun W => W.cell? ⟨wr.heap.size, 0, none⟩ = some (.int .i64 p.l[k].k) ∧ W.cell? ⟨wr.heap.size, 1, none⟩ = some (.int .i64 p.l[k].n) ∧ W.cell? ⟨wr.heap.size, 2, none⟩ = some (.slice oa2 p.l[k].l.length cap2) ∧ W.cell? ⟨w.heap.size + 1, 2, none⟩ = some (.slice (some ⟨b', o', none⟩) t.l.length cap') ∧ W.cell? ⟨b', o' + k * 3, none⟩ = some (.int .i64 t.l[k].k) ∧ W.cell? ⟨b', o' + k * 3 + 1, none⟩ = some (.int .i64 t.l[k].n) ∧ W.cell? ⟨b', o' + k * 3 + 2, none⟩ = some (.slice oa4 t.l[k].l.length cap4))
                (first | with_reducible assumption | (refine HX.out.1 _ ?_; (repeat (first | with_reducible assumption | with_reducible exact bZ _ | with_reducible apply bA | with_reducible apply bD)); done))
                (first
                  | (go_at_call 81; (with_reducible refine (HX.out.2.1 _ (by (repeat (first | with_reducible assumption | with_reducible exact bZ _ | with_reducible apply bA | with_reducible apply bD)))).mono ?_); rintro e w6 ⟨rfl, hq1, hq2⟩; rw [HB.out]))
              all_goals
                have HQ := Lib.hid hq1
                clear hq1 hq2
                go_wp2_with fail
                go_roundw
                case rel => exact ⟨k + 1, _, by omega, by go_num, HX.out.2.2.2.trans hlk, by have h := HX.out.2.2.1; rw [HB.out] at h; exact h, HQ.out.1, HQ.out.2⟩
                case measure => simp [intOf]; omega
          · have hres : matchL p.l t.l l = (lk, true) := by rw [HRR.out, List.drop_eq_nil_of_le (by omega : p.l.length ≤ k)]; rfl
            have HRS := Lib.hid hres
            clear hres
            have hs3 : w.heap.size ≤ w3.heap.size := (below_next HH.out.2.1 HB3.out).size
            go_wp2_with fail
            go_ret
            rw [HRS.out]
            exact ⟨rfl, HI.out.1, (below_kp (below_next HH.out.2.1 HB3.out) (fun b hb => hb.1)).trans (HI.out.2.mono fun b hb => ⟨by have := hb.1; omega, hb.2⟩)⟩
      · rw [if_neg hr] at hm
        have hbr : (p.k == t.k && p.n == t.n && decide (p.l.length = t.l.length)) = false := by
          rw [Bool.eq_false_iff]; simp only [ne_eq, Bool.and_eq_true, beq_iff_eq, decide_eq_true_eq, and_assoc]; exact hr
        have HR := Lib.hid hbr
        rw [hm]
        clear hsr hch hgr hrow2 hrow hvp hvt hsl hsl' hoa hel hoa' hel' hpk hpn hm hk q1c q2c hq1 hq2 hocc hr hbr
        subst ho1 ho2
        go_enter Try.func81, Try.ntmps81
        go_wp2_with fail
        refine HH.out.1.mono ?_
        rintro e w3 ⟨rfl, hb3⟩
        rw [HR.out]
        have HB3 := Lib.hid hb3
        clear hb3
        go_wp2_with fail
        go_ret
        exact ⟨rfl, rowI_kp HH.out.2.2.1 (fun b hb => HB3.out.block b (by have := rowI_lt HH.out.2.2.1; omega)), below_kp (below_next HH.out.2.1 HB3.out) (fun b hb => hb.1)⟩
end Go.Proofs.Ytapdfdjknehhgaa

/- Match. -/
namespace Go.Proofs.Ytapdfdjknehhgaa
open Go.RowKit Go.Tr

theorem rowI_start {n : Nat} (w : World) : RowI w.heap.size w.heap.size (List.replicate n zeroT) (w.alloc (.cells (madeCells zt (n * 3)) 24)) := by
  refine ⟨Nat.le_refl _, _, heap_alloc_new w _, by rw [size_madeCells]; simp, fun j hj => ?_⟩
  have hj' : j < n := by simpa using hj
  obtain ⟨a, b, c⟩ := made_at n j hj'
  simp only [List.getElem_replicate]
  exact ⟨none, 0, a, b, c, trV_iff.2 ⟨_, rfl, by unfold inI; simp [zeroT, Tm.k], by unfold inI; simp [zeroT, Tm.n], none, 0, 0, 0, rfl, Nat.le_refl _, by omega, fun h => absurd rfl h, trivial⟩⟩
theorem rowI_trS {B g : Nat} {l : List Tm} {w : World} (h : RowI B g l w) (hl : l.length ≤ 9223372036854775807) : TrS w (· < w.heap.size) l (.slice (some ⟨g, 0, none⟩) l.length l.length) := by
  have hg := rowI_lt h
  obtain ⟨h0, xs, h1, h2, h3⟩ := h
  refine ⟨_, _, g, 0, rfl, Nat.le_refl _, hl, fun _ => ⟨rfl, hg⟩, trC_iff.2 fun i hi => ?_⟩
  obtain ⟨oa, cap, a, b, c, d⟩ := h3 i hi
  refine ⟨_, ?_, ?_, ?_, trV_lt d (by omega)⟩
  · rw [(cells_of h1 _).1]; simpa using a
  · rw [(cells_of h1 _).1]; simpa using b
  · rw [(cells_of h1 _).1]; simpa using c
/-- Two trees, laid into a new row. -/
theorem trS_two {w w' : World} {t u : Tm} {oa ob : Option Addr} {ca cb : Nat} (hv : TrV w (· < w.heap.size) t (.agg #[.int .i64 t.k, .int .i64 t.n, .slice oa t.l.length ca])) (hu : TrV w (· < w.heap.size) u (.agg #[.int .i64 u.k, .int .i64 u.n, .slice ob u.l.length cb]))
    (hh : w'.heap = (w.alloc (.cells #[.int .i64 t.k, .int .i64 t.n, .slice oa t.l.length ca, .int .i64 u.k, .int .i64 u.n, .slice ob u.l.length cb] 24)).heap) : TrS w' (· < w'.heap.size) [t, u] (.slice (some ⟨w.heap.size, 0, none⟩) 2 2) := by
  have hn : w'.heap[w.heap.size]? = some (.cells #[.int .i64 t.k, .int .i64 t.n, .slice oa t.l.length ca, .int .i64 u.k, .int .i64 u.n, .slice ob u.l.length cb] 24) := by rw [hh]; exact heap_alloc_new w _
  have up : ∀ {x : Tm} {v : Value}, TrV w (· < w.heap.size) x v → TrV w' (· < w'.heap.size) x v := fun h => trV_mono (fun b (h : b < w.heap.size) => by rw [hh]; simp; omega) (fun b (h : b < w.heap.size) => by rw [hh]; exact Below.heap_alloc _ _ _ h) _ h
  refine ⟨_, _, w.heap.size, 0, rfl, Nat.le_refl _, by simp, fun _ => ⟨rfl, by rw [hh]; simp⟩, trC_iff.2 fun i hi => ?_⟩
  match i, hi with
  | 0, _ => exact ⟨.slice oa t.l.length ca, (cells_of hn 0).1, (cells_of hn 1).1, (cells_of hn 2).1, up hv⟩
  | 1, _ => exact ⟨.slice ob u.l.length cb, (cells_of hn 3).1, (cells_of hn 4).1, (cells_of hn 5).1, up hu⟩
/-- What Match leaves. -/
def MatchP (p t : Tm) (w : World) (e : Ending) (w' : World) : Prop :=
  Below w.heap.size w w' ∧
  ((good p && good t) = false ∧ e = .returned (.tuple #[.slice none 0 0, .bool false, .int .i64 4]) ∨
   (good p && good t) = true ∧ (4000 < most (vars [p]) ∧ e = .returned (.tuple #[.slice none 0 0, .bool false, .int .i64 1]) ∨
     most (vars [p]) ≤ 4000 ∧ ((matchR p t).2 = false ∧ e = .returned (.tuple #[.slice none 0 0, .bool false, .int .i64 0]) ∨
       (matchR p t).2 = true ∧ ∃ v, e = .returned (.tuple #[v, .bool true, .int .i64 0]) ∧ TrS w' (Nw w w') (matchR p t).1 v)))
set_option maxRecDepth 100000 in
set_option maxHeartbeats 800000 in
theorem Match_any (p t : Tm) (vp vt : Value) (w : World) (hvp : TrV w (· < w.heap.size) p vp) (hvt : TrV w (· < w.heap.size) t vt) :
    Calls Try.prog 41 #[vp, vt] w (MatchP p t w) := by
  obtain ⟨sl, rfl, hpk, hpn, hsl⟩ := trV_iff.1 hvp
  obtain ⟨oa, cap, b, o, rfl, hlc, hcm, -, -⟩ := trS_at hsl
  obtain ⟨sl', rfl, -, -, hsl'⟩ := trV_iff.1 hvt
  obtain ⟨oa', cap', b', o', rfl, hlc', hcm', -, -⟩ := trS_at hsl'
  obtain ⟨o1, ho1⟩ : ∃ o : Obj, o = .cells #[.int .i64 p.k, .int .i64 p.n, .slice oa p.l.length cap] 24 := ⟨_, rfl⟩
  obtain ⟨o2, ho2⟩ : ∃ o : Obj, o = .cells #[.int .i64 t.k, .int .i64 t.n, .slice oa' t.l.length cap'] 24 := ⟨_, rfl⟩
  obtain ⟨o3, ho3⟩ : ∃ o : Obj, o = .cells #[.int .i64 p.k, .int .i64 p.n, .slice oa p.l.length cap, .int .i64 t.k, .int .i64 t.n, .slice oa' t.l.length cap'] 24 := ⟨_, rfl⟩
  have hgr2 : Below w.heap.size w ((w.alloc o1).alloc o2) := bA (bA (bZ w) _) _
  have hgr : Below w.heap.size w (((w.alloc o1).alloc o2).alloc o3) := bA hgr2 _
  have hq1 : (((w.alloc o1).alloc o2).alloc o3).heap[w.heap.size]? = some o1 := by (simp only [heap_alloc, alloc_size]; repeat (first | rw [if_pos trivial] | rw [if_pos (by omega)] | rw [if_neg (by omega)]))
  have hq2 : (((w.alloc o1).alloc o2).alloc o3).heap[w.heap.size + 1]? = some o2 := by (simp only [heap_alloc, alloc_size]; repeat (first | rw [if_pos trivial] | rw [if_pos (by omega)] | rw [if_neg (by omega)]))
  have hA := areTrees_any [p, t] _ (((w.alloc o1).alloc o2).alloc o3) (trS_two (w := (w.alloc o1).alloc o2) (trV_up hgr2 hvp) (trV_up hgr2 hvt) (by rw [ho3]))
  have hall : [p, t].all good = (good p && good t) := by simp
  have hsz0 : ((w.alloc o1).alloc o2).heap.size = w.heap.size + 1 + 1 := by simp
  rw [hall, hsz0] at hA
  have HH := Lib.hid (And.intro hA (And.intro hgr (And.intro (hq1.trans (congrArg some ho1)) (And.intro (hq2.trans (congrArg some ho2)) (And.intro hvp hvt)))))
  clear hA hgr hgr2 hq1 hq2 hvp hvt hsl hsl' hall hsz0
  subst ho1 ho2 ho3
  cases hg : (good p && good t) with
  | false =>
    have HG := Lib.hid hg
    clear hg
    go_enter Try.func41, Try.ntmps41
    go_wp2_with fail
    refine HH.out.1.mono ?_
    rintro e w2 ⟨rfl, hb2⟩
    rw [HG.out]
    have HB := Lib.hid (below_next HH.out.2.1 hb2)
    clear hb2
    unfold errT
    go_wp2_with fail
    go_ret3
    exact ⟨HB.out, .inl ⟨HG.out, rfl⟩⟩
  | true =>
    have hgp : good p = true := by simp only [Bool.and_eq_true] at hg; exact hg.1
    have hgt : good t = true := by simp only [Bool.and_eq_true] at hg; exact hg.2
    have HG := Lib.hid (And.intro hg (And.intro hgp hgt))
    have hsz : szL [p] ≤ 2000 := by have := trV_sz hgp; simpa [szL] using this
    have hdp : dpL [p] ≤ 2000 := by have := ((good_iff p).1 hgp).2.1; simp [dpL]; omega
    have hmg := most_ge (vars [p])
    have hmk : ∀ w, most (vars [p]) ≤ 4000 → (Instr.makeSlice 22 (.int .i64 (most (vars [p]) + 1)) (.int .i64 (most (vars [p]) + 1))).run Try.prog w = .ok (.slice (some ⟨w.heap.size, 0, none⟩) (matchN p) (matchN p)) (w.alloc (.cells (madeCells zt (matchN p * 3)) 24)) := fun w hm => by
      have h := make_terms (matchN p) (by unfold matchN; omega) w
      have e : ((matchN p : Nat) : Int) = most (vars [p]) + 1 := by unfold matchN; omega
      rw [e] at h; exact h
    have HMK := Lib.hid hmk
    clear hg hgp hgt hmk
    by_cases hm : most (vars [p]) ≤ 4000
    · have hmk := fun w => HMK.out w hm
      cases hr : (matchR p t).2 with
      | false =>
        have HR := Lib.hid hr
        clear hr
        go_enter Try.func41, Try.ntmps41
        go_wp2_with fail
        refine HH.out.1.mono ?_
        rintro e w2 ⟨rfl, hb2⟩
        rw [HG.out.1]
        have hbw := below_next HH.out.2.1 hb2
        have r1 := (hb2.block _ (block_lt HH.out.2.2.1)).trans HH.out.2.2.1
        have r2 := (hb2.block _ (block_lt HH.out.2.2.2.1)).trans HH.out.2.2.2.1
        have a0 := (cells_of r1 0).1
        have a1 := (cells_of r1 1).1
        have a2 := (cells_of r1 2).1
        simp only [List.getElem?_toArray, List.getElem?_cons_zero, List.getElem?_cons_succ] at a0 a1 a2
        have hgre := greatest_any [p] _ (w2.alloc (.cells #[.int .i64 p.k, .int .i64 p.n, .slice oa p.l.length cap] 24)) (trS_one (trV_up hbw HH.out.2.2.2.2.1) rfl) (by omega) (by omega)
        have HG2 := Lib.hid (And.intro hgre (And.intro hbw (And.intro r1 r2)))
        clear hgre hbw r1 r2 hb2
        unfold errT
        go_wp2_with fail
        refine HG2.out.1.mono ?_
        rintro e w3 ⟨rfl, hb3⟩
        have hb3 := below_next (below_alloc w2 _) hb3
        have r1 := (hb3.block _ (block_lt HG2.out.2.2.1)).trans HG2.out.2.2.1
        have r2 := (hb3.block _ (block_lt HG2.out.2.2.2)).trans HG2.out.2.2.2
        have HX0 := Lib.hid (And.intro (below_next HG2.out.2.1 hb3) (And.intro r1 r2))
        clear hb3 r1 r2 a0 a1 a2
        have hal := below_alloc w3 (.cells (madeCells zt (matchN p * 3)) 24)
        have r1 := (hal.block _ (block_lt HX0.out.2.1)).trans HX0.out.2.1
        have r2 := (hal.block _ (block_lt HX0.out.2.2)).trans HX0.out.2.2
        have a0 := (cells_of r1 0).1
        have a1 := (cells_of r1 1).1
        have a2 := (cells_of r1 2).1
        have b0 := (cells_of r2 0).1
        have b1 := (cells_of r2 1).1
        have b2 := (cells_of r2 2).1
        simp only [List.getElem?_toArray, List.getElem?_cons_zero, List.getElem?_cons_succ] at a0 a1 a2 b0 b1 b2
        have hlr : (List.replicate (matchN p) zeroT).length = matchN p := by simp
        have hmt := match_n w3.heap.size w3.heap.size (sz p) p (Nat.le_refl _) t _ _ (List.replicate (matchN p) zeroT) _ (trV_lt (trV_below (hal.mono HX0.out.1.size) (trV_below HX0.out.1 HH.out.2.2.2.2.1)) HX0.out.1.size) (trV_lt (trV_below (hal.mono HX0.out.1.size) (trV_below HX0.out.1 HH.out.2.2.2.2.2)) HX0.out.1.size) (rowI_start w3) (fun n hn => by
          rw [hlr]
          have h1 := most_mem ((vars_one p n).2 hn)
          have h2 := occ_nonneg p ((good_iff p).1 HG.out.2.1).2.2 n hn
          unfold matchN; omega)
        rw [hlr] at hmt
        have HX := Lib.hid (And.intro (below_next HX0.out.1 (bZ w3)) hmt)
        clear hmt hlr hal r1 r2
        go_wp2_with fail
        refine HX.out.2.mono ?_
        rintro e w5 ⟨rfl, hr5, hk5⟩
        rw [show (matchT p t (List.replicate (matchN p) zeroT)).2 = false from HR.out]
        have HY := Lib.hid (And.intro (show RowI w3.heap.size w3.heap.size (matchR p t).1 w5 from hr5) (show Below w3.heap.size w3 w5 from (below_alloc w3 _).trans (hk5.mono (R := (· < w3.heap.size)) fun b hb => ⟨by simp; omega, by omega⟩).below))
        clear hr5 hk5
        go_wp2_with fail
        go_ret3
        exact ⟨below_next HX.out.1 HY.out.2, .inr ⟨HG.out.1, .inr ⟨hm, .inl ⟨HR.out, rfl⟩⟩⟩⟩
      | true =>
        have HR := Lib.hid hr
        clear hr
        go_enter Try.func41, Try.ntmps41
        go_wp2_with fail
        refine HH.out.1.mono ?_
        rintro e w2 ⟨rfl, hb2⟩
        rw [HG.out.1]
        have hbw := below_next HH.out.2.1 hb2
        have r1 := (hb2.block _ (block_lt HH.out.2.2.1)).trans HH.out.2.2.1
        have r2 := (hb2.block _ (block_lt HH.out.2.2.2.1)).trans HH.out.2.2.2.1
        have a0 := (cells_of r1 0).1
        have a1 := (cells_of r1 1).1
        have a2 := (cells_of r1 2).1
        simp only [List.getElem?_toArray, List.getElem?_cons_zero, List.getElem?_cons_succ] at a0 a1 a2
        have hgre := greatest_any [p] _ (w2.alloc (.cells #[.int .i64 p.k, .int .i64 p.n, .slice oa p.l.length cap] 24)) (trS_one (trV_up hbw HH.out.2.2.2.2.1) rfl) (by omega) (by omega)
        have HG2 := Lib.hid (And.intro hgre (And.intro hbw (And.intro r1 r2)))
        clear hgre hbw r1 r2 hb2
        unfold errT
        go_wp2_with fail
        refine HG2.out.1.mono ?_
        rintro e w3 ⟨rfl, hb3⟩
        have hb3 := below_next (below_alloc w2 _) hb3
        have r1 := (hb3.block _ (block_lt HG2.out.2.2.1)).trans HG2.out.2.2.1
        have r2 := (hb3.block _ (block_lt HG2.out.2.2.2)).trans HG2.out.2.2.2
        have HX0 := Lib.hid (And.intro (below_next HG2.out.2.1 hb3) (And.intro r1 r2))
        clear hb3 r1 r2 a0 a1 a2
        have hal := below_alloc w3 (.cells (madeCells zt (matchN p * 3)) 24)
        have r1 := (hal.block _ (block_lt HX0.out.2.1)).trans HX0.out.2.1
        have r2 := (hal.block _ (block_lt HX0.out.2.2)).trans HX0.out.2.2
        have a0 := (cells_of r1 0).1
        have a1 := (cells_of r1 1).1
        have a2 := (cells_of r1 2).1
        have b0 := (cells_of r2 0).1
        have b1 := (cells_of r2 1).1
        have b2 := (cells_of r2 2).1
        simp only [List.getElem?_toArray, List.getElem?_cons_zero, List.getElem?_cons_succ] at a0 a1 a2 b0 b1 b2
        have hlr : (List.replicate (matchN p) zeroT).length = matchN p := by simp
        have hmt := match_n w3.heap.size w3.heap.size (sz p) p (Nat.le_refl _) t _ _ (List.replicate (matchN p) zeroT) _ (trV_lt (trV_below (hal.mono HX0.out.1.size) (trV_below HX0.out.1 HH.out.2.2.2.2.1)) HX0.out.1.size) (trV_lt (trV_below (hal.mono HX0.out.1.size) (trV_below HX0.out.1 HH.out.2.2.2.2.2)) HX0.out.1.size) (rowI_start w3) (fun n hn => by
          rw [hlr]
          have h1 := most_mem ((vars_one p n).2 hn)
          have h2 := occ_nonneg p ((good_iff p).1 HG.out.2.1).2.2 n hn
          unfold matchN; omega)
        rw [hlr] at hmt
        have HX := Lib.hid (And.intro (below_next HX0.out.1 (bZ w3)) hmt)
        clear hmt hlr hal r1 r2
        go_wp2_with fail
        refine HX.out.2.mono ?_
        rintro e w5 ⟨rfl, hr5, hk5⟩
        rw [show (matchT p t (List.replicate (matchN p) zeroT)).2 = true from HR.out]
        have HY := Lib.hid (And.intro (show RowI w3.heap.size w3.heap.size (matchR p t).1 w5 from hr5) (show Below w3.heap.size w3 w5 from (below_alloc w3 _).trans (hk5.mono (R := (· < w3.heap.size)) fun b hb => ⟨by simp; omega, by omega⟩).below))
        clear hr5 hk5
        have hlen : (matchR p t).1.length = matchN p := by unfold matchR; rw [matchT_len]; simp
        have hts := rowI_trS HY.out.1 (by rw [hlen]; unfold matchN; omega)
        rw [hlen] at hts
        have hcl := each_any (F := 76) (caps := #[]) (f := id) (matchR p t).1 _ w5 hts (by rw [hlen]; unfold matchN; omega) (fun _ _ => by go_simp) (fun x hx => clone_n (sz x) x (Nat.le_refl _) (by
          rcases matchT_elems p t _ x hx with h | h
          · rw [List.eq_of_mem_replicate h]; decide
          · have := trV_sz HG.out.2.2; omega) _)
        rw [List.map_id] at hcl
        have HL := Lib.hid hcl
        have HM := Lib.hid hm
        clear hcl hts hlen
        go_wp2_with fail
        refine HL.out.mono ?_
        rintro e w6 ⟨v', rfl, hv', hb6⟩
        have hs5 := HX.out.1.size
        have hs6 := HY.out.2.size
        have HZ := Lib.hid (And.intro (trS_mono (Q := Nw w w6) (fun b (hb : Nw _ _ b) => ⟨by have := hb.1; omega, hb.2⟩) (fun _ _ => rfl) hv') (below_next (below_next HX.out.1 HY.out.2) hb6))
        clear hv' hb6 hs5 hs6
        go_wp2_with fail
        go_ret3
        exact ⟨HZ.out.2, .inr ⟨HG.out.1, .inr ⟨HM.out, .inr ⟨HR.out, _, rfl, HZ.out.1⟩⟩⟩⟩
    · have hm' : 4000 < most (vars [p]) := by omega
      clear hm
      go_enter Try.func41, Try.ntmps41
      go_wp2_with fail
      refine HH.out.1.mono ?_
      rintro e w2 ⟨rfl, hb2⟩
      rw [HG.out.1]
      have hbw := below_next HH.out.2.1 hb2
      have r1 := (hb2.block _ (block_lt HH.out.2.2.1)).trans HH.out.2.2.1
      have r2 := (hb2.block _ (block_lt HH.out.2.2.2.1)).trans HH.out.2.2.2.1
      have a0 := (cells_of r1 0).1
      have a1 := (cells_of r1 1).1
      have a2 := (cells_of r1 2).1
      simp only [List.getElem?_toArray, List.getElem?_cons_zero, List.getElem?_cons_succ] at a0 a1 a2
      have hgre := greatest_any [p] _ (w2.alloc (.cells #[.int .i64 p.k, .int .i64 p.n, .slice oa p.l.length cap] 24)) (trS_one (trV_up hbw HH.out.2.2.2.2.1) rfl) (by omega) (by omega)
      have HG2 := Lib.hid (And.intro hgre (And.intro hbw (And.intro r1 r2)))
      clear hgre hbw r1 r2 hb2
      unfold errT
      go_wp2_with fail
      refine HG2.out.1.mono ?_
      rintro e w3 ⟨rfl, hb3⟩
      have hb3 := below_next (below_alloc w2 _) hb3
      have r1 := (hb3.block _ (block_lt HG2.out.2.2.1)).trans HG2.out.2.2.1
      have r2 := (hb3.block _ (block_lt HG2.out.2.2.2)).trans HG2.out.2.2.2
      have HX := Lib.hid (And.intro (below_next HG2.out.2.1 hb3) (And.intro r1 r2))
      clear hb3 r1 r2 a0 a1 a2
      go_wp2_with fail
      go_ret3
      exact ⟨HX.out.1, .inr ⟨HG.out.1, .inl ⟨hm', rfl⟩⟩⟩
end Go.Proofs.Ytapdfdjknehhgaa
