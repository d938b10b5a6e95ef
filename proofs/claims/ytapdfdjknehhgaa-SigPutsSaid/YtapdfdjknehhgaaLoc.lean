/- The node at a place, with where it lies, and what a tree put there makes of the whole. -/
import Derived.Test.YtapdfdjknehhgaaClo
namespace Go.Proofs.Ytapdfdjknehhgaa
open Go.RowKit Go.Tr

/-- A tree at three cells, whose parts lie behind them, apart. -/
def SpP (w : World) (t : Tm) (b o lo hi : Nat) : Prop :=
  ∃ s, w.cell? ⟨b, o, none⟩ = some (.int .i64 t.k) ∧ w.cell? ⟨b, o + 1, none⟩ = some (.int .i64 t.n) ∧ w.cell? ⟨b, o + 2, none⟩ = some s ∧ SpV w t lo hi (.agg #[.int .i64 t.k, .int .i64 t.n, s]) ∧ ¬ (lo ≤ b ∧ b < hi) ∧ ∃ xs, w.heap[b]? = some (.cells xs 24)
/-- Two worlds differ at most at this tree. -/
def Agree (N : Nat) (w w' : World) (b o lo hi : Nat) : Prop :=
  (∀ x, x < N → x ≠ b → ¬ (lo ≤ x ∧ x < hi) → w'.heap[x]? = w.heap[x]?) ∧ ∀ j, (j < o ∨ o + 3 ≤ j) → w'.cell? ⟨b, j, none⟩ = w.cell? ⟨b, j, none⟩
theorem spV_head {w : World} {t : Tm} {lo hi : Nat} {v : Value} (h : SpV w t lo hi v) : ∃ s, v = .agg #[.int .i64 t.k, .int .i64 t.n, s] := by
  obtain ⟨k, n, l⟩ := t
  simp only [SpV] at h
  obtain ⟨oa, cap, g, rfl, -⟩ := h
  exact ⟨_, rfl⟩
theorem spC_put {w : World} {g N : Nat} : ∀ (l : List Tm) (o lo hi : Nat), SpC w g l o lo hi → g < lo → (∃ xs, w.heap[g]? = some (.cells xs 24)) → hi ≤ N → ∀ i (h : i < l.length), ∃ lo' hi', lo ≤ lo' ∧ hi' ≤ hi ∧ SpP w l[i] g (o + i * 3) lo' hi' ∧
    ∀ w' (R : Nat → Prop) x', (∀ x, lo ≤ x → x < hi → R x) → Agree N w w' g (o + i * 3) lo' hi' → PtrT w' R x' g (o + i * 3) → TrC w' R g (l.set i x') o
  | [], _, _, _, _, _, _, _, i, h => by simp at h
  | t :: r, o, lo, hi, h, hg, hx, hN, 0, _ => by
    simp only [SpC] at h
    obtain ⟨k, n, s, mid, a, b, c, h1, h2⟩ := h
    obtain ⟨s', e⟩ := spV_head h1
    simp only [Value.agg.injEq, Array.mk.injEq, List.cons.injEq, and_true] at e
    obtain ⟨rfl, rfl, rfl⟩ := e
    have hm := spC_le h2
    have hm2 := spV_le h1
    refine ⟨lo, mid, Nat.le_refl _, hm, ⟨s, by simpa using a, by simpa using b, by simpa using c, by simpa using h1, by omega, hx⟩, ?_⟩
    intro w' R x' hR hag hpt
    obtain ⟨oa, cap, c0, c1, c2, c3⟩ := hpt
    simp only [Nat.zero_mul, Nat.add_zero] at c0 c1 c2 hag
    simp only [List.set_cons_zero, TrC]
    refine ⟨⟨_, _, _, c0, c1, c2, c3⟩, ?_⟩
    have h3 := spC_trC_of r (fun t _ => spV_trV t) _ _ _ h2
    rw [trC_iff] at h3 ⊢
    intro j hj
    obtain ⟨s', d0, d1, d2, h4⟩ := h3 j hj
    refine ⟨s', (hag.2 _ (.inr (by omega))).trans d0, (hag.2 _ (.inr (by omega))).trans d1, (hag.2 _ (.inr (by omega))).trans d2, trV_mono (fun x hx => hR x (by have := hx.1; omega) hx.2) (fun x hx => ?_) _ h4⟩
    have hx1 := hx.1
    have hx2 := hx.2
    exact hag.1 x (by omega) (by omega) (by omega)
  | t :: r, o, lo, hi, h, hg, hx, hN, i + 1, hi' => by
    simp only [SpC] at h
    obtain ⟨k, n, s, mid, a, b, c, h1, h2⟩ := h
    have hm := spC_le h2
    have hm2 := spV_le h1
    obtain ⟨lo', hi2, q1, q2, q3, q4⟩ := spC_put r (o + 3) mid hi h2 (by omega) hx hN i (by simpa using hi')
    have e : o + (i + 1) * 3 = o + 3 + i * 3 := by omega
    rw [e]
    refine ⟨lo', hi2, by omega, q2, by simpa using q3, ?_⟩
    intro w' R x' hR hag hpt
    have q5 := q4 w' R x' (fun x g1 g2 => hR x (by omega) g2) hag hpt
    simp only [List.set_cons_succ, TrC]
    refine ⟨⟨k, n, s, (hag.2 _ (.inl (by omega))).trans a, (hag.2 _ (.inl (by omega))).trans b, (hag.2 _ (.inl (by omega))).trans c, trV_mono (fun x hx => hR x hx.1 (by have := hx.2; omega)) (fun x hx => ?_) _ (spV_trV t _ _ _ h1)⟩, q5⟩
    have hx1 := hx.1
    have hx2 := hx.2
    exact hag.1 x (by omega) (by omega) (by omega)
theorem spP_step {w : World} {N : Nat} {t : Tm} {b o lo hi i : Nat} (h : SpP w t b o lo hi) (hb : b < N) (hN : hi ≤ N) (hlt : i < t.l.length) :
    ∃ g cap lo' hi', w.cell? ⟨b, o + 2, none⟩ = some (.slice (some ⟨g, 0, none⟩) t.l.length cap) ∧ lo ≤ g ∧ g < hi ∧ lo ≤ lo' ∧ hi' ≤ hi ∧ SpP w t.l[i] g (i * 3) lo' hi' ∧
      ∀ w' (R : Nat → Prop) x', (∀ x, lo ≤ x → x < hi → R x) → Agree N w w' g (i * 3) lo' hi' → PtrT w' R x' g (i * 3) → Agree N w w' b o lo hi ∧ PtrT w' R (.node t.k t.n (t.l.set i x')) b o := by
  obtain ⟨s, c0, c1, c2, hv, hbl, hxb⟩ := h
  obtain ⟨k, n, l⟩ := t
  simp only [SpV] at hv
  obtain ⟨oa, cap, g, e, h1, h2, h3, h4, h5, h6, h7⟩ := hv
  simp only [Value.agg.injEq, Array.mk.injEq, List.cons.injEq, and_true] at e
  obtain ⟨-, -, rfl⟩ := e
  have hlt' : i < l.length := hlt
  have hne : l ≠ [] := fun he => by rw [he] at hlt'; simp at hlt'
  obtain ⟨rfl, g1, g2, gx⟩ := h6 hne
  have e : max hi (g + 1) = hi := by omega
  rw [e] at h7
  obtain ⟨lo', hi', q1, q2, q3, q4⟩ := spC_put (N := N) l 0 (g + 1) hi h7 (by omega) gx hN i hlt'
  rw [Nat.zero_add] at q3 q4
  refine ⟨g, cap, lo', hi', c2, g1, g2, by omega, q2, q3, ?_⟩
  intro w' R x' hR hag hpt
  have hbb : w'.heap[b]? = w.heap[b]? := hag.1 b hb (by omega) (by omega)
  have hcb : ∀ j, w'.cell? ⟨b, j, none⟩ = w.cell? ⟨b, j, none⟩ := fun j => World.cell?_of_block (a := ⟨b, j, none⟩) hbb
  refine ⟨⟨fun x hx hxb hxr => hag.1 x hx (by omega) (by omega), fun j _ => hcb j⟩, ?_⟩
  have hc := q4 w' R x' (fun x y1 y2 => hR x (by omega) y2) hag hpt
  refine ⟨some ⟨g, 0, none⟩, cap, (hcb _).trans c0, (hcb _).trans c1, ?_, ?_⟩
  · show _ = some (Value.slice _ (l.set i x').length _)
    rw [List.length_set]
    exact (hcb _).trans c2
  · simp only [TrV, Tm.k, Tm.n, Tm.l]
    exact ⟨some ⟨g, 0, none⟩, cap, g, 0, by rw [List.length_set], h1, h2, by rw [List.length_set]; exact h3, h4, fun _ => ⟨rfl, hR g g1 g2⟩, hc⟩
theorem spP_ptr {w : World} {t : Tm} {b o lo hi : Nat} (h : SpP w t b o lo hi) : PtrT w (fun x => lo ≤ x ∧ x < hi) t b o := by
  obtain ⟨s, c0, c1, c2, hv, hbl, hxb⟩ := h
  have h2 := spV_trV t _ _ _ hv
  obtain ⟨sl, e, -, -, hs⟩ := trV_iff.1 h2
  obtain ⟨oa, cap, b', o', rfl, -, -, -, -⟩ := trS_at hs
  simp only [Value.agg.injEq, Array.mk.injEq, List.cons.injEq, and_true] at e
  obtain ⟨-, -, rfl⟩ := e
  exact ⟨oa, cap, c0, c1, c2, h2⟩
theorem putT_snoc : ∀ (p : List Int) (t y : Tm) (i : Int) (x : Tm), nodeT t p = some y → putT t (p ++ [i]) x = putT t p (.node y.k y.n (y.l.set i.toNat x))
  | [], t, y, i, x, h => by
    rw [nodeT] at h
    cases h
    simp only [List.nil_append, putT]
  | j :: r, .node k n l, y, i, x, h => by
    obtain ⟨h0, h1, h2, h3⟩ := nodeT_i h
    rw [List.cons_append, putT, putT]
    show Tm.node k n (l.set j.toNat (putT (l.getD j.toNat default) (r ++ [i]) x)) = Tm.node k n (l.set j.toNat (putT (l.getD j.toNat default) r _))
    rw [h3, putT_snoc r _ y i x h2]
theorem nodeT_snoc : ∀ (p : List Int) (t y : Tm) (i : Int) (x : Tm), nodeT t p = some y → nodeT y [i] = some x → nodeT t (p ++ [i]) = some x
  | [], t, y, i, x, h, h' => by rw [nodeT] at h; cases h; exact h'
  | j :: r, .node k n l, y, i, x, h, h' => by
    obtain ⟨h0, h1, h2, h3⟩ := nodeT_i h
    rw [List.cons_append, nodeT_c, if_pos h0, List.getElem?_eq_getElem h1]
    exact nodeT_snoc r _ y i x h2 h'
/-- What is known on the way to a place. -/
def Way (N : Nat) (w : World) (t : Tm) (b o lo hi : Nat) (p : List Int) (x : Tm) (bk ok : Nat) : Prop :=
  ∃ lok hik, nodeT t p = some x ∧ SpP w x bk ok lok hik ∧ ((bk = b ∧ ok = o) ∨ (lo ≤ bk ∧ bk < hi)) ∧ lo ≤ lok ∧ hik ≤ hi ∧
    ∀ w' (R : Nat → Prop) u, (∀ x, lo ≤ x → x < hi → R x) → Agree N w w' bk ok lok hik → PtrT w' R u bk ok → PtrT w' R (putT t p u) b o
theorem way_start {N : Nat} {w : World} {t : Tm} {b o lo hi : Nat} (h : SpP w t b o lo hi) : Way N w t b o lo hi [] t b o :=
  ⟨lo, hi, by rw [nodeT], h, .inl ⟨rfl, rfl⟩, Nat.le_refl _, Nat.le_refl _, fun w' R u _ _ hp => by rw [putT]; exact hp⟩
theorem way_next {N : Nat} {w : World} {t x : Tm} {b o lo hi bk ok i : Nat} {p : List Int} (hb : b < N) (hN : hi ≤ N) (h : Way N w t b o lo hi p x bk ok) (hlt : i < x.l.length) :
    ∃ g cap, w.cell? ⟨bk, ok + 2, none⟩ = some (.slice (some ⟨g, 0, none⟩) x.l.length cap) ∧ Way N w t b o lo hi (p ++ [(i : Int)]) x.l[i] g (i * 3) := by
  obtain ⟨lok, hik, h1, h2, h3, h4, h5, h6⟩ := h
  obtain ⟨g, cap, lo', hi', c, g1, g2, g3, g4, g5, g6⟩ := spP_step (N := N) h2 (by omega) (by omega) hlt
  refine ⟨g, cap, c, lo', hi', ?_, g5, .inr ⟨by omega, by omega⟩, by omega, by omega, ?_⟩
  · refine nodeT_snoc p t x _ _ h1 ?_
    obtain ⟨k, n, l⟩ := x
    have hlt' : i < l.length := hlt
    rw [nodeT_c, if_pos (by omega), Int.toNat_natCast, List.getElem?_eq_getElem hlt']
    rfl
  · intro w' R u hR hag hpt
    obtain ⟨a1, a2⟩ := g6 w' R u (fun y y1 y2 => hR y (by omega) (by omega)) hag hpt
    rw [putT_snoc p t x _ _ h1, Int.toNat_natCast]
    exact h6 w' R _ hR a1 a2
/-- The world behind a store of a tree at a place. -/
theorem agree_store {N : Nat} {w : World} {b o lo hi : Nat} {x y z : Value} : Agree N w (((w.setCell ⟨b, o, none⟩ x).setCell ⟨b, o + 1, none⟩ y).setCell ⟨b, o + 2, none⟩ z) b o lo hi := by
  have e : ∀ d, (d = 0 ∨ d = 1 ∨ d = 2) → ∀ j, (j < o ∨ o + 3 ≤ j) → (⟨b, o + d, none⟩ : Addr) ≠ ⟨b, j, none⟩ := fun d hd j hj h => by
    have h2 := congrArg Addr.off h
    simp only at h2
    omega
  refine ⟨fun i _ hne _ => by rw [Below.heap_setCell _ _ _ _ hne, Below.heap_setCell _ _ _ _ hne, Below.heap_setCell _ _ _ _ hne], fun j hj => ?_⟩
  rw [World.cell?_setCell_other (h := e 2 (by omega) j hj), World.cell?_setCell_other (h := e 1 (by omega) j hj), World.cell?_setCell_other (h := show (⟨b, o, none⟩ : Addr) ≠ ⟨b, j, none⟩ from e 0 (by omega) j hj)]
theorem way_at {N : Nat} {w : World} {t x : Tm} {b o lo hi bk ok : Nat} {p : List Int} (h : Way N w t b o lo hi p x bk ok) :
    ∃ oc cc, w.cell? ⟨bk, ok, none⟩ = some (.int .i64 x.k) ∧ w.cell? ⟨bk, ok + 1, none⟩ = some (.int .i64 x.n) ∧ w.cell? ⟨bk, ok + 2, none⟩ = some (.slice oc x.l.length cc) ∧ (∀ j, w.frozen? ⟨bk, j, none⟩ = false) ∧ bk < w.heap.size ∧ ((bk = b ∧ ok = o) ∨ (lo ≤ bk ∧ bk < hi)) ∧ nodeT t p = some x := by
  obtain ⟨lok, hik, h1, h2, h3, -⟩ := h
  obtain ⟨oc, cc, c0, c1, c2, -⟩ := spP_ptr h2
  obtain ⟨s, -, -, -, -, -, xs, hx⟩ := h2
  exact ⟨oc, cc, c0, c1, c2, fun j => (cells_of hx j).2, block_lt hx, h3, h1⟩
theorem put_end {c : Nat} {W1 w4 : World} {t u x : Tm} {l : List Int} {b lo hi bk ok : Nat} {s4 : Value} (hway : Way W1.heap.size W1 t b 0 lo hi l x bk ok) (hb : Below W1.heap.size W1 w4) (hlo : c ≤ lo) (hhi : hi ≤ W1.heap.size) (hc : c ≤ W1.heap.size)
    (hv : TrV w4 (Nw W1 w4) u (.agg #[.int .i64 u.k, .int .i64 u.n, s4])) :
    PtrT (((w4.setCell ⟨bk, ok, none⟩ (.int .i64 u.k)).setCell ⟨bk, ok + 1, none⟩ (.int .i64 u.n)).setCell ⟨bk, ok + 2, none⟩ s4) (fun y => c ≤ y ∧ y < (((w4.setCell ⟨bk, ok, none⟩ (.int .i64 u.k)).setCell ⟨bk, ok + 1, none⟩ (.int .i64 u.n)).setCell ⟨bk, ok + 2, none⟩ s4).heap.size) (putT t l u) b 0 := by
  obtain ⟨oc, cc, c0, c1, c2, -, hlt, -, -⟩ := way_at hway
  have hbk : w4.heap[bk]? = W1.heap[bk]? := hb.block bk hlt
  have d0 := (World.cell?_of_block (a := ⟨bk, ok, none⟩) hbk).trans c0
  have d1 := (World.cell?_of_block (a := ⟨bk, ok + 1, none⟩) hbk).trans c1
  have d2 := (World.cell?_of_block (a := ⟨bk, ok + 2, none⟩) hbk).trans c2
  obtain ⟨lok, hik, -, -, -, g1, g2, hput⟩ := hway
  have hst := agree_store (N := W1.heap.size) (w := w4) (b := bk) (o := ok) (lo := lok) (hi := hik) (x := .int .i64 u.k) (y := .int .i64 u.n) (z := s4)
  have n01 : (⟨bk, ok, none⟩ : Addr) ≠ ⟨bk, ok + 1, none⟩ := fun h => by have := congrArg Addr.off h; simp only at this; omega
  have n02 : (⟨bk, ok, none⟩ : Addr) ≠ ⟨bk, ok + 2, none⟩ := fun h => by have := congrArg Addr.off h; simp only at this; omega
  have n12 : (⟨bk, ok + 1, none⟩ : Addr) ≠ ⟨bk, ok + 2, none⟩ := fun h => by have := congrArg Addr.off h; simp only at this; omega
  have e0 : (((w4.setCell ⟨bk, ok, none⟩ (.int .i64 u.k)).setCell ⟨bk, ok + 1, none⟩ (.int .i64 u.n)).setCell ⟨bk, ok + 2, none⟩ s4).cell? ⟨bk, ok, none⟩ = some (.int .i64 u.k) := by
    rw [World.cell?_setCell_other (h := n02.symm), World.cell?_setCell_other (h := n01.symm), World.cell?_setCell_same (h := d0)]
  have e1 : (((w4.setCell ⟨bk, ok, none⟩ (.int .i64 u.k)).setCell ⟨bk, ok + 1, none⟩ (.int .i64 u.n)).setCell ⟨bk, ok + 2, none⟩ s4).cell? ⟨bk, ok + 1, none⟩ = some (.int .i64 u.n) := by
    rw [World.cell?_setCell_other (h := n12.symm), World.cell?_setCell_same (h := (World.cell?_setCell_other _ _ _ _ n01).trans d1)]
  have e2 : (((w4.setCell ⟨bk, ok, none⟩ (.int .i64 u.k)).setCell ⟨bk, ok + 1, none⟩ (.int .i64 u.n)).setCell ⟨bk, ok + 2, none⟩ s4).cell? ⟨bk, ok + 2, none⟩ = some s4 := by
    rw [World.cell?_setCell_same (h := (World.cell?_setCell_other _ _ _ _ n12).trans ((World.cell?_setCell_other _ _ _ _ n02).trans d2))]
  have hoth : ∀ y, y ≠ bk → (((w4.setCell ⟨bk, ok, none⟩ (.int .i64 u.k)).setCell ⟨bk, ok + 1, none⟩ (.int .i64 u.n)).setCell ⟨bk, ok + 2, none⟩ s4).heap[y]? = w4.heap[y]? := fun y hne => by
    rw [Below.heap_setCell _ _ _ _ hne, Below.heap_setCell _ _ _ _ hne, Below.heap_setCell _ _ _ _ hne]
  have hsz : (((w4.setCell ⟨bk, ok, none⟩ (.int .i64 u.k)).setCell ⟨bk, ok + 1, none⟩ (.int .i64 u.n)).setCell ⟨bk, ok + 2, none⟩ s4).heap.size = w4.heap.size := by simp [World.setCell]
  generalize (((w4.setCell ⟨bk, ok, none⟩ (.int .i64 u.k)).setCell ⟨bk, ok + 1, none⟩ (.int .i64 u.n)).setCell ⟨bk, ok + 2, none⟩ s4) = w5 at *
  have h5 := hb.size
  refine hput w5 _ u (fun y y1 y2 => ⟨by omega, by omega⟩) ⟨fun y hy hne hr => (hst.1 y hy hne hr).trans (hb.block y hy), fun j hj => (hst.2 j hj).trans (World.cell?_of_block (a := ⟨bk, j, none⟩) hbk)⟩ ?_
  obtain ⟨sl, e, -, -, hs⟩ := trV_iff.1 hv
  obtain ⟨oa, cap, b', o', rfl, -, -, -, -⟩ := trS_at hs
  simp only [Value.agg.injEq, Array.mk.injEq, List.cons.injEq, and_true] at e
  obtain ⟨-, -, rfl⟩ := e
  exact ⟨oa, cap, e0, e1, e2, trV_mono (fun y (hy : Nw W1 w4 y) => ⟨Nat.le_trans hc hy.1, by rw [hsz]; exact hy.2⟩) (fun y (hy : Nw W1 w4 y) => hoth y (by have := hy.1; omega)) _ hv⟩
def NodeL (N : Nat) (t : Tm) (l : List Int) (b o lo hi : Nat) (w : World) (e : Ending) (w' : World) : Prop :=
  w' = w ∧ ((nodeT t l = none ∧ e = .returned (.pointer none)) ∨ ∃ x bk ok, e = .returned (.pointer (some ⟨bk, ok, none⟩)) ∧ Way N w t b o lo hi l x bk ok)
set_option maxRecDepth 100000 in
theorem node_loc {N : Nat} {P2 : Nat → Prop} (t : Tm) (l : List Int) (b o lo hi : Nat) (s : Value) (w : World) (hb : b < N) (hN : hi ≤ N) (ht : SpP w t b o lo hi) (hs : IntS w P2 l s) (hl : ∀ n ∈ l, inI n) :
    Calls Try.prog 75 #[.pointer (some ⟨b, o, none⟩), s] w (NodeL N t l b o lo hi w) := by
  obtain ⟨oi, capi, bi, oj, rfl, hil, him, hio, hie⟩ := hs
  have H := Lib.hid (And.intro (way_start (N := N) ht) (And.intro hio (And.intro hie (And.intro hl (And.intro hb hN)))))
  clear ht hio hie hl hb hN
  go_enter Try.func75, Try.ntmps75
  go_wp2_with fail
  go_loopw [0, 9] (fun p i wr => ∃ (k : Nat) (tk : Tm) (bk ok : Nat), k ≤ l.length ∧ p = .pointer (some ⟨bk, ok, none⟩) ∧ i = .int .i64 k ∧ wr = w ∧ Hid (nodeT t l = nodeT tk (l.drop k) ∧ Way N w t b o lo hi (l.take k) tk bk ok)) (fun _ i _ => l.length - (intOf i).toNat)
  case atStart => exact ⟨0, t, b, o, by omega, rfl, rfl, rfl, rfl, H.out.1⟩
  case round =>
    obtain ⟨k, tk, bk, ok, hk, rfl, rfl, rfl, HI⟩ := hrel
    have hsp : ∃ lok hik, SpP wr tk bk ok lok hik := by
      obtain ⟨lok, hik, -, h, -⟩ := HI.out.2
      exact ⟨lok, hik, h⟩
    obtain ⟨lok, hik, hsp⟩ := hsp
    obtain ⟨oa, cap, c0, c1, c2, hv⟩ := spP_ptr hsp
    obtain ⟨oa', cap', b1, o1, he, hlc, hcm, hoa, hel⟩ := trS_at (by obtain ⟨sl, h1, -, -, h2⟩ := trV_iff.1 hv; cases h1; exact h2)
    cases he
    have HEL := Lib.hid (And.intro hoa hel)
    clear hv hoa hel hsp
    by_cases hlt : k < l.length
    · have hdr : l.drop k = l[k] :: l.drop (k + 1) := List.drop_eq_getElem_cons hlt
      obtain ⟨rfl, -⟩ := H.out.2.1 (by omega)
      have d0 := H.out.2.2.1 k hlt
      have hin := H.out.2.2.2.1 _ (List.getElem_mem hlt)
      unfold inI at hin
      have j0 : (0 : Int) ≤ (k : Int) := Int.natCast_nonneg _
      have j1 : (k : Int) < (l.length : Int) := by omega
      obtain ⟨m, hm⟩ : ∃ m, m = l[k] := ⟨_, rfl⟩
      have htk : l.take (k + 1) = l.take k ++ [m] := by rw [hm, List.take_succ_eq_append_getElem hlt]
      rw [← hm] at d0 hdr hin
      have HM := Lib.hid (And.intro hdr (And.intro hm htk))
      clear hdr hm htk
      by_cases hneg : m < 0
      · have hno : nodeT t l = none := by rw [HI.out.1, HM.out.1, nodeT, dif_neg (by omega)]
        have HN := Lib.hid hno
        clear hno
        go_wp2_with fail
        go_ret
        exact ⟨rfl, .inl ⟨HN.out, rfl⟩⟩
      · have hnn : ¬ m < 0 := hneg
        have hnn2 : (0 : Int) ≤ m := by omega
        by_cases hge : (tk.l.length : Int) ≤ m
        · have hno : nodeT t l = none := by rw [HI.out.1, HM.out.1, nodeT, dif_neg (by omega)]
          have HN := Lib.hid hno
          clear hno
          go_wp2_with fail
          go_ret
          exact ⟨rfl, .inl ⟨HN.out, rfl⟩⟩
        · have hlm : m < (tk.l.length : Int) := by omega
          obtain ⟨i, rfl⟩ : ∃ i : Nat, m = i := ⟨m.toNat, by omega⟩
          have hi : i < tk.l.length := by omega
          obtain ⟨g, capg, hg, hway⟩ := way_next H.out.2.2.2.2.1 H.out.2.2.2.2.2 HI.out.2 hi
          rw [← HM.out.2.2] at hway
          rw [c2] at hg
          simp only [Option.some.injEq, Value.slice.injEq, true_and] at hg
          obtain ⟨rfl, rfl⟩ := hg
          have hyes : nodeT t l = nodeT tk.l[i] (l.drop (k + 1)) := by
            rw [HI.out.1, HM.out.1, nodeT, dif_pos ⟨by omega, by simpa using hi⟩]; simp
          have HN := Lib.hid (And.intro hyes hway)
          clear hyes hway
          go_wp2_with fail
          go_roundw
          case rel => exact ⟨k + 1, tk.l[i], g, i * 3, by omega, by first | rfl | trivial | simp, by go_num, by first | rfl | trivial, HN.out.1, HN.out.2⟩
          case measure => simp [intOf]; omega
    · have hyes : l.take k = l := List.take_of_length_le (by omega)
      have hway := HI.out.2
      rw [hyes] at hway
      have HN := Lib.hid hway
      clear hyes hway
      go_wp2_with fail
      go_ret
      exact ⟨rfl, .inr ⟨tk, bk, ok, rfl, HN.out⟩⟩
end Go.Proofs.Ytapdfdjknehhgaa
