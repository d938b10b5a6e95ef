/- Trees in memory that share nothing: each row in a block of its own, its elements in blocks behind it, one range behind the other. -/
import Derived.Test.YtapdfdjknehhgaaPutP
import Derived.Test.YtapdfdjknehhgaaSn
namespace Go.Proofs.Ytapdfdjknehhgaa
open Go.RowKit Go.Tr

mutual
def SpV (w : World) : Tm → Nat → Nat → Value → Prop
  | .node k n l, lo, hi, v => ∃ oa cap g, v = .agg #[.int .i64 k, .int .i64 n, .slice oa l.length cap] ∧ inI k ∧ inI n ∧ l.length ≤ cap ∧ cap ≤ 9223372036854775807 ∧ lo ≤ hi ∧ (l ≠ [] → oa = some ⟨g, 0, none⟩ ∧ lo ≤ g ∧ g < hi ∧ ∃ xs, w.heap[g]? = some (.cells xs 24)) ∧ SpC w g l 0 (g + 1) (max hi (g + 1))
def SpC (w : World) (g : Nat) : List Tm → Nat → Nat → Nat → Prop
  | [], _, lo, hi => lo ≤ hi
  | t :: r, o, lo, hi => ∃ k n s mid, w.cell? ⟨g, o, none⟩ = some k ∧ w.cell? ⟨g, o + 1, none⟩ = some n ∧ w.cell? ⟨g, o + 2, none⟩ = some s ∧ SpV w t lo mid (.agg #[k, n, s]) ∧ SpC w g r (o + 3) mid hi
end
theorem spV_le {w : World} {t : Tm} {lo hi : Nat} {v : Value} (h : SpV w t lo hi v) : lo ≤ hi := by
  obtain ⟨k, n, l⟩ := t
  simp only [SpV] at h
  obtain ⟨oa, cap, g, -, -, -, -, -, h, -⟩ := h
  exact h
theorem spC_le {w : World} {g : Nat} : ∀ {l : List Tm} {o lo hi : Nat}, SpC w g l o lo hi → lo ≤ hi
  | [], _, _, _, h => by simpa [SpC] using h
  | t :: r, o, lo, hi, h => by
    simp only [SpC] at h
    obtain ⟨k, n, s, mid, -, -, -, h1, h2⟩ := h
    exact Nat.le_trans (spV_le h1) (spC_le h2)
theorem spC_hi {w : World} {g : Nat} : ∀ {l : List Tm} {o lo hi hi' : Nat}, SpC w g l o lo hi → hi ≤ hi' → SpC w g l o lo hi'
  | [], _, _, _, _, h, h' => by simp only [SpC] at h ⊢; omega
  | t :: r, o, lo, hi, hi', h, h' => by
    simp only [SpC] at h ⊢
    obtain ⟨k, n, s, mid, a, b, c, h1, h2⟩ := h
    exact ⟨k, n, s, mid, a, b, c, h1, spC_hi h2 h'⟩
theorem spC_trC_of {w : World} {g : Nat} : ∀ (l : List Tm), (∀ t ∈ l, ∀ lo hi v, SpV w t lo hi v → TrV w (fun b => lo ≤ b ∧ b < hi) t v) → ∀ o lo hi, SpC w g l o lo hi → TrC w (fun b => lo ≤ b ∧ b < hi) g l o
  | [], _, _, _, _, _ => by simp [TrC]
  | t :: r, ht, o, lo, hi, h => by
    simp only [SpC] at h
    obtain ⟨k, n, s, mid, a, b, c, h1, h2⟩ := h
    simp only [TrC]
    have hm := spC_le h2
    have hm2 := spV_le h1
    refine ⟨⟨k, n, s, a, b, c, trV_mono (fun b hb => ⟨hb.1, Nat.lt_of_lt_of_le hb.2 hm⟩) (fun _ _ => rfl) _ (ht t (by simp) _ _ _ h1)⟩, ?_⟩
    have h3 := spC_trC_of r (fun t hm => ht t (by simp [hm])) _ _ _ h2
    rw [trC_iff] at h3 ⊢
    intro i hi'
    obtain ⟨s', c0, c1, c2, h4⟩ := h3 i hi'
    exact ⟨s', c0, c1, c2, trV_mono (fun b hb => ⟨Nat.le_trans hm2 hb.1, hb.2⟩) (fun _ _ => rfl) _ h4⟩
theorem spV_trV {w : World} (t : Tm) : ∀ lo hi v, SpV w t lo hi v → TrV w (fun b => lo ≤ b ∧ b < hi) t v := by
  induction t using Tm.ind with
  | h k n l ih =>
    intro lo hi v h
    simp only [SpV] at h
    obtain ⟨oa, cap, g, rfl, h1, h2, h3, h4, h5, h6, h7⟩ := h
    simp only [TrV]
    refine ⟨oa, cap, g, 0, rfl, h1, h2, h3, h4, fun hl => ⟨(h6 hl).1, (h6 hl).2.1, (h6 hl).2.2.1⟩, ?_⟩
    by_cases hl : l = []
    · subst hl; simp [TrC]
    · obtain ⟨-, g1, g2, -⟩ := h6 hl
      have h8 := spC_trC_of l ih _ _ _ h7
      rw [trC_iff] at h8 ⊢
      intro i hi'
      obtain ⟨s', c0, c1, c2, h9⟩ := h8 i hi'
      exact ⟨s', c0, c1, c2, trV_mono (fun b hb => ⟨by have := hb.1; omega, by have := hb.2; omega⟩) (fun _ _ => rfl) _ h9⟩
theorem spC_world_of {w w' : World} {g : Nat} (hg : w'.heap[g]? = w.heap[g]?) : ∀ (l : List Tm), (∀ t ∈ l, ∀ lo hi v, SpV w t lo hi v → (∀ b, lo ≤ b → b < hi → w'.heap[b]? = w.heap[b]?) → SpV w' t lo hi v) → ∀ o lo hi, SpC w g l o lo hi → (∀ b, lo ≤ b → b < hi → w'.heap[b]? = w.heap[b]?) → SpC w' g l o lo hi
  | [], _, _, _, _, h, _ => by simpa [SpC] using h
  | t :: r, ht, o, lo, hi, h, hw => by
    simp only [SpC] at h ⊢
    obtain ⟨k, n, s, mid, a, b, c, h1, h2⟩ := h
    have hm := spC_le h2
    have hm2 := spV_le h1
    refine ⟨k, n, s, mid, (World.cell?_of_block (a := ⟨g, o, none⟩) hg).trans a, (World.cell?_of_block (a := ⟨g, o + 1, none⟩) hg).trans b, (World.cell?_of_block (a := ⟨g, o + 2, none⟩) hg).trans c, ht t (by simp) _ _ _ h1 (fun b h3 h4 => hw b h3 (by omega)), spC_world_of hg r (fun t hm => ht t (by simp [hm])) _ _ _ h2 (fun b h3 h4 => hw b (by omega) h4)⟩
theorem spV_world {w w' : World} (t : Tm) : ∀ lo hi v, SpV w t lo hi v → (∀ b, lo ≤ b → b < hi → w'.heap[b]? = w.heap[b]?) → SpV w' t lo hi v := by
  induction t using Tm.ind with
  | h k n l ih =>
    intro lo hi v h hw
    simp only [SpV] at h ⊢
    obtain ⟨oa, cap, g, rfl, h1, h2, h3, h4, h5, h6, h7⟩ := h
    refine ⟨oa, cap, g, rfl, h1, h2, h3, h4, h5, fun hl => ⟨(h6 hl).1, (h6 hl).2.1, (h6 hl).2.2.1, by obtain ⟨xs, hx⟩ := (h6 hl).2.2.2; exact ⟨xs, (hw g (h6 hl).2.1 (h6 hl).2.2.1).trans hx⟩⟩, ?_⟩
    by_cases hl : l = []
    · subst hl; simp only [SpC] at h7 ⊢; exact h7
    · obtain ⟨-, g1, g2, -⟩ := h6 hl
      exact spC_world_of (hw g g1 g2) l ih _ _ _ h7 (fun b h8 h9 => hw b (by omega) (by omega))
theorem spC_world {w w' : World} {g : Nat} (hg : w'.heap[g]? = w.heap[g]?) {l : List Tm} {o lo hi : Nat} (h : SpC w g l o lo hi) (hw : ∀ b, lo ≤ b → b < hi → w'.heap[b]? = w.heap[b]?) : SpC w' g l o lo hi := spC_world_of hg l (fun t _ => spV_world t) o lo hi h hw
theorem spC_snoc {w : World} {g : Nat} {t : Tm} {k n s : Value} : ∀ {l : List Tm} {o lo mid hi : Nat}, SpC w g l o lo mid → w.cell? ⟨g, o + l.length * 3, none⟩ = some k → w.cell? ⟨g, o + l.length * 3 + 1, none⟩ = some n → w.cell? ⟨g, o + l.length * 3 + 2, none⟩ = some s → SpV w t mid hi (.agg #[k, n, s]) → SpC w g (l ++ [t]) o lo hi
  | [], o, lo, mid, hi, h, a, b, c, hv => by
    simp only [SpC] at h
    simp only [List.nil_append, SpC]
    refine ⟨k, n, s, hi, by simpa using a, by simpa using b, by simpa using c, ?_, Nat.le_refl _⟩
    obtain ⟨k', n', l'⟩ := t
    simp only [SpV] at hv ⊢
    obtain ⟨oa, cap, g', h0, h1, h2, h3, h4, h5, h6, h7⟩ := hv
    exact ⟨oa, cap, g', h0, h1, h2, h3, h4, by omega, fun hl => ⟨(h6 hl).1, by have := (h6 hl).2.1; omega, (h6 hl).2.2⟩, h7⟩
  | x :: r, o, lo, mid, hi, h, a, b, c, hv => by
    simp only [SpC] at h
    simp only [List.cons_append, SpC]
    obtain ⟨k', n', s', m', h1, h2, h3, h4, h5⟩ := h
    have e : o + (x :: r).length * 3 = o + 3 + r.length * 3 := by simp only [List.length_cons]; omega
    rw [e] at a b c
    exact ⟨k', n', s', m', h1, h2, h3, h4, spC_snoc h5 a b c hv⟩
/-- The row g holds the first k of the trees, and else what a new one holds. -/
def EachS (g : Nat) (l : List Tm) (k : Nat) (w : World) : Prop :=
  ∃ xs, w.heap[g]? = some (.cells xs 24) ∧ xs.size = l.length * 3 ∧ SpC w g (l.take k) 0 (g + 1) w.heap.size ∧ ∀ j, j < l.length → k ≤ j → xs[j * 3]? = some (.int .i64 0) ∧ xs[j * 3 + 1]? = some (.int .i64 0) ∧ xs[j * 3 + 2]? = some (.slice none 0 0)
theorem eachS_start (l : List Tm) (w : World) : EachS w.heap.size l 0 (w.alloc (.cells (madeCells zt (l.length * 3)) 24)) :=
  ⟨_, heap_alloc_new w _, size_madeCells _ _, by simp [SpC], fun j h _ => made_at _ j h⟩
theorem eachS_below {g k : Nat} {l : List Tm} {w w' : World} (h : EachS g l k w) (hb : Below w.heap.size w w') : EachS g l k w' := by
  obtain ⟨xs, h1, h2, h3, h4⟩ := h
  exact ⟨xs, (hb.block g (block_lt h1)).trans h1, h2, spC_hi (spC_world (hb.block g (block_lt h1)) h3 (fun b _ h6 => hb.block b h6)) hb.size, h4⟩
theorem eachS_cells {g k : Nat} {l : List Tm} {w : World} (h : EachS g l k w) (hk : k < l.length) :
    w.cell? ⟨g, k * 3, none⟩ = some (.int .i64 0) ∧ w.cell? ⟨g, k * 3 + 1, none⟩ = some (.int .i64 0) ∧ w.cell? ⟨g, k * 3 + 2, none⟩ = some (.slice none 0 0) ∧ ∀ j, w.frozen? ⟨g, j, none⟩ = false := by
  obtain ⟨xs, h1, h2, h3, h4⟩ := h
  obtain ⟨a, b, c⟩ := h4 k hk (Nat.le_refl _)
  exact ⟨(cells_of h1 _).1.trans a, (cells_of h1 _).1.trans b, (cells_of h1 _).1.trans c, fun j => (cells_of h1 j).2⟩
/-- The next tree is stored: it lies in blocks from mid on. -/
theorem eachS_set {g k : Nat} {l : List Tm} {w0 w : World} (h0 : EachS g l k w0) (hb : Below w0.heap.size w0 w) (hk : k < l.length) {s : Value} (hv : SpV w l[k] w0.heap.size w.heap.size (.agg #[.int .i64 l[k].k, .int .i64 l[k].n, s])) :
    EachS g l (k + 1) (((w.setCell ⟨g, k * 3, none⟩ (.int .i64 l[k].k)).setCell ⟨g, k * 3 + 1, none⟩ (.int .i64 l[k].n)).setCell ⟨g, k * 3 + 2, none⟩ s) := by
  obtain ⟨xs, h1, h2, h3, h4⟩ := h0
  have hgl := block_lt h1
  have hw1 : w.heap[g]? = some (.cells xs 24) := (hb.block g hgl).trans h1
  have hset := heap_setCell_same _ g (k * 3 + 2) _ _ s (heap_setCell_same _ g (k * 3 + 1) _ _ (.int .i64 l[k].n) (heap_setCell_same w g (k * 3) _ _ (.int .i64 l[k].k) hw1))
  have hoth : ∀ b, b ≠ g → (((w.setCell ⟨g, k * 3, none⟩ (.int .i64 l[k].k)).setCell ⟨g, k * 3 + 1, none⟩ (.int .i64 l[k].n)).setCell ⟨g, k * 3 + 2, none⟩ s).heap[b]? = w.heap[b]? := fun b hne => by
    rw [Below.heap_setCell _ _ _ _ hne, Below.heap_setCell _ _ _ _ hne, Below.heap_setCell _ _ _ _ hne]
  have hsz : (((w.setCell ⟨g, k * 3, none⟩ (.int .i64 l[k].k)).setCell ⟨g, k * 3 + 1, none⟩ (.int .i64 l[k].n)).setCell ⟨g, k * 3 + 2, none⟩ s).heap.size = w.heap.size := by simp [World.setCell]
  generalize (((w.setCell ⟨g, k * 3, none⟩ (.int .i64 l[k].k)).setCell ⟨g, k * 3 + 1, none⟩ (.int .i64 l[k].n)).setCell ⟨g, k * 3 + 2, none⟩ s) = y at hset hoth hsz ⊢
  refine ⟨_, hset, by simp [h2], ?_, fun j hj hkj => ?_⟩
  · rw [List.take_succ_eq_append_getElem hk, hsz]
    have hlt : (l.take k).length = k := by rw [List.length_take]; omega
    have hc : ∀ j, j < k * 3 → y.cell? ⟨g, j, none⟩ = w0.cell? ⟨g, j, none⟩ := fun j hj => by
      rw [(cells_of hset j).1, (cells_of h1 j).1, Array.getElem?_setIfInBounds_ne (by omega), Array.getElem?_setIfInBounds_ne (by omega), Array.getElem?_setIfInBounds_ne (by omega)]
    have hold : SpC y g (l.take k) 0 (g + 1) w0.heap.size := by
      have hch : ∀ (r : List Tm) (o lo hi : Nat), o + r.length * 3 ≤ k * 3 → g < lo → hi ≤ w0.heap.size → SpC w0 g r o lo hi → SpC y g r o lo hi := by
        intro r
        induction r with
        | nil => intro o lo hi _ _ _ h; simpa [SpC] using h
        | cons t r ih =>
          intro o lo hi ho hlo hhi h
          simp only [SpC] at h ⊢
          obtain ⟨k', n', s', mid, a, b, c, h5, h6⟩ := h
          simp only [List.length_cons] at ho
          have hm := spC_le h6
          have hm2 := spV_le h5
          refine ⟨k', n', s', mid, by rw [hc o (by omega)]; exact a, by rw [hc (o + 1) (by omega)]; exact b, by rw [hc (o + 2) (by omega)]; exact c, spV_world t _ _ _ h5 (fun b h7 h8 => ?_), ih _ _ _ (by omega) (by omega) hhi h6⟩
          rw [hoth b (by omega)]
          exact hb.block b (by omega)
      exact hch _ _ _ _ (by rw [hlt]; omega) (by omega) (Nat.le_refl _) h3
    refine spC_snoc hold ?_ ?_ ?_ (spV_world _ _ _ _ hv (fun b h5 h6 => hoth b (by omega)))
    · rw [hlt, (cells_of hset _).1, Nat.zero_add, Array.getElem?_setIfInBounds_ne (by omega), Array.getElem?_setIfInBounds_ne (by omega), Array.getElem?_setIfInBounds_self_of_lt (by omega)]
    · rw [hlt, (cells_of hset _).1, Nat.zero_add, Array.getElem?_setIfInBounds_ne (by omega), Array.getElem?_setIfInBounds_self_of_lt (by simp; omega)]
    · rw [hlt, (cells_of hset _).1, Nat.zero_add, Array.getElem?_setIfInBounds_self_of_lt (by simp; omega)]
  · obtain ⟨a, b, c⟩ := h4 j hj (by omega)
    refine ⟨?_, ?_, ?_⟩
    · rw [Array.getElem?_setIfInBounds_ne (by omega), Array.getElem?_setIfInBounds_ne (by omega), Array.getElem?_setIfInBounds_ne (by omega)]; exact a
    · rw [Array.getElem?_setIfInBounds_ne (by omega), Array.getElem?_setIfInBounds_ne (by omega), Array.getElem?_setIfInBounds_ne (by omega)]; exact b
    · rw [Array.getElem?_setIfInBounds_ne (by omega), Array.getElem?_setIfInBounds_ne (by omega), Array.getElem?_setIfInBounds_ne (by omega)]; exact c
end Go.Proofs.Ytapdfdjknehhgaa
