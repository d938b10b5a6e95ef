/- The row of what variables became: its trees lie anywhere else. -/
import Derived.Test.YtapdfdjknehhgaaLook
import Derived.Test.YtapdfdjknehhgaaTx
import Derived.Test.YtapdfdjknehhgaaMat
namespace Go.Proofs.Ytapdfdjknehhgaa
open Go.RowKit Go.Tr Go.Maps

/-- Apart from the row g. -/
def Ap (g : Nat) (w : World) (b : Nat) : Prop := b < w.heap.size ∧ b ≠ g
/-- The row g holds the trees of a list, all else of which lies elsewhere. -/
def RowP (g : Nat) (l : List Tm) (w : World) : Prop :=
  ∃ xs, w.heap[g]? = some (.cells xs 24) ∧ xs.size = l.length * 3 ∧ ∀ j (h : j < l.length), ∃ oa cap, xs[j * 3]? = some (.int .i64 l[j].k) ∧ xs[j * 3 + 1]? = some (.int .i64 l[j].n) ∧ xs[j * 3 + 2]? = some (.slice oa l[j].l.length cap) ∧ TrV w (Ap g w) l[j] (.agg #[.int .i64 l[j].k, .int .i64 l[j].n, .slice oa l[j].l.length cap])
theorem rowP_lt {g : Nat} {l : List Tm} {w : World} (h : RowP g l w) : g < w.heap.size := by obtain ⟨xs, h1, -⟩ := h; exact block_lt h1
theorem rowP_below {g : Nat} {l : List Tm} {w w' : World} (h : RowP g l w) (hb : Below w.heap.size w w') : RowP g l w' := by
  have hg := rowP_lt h
  obtain ⟨xs, h1, h2, h3⟩ := h
  refine ⟨xs, (hb.block g hg).trans h1, h2, fun j hj => ?_⟩
  obtain ⟨oa, cap, a, b, c, d⟩ := h3 j hj
  exact ⟨oa, cap, a, b, c, trV_mono (fun b hb' => ⟨Nat.lt_of_lt_of_le hb'.1 hb.size, hb'.2⟩) (fun b hb' => hb.block b hb'.1) _ d⟩
theorem rowP_cells {g k : Nat} {l : List Tm} {w : World} (h : RowP g l w) (hk : k < l.length) : ∃ oa cap,
    w.cell? ⟨g, k * 3, none⟩ = some (.int .i64 l[k].k) ∧ w.cell? ⟨g, k * 3 + 1, none⟩ = some (.int .i64 l[k].n) ∧ w.cell? ⟨g, k * 3 + 2, none⟩ = some (.slice oa l[k].l.length cap) ∧ (∀ j, w.frozen? ⟨g, j, none⟩ = false) ∧ TrV w (Ap g w) l[k] (.agg #[.int .i64 l[k].k, .int .i64 l[k].n, .slice oa l[k].l.length cap]) := by
  obtain ⟨xs, h1, h2, h3⟩ := h
  obtain ⟨oa, cap, a, b, c, d⟩ := h3 k hk
  exact ⟨oa, cap, (cells_of h1 _).1.trans a, (cells_of h1 _).1.trans b, (cells_of h1 _).1.trans c, fun j => (cells_of h1 j).2, d⟩
theorem rowP_set {g k : Nat} {l : List Tm} {w : World} {t : Tm} {oa : Option Addr} {cap : Nat} (h : RowP g l w) (hk : k < l.length) (hv : TrV w (Ap g w) t (.agg #[.int .i64 t.k, .int .i64 t.n, .slice oa t.l.length cap])) :
    RowP g (l.set k t) (((w.setCell ⟨g, k * 3, none⟩ (.int .i64 t.k)).setCell ⟨g, k * 3 + 1, none⟩ (.int .i64 t.n)).setCell ⟨g, k * 3 + 2, none⟩ (.slice oa t.l.length cap)) := by
  obtain ⟨xs, h1, h2, h3⟩ := h
  have e1 := heap_setCell_same w g (k * 3) xs _ (.int .i64 t.k) h1
  have e2 := heap_setCell_same _ g (k * 3 + 1) _ _ (.int .i64 t.n) e1
  have e3 := heap_setCell_same _ g (k * 3 + 2) _ _ (.slice oa t.l.length cap) e2
  have oth : ∀ b, b ≠ g → (((w.setCell ⟨g, k * 3, none⟩ (.int .i64 t.k)).setCell ⟨g, k * 3 + 1, none⟩ (.int .i64 t.n)).setCell ⟨g, k * 3 + 2, none⟩ (.slice oa t.l.length cap)).heap[b]? = w.heap[b]? := fun b hb =>
    (Below.heap_setCell _ _ _ _ hb).trans ((Below.heap_setCell _ _ _ _ hb).trans (Below.heap_setCell _ _ _ _ hb))
  have sz3 : (((w.setCell ⟨g, k * 3, none⟩ (.int .i64 t.k)).setCell ⟨g, k * 3 + 1, none⟩ (.int .i64 t.n)).setCell ⟨g, k * 3 + 2, none⟩ (.slice oa t.l.length cap)).heap.size = w.heap.size := by simp
  refine ⟨_, e3, by simpa using h2, fun j hj => ?_⟩
  simp only [List.length_set] at hj
  by_cases hje : j = k
  · subst hje
    simp only [List.getElem_set_self]
    refine ⟨oa, cap, ?_, ?_, ?_, trV_mono (fun b hb => ⟨by rw [sz3]; exact hb.1, hb.2⟩) (fun b hb => oth b hb.2) _ hv⟩
    · rw [Array.getElem?_setIfInBounds_ne (by omega), Array.getElem?_setIfInBounds_ne (by omega), Array.getElem?_setIfInBounds_self_of_lt (by omega)]
    · rw [Array.getElem?_setIfInBounds_ne (by omega), Array.getElem?_setIfInBounds_self_of_lt (by simp; omega)]
    · rw [Array.getElem?_setIfInBounds_self_of_lt (by simp; omega)]
  · obtain ⟨oa', cap', a, b, c, d⟩ := h3 j hj
    have hg : (l.set k t)[j]'(by simpa using hj) = l[j] := List.getElem_set_ne (by omega) _
    rw [hg]
    refine ⟨oa', cap', ?_, ?_, ?_, trV_mono (fun b hb => ⟨by rw [sz3]; exact hb.1, hb.2⟩) (fun b hb => oth b hb.2) _ d⟩
    · rw [Array.getElem?_setIfInBounds_ne (by omega), Array.getElem?_setIfInBounds_ne (by omega), Array.getElem?_setIfInBounds_ne (by omega)]; exact a
    · rw [Array.getElem?_setIfInBounds_ne (by omega), Array.getElem?_setIfInBounds_ne (by omega), Array.getElem?_setIfInBounds_ne (by omega)]; exact b
    · rw [Array.getElem?_setIfInBounds_ne (by omega), Array.getElem?_setIfInBounds_ne (by omega), Array.getElem?_setIfInBounds_ne (by omega)]; exact c
theorem rowP_start {n : Nat} (w : World) : RowP w.heap.size (List.replicate n zeroT) (w.alloc (.cells (madeCells zt (n * 3)) 24)) := by
  refine ⟨_, heap_alloc_new w _, by rw [size_madeCells]; simp, fun j hj => ?_⟩
  have hj' : j < n := by simpa using hj
  obtain ⟨a, b, c⟩ := made_at n j hj'
  simp only [List.getElem_replicate]
  exact ⟨none, 0, a, b, c, trV_iff.2 ⟨_, rfl, by unfold inI; simp [zeroT, Tm.k], by unfold inI; simp [zeroT, Tm.n], none, 0, 0, 0, rfl, Nat.le_refl _, by omega, fun h => absurd rfl h, trivial⟩⟩
theorem rowP_trS {g : Nat} {l : List Tm} {w : World} (h : RowP g l w) (hl : l.length ≤ 9223372036854775807) : TrS w (· < w.heap.size) l (.slice (some ⟨g, 0, none⟩) l.length l.length) := by
  have hg := rowP_lt h
  obtain ⟨xs, h1, h2, h3⟩ := h
  refine ⟨_, _, g, 0, rfl, Nat.le_refl _, hl, fun _ => ⟨rfl, hg⟩, trC_iff.2 fun i hi => ?_⟩
  obtain ⟨oa, cap, a, b, c, d⟩ := h3 i hi
  refine ⟨_, ?_, ?_, ?_, trV_mono (fun b hb => hb.1) (fun _ _ => rfl) _ d⟩
  · rw [(cells_of h1 _).1]; simpa using a
  · rw [(cells_of h1 _).1]; simpa using b
  · rw [(cells_of h1 _).1]; simpa using c
def inL (l : List Tm) (n : Int) : Bool := decide (0 ≤ n ∧ n < l.length)
set_option maxRecDepth 100000 in
theorem unified11_puts {g pl : Nat} {l : List Tm} {w : World} (h : RowP g l w) (hl : w.heap[pl]? = some (.cells #[.slice (some ⟨g, 0, none⟩) l.length l.length] 22)) (hsz : ∀ x ∈ l, sz x ≤ 1000000000) :
    Puts 100 #[.pointer (some ⟨pl, 0, none⟩)] (atL l) (inL l) w := by
  refine ⟨fun _ _ => by go_simp, fun n hn => ?_, fun n hn hi W hW => ?_⟩
  · unfold atL
    cases h0 : l[n.toNat]? with
    | none => rw [show (Option.none : Option Tm).getD zeroT = zeroT from rfl]; decide
    | some x => exact hsz x (List.mem_of_getElem? h0)
  · simp only [inL, decide_eq_true_eq] at hn
    obtain ⟨k, rfl⟩ : ∃ k : Nat, n = k := ⟨n.toNat, by omega⟩
    have hk : k < l.length := by omega
    have hat : atL l k = l[k] := by unfold atL; rw [Int.toNat_natCast, List.getElem?_eq_getElem hk]; rfl
    rw [hat]
    obtain ⟨oa, cap, a0, a1, a2, -, hv⟩ := rowP_cells h hk
    have hlt := rowP_lt h
    have d0 := (World.cell?_of_block (w := w) (a := ⟨g, k * 3, none⟩) (hW.block g hlt)).trans a0
    have d1 := (World.cell?_of_block (w := w) (a := ⟨g, k * 3 + 1, none⟩) (hW.block g hlt)).trans a1
    have d2 := (World.cell?_of_block (w := w) (a := ⟨g, k * 3 + 2, none⟩) (hW.block g hlt)).trans a2
    have l1 := Nat.lt_of_lt_of_le (block_lt hl) hW.size
    have l2 := Nat.lt_of_lt_of_le hlt hW.size
    have hgr := fun o => bA (bZ W) o
    have dl := cell_of_one ((hW.block pl (block_lt hl)).trans hl)
    have hv2 : TrV W (fun b => b < w.heap.size) l[k] _ := trV_mono (w := w) (w' := W) (fun b hb => hb.1) (fun b hb => hW.block b hb.1) _ hv
    have i0 : (0 : Int) ≤ (k : Int) := Int.natCast_nonneg _
    have i1 : (k : Int) < (l.length : Int) := by omega
    have HV := Lib.hid (And.intro hv2 (And.intro hgr hW.size))
    clear hgr hW hsz a0 a1 a2 hv hv2 h hl hlt hat hn hi
    show Calls Try.prog 100 #[.int .i64 k, .pointer (some ⟨pl, 0, none⟩)] W _
    go_enter Try.func100, Try.ntmps100
    go_wp2_with fail
    refine bodyPost_ret (results_cell_row rfl _ _ W.heap.size 24 _ _ _ rfl (heap_alloc_new W _) Try.underlying24 rfl infoTk) rfl ?_
    exact ⟨_, rfl, trV_mono (w := W) (w' := W.alloc _) (fun b hb => .inl hb) (fun b hb => (HV.out.2.1 _).block b (Nat.lt_of_lt_of_le hb HV.out.2.2)) _ HV.out.1, HV.out.2.1 _⟩
end Go.Proofs.Ytapdfdjknehhgaa
