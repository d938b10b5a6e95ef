/- Merged: Each, Rep. -/
import Derived.Test.YtapdfdjknehhgaaVars
import Derived.Laws.Rows

/- What a function makes of the elements of a list of trees. -/
namespace Go.Proofs.Ytapdfdjknehhgaa
open Go.RowKit Go.Tr

theorem infoTm : (Try.prog.info? 24).map (fun i => (i.zero, i.size, i.bytes)) = some (some (.agg #[.int .i64 0, .int .i64 0, .slice none 0 0]), 3, 40) := by kernel_rfl
def zt : Array Value := #[.int .i64 0, .int .i64 0, .slice none 0 0]
theorem made_at (n i : Nat) (h : i < n) : (madeCells zt (n * 3))[i * 3]? = some (.int .i64 0) ∧ (madeCells zt (n * 3))[i * 3 + 1]? = some (.int .i64 0) ∧ (madeCells zt (n * 3))[i * 3 + 2]? = some (.slice none 0 0) := by
  have e : ∀ j, j < n * 3 → (madeCells zt (n * 3))[j]? = some zt[j % 3]! := fun j hj => by
    simp [madeCells, zt, hj]
  have m0 : i * 3 % 3 = 0 := by omega
  have m1 : (i * 3 + 1) % 3 = 1 := by omega
  have m2 : (i * 3 + 2) % 3 = 2 := by omega
  rw [e _ (by omega), e _ (by omega), e _ (by omega), m0, m1, m2]
  exact ⟨rfl, rfl, rfl⟩

theorem make_terms (n : Nat) (hn : n ≤ 1000000000) (w : World) : (Instr.makeSlice 22 (.int .i64 n) (.int .i64 n)).run Try.prog w = .ok (.slice (some ⟨w.heap.size, 0, none⟩) n n) (w.alloc (.cells (madeCells zt (n * 3)) 24)) := by
  obtain ⟨i0, hi0, hz0, hz1, hz2⟩ := info_parts infoTm
  have h := run_make (P := Try.prog) w 22 24 i0 _ Try.underlying22 hi0 hz0 .i64 .i64 (n : Int) (n : Int) (by omega) (by omega) (by rw [hz2]; omega) (by omega)
  rw [hz1] at h
  simp only [Int.toNat_natCast] at h
  exact h

/-- The row g holds the first k of the trees, and else what a new one holds. -/
def EachI (g : Nat) (l : List Tm) (k : Nat) (w : World) : Prop :=
  ∃ xs, w.heap[g]? = some (.cells xs 24) ∧ xs.size = l.length * 3 ∧ ∀ j (h : j < l.length),
    (j < k → ∃ s, xs[j * 3]? = some (.int .i64 l[j].k) ∧ xs[j * 3 + 1]? = some (.int .i64 l[j].n) ∧ xs[j * 3 + 2]? = some s ∧ TrV w (fun b => g < b ∧ b < w.heap.size) l[j] (.agg #[.int .i64 l[j].k, .int .i64 l[j].n, s])) ∧
    (k ≤ j → xs[j * 3]? = some (.int .i64 0) ∧ xs[j * 3 + 1]? = some (.int .i64 0) ∧ xs[j * 3 + 2]? = some (.slice none 0 0))
theorem eachI_start (l : List Tm) (w : World) : EachI w.heap.size l 0 (w.alloc (.cells (madeCells zt (l.length * 3)) 24)) :=
  ⟨_, heap_alloc_new w _, size_madeCells _ _, fun j h => ⟨fun h => by omega, fun _ => made_at _ j h⟩⟩
theorem eachI_below {g k : Nat} {l : List Tm} {w w' : World} (h : EachI g l k w) (hb : Below w.heap.size w w') : EachI g l k w' := by
  obtain ⟨xs, h1, h2, h3⟩ := h
  refine ⟨xs, (hb.block g (block_lt h1)).trans h1, h2, fun j hj => ⟨fun hk => ?_, (h3 j hj).2⟩⟩
  obtain ⟨s, a, b, c, d⟩ := (h3 j hj).1 hk
  exact ⟨s, a, b, c, trV_mono (fun b hb' => ⟨hb'.1, Nat.lt_of_lt_of_le hb'.2 hb.size⟩) (fun b hb' => hb.block b hb'.2) _ d⟩
theorem eachI_cells {g k : Nat} {l : List Tm} {w : World} (h : EachI g l k w) (hk : k < l.length) :
    w.cell? ⟨g, k * 3, none⟩ = some (.int .i64 0) ∧ w.cell? ⟨g, k * 3 + 1, none⟩ = some (.int .i64 0) ∧ w.cell? ⟨g, k * 3 + 2, none⟩ = some (.slice none 0 0) ∧ ∀ j, w.frozen? ⟨g, j, none⟩ = false := by
  obtain ⟨xs, h1, h2, h3⟩ := h
  obtain ⟨a, b, c⟩ := (h3 k hk).2 (Nat.le_refl _)
  exact ⟨(cells_of h1 _).1.trans a, (cells_of h1 _).1.trans b, (cells_of h1 _).1.trans c, fun j => (cells_of h1 j).2⟩
theorem eachI_set {g k : Nat} {l : List Tm} {w : World} (h : EachI g l k w) (hk : k < l.length) {s : Value} (hv : TrV w (fun b => g < b ∧ b < w.heap.size) l[k] (.agg #[.int .i64 l[k].k, .int .i64 l[k].n, s])) :
    EachI g l (k + 1) (((w.setCell ⟨g, k * 3, none⟩ (.int .i64 l[k].k)).setCell ⟨g, k * 3 + 1, none⟩ (.int .i64 l[k].n)).setCell ⟨g, k * 3 + 2, none⟩ s) := by
  obtain ⟨xs, h1, h2, h3⟩ := h
  have e1 := heap_setCell_same w g (k * 3) xs _ (.int .i64 l[k].k) h1
  have e2 := heap_setCell_same _ g (k * 3 + 1) _ _ (.int .i64 l[k].n) e1
  have e3 := heap_setCell_same _ g (k * 3 + 2) _ _ s e2
  have oth : ∀ b, b ≠ g → (((w.setCell ⟨g, k * 3, none⟩ (.int .i64 l[k].k)).setCell ⟨g, k * 3 + 1, none⟩ (.int .i64 l[k].n)).setCell ⟨g, k * 3 + 2, none⟩ s).heap[b]? = w.heap[b]? := fun b hb =>
    (Below.heap_setCell _ _ _ _ hb).trans ((Below.heap_setCell _ _ _ _ hb).trans (Below.heap_setCell _ _ _ _ hb))
  have up : ∀ {t : Tm} {v : Value}, TrV w (fun b => g < b ∧ b < w.heap.size) t v → TrV (((w.setCell ⟨g, k * 3, none⟩ (.int .i64 l[k].k)).setCell ⟨g, k * 3 + 1, none⟩ (.int .i64 l[k].n)).setCell ⟨g, k * 3 + 2, none⟩ s) (fun b => g < b ∧ b < (((w.setCell ⟨g, k * 3, none⟩ (.int .i64 l[k].k)).setCell ⟨g, k * 3 + 1, none⟩ (.int .i64 l[k].n)).setCell ⟨g, k * 3 + 2, none⟩ s).heap.size) t v := fun h =>
    trV_mono (fun b hb => ⟨hb.1, by simpa [World.setCell] using hb.2⟩) (fun b hb => oth b (by omega)) _ h
  refine ⟨_, e3, by simpa using h2, fun j hj => ⟨fun hjk => ?_, fun hjk => ?_⟩⟩
  · by_cases hje : j = k
    · subst hje
      refine ⟨s, ?_, ?_, ?_, up hv⟩
      · rw [Array.getElem?_setIfInBounds_ne (by omega), Array.getElem?_setIfInBounds_ne (by omega), Array.getElem?_setIfInBounds_self_of_lt (by omega)]
      · rw [Array.getElem?_setIfInBounds_ne (by omega), Array.getElem?_setIfInBounds_self_of_lt (by simp; omega)]
      · rw [Array.getElem?_setIfInBounds_self_of_lt (by simp; omega)]
    · obtain ⟨s', a, b, c, d⟩ := (h3 j hj).1 (by omega)
      refine ⟨s', ?_, ?_, ?_, up d⟩
      · rw [Array.getElem?_setIfInBounds_ne (by omega), Array.getElem?_setIfInBounds_ne (by omega), Array.getElem?_setIfInBounds_ne (by omega)]; exact a
      · rw [Array.getElem?_setIfInBounds_ne (by omega), Array.getElem?_setIfInBounds_ne (by omega), Array.getElem?_setIfInBounds_ne (by omega)]; exact b
      · rw [Array.getElem?_setIfInBounds_ne (by omega), Array.getElem?_setIfInBounds_ne (by omega), Array.getElem?_setIfInBounds_ne (by omega)]; exact c
  · obtain ⟨a, b, c⟩ := (h3 j hj).2 (by omega)
    refine ⟨?_, ?_, ?_⟩
    · rw [Array.getElem?_setIfInBounds_ne (by omega), Array.getElem?_setIfInBounds_ne (by omega), Array.getElem?_setIfInBounds_ne (by omega)]; exact a
    · rw [Array.getElem?_setIfInBounds_ne (by omega), Array.getElem?_setIfInBounds_ne (by omega), Array.getElem?_setIfInBounds_ne (by omega)]; exact b
    · rw [Array.getElem?_setIfInBounds_ne (by omega), Array.getElem?_setIfInBounds_ne (by omega), Array.getElem?_setIfInBounds_ne (by omega)]; exact c
theorem eachI_end {g : Nat} {l : List Tm} {w0 w : World} (h : EachI g l l.length w) (hg : w0.heap.size ≤ g) (hm : l.length ≤ 9223372036854775807) : TrS w (Nw w0 w) l (.slice (some ⟨g, 0, none⟩) l.length l.length) := by
  obtain ⟨xs, h1, h2, h3⟩ := h
  refine ⟨_, _, g, 0, rfl, Nat.le_refl _, hm, fun _ => ⟨rfl, hg, block_lt h1⟩, trC_iff.2 fun i hi => ?_⟩
  obtain ⟨s, a, b, c, d⟩ := (h3 i hi).1 hi
  refine ⟨s, ?_, ?_, ?_, trV_mono (fun b hb => ⟨by omega, hb.2⟩) (fun _ _ => rfl) _ d⟩
  · rw [(cells_of h1 _).1]; simpa using a
  · rw [(cells_of h1 _).1]; simpa using b
  · rw [(cells_of h1 _).1]; simpa using c

/-- A function that makes a tree of a tree, in new memory. -/
def Makes (F : Nat) (caps : Array Value) (f : Tm → Tm) (w : World) (t : Tm) : Prop :=
  ∀ v W, Below w.heap.size w W → TrV W (· < W.heap.size) t v → Calls Try.prog F (#[v] ++ caps) W fun e W' => ∃ v', e = .returned v' ∧ TrV W' (Nw W W') (f t) v' ∧ Below W.heap.size W W'

set_option maxRecDepth 100000 in
theorem each_any {F : Nat} {caps : Array Value} {f : Tm → Tm} (l : List Tm) (s : Value) (w : World) (h : TrS w (· < w.heap.size) l s) (hlen : l.length ≤ 1000000000)
    (hF : ∀ (args : Array Value) (w : World), (callFunc F args).run Try.prog w = .ok (.enter F args) w) (hstep : ∀ t ∈ l, Makes F caps f w t) :
    Calls Try.prog 82 #[s, .func (.func F) #[] caps] w fun e w' => ∃ v', e = .returned v' ∧ TrS w' (Nw w w') (l.map f) v' ∧ Below w.heap.size w w' := by
  obtain ⟨oa, cap, b, o, rfl, hlc, hcm, hoa, hel⟩ := trS_at h
  have HEL := Lib.hid (And.intro hoa hel)
  have HS := Lib.hid hstep
  clear h hoa hel hstep
  have hmk := make_terms l.length hlen
  have hst := eachI_start (l.map f) w
  rw [List.length_map] at hst
  have HI0 := Lib.hid hst
  clear hst
  have hml : (l.map f).length = l.length := List.length_map f
  have HML := Lib.hid hml
  clear hml
  go_enter Try.func82, Try.ntmps82
  go_wp2_with fail
  go_loopw [13] (fun i wr => ∃ k : Nat, k ≤ l.length ∧ i = .int .i64 k ∧ Hid (EachI w.heap.size (l.map f) k wr ∧ Below w.heap.size w wr)) (fun i _ => l.length - (intOf i).toNat)
  case atStart => exact ⟨0, by omega, rfl, HI0.out, below_alloc w _⟩
  case round =>
    obtain ⟨k, hk, rfl, HI⟩ := hrel
    by_cases hlt : k < l.length
    · obtain ⟨rfl, hQb⟩ := HEL.out.1 (by omega)
      obtain ⟨oa2, cap2, e0, e1, e2, e3⟩ := HEL.out.2 k hlt
      have hbl := HI.out.2.block b hQb
      have d0 := (World.cell?_of_block (w := w) (a := ⟨b, o + k * 3, none⟩) hbl).trans e0
      have d1 := (World.cell?_of_block (w := w) (a := ⟨b, o + k * 3 + 1, none⟩) hbl).trans e1
      have d2 := (World.cell?_of_block (w := w) (a := ⟨b, o + k * 3 + 2, none⟩) hbl).trans e2
      have hgr := below_alloc wr (.cells #[.int .i64 l[k].k, .int .i64 l[k].n, .slice oa2 l[k].l.length cap2] 24)
      have hb3 := below_le HI.out.2 hgr HI.out.2.size
      have hI3 := eachI_below HI.out.1 hgr
      have hcall := HS.out l[k] (List.getElem_mem hlt) _ _ hb3 (trV_mono (fun b (h : b < w.heap.size) => Nat.lt_of_lt_of_le h hb3.size) (fun b h => hb3.block b h) _ e3)
      have HC := Lib.hid hcall
      have HK := Lib.hid (And.intro hb3 hI3)
      clear e0 e1 e2 e3 hbl hgr hb3 hI3 hcall
      go_wp2_with fail
      refine HC.out.mono ?_
      rintro e w3 ⟨v', rfl, hv', hb'⟩
      obtain ⟨sl, rfl, q1, q2, hsl⟩ := trV_iff.1 hv'
      obtain ⟨oa3, cap3, b3, o3, rfl, q3, q4, -, -⟩ := trS_at hsl
      have hI4 := eachI_below HK.out.2 hb'
      have hlt' : k < (l.map f).length := by rw [HML.out]; exact hlt
      obtain ⟨x0, x1, x2, x3⟩ := eachI_cells hI4 hlt'
      have g0 := x3 (k * 3)
      have g1 := x3 (k * 3 + 1)
      have g2 := x3 (k * 3 + 2)
      have hge : (l.map f)[k] = f l[k] := by simp
      have hgl : w.heap.size < (wr.alloc (.cells #[.int .i64 l[k].k, .int .i64 l[k].n, .slice oa2 l[k].l.length cap2] 24)).heap.size := by
        obtain ⟨xs, y1, -⟩ := HK.out.2; exact block_lt y1
      have hset := eachI_set hI4 hlt' (s := .slice oa3 (f l[k]).l.length cap3) (by rw [hge]; exact trV_mono (fun b hb => ⟨Nat.lt_of_lt_of_le hgl hb.1, hb.2⟩) (fun _ _ => rfl) _ hv')
      rw [hge] at hset
      have hbb := (below_le HK.out.1 hb' HK.out.1.size)
      have HN := Lib.hid (And.intro hset hbb)
      clear hv' hsl hb' hI4 x3 hge hset hbb hlt' q1 q2 q3 q4 hgl
      go_wp2_with fail
      go_roundw
      case rel => exact ⟨k + 1, by omega, by go_num, HN.out.1, ((HN.out.2.setCell (Nat.le_refl _) _).setCell (Nat.le_refl _) _).setCell (Nat.le_refl _) _⟩
      case measure => simp [intOf]; omega
    · have hke : k = (l.map f).length := by rw [HML.out]; omega
      have hend := eachI_end (w0 := w) (by rw [hke] at HI; exact HI.out.1) (Nat.le_refl _) (by rw [HML.out]; omega)
      rw [HML.out] at hend
      have HE := Lib.hid hend
      clear hend hke
      go_wp2_with fail
      go_ret
      exact ⟨_, rfl, HE.out, HI.out.2⟩
end Go.Proofs.Ytapdfdjknehhgaa

/- Trees in new memory; trees with others in the places of their variables. -/
namespace Go.Proofs.Ytapdfdjknehhgaa
open Go.RowKit Go.Tr

theorem infoTk : (Try.prog.info? 24).map (·.size) = some 3 := by kernel_rfl
theorem variable_any (n : Int) (w : World) : Calls Try.prog 86 #[.int .i64 n] w fun e w' => e = .returned (.agg #[.int .i64 1, .int .i64 n, .slice none 0 0]) ∧ w' = w.alloc (.cells #[.int .i64 1, .int .i64 n, .slice none 0 0] 24) := by
  go_enter Try.func86, Try.ntmps86
  go_wp2
  refine bodyPost_ret (results_cell_row rfl _ _ w.heap.size 24 _ _ _ rfl (heap_alloc_new w _) Try.underlying24 rfl infoTk) rfl ?_
  exact ⟨rfl, rfl⟩
theorem lvariable_any (n : Int) (w : World) : Calls Try.prog 31 #[.int .i64 n] w fun e w' => e = .returned (.agg #[.int .i64 1, .int .i64 n, .slice none 0 0]) ∧ w' = w.alloc (.cells #[.int .i64 1, .int .i64 n, .slice none 0 0] 24) := by
  go_enter Try.func31, Try.ntmps31
  go_wp2
  refine bodyPost_ret (results_cell_row rfl _ _ w.heap.size 24 _ _ _ rfl (heap_alloc_new w _) Try.underlying24 rfl infoTk) rfl ?_
  exact ⟨rfl, rfl⟩
theorem op_any (n : Int) (a : Option Addr) (m c : Nat) (w : World) : Calls Try.prog 46 #[.int .i64 n, .slice a m c] w fun e w' => e = .returned (.agg #[.int .i64 2, .int .i64 n, .slice a m c]) ∧ w' = w.alloc (.cells #[.int .i64 2, .int .i64 n, .slice a m c] 24) := by
  go_enter Try.func46, Try.ntmps46
  go_wp2
  refine bodyPost_ret (results_cell_row rfl _ _ w.heap.size 24 _ _ _ rfl (heap_alloc_new w _) Try.underlying24 rfl infoTk) rfl ?_
  exact ⟨rfl, rfl⟩

theorem makes_up {F : Nat} {caps : Array Value} {f : Tm → Tm} {w w' : World} {t : Tm} (h : Makes F caps f w t) (hb : Below w.heap.size w w') : Makes F caps f w' t :=
  fun v W hW hv => h v W (below_next hb hW) hv
/-- Three cells stored into a block. -/
theorem three_set {w : World} {g : Nat} {a b c a' b' c' : Value} {t : TypeId} (h : w.heap[g]? = some (.cells #[a, b, c] t)) :
    (((w.setCell ⟨g, 0, none⟩ a').setCell ⟨g, 1, none⟩ b').setCell ⟨g, 2, none⟩ c').heap[g]? = some (.cells #[a', b', c'] t) :=
  heap_setCell_same _ g 2 _ _ c' (heap_setCell_same _ g 1 _ _ b' (heap_setCell_same w g 0 _ _ a' h))

set_option maxRecDepth 100000 in
theorem clone_n (N : Nat) : ∀ t, sz t ≤ N → sz t ≤ 1000000000 → ∀ w, Makes 76 #[] id w t := by
  induction N with
  | zero => intro t ht; have := sz_pos t; omega
  | succ N ih =>
    intro t ht ht2 w v W hW hv
    obtain ⟨sl, rfl, hk1, hk2, hsl⟩ := trV_iff.1 hv
    obtain ⟨oa, cap, b, o, rfl, hlc, hcm, -, -⟩ := trS_at hsl
    have hgr : Below W.heap.size W ((W.alloc (.cells #[.int .i64 t.k, .int .i64 t.n, .slice oa t.l.length cap] 24)).alloc (.cells #[.int .i64 0, .int .i64 0, .slice none 0 0] 24)) := bA (bA (bZ W) _) _
    have hq1 : ((W.alloc (.cells #[.int .i64 t.k, .int .i64 t.n, .slice oa t.l.length cap] 24)).alloc (.cells #[.int .i64 0, .int .i64 0, .slice none 0 0] 24)).heap[W.heap.size]? = some (.cells #[.int .i64 t.k, .int .i64 t.n, .slice oa t.l.length cap] 24) := by (simp only [heap_alloc, alloc_size]; repeat (first | rw [if_pos trivial] | rw [if_pos (by omega)] | rw [if_neg (by omega)]))
    have hq2 : ((W.alloc (.cells #[.int .i64 t.k, .int .i64 t.n, .slice oa t.l.length cap] 24)).alloc (.cells #[.int .i64 0, .int .i64 0, .slice none 0 0] 24)).heap[W.heap.size + 1]? = some (.cells #[.int .i64 0, .int .i64 0, .slice none 0 0] 24) := by (simp only [heap_alloc, alloc_size]; repeat (first | rw [if_pos trivial] | rw [if_pos (by omega)] | rw [if_neg (by omega)]))
    have hlen := len_szL t.l
    have hszl := sz_l t
    have hcall := each_any (F := 76) (caps := #[]) (f := id) t.l _ _ (trS_up hgr hsl) (by omega) (fun _ _ => by go_simp) (fun x hx => ih x (by have := sz_mem hx; omega) (by have := sz_mem hx; omega) _)
    rw [List.map_id] at hcall
    have HC := Lib.hid hcall
    have HG := Lib.hid (And.intro hgr (And.intro hq1 (And.intro hq2 (And.intro hk1 hk2))))
    clear hcall hgr hq1 hq2 hv hsl hlen hszl hW hk1 hk2
    show Calls Try.prog 76 #[.agg #[.int .i64 t.k, .int .i64 t.n, .slice oa t.l.length cap]] W _
    go_enter Try.func76, Try.ntmps76
    go_wp2_with fail
    refine HC.out.mono ?_
    rintro e w3 ⟨v', rfl, hs', hb'⟩
    obtain ⟨oa3, cap3, b3, o3, rfl, q3, q4, -, -⟩ := trS_at hs'
    have r1 := (hb'.block _ (block_lt HG.out.2.1)).trans HG.out.2.1
    have r2 := (hb'.block _ (block_lt HG.out.2.2.1)).trans HG.out.2.2.1
    have a0 := (cells_of r1 0).1
    have a1 := (cells_of r1 1).1
    have a2 := (cells_of r1 2).1
    have f1 := fun j => (cells_of r1 j).2
    have b0 := (cells_of r2 0).1
    have b1 := (cells_of r2 1).1
    have b2 := (cells_of r2 2).1
    have f2 := fun j => (cells_of r2 j).2
    simp only [List.getElem?_toArray, List.getElem?_cons_zero, List.getElem?_cons_succ] at a0 a1 a2 b0 b1 b2
    have HR := Lib.hid (And.intro r1 (And.intro r2 (And.intro hs' hb')))
    clear r1 r2 hs' hb'
    go_wp2_with fail
    have hfin := three_set (a' := .int .i64 t.k) (b' := .int .i64 t.n) (c' := .slice oa3 t.l.length cap3) ((Below.heap_setCell w3 ⟨W.heap.size, 2, none⟩ (.slice oa3 t.l.length cap3) _ (by simp)).trans HR.out.2.1)
    refine bodyPost_ret (results_cell_row rfl _ _ (W.heap.size + 1) 24 _ _ _ rfl hfin Try.underlying24 rfl infoTk) rfl ?_
    have hall := (((((below_next HG.out.1 HR.out.2.2.2).setCell (p := ⟨W.heap.size, 2, none⟩) (Nat.le_refl _) (.slice oa3 t.l.length cap3)).setCell (p := ⟨W.heap.size + 1, 0, none⟩) (by simp) (.int .i64 t.k)).setCell (p := ⟨W.heap.size + 1, 1, none⟩) (by simp) (.int .i64 t.n)).setCell (p := ⟨W.heap.size + 1, 2, none⟩) (by simp) (.slice oa3 t.l.length cap3))
    have hsz := HG.out.1.size
    have ha2 : ∀ o1 o2 : Obj, ((W.alloc o1).alloc o2).heap.size = W.heap.size + 1 + 1 := fun _ _ => by simp
    refine ⟨_, rfl, trV_iff.2 ⟨_, rfl, HG.out.2.2.2.1, HG.out.2.2.2.2, trS_mono (fun b (hb : Nw _ _ b) => ⟨Nat.le_trans hsz hb.1, by have := hb.2; simpa [World.setCell] using this⟩) (fun b (hb : Nw _ _ b) => ?_) HR.out.2.2.1⟩, hall⟩
    have h1 := hb.1
    rw [ha2] at h1
    rw [Below.heap_setCell _ _ _ _ (by simp; omega), Below.heap_setCell _ _ _ _ (by simp; omega), Below.heap_setCell _ _ _ _ (by simp; omega), Below.heap_setCell _ _ _ _ (by simp; omega)]
theorem clone_any (t : Tm) (v : Value) (W : World) (ht : sz t ≤ 1000000000) (hv : TrV W (· < W.heap.size) t v) :
    Calls Try.prog 76 #[v] W fun e W' => ∃ v', e = .returned v' ∧ TrV W' (Nw W W') t v' ∧ Below W.heap.size W W' :=
  clone_n (sz t) t (Nat.le_refl _) ht W v W (bZ W) hv

/-- A function that says what stands in a variable's place. -/
structure Puts (G : Nat) (caps : Array Value) (g : Int → Tm) (p : Int → Bool) (w : World) : Prop where
  enters : ∀ (args : Array Value) (w : World), (callFunc G args).run Try.prog w = .ok (.enter G args) w
  size : ∀ n, p n = true → sz (g n) ≤ 1000000000
  gives : ∀ n, p n = true → inI n → ∀ W, Below w.heap.size w W → Calls Try.prog G (#[.int .i64 n] ++ caps) W fun e W' => ∃ v', e = .returned v' ∧ TrV W' (fun b => b < w.heap.size ∨ Nw W W' b) (g n) v' ∧ Below W.heap.size W W'
theorem puts_up {G : Nat} {caps : Array Value} {g : Int → Tm} {p : Int → Bool} {w w' : World} (h : Puts G caps g p w) (hb : Below w.heap.size w w') : Puts G caps g p w' :=
  ⟨h.enters, h.size, fun n hn hi W hW => (h.gives n hn hi W (below_next hb hW)).mono fun _ _ ⟨v, e, h1, h2⟩ => ⟨v, e, trV_mono (fun _ h => h.imp (fun h => Nat.lt_of_lt_of_le h hb.size) id) (fun _ _ => rfl) _ h1, h2⟩⟩
def okP (p : Int → Bool) (t : Tm) : Bool := t.k != 1 || p t.n
theorem trV_int {w : World} {P : Nat → Prop} {t : Tm} {v : Value} (h : TrV w P t v) : inI t.n := by
  obtain ⟨sl, -, -, h, -⟩ := trV_iff.1 h; exact h

set_option maxRecDepth 100000 in
theorem replaced1_makes {G : Nat} {caps : Array Value} {g : Int → Tm} {p : Int → Bool} {pb : Nat} {x : Tm} {w : World} (hp : w.heap[pb]? = some (.cells #[.func (.func G) #[] caps] 43))
    (hput : Puts G caps g p w) (ih : ∀ v W, Puts G caps g p W → TrV W (· < W.heap.size) x v → Calls Try.prog 84 #[v, .func (.func G) #[] caps] W fun e W' => ∃ v', e = .returned v' ∧ TrV W' (Nw W W') (repT g x) v' ∧ Below W.heap.size W W') :
    Makes 106 #[.pointer (some ⟨pb, 0, none⟩)] (repT g) w x := by
  intro v W hW hv
  obtain ⟨sl, rfl, hk1, hk2, hsl⟩ := trV_iff.1 hv
  obtain ⟨oa, cap, b, o, rfl, hlc, hcm, -, -⟩ := trS_at hsl
  have hgr : Below W.heap.size W ((W.alloc (.cells #[.int .i64 x.k, .int .i64 x.n, .slice oa x.l.length cap] 24)).alloc (.cells #[.int .i64 0, .int .i64 0, .slice none 0 0] 24)) := bA (bA (bZ W) _) _
  have hq2 : ((W.alloc (.cells #[.int .i64 x.k, .int .i64 x.n, .slice oa x.l.length cap] 24)).alloc (.cells #[.int .i64 0, .int .i64 0, .slice none 0 0] 24)).heap[W.heap.size + 1]? = some (.cells #[.int .i64 0, .int .i64 0, .slice none 0 0] 24) := by (simp only [heap_alloc, alloc_size]; repeat (first | rw [if_pos trivial] | rw [if_pos (by omega)] | rw [if_neg (by omega)]))
  have hpb := (below_next hW hgr).block pb (block_lt hp)
  have cpb := cell_of_one (hpb.trans hp)
  have hpl := block_lt hp
  have hcall := ih _ _ (puts_up hput (below_next hW hgr)) (trV_up hgr hv)
  have HC := Lib.hid hcall
  have HG := Lib.hid (And.intro hgr hq2)
  clear hcall hgr hq2 hv hsl hW hk1 hk2 hpb hp hput ih hpl
  show Calls Try.prog 106 #[.agg #[.int .i64 x.k, .int .i64 x.n, .slice oa x.l.length cap], .pointer (some ⟨pb, 0, none⟩)] W _
  go_enter Try.func106, Try.ntmps106
  go_wp2_with fail
  refine HC.out.mono ?_
  rintro e w3 ⟨v', rfl, hv', hb'⟩
  obtain ⟨sl', rfl, q1, q2, hsl'⟩ := trV_iff.1 hv'
  obtain ⟨oa3, cap3, b3, o3, rfl, q3, q4, -, -⟩ := trS_at hsl'
  have r2 := (hb'.block _ (block_lt HG.out.2)).trans HG.out.2
  have b0 := (cells_of r2 0).1
  have b1 := (cells_of r2 1).1
  have b2 := (cells_of r2 2).1
  have f2 := fun j => (cells_of r2 j).2
  simp only [List.getElem?_toArray, List.getElem?_cons_zero, List.getElem?_cons_succ] at b0 b1 b2
  have HR := Lib.hid (And.intro r2 (And.intro hv' hb'))
  clear r2 hv' hb' hsl' q1 q2
  generalize (repT g x).k = rk at *
  generalize (repT g x).n = rn at *
  go_wp2_with fail
  have hfin := three_set (a' := .int .i64 rk) (b' := .int .i64 rn) (c' := .slice oa3 (repT g x).l.length cap3) HR.out.1
  refine bodyPost_ret (results_cell_row rfl _ _ (W.heap.size + 1) 24 _ _ _ rfl hfin Try.underlying24 rfl infoTk) rfl ?_
  have hall := ((((below_next HG.out.1 HR.out.2.2).setCell (p := ⟨W.heap.size + 1, 0, none⟩) (by simp) (.int .i64 rk)).setCell (p := ⟨W.heap.size + 1, 1, none⟩) (by simp) (.int .i64 rn)).setCell (p := ⟨W.heap.size + 1, 2, none⟩) (by simp) (.slice oa3 (repT g x).l.length cap3))
  have hsz := HG.out.1.size
  have ha2 : ∀ o1 o2 : Obj, ((W.alloc o1).alloc o2).heap.size = W.heap.size + 1 + 1 := fun _ _ => by simp
  refine ⟨_, rfl, trV_mono (fun b (hb : Nw _ _ b) => ⟨Nat.le_trans hsz hb.1, by have := hb.2; simpa [World.setCell] using this⟩) (fun b (hb : Nw _ _ b) => ?_) _ HR.out.2.1, hall⟩
  have h1 := hb.1
  rw [ha2] at h1
  rw [Below.heap_setCell _ _ _ _ (by simp; omega), Below.heap_setCell _ _ _ _ (by simp; omega), Below.heap_setCell _ _ _ _ (by simp; omega)]

set_option maxRecDepth 100000 in
set_option maxHeartbeats 400000 in
theorem replaced_n {G : Nat} {caps : Array Value} {g : Int → Tm} {p : Int → Bool} (N : Nat) : ∀ t, sz t ≤ N → sz t ≤ 1000000000 → allN (okP p) t = true → ∀ v W, Puts G caps g p W → TrV W (· < W.heap.size) t v →
    Calls Try.prog 84 #[v, .func (.func G) #[] caps] W fun e W' => ∃ v', e = .returned v' ∧ TrV W' (Nw W W') (repT g t) v' ∧ Below W.heap.size W W' := by
  induction N with
  | zero => intro t ht; have := sz_pos t; omega
  | succ N ih =>
    intro t ht ht2 hall v W hput hv
    have IH := Lib.hid ih
    clear ih
    obtain ⟨sl, rfl, hk1, hk2, hsl⟩ := trV_iff.1 hv
    obtain ⟨oa, cap, b, o, rfl, hlc, hcm, -, -⟩ := trS_at hsl
    have hgr : Below W.heap.size W (((W.alloc (.cells #[.int .i64 t.k, .int .i64 t.n, .slice oa t.l.length cap] 24)).alloc (.cells #[.func (.func G) #[] caps] 43)).alloc (.cells #[.int .i64 0, .int .i64 0, .slice none 0 0] 24)) := bA (bA (bA (bZ W) _) _) _
    have hq1 : (((W.alloc (.cells #[.int .i64 t.k, .int .i64 t.n, .slice oa t.l.length cap] 24)).alloc (.cells #[.func (.func G) #[] caps] 43)).alloc (.cells #[.int .i64 0, .int .i64 0, .slice none 0 0] 24)).heap[W.heap.size]? = some (.cells #[.int .i64 t.k, .int .i64 t.n, .slice oa t.l.length cap] 24) := by (simp only [heap_alloc, alloc_size]; repeat (first | rw [if_pos trivial] | rw [if_pos (by omega)] | rw [if_neg (by omega)]))
    have hq2 : (((W.alloc (.cells #[.int .i64 t.k, .int .i64 t.n, .slice oa t.l.length cap] 24)).alloc (.cells #[.func (.func G) #[] caps] 43)).alloc (.cells #[.int .i64 0, .int .i64 0, .slice none 0 0] 24)).heap[W.heap.size + 1]? = some (.cells #[.func (.func G) #[] caps] 43) := by (simp only [heap_alloc, alloc_size]; repeat (first | rw [if_pos trivial] | rw [if_pos (by omega)] | rw [if_neg (by omega)]))
    have hq3 : (((W.alloc (.cells #[.int .i64 t.k, .int .i64 t.n, .slice oa t.l.length cap] 24)).alloc (.cells #[.func (.func G) #[] caps] 43)).alloc (.cells #[.int .i64 0, .int .i64 0, .slice none 0 0] 24)).heap[W.heap.size + 1 + 1]? = some (.cells #[.int .i64 0, .int .i64 0, .slice none 0 0] 24) := by (simp only [heap_alloc, alloc_size]; repeat (first | rw [if_pos trivial] | rw [if_pos (by omega)] | rw [if_neg (by omega)]))
    have hlen := len_szL t.l
    have hszl := sz_l t
    have eG := hput.enters
    have ha3 : ∀ o1 o2 o3 : Obj, (((W.alloc o1).alloc o2).alloc o3).heap.size = W.heap.size + 1 + 1 + 1 := fun _ _ _ => by simp
    by_cases hk : t.k = 1
    · have hpn : p t.n = true := by
        rw [allN_t] at hall
        simp [okP, hk] at hall
        exact hall.1
      have hcall := hput.gives t.n hpn hk2 _ hgr
      have hszg := hput.size t.n hpn
      have hb1 : (t.k == 1) = true := by simp [hk]
      rw [repT_var g t hk]
      have HC := Lib.hid hcall
      have HG := Lib.hid (And.intro hgr (And.intro hq1 (And.intro hq3 hszg)))
      clear hcall hgr hq1 hq2 hq3 hv hsl hlen hszl hput hk1 hk2 hk hpn hall hszg
      go_enter Try.func84, Try.ntmps84
      go_wp2_with fail
      refine HC.out.mono ?_
      rintro e w3 ⟨v', rfl, hv0, hb'⟩
      have hv' : TrV w3 (· < w3.heap.size) (g t.n) v' := trV_mono (fun b hb => by
        rcases hb with h | h
        · have h1 := HG.out.1.size; have h2 := hb'.size; exact Nat.lt_of_lt_of_le h (Nat.le_trans h1 h2)
        · exact h.2) (fun _ _ => rfl) _ hv0
      clear hv0
      have hcl := clone_any (g t.n) v' w3 HG.out.2.2.2 hv'
      obtain ⟨sl', rfl, q1, q2, hsl'⟩ := trV_iff.1 hv'
      obtain ⟨oa3, cap3, b3, o3, rfl, q3, q4, -, -⟩ := trS_at hsl'
      have r3 := (hb'.block _ (block_lt HG.out.2.2.1)).trans HG.out.2.2.1
      have HL := Lib.hid hcl
      have HR := Lib.hid (And.intro r3 (And.intro hv' hb'))
      clear hcl hv' hb' hsl' q1 q2 r3
      go_wp2_with fail
      refine HL.out.mono ?_
      rintro e w4 ⟨v'', rfl, hv', hb'⟩
      obtain ⟨sl', rfl, q1, q2, hsl'⟩ := trV_iff.1 hv'
      obtain ⟨oa4, cap4, b4, o4, rfl, q3, q4, -, -⟩ := trS_at hsl'
      have r4 := (hb'.block _ (block_lt HR.out.1)).trans HR.out.1
      have b0 := (cells_of r4 0).1
      have b1 := (cells_of r4 1).1
      have b2 := (cells_of r4 2).1
      have f2 := fun j => (cells_of r4 j).2
      simp only [List.getElem?_toArray, List.getElem?_cons_zero, List.getElem?_cons_succ] at b0 b1 b2
      have HS := Lib.hid (And.intro r4 (And.intro hv' hb'))
      clear hv' hb' hsl' q1 q2 r4
      go_wp2_with fail
      have hfin := three_set (a' := .int .i64 (g t.n).k) (b' := .int .i64 (g t.n).n) (c' := .slice oa4 (g t.n).l.length cap4) HS.out.1
      refine bodyPost_ret (results_cell_row rfl _ _ (W.heap.size + 1 + 1) 24 _ _ _ rfl hfin Try.underlying24 rfl infoTk) rfl ?_
      have hba := below_next HG.out.1 (below_next HR.out.2.2 HS.out.2.2)
      have hall := (((hba.setCell (p := ⟨W.heap.size + 1 + 1, 0, none⟩) (by simp; omega) (.int .i64 (g t.n).k)).setCell (p := ⟨W.heap.size + 1 + 1, 1, none⟩) (by simp; omega) (.int .i64 (g t.n).n)).setCell (p := ⟨W.heap.size + 1 + 1, 2, none⟩) (by simp; omega) (.slice oa4 (g t.n).l.length cap4))
      have hsz3 := HR.out.2.2.size
      rw [ha3] at hsz3
      refine ⟨_, rfl, trV_mono (fun b (hb : Nw _ _ b) => ⟨by have := hb.1; omega, by have := hb.2; simpa [World.setCell] using this⟩) (fun b (hb : Nw _ _ b) => ?_) _ HS.out.2.1, hall⟩
      have h1 := hb.1
      rw [Below.heap_setCell _ _ _ _ (by simp; omega), Below.heap_setCell _ _ _ _ (by simp; omega), Below.heap_setCell _ _ _ _ (by simp; omega)]
    · have hb1 : (t.k == 1) = false := by simp [hk]
      rw [repT_op g t hk]
      have hch : ∀ x ∈ t.l, allN (okP p) x = true := by rw [allN_t, Bool.and_eq_true] at hall; exact (allNL_iff _ _).1 hall.2
      have hcall := each_any (F := 106) (caps := #[.pointer (some ⟨W.heap.size + 1, 0, none⟩)]) (f := repT g) t.l _ _ (trS_up hgr hsl) (by omega) (fun _ _ => by go_simp)
        (fun x hx => replaced1_makes hq2 (puts_up hput hgr) (IH.out x (by have := sz_mem hx; omega) (by have := sz_mem hx; omega) (hch x hx)))
      have hml : (t.l.map (repT g)).length = t.l.length := List.length_map _
      have HC := Lib.hid hcall
      have HG := Lib.hid (And.intro hgr (And.intro hq1 (And.intro hq3 (And.intro hk1 (And.intro hk2 hml)))))
      clear hcall hgr hq1 hq2 hq3 hv hsl hlen hszl hput hk1 hk2 hk hall hch hml
      go_enter Try.func84, Try.ntmps84
      go_wp2_with fail
      refine HC.out.mono ?_
      rintro e w3 ⟨v', rfl, hs', hb'⟩
      obtain ⟨oa3, cap3, b3, o3, rfl, q3, q4, -, -⟩ := trS_at hs'
      rw [HG.out.2.2.2.2.2] at hs' q3 ⊢
      have r1 := (hb'.block _ (block_lt HG.out.2.1)).trans HG.out.2.1
      have r2 := (hb'.block _ (block_lt HG.out.2.2.1)).trans HG.out.2.2.1
      have a0 := (cells_of r1 0).1
      have a1 := (cells_of r1 1).1
      have a2 := (cells_of r1 2).1
      have f1 := fun j => (cells_of r1 j).2
      have b0 := (cells_of r2 0).1
      have b1 := (cells_of r2 1).1
      have b2 := (cells_of r2 2).1
      have f2 := fun j => (cells_of r2 j).2
      simp only [List.getElem?_toArray, List.getElem?_cons_zero, List.getElem?_cons_succ] at a0 a1 a2 b0 b1 b2
      have HR := Lib.hid (And.intro r1 (And.intro r2 (And.intro hs' hb')))
      clear r1 r2 hs' hb'
      go_wp2_with fail
      have hfin := three_set (a' := .int .i64 t.k) (b' := .int .i64 t.n) (c' := .slice oa3 t.l.length cap3) ((Below.heap_setCell w3 ⟨W.heap.size, 2, none⟩ (.slice oa3 t.l.length cap3) _ (by simp; omega)).trans HR.out.2.1)
      refine bodyPost_ret (results_cell_row rfl _ _ (W.heap.size + 1 + 1) 24 _ _ _ rfl hfin Try.underlying24 rfl infoTk) rfl ?_
      have hall := (((((below_next HG.out.1 HR.out.2.2.2).setCell (p := ⟨W.heap.size, 2, none⟩) (Nat.le_refl _) (.slice oa3 t.l.length cap3)).setCell (p := ⟨W.heap.size + 1 + 1, 0, none⟩) (by simp; omega) (.int .i64 t.k)).setCell (p := ⟨W.heap.size + 1 + 1, 1, none⟩) (by simp; omega) (.int .i64 t.n)).setCell (p := ⟨W.heap.size + 1 + 1, 2, none⟩) (by simp; omega) (.slice oa3 t.l.length cap3))
      have hsz := HG.out.1.size
      refine ⟨_, rfl, trV_iff.2 ⟨_, rfl, HG.out.2.2.2.1, HG.out.2.2.2.2.1, ?_⟩, hall⟩
      show TrS _ _ (t.l.map (repT g)) _
      refine trS_mono (fun b (hb : Nw _ _ b) => ⟨Nat.le_trans hsz hb.1, by have := hb.2; simpa [World.setCell] using this⟩) (fun b (hb : Nw _ _ b) => ?_) HR.out.2.2.1
      have h1 := hb.1
      rw [ha3] at h1
      rw [Below.heap_setCell _ _ _ _ (by simp; omega), Below.heap_setCell _ _ _ _ (by simp; omega), Below.heap_setCell _ _ _ _ (by simp; omega), Below.heap_setCell _ _ _ _ (by simp; omega)]
theorem replaced_any {G : Nat} {caps : Array Value} {g : Int → Tm} {p : Int → Bool} (t : Tm) (v : Value) (W : World) (ht : sz t ≤ 1000000000) (hall : allN (okP p) t = true) (hput : Puts G caps g p W) (hv : TrV W (· < W.heap.size) t v) :
    Calls Try.prog 84 #[v, .func (.func G) #[] caps] W fun e W' => ∃ v', e = .returned v' ∧ TrV W' (Nw W W') (repT g t) v' ∧ Below W.heap.size W W' :=
  replaced_n (sz t) t (Nat.le_refl _) ht hall v W hput hv
end Go.Proofs.Ytapdfdjknehhgaa
