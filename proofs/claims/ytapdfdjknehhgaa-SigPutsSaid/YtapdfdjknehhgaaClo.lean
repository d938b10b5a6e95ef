/- clone, with where the copy lies. -/
import Derived.Test.YtapdfdjknehhgaaSep
namespace Go.Proofs.Ytapdfdjknehhgaa
open Go.RowKit Go.Tr

/-- A copy of a tree, which shares nothing. -/
def CloneS (t : Tm) : Prop := ∀ v W, TrV W (· < W.heap.size) t v → Calls Try.prog 76 #[v] W fun e W' => ∃ o c, e = .returned (.agg #[.int .i64 t.k, .int .i64 t.n, .slice o t.l.length c]) ∧ SpV W' t W.heap.size W'.heap.size (.agg #[.int .i64 t.k, .int .i64 t.n, .slice o t.l.length c]) ∧ Below W.heap.size W W'
set_option maxRecDepth 100000 in
set_option maxHeartbeats 1000000 in
theorem eachC_any (l : List Tm) (s : Value) (w : World) (h : TrS w (· < w.heap.size) l s) (hlen : l.length ≤ 1000000000) (hstep : ∀ t ∈ l, CloneS t) :
    Calls Try.prog 82 #[s, .func (.func 76) #[] #[]] w fun e w' => e = .returned (.slice (some ⟨w.heap.size, 0, none⟩) l.length l.length) ∧ w.heap.size < w'.heap.size ∧ (∃ xs, w'.heap[w.heap.size]? = some (.cells xs 24)) ∧ SpC w' w.heap.size l 0 (w.heap.size + 1) w'.heap.size ∧ Below w.heap.size w w' := by
  obtain ⟨oa, cap, b, o, rfl, hlc, hcm, hoa, hel⟩ := trS_at h
  have HEL := Lib.hid (And.intro hoa hel)
  have HS := Lib.hid hstep
  clear h hoa hel hstep
  have hmk := make_terms l.length hlen
  have HI0 := Lib.hid (eachS_start l w)
  have hF : ∀ (args : Array Value) (w : World), (callFunc 76 args).run Try.prog w = .ok (.enter 76 args) w := fun _ _ => by go_simp
  go_enter Try.func82, Try.ntmps82
  go_wp2_with fail
  go_loopw [13] (fun i wr => ∃ k : Nat, k ≤ l.length ∧ i = .int .i64 k ∧ Hid (EachS w.heap.size l k wr ∧ Below w.heap.size w wr)) (fun i _ => l.length - (intOf i).toNat)
  case atStart => exact ⟨0, by omega, rfl, HI0.out, below_alloc w _⟩
  case round =>
    obtain ⟨k, hk, rfl, HI⟩ := hrel
    by_cases hlt : k < l.length
    · obtain ⟨rfl, hQb⟩ := HEL.out.1 (by omega)
      obtain ⟨oa2, cap2, e0, e1, e2, e3⟩ := HEL.out.2 k hlt
      have hbl := HI.out.2.block b hQb
      have d0 := (World.cell?_of_block (w := w) (a := ⟨b, o + k * 3, none⟩) hbl).trans e0
      have d1 := (World.cell?_of_block (w := w) (a := ⟨b, o + k * 3 + 1, none⟩) hbl).trans e1
      have d2 := (World.cell?_of_block (w := w) (a := ⟨b, o + k * 3 + 2, none⟩) hbl).trans e2
      have hgr := below_alloc wr (.cells #[.int .i64 l[k].k, .int .i64 l[k].n, .slice oa2 l[k].l.length cap2] 24)
      have hb3 := below_le HI.out.2 hgr HI.out.2.size
      have hI3 := eachS_below HI.out.1 hgr
      have hcall := HS.out l[k] (List.getElem_mem hlt) _ _ (trV_mono (fun b (h : b < w.heap.size) => Nat.lt_of_lt_of_le h hb3.size) (fun b h => hb3.block b h) _ e3)
      have HC := Lib.hid hcall
      have HK := Lib.hid (And.intro hb3 hI3)
      clear e0 e1 e2 e3 hbl hgr hb3 hI3 hcall
      go_wp2_with fail
      refine HC.out.mono ?_
      rintro e w3 ⟨oa3, cap3, rfl, hv', hb'⟩
      have hI4 := eachS_below HK.out.2 hb'
      obtain ⟨x0, x1, x2, x3⟩ := eachS_cells hI4 hlt
      have g0 := x3 (k * 3)
      have g1 := x3 (k * 3 + 1)
      have g2 := x3 (k * 3 + 2)
      have hset := eachS_set HK.out.2 hb' hlt hv'
      have hbb := (below_le HK.out.1 hb' HK.out.1.size)
      have HN := Lib.hid (And.intro hset hbb)
      clear hv' hb' hI4 x3 hset hbb
      go_wp2_with fail
      go_roundw
      case rel => exact ⟨k + 1, by omega, by go_num, HN.out.1, ((HN.out.2.setCell (Nat.le_refl _) _).setCell (Nat.le_refl _) _).setCell (Nat.le_refl _) _⟩
      case measure => simp [intOf]; omega
    · have hke : k = l.length := by omega
      have hend : SpC wr w.heap.size l 0 (w.heap.size + 1) wr.heap.size ∧ w.heap.size < wr.heap.size ∧ ∃ xs, wr.heap[w.heap.size]? = some (.cells xs 24) := by
        obtain ⟨xs, h1, h2, h3, h4⟩ := HI.out.1
        rw [hke, List.take_length] at h3
        exact ⟨h3, block_lt h1, xs, h1⟩
      have HE := Lib.hid hend
      clear hend hke
      go_wp2_with fail
      go_ret
      exact ⟨rfl, HE.out.2.1, HE.out.2.2, HE.out.1, HI.out.2⟩
theorem cloneS_end {W w3 : World} {t : Tm} {a b c d : Value} (hl : t.l.length ≤ 9223372036854775807) (hk1 : inI t.k) (hk2 : inI t.n) (hs : SpC w3 (W.heap.size + 1 + 1) t.l 0 (W.heap.size + 1 + 1 + 1) w3.heap.size) (hlt : W.heap.size + 1 + 1 < w3.heap.size) (hx : ∃ xs, w3.heap[W.heap.size + 1 + 1]? = some (.cells xs 24)) :
    SpV ((((w3.setCell ⟨W.heap.size, 2, none⟩ a).setCell ⟨W.heap.size + 1, 0, none⟩ b).setCell ⟨W.heap.size + 1, 1, none⟩ c).setCell ⟨W.heap.size + 1, 2, none⟩ d) t W.heap.size ((((w3.setCell ⟨W.heap.size, 2, none⟩ a).setCell ⟨W.heap.size + 1, 0, none⟩ b).setCell ⟨W.heap.size + 1, 1, none⟩ c).setCell ⟨W.heap.size + 1, 2, none⟩ d).heap.size (.agg #[.int .i64 t.k, .int .i64 t.n, .slice (some ⟨W.heap.size + 1 + 1, 0, none⟩) t.l.length t.l.length]) := by
  have hoth : ∀ x, W.heap.size + 1 < x → ((((w3.setCell ⟨W.heap.size, 2, none⟩ a).setCell ⟨W.heap.size + 1, 0, none⟩ b).setCell ⟨W.heap.size + 1, 1, none⟩ c).setCell ⟨W.heap.size + 1, 2, none⟩ d).heap[x]? = w3.heap[x]? := fun x hx => by
    rw [Below.heap_setCell _ _ _ _ (by simp; omega), Below.heap_setCell _ _ _ _ (by simp; omega), Below.heap_setCell _ _ _ _ (by simp; omega), Below.heap_setCell _ _ _ _ (by simp; omega)]
  have hsz : ((((w3.setCell ⟨W.heap.size, 2, none⟩ a).setCell ⟨W.heap.size + 1, 0, none⟩ b).setCell ⟨W.heap.size + 1, 1, none⟩ c).setCell ⟨W.heap.size + 1, 2, none⟩ d).heap.size = w3.heap.size := by simp [World.setCell]
  generalize ((((w3.setCell ⟨W.heap.size, 2, none⟩ a).setCell ⟨W.heap.size + 1, 0, none⟩ b).setCell ⟨W.heap.size + 1, 1, none⟩ c).setCell ⟨W.heap.size + 1, 2, none⟩ d) = y at hoth hsz ⊢
  obtain ⟨k, n, l⟩ := t
  simp only [SpV]
  exact ⟨_, _, W.heap.size + 1 + 1, rfl, hk1, hk2, Nat.le_refl _, hl, by omega, fun _ => ⟨rfl, by omega, by omega, by obtain ⟨xs, hx⟩ := hx; exact ⟨xs, (hoth _ (by omega)).trans hx⟩⟩, spC_hi (spC_world (hoth _ (by omega)) hs (fun b h1 _ => hoth b (by omega))) (by omega)⟩
set_option maxRecDepth 100000 in
set_option maxHeartbeats 1000000 in
theorem cloneS_n (N : Nat) : ∀ t, sz t ≤ N → sz t ≤ 1000000000 → CloneS t := by
  induction N with
  | zero => intro t ht; have := sz_pos t; omega
  | succ N ih =>
    intro t ht ht2 v W hv
    obtain ⟨sl, rfl, hk1, hk2, hsl⟩ := trV_iff.1 hv
    obtain ⟨oa, cap, b, o, rfl, hlc, hcm, -, -⟩ := trS_at hsl
    have hgr : Below W.heap.size W ((W.alloc (.cells #[.int .i64 t.k, .int .i64 t.n, .slice oa t.l.length cap] 24)).alloc (.cells #[.int .i64 0, .int .i64 0, .slice none 0 0] 24)) := bA (bA (bZ W) _) _
    have hq1 : ((W.alloc (.cells #[.int .i64 t.k, .int .i64 t.n, .slice oa t.l.length cap] 24)).alloc (.cells #[.int .i64 0, .int .i64 0, .slice none 0 0] 24)).heap[W.heap.size]? = some (.cells #[.int .i64 t.k, .int .i64 t.n, .slice oa t.l.length cap] 24) := by (simp only [heap_alloc, alloc_size]; repeat (first | rw [if_pos trivial] | rw [if_pos (by omega)] | rw [if_neg (by omega)]))
    have hq2 : ((W.alloc (.cells #[.int .i64 t.k, .int .i64 t.n, .slice oa t.l.length cap] 24)).alloc (.cells #[.int .i64 0, .int .i64 0, .slice none 0 0] 24)).heap[W.heap.size + 1]? = some (.cells #[.int .i64 0, .int .i64 0, .slice none 0 0] 24) := by (simp only [heap_alloc, alloc_size]; repeat (first | rw [if_pos trivial] | rw [if_pos (by omega)] | rw [if_neg (by omega)]))
    have hlen := len_szL t.l
    have hszl := sz_l t
    have hcall := eachC_any t.l _ _ (trS_up hgr hsl) (by omega) (fun x hx => ih x (by have := sz_mem hx; omega) (by have := sz_mem hx; omega))
    have HC := Lib.hid hcall
    have HG := Lib.hid (And.intro hgr (And.intro hq1 (And.intro hq2 (And.intro hk1 hk2))))
    clear hcall hgr hq1 hq2 hv hsl hlen hszl hk1 hk2
    show Calls Try.prog 76 #[.agg #[.int .i64 t.k, .int .i64 t.n, .slice oa t.l.length cap]] W _
    go_enter Try.func76, Try.ntmps76
    go_wp2_with fail
    refine HC.out.mono ?_
    rintro e w3 ⟨rfl, hlt3, hx3, hs', hb'⟩
    have r1 := (hb'.block _ (block_lt HG.out.2.1)).trans HG.out.2.1
    have r2 := (hb'.block _ (block_lt HG.out.2.2.1)).trans HG.out.2.2.1
    have a0 := (cells_of r1 0).1
    have a1 := (cells_of r1 1).1
    have a2 := (cells_of r1 2).1
    have f1 := fun j => (cells_of r1 j).2
    have b0 := (cells_of r2 0).1
    have b1 := (cells_of r2 1).1
    have b2 := (cells_of r2 2).1
    have f2 := fun j => (cells_of r2 j).2
    simp only [List.getElem?_toArray, List.getElem?_cons_zero, List.getElem?_cons_succ] at a0 a1 a2 b0 b1 b2
    have HR := Lib.hid (And.intro r1 (And.intro r2 (And.intro hs' (And.intro hb' (And.intro hlt3 hx3)))))
    clear r1 r2 hs' hb' hlt3 hx3
    go_wp2_with fail
    have hfin := three_set (a' := .int .i64 t.k) (b' := .int .i64 t.n) (c' := .slice (some ⟨W.heap.size + 1 + 1, 0, none⟩) t.l.length t.l.length) ((Below.heap_setCell w3 ⟨W.heap.size, 2, none⟩ (.slice (some ⟨W.heap.size + 1 + 1, 0, none⟩) t.l.length t.l.length) _ (by simp)).trans HR.out.2.1)
    refine bodyPost_ret (results_cell_row rfl _ _ (W.heap.size + 1) 24 _ _ _ rfl hfin Try.underlying24 rfl infoTk) rfl ?_
    have hall := (((((below_next HG.out.1 HR.out.2.2.2.1).setCell (p := ⟨W.heap.size, 2, none⟩) (Nat.le_refl _) (.slice (some ⟨W.heap.size + 1 + 1, 0, none⟩) t.l.length t.l.length)).setCell (p := ⟨W.heap.size + 1, 0, none⟩) (by simp) (.int .i64 t.k)).setCell (p := ⟨W.heap.size + 1, 1, none⟩) (by simp) (.int .i64 t.n)).setCell (p := ⟨W.heap.size + 1, 2, none⟩) (by simp) (.slice (some ⟨W.heap.size + 1 + 1, 0, none⟩) t.l.length t.l.length))
    exact ⟨_, _, rfl, cloneS_end (by have := len_szL t.l; have := sz_l t; omega) HG.out.2.2.2.1 HG.out.2.2.2.2 (by simpa using HR.out.2.2.1) (by simpa using HR.out.2.2.2.2.1) (by simpa using HR.out.2.2.2.2.2), hall⟩
/-- A copy of a tree of any size below 10^9, which shares nothing. -/
theorem cloneS_any (t : Tm) (ht : sz t ≤ 1000000000) : CloneS t := cloneS_n (sz t) t (Nat.le_refl _) ht
end Go.Proofs.Ytapdfdjknehhgaa
