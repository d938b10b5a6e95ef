/- The reference's Same, SameAll, SameInts. -/
import Derived.Test.YtapdfdjknehhgaaCmp
import Derived.Deep.QuietTactic
import Derived.BigQuiet
namespace Go.Proofs.Ytapdfdjknehhgaa
open Go.RowKit Go.Tr

theorem eqT_h (a b : Tm) : eqT a b = (a.k == b.k && a.n == b.n && eqL a.l b.l) := by cases a; cases b; rfl
/-- The element k of a list, at every world in which what was there is as it was. -/
theorem elem_all {w w0 : World} {b o : Nat} {l : List Tm} {k : Nat} (hlt : k < l.length) (hb : Below w.heap.size w w0) (hQ : b < w.heap.size)
    (hel : ∀ i (h : i < l.length), ∃ oa' cap', w.cell? ⟨b, o + i * 3, none⟩ = some (.int .i64 l[i].k) ∧ w.cell? ⟨b, o + i * 3 + 1, none⟩ = some (.int .i64 l[i].n) ∧ w.cell? ⟨b, o + i * 3 + 2, none⟩ = some (.slice oa' l[i].l.length cap') ∧ TrV w (· < w.heap.size) l[i] (.agg #[.int .i64 l[i].k, .int .i64 l[i].n, .slice oa' l[i].l.length cap'])) :
    ∃ oa' cap', (∀ W, Below w0.heap.size w0 W → W.cell? ⟨b, o + k * 3, none⟩ = some (.int .i64 l[k].k) ∧ W.cell? ⟨b, o + k * 3 + 1, none⟩ = some (.int .i64 l[k].n) ∧ W.cell? ⟨b, o + k * 3 + 2, none⟩ = some (.slice oa' l[k].l.length cap')) ∧
      ∀ W, Below w0.heap.size w0 W → TrV W (· < W.heap.size) l[k] (.agg #[.int .i64 l[k].k, .int .i64 l[k].n, .slice oa' l[k].l.length cap']) := by
  obtain ⟨oa', cap', e0, e1, e2, e3⟩ := hel k hlt
  refine ⟨oa', cap', fun W hw => ?_, fun W hw => trV_up (below_next hb hw) e3⟩
  have h := (below_next hb hw).block b hQ
  exact ⟨(World.cell?_of_block (w := w) (a := ⟨b, o + k * 3, none⟩) h).trans e0, (World.cell?_of_block (w := w) (a := ⟨b, o + k * 3 + 1, none⟩) h).trans e1, (World.cell?_of_block (w := w) (a := ⟨b, o + k * 3 + 2, none⟩) h).trans e2⟩

set_option maxRecDepth 100000 in
theorem rsame_n (N : Nat) : ∀ t, sz t ≤ N → ∀ t' v v' w, TrV w (· < w.heap.size) t v → TrV w (· < w.heap.size) t' v' → Calls Try.prog 18 #[v, v'] w fun e w' => e = .returned (.bool (eqT t t')) ∧ Below w.heap.size w w' := by
  induction N with
  | zero => intro t ht; have := sz_pos t; omega
  | succ N ih =>
    intro t ht t' v v' w hv hv'
    have IH := Lib.hid ih
    clear ih
    obtain ⟨sl, rfl, -, -, hsl⟩ := trV_iff.1 hv
    obtain ⟨oa, cap, b, o, rfl, hlc, hcm, hoa, hel⟩ := trS_at hsl
    obtain ⟨sl', rfl, -, -, hsl'⟩ := trV_iff.1 hv'
    obtain ⟨oa', cap', b', o', rfl, hlc', hcm', hoa', hel'⟩ := trS_at hsl'
    have H := Lib.hid (And.intro hoa hel)
    have H' := Lib.hid (And.intro hoa' hel')
    have hq := eqT_h t t'
    have hgr : Below w.heap.size w ((w.alloc (.cells #[.int .i64 t.k, .int .i64 t.n, .slice oa t.l.length cap] 24)).alloc (.cells #[.int .i64 t'.k, .int .i64 t'.n, .slice oa' t'.l.length cap'] 24)) := bA (bA (bZ w) _) _
    have HG := Lib.hid hgr
    clear hsl hsl' hv hv' hoa hel hoa' hel' hgr
    by_cases hk : t.k = t'.k
    · by_cases hn : t.n = t'.n
      · by_cases hl : t.l.length = t'.l.length
        · have hres : eqT t t' = eqL t.l t'.l := by rw [hq]; simp [hk, hn]
          rw [hres]
          have hb1 : (t.k != t'.k) = false := by simp [hk]
          have hb2 : (t.n != t'.n) = false := by simp [hn]
          have hb3 : ((t.l.length : Int) != (t'.l.length : Int)) = false := by simp [hl]
          have hb4 : (t.l.length != t'.l.length) = false := by simp [hl]
          have HK := Lib.hid (And.intro hk (And.intro hn hl))
          clear hk hn hl hq hres
          go_enter Try.func18, Try.ntmps18
          go_wp2_with fail
          have hq1 : ((w.alloc (.cells #[.int .i64 t.k, .int .i64 t.n, .slice oa t.l.length cap] 24)).alloc (.cells #[.int .i64 t'.k, .int .i64 t'.n, .slice oa' t'.l.length cap'] 24)).heap[w.heap.size]? = some (.cells #[.int .i64 t.k, .int .i64 t.n, .slice oa t.l.length cap] 24) := by simp only [heap_alloc, alloc_size]; simp
          have hq2 : ((w.alloc (.cells #[.int .i64 t.k, .int .i64 t.n, .slice oa t.l.length cap] 24)).alloc (.cells #[.int .i64 t'.k, .int .i64 t'.n, .slice oa' t'.l.length cap'] 24)).heap[w.heap.size + 1]? = some (.cells #[.int .i64 t'.k, .int .i64 t'.n, .slice oa' t'.l.length cap'] 24) := by simp only [heap_alloc, alloc_size]; simp
          have HQ := Lib.hid (And.intro hq1 hq2)
          clear hq1 hq2
          unfold Hid at HG HQ
          generalize ((w.alloc (.cells #[.int .i64 t.k, .int .i64 t.n, .slice oa t.l.length cap] 24)).alloc (.cells #[.int .i64 t'.k, .int .i64 t'.n, .slice oa' t'.l.length cap'] 24)) = wb at *
          have HG := Lib.hid HG
          have HQ := Lib.hid HQ
          go_loopw [5] (fun i wr => ∃ k : Nat, k ≤ t.l.length ∧ i = .int .i64 k ∧ Hid (eqL t.l t'.l = eqL (t.l.drop k) (t'.l.drop k)) ∧ Hid (Below wb.heap.size wb wr)) (fun i _ => t.l.length - (intOf i).toNat)
          case atStart => exact ⟨0, by omega, rfl, rfl, bZ wb⟩
          case round =>
            obtain ⟨k, hk, rfl, HR, HB⟩ := hrel
            have c2 : wr.cell? ⟨w.heap.size, 2, none⟩ = some (.slice oa t.l.length cap) := (World.cell?_of_block (w := wb) (a := ⟨w.heap.size, 2, none⟩) (HB.out.block _ (block_lt HQ.out.1))).trans (cells_of HQ.out.1 2).1
            have d2 : wr.cell? ⟨w.heap.size + 1, 2, none⟩ = some (.slice oa' t'.l.length cap') := (World.cell?_of_block (w := wb) (a := ⟨w.heap.size + 1, 2, none⟩) (HB.out.block _ (block_lt HQ.out.2))).trans (cells_of HQ.out.2 2).1
            by_cases hlt : k < t.l.length
            · have hlt' : k < t'.l.length := by have := HK.out.2.2; omega
              obtain ⟨rfl, hQb⟩ := H.out.1 (by omega)
              obtain ⟨rfl, hQb'⟩ := H'.out.1 (by omega)
              have hwr : Below w.heap.size w wr := below_le HG.out HB.out HG.out.size
              obtain ⟨oa2, cap2, f1, f2⟩ := elem_all hlt hwr hQb H.out.2
              obtain ⟨oa3, cap3, g1, g2⟩ := elem_all hlt' hwr hQb' H'.out.2
              obtain ⟨d3, d4, d5⟩ := f1 wr (bZ wr)
              obtain ⟨d6, d7, d8⟩ := g1 wr (bZ wr)
              have hkk : ∀ W, Below wr.heap.size wr W → W.cell? ⟨w.heap.size, 2, none⟩ = some (.slice (some ⟨b, o, none⟩) t.l.length cap) ∧ W.cell? ⟨w.heap.size + 1, 2, none⟩ = some (.slice (some ⟨b', o', none⟩) t'.l.length cap') ∧ W.cell? ⟨b, o + k * 3, none⟩ = some (.int .i64 t.l[k].k) ∧ W.cell? ⟨b, o + k * 3 + 1, none⟩ = some (.int .i64 t.l[k].n) ∧ W.cell? ⟨b, o + k * 3 + 2, none⟩ = some (.slice oa2 t.l[k].l.length cap2) ∧ W.cell? ⟨b', o' + k * 3, none⟩ = some (.int .i64 t'.l[k].k) ∧ W.cell? ⟨b', o' + k * 3 + 1, none⟩ = some (.int .i64 t'.l[k].n) ∧ W.cell? ⟨b', o' + k * 3 + 2, none⟩ = some (.slice oa3 t'.l[k].l.length cap3) := fun W hW =>
                ⟨(World.cell?_of_block (w := wr) (a := ⟨w.heap.size, 2, none⟩) (hW.block _ (World.block_lt_of_cell? wr _ c2))).trans c2, (World.cell?_of_block (w := wr) (a := ⟨w.heap.size + 1, 2, none⟩) (hW.block _ (World.block_lt_of_cell? wr _ d2))).trans d2, (f1 W hW).1, (f1 W hW).2.1, (f1 W hW).2.2, (g1 W hW).1, (g1 W hW).2.1, (g1 W hW).2.2⟩
              have hcall := fun W hW => IH.out t.l[k] (by have := sz_l t; have := sz_mem (List.getElem_mem hlt); omega) t'.l[k] _ _ W (f2 W hW) (g2 W hW)
              have hdr : eqL (t.l.drop k) (t'.l.drop k) = (eqT t.l[k] t'.l[k] && eqL (t.l.drop (k + 1)) (t'.l.drop (k + 1))) := by rw [List.drop_eq_getElem_cons hlt, List.drop_eq_getElem_cons hlt']; rfl
              have HKK := Lib.hid hkk
              have HC := Lib.hid hcall
              have HW := Lib.hid hwr
              have hz := HW.out.size
              have i0 : (0 : Int) ≤ (k : Int) := Int.natCast_nonneg _
              have i1 : (k : Int) < (t.l.length : Int) := by omega
              have i2 : (k : Int) < (t'.l.length : Int) := by omega
              cases hb : eqT t.l[k] t'.l[k] with
              | false =>
                have hres : eqL t.l t'.l = false := by rw [HR.out, hdr, hb]; rfl
                have HRS := Lib.hid hres
                have HBB := Lib.hid hb
                clear f1 f2 g1 g2 hkk hcall hwr hdr hres hb
                go_wp2_with fail
                go_region_held3 (fun W => W.cell? ⟨w.heap.size, 2, none⟩ = some (.slice (some ⟨b, o, none⟩) t.l.length cap) ∧ W.cell? ⟨w.heap.size + 1, 2, none⟩ = some (.slice (some ⟨b', o', none⟩) t'.l.length cap') ∧ W.cell? ⟨b, o + k * 3, none⟩ = some (.int .i64 t.l[k].k) ∧ W.cell? ⟨b, o + k * 3 + 1, none⟩ = some (.int .i64 t.l[k].n) ∧ W.cell? ⟨b, o + k * 3 + 2, none⟩ = some (.slice oa2 t.l[k].l.length cap2) ∧ W.cell? ⟨b', o' + k * 3, none⟩ = some (.int .i64 t'.l[k].k) ∧ W.cell? ⟨b', o' + k * 3 + 1, none⟩ = some (.int .i64 t'.l[k].n) ∧ W.cell? ⟨b', o' + k * 3 + 2, none⟩ = some (.slice oa3 t'.l[k].l.length cap3))
                  (first | (refine HKK.out _ ?_; (repeat (first | with_reducible assumption | with_reducible exact bZ _ | with_reducible apply bA | with_reducible apply bD)); done))
                  (first
                    | (go_at_call 18; (with_reducible refine (HC.out _ (by (repeat (first | with_reducible assumption | with_reducible exact bZ _ | with_reducible apply bA | with_reducible apply bD)))).mono ?_); rintro e w5 ⟨rfl, hb5⟩; have hb6 := below_next (show Below wr.heap.size wr _ from by (repeat (first | with_reducible assumption | with_reducible exact bZ _ | with_reducible apply bA | with_reducible apply bD))) hb5; clear hb5))
                rw [HBB.out]
                have HX := Lib.hid (below_le HW.out hb6 HW.out.size)
                clear hb6
                go_wp2_with fail
                go_ret
                exact ⟨ret_bool HRS.out.symm, HX.out⟩
              | true =>
                have hres : eqL t.l t'.l = eqL (t.l.drop (k + 1)) (t'.l.drop (k + 1)) := by rw [HR.out, hdr, hb]; rfl
                have HRS := Lib.hid hres
                have HBB := Lib.hid hb
                clear f1 f2 g1 g2 hkk hcall hwr hdr hres hb
                go_wp2_with fail
                go_region_held3 (fun W => W.cell? ⟨w.heap.size, 2, none⟩ = some (.slice (some ⟨b, o, none⟩) t.l.length cap) ∧ W.cell? ⟨w.heap.size + 1, 2, none⟩ = some (.slice (some ⟨b', o', none⟩) t'.l.length cap') ∧ W.cell? ⟨b, o + k * 3, none⟩ = some (.int .i64 t.l[k].k) ∧ W.cell? ⟨b, o + k * 3 + 1, none⟩ = some (.int .i64 t.l[k].n) ∧ W.cell? ⟨b, o + k * 3 + 2, none⟩ = some (.slice oa2 t.l[k].l.length cap2) ∧ W.cell? ⟨b', o' + k * 3, none⟩ = some (.int .i64 t'.l[k].k) ∧ W.cell? ⟨b', o' + k * 3 + 1, none⟩ = some (.int .i64 t'.l[k].n) ∧ W.cell? ⟨b', o' + k * 3 + 2, none⟩ = some (.slice oa3 t'.l[k].l.length cap3))
                  (first | (refine HKK.out _ ?_; (repeat (first | with_reducible assumption | with_reducible exact bZ _ | with_reducible apply bA | with_reducible apply bD)); done))
                  (first
                    | (go_at_call 18; (with_reducible refine (HC.out _ (by (repeat (first | with_reducible assumption | with_reducible exact bZ _ | with_reducible apply bA | with_reducible apply bD)))).mono ?_); rintro e w5 ⟨rfl, hb5⟩; have hb6 := below_next (show Below wr.heap.size wr _ from by (repeat (first | with_reducible assumption | with_reducible exact bZ _ | with_reducible apply bA | with_reducible apply bD))) hb5; clear hb5))
                rw [HBB.out]
                have HX := Lib.hid (below_le HB.out hb6 HB.out.size)
                clear hb6
                go_wp2_with fail
                go_roundw
                case rel => exact ⟨k + 1, by omega, by go_num, HRS.out, HX.out⟩
                case measure => simp [intOf]; omega
            · have hres : eqL t.l t'.l = true := by rw [HR.out, List.drop_eq_nil_of_le (by omega), List.drop_eq_nil_of_le (by have := HK.out.2.2; omega)]; rfl
              have HRS := Lib.hid hres
              clear hres
              go_wp2_with fail
              go_ret
              exact ⟨ret_bool HRS.out.symm, below_le HG.out HB.out HG.out.size⟩
        · have hres : eqT t t' = false := by rw [hq, eqL_len _ _ hl]; simp
          rw [hres]
          have hb1 : (t.k != t'.k) = false := by simp [hk]
          have hb2 : (t.n != t'.n) = false := by simp [hn]
          have hb3 : ((t.l.length : Int) != (t'.l.length : Int)) = true := by simp; omega
          have hb4 : (t.l.length != t'.l.length) = true := by simp [hl]
          clear hk hn hl hq hres
          go_enter Try.func18, Try.ntmps18
          go_wp2_with fail
          go_ret
          exact ⟨rfl, HG.out⟩
      · have hres : eqT t t' = false := by rw [hq]; simp [hn]
        rw [hres]
        have hb1 : (t.k != t'.k) = false := by simp [hk]
        have hb2 : (t.n != t'.n) = true := by simp [hn]
        clear hk hn hq hres
        go_enter Try.func18, Try.ntmps18
        go_wp2_with fail
        all_goals go_ret
        all_goals exact ⟨rfl, HG.out⟩
    · have hres : eqT t t' = false := by rw [hq]; simp [hk]
      rw [hres]
      have hb1 : (t.k != t'.k) = true := by simp [hk]
      clear hk hq hres
      go_enter Try.func18, Try.ntmps18
      go_wp2_with fail
      all_goals go_ret
      all_goals exact ⟨rfl, HG.out⟩
theorem RSame_any (t t' : Tm) (v v' : Value) (w : World) (h : TrV w (· < w.heap.size) t v) (h' : TrV w (· < w.heap.size) t' v') :
    Calls Try.prog 18 #[v, v'] w fun e w' => e = .returned (.bool (eqT t t')) ∧ Below w.heap.size w w' := rsame_n (sz t) t (Nat.le_refl _) t' v v' w h h'
end Go.Proofs.Ytapdfdjknehhgaa
