/- The order of trees. -/
import Derived.Test.YtapdfdjknehhgaaTree
import Derived.Deep.RegionHeld3
namespace Go.Proofs.Ytapdfdjknehhgaa
open Go.RowKit Go.Tr

theorem cmpC_any (a b : Int) (w : World) : Calls Try.prog 56 #[.int .i64 a, .int .i64 b] w fun e w' => e = .returned (.int .i64 (cmpI a b)) ∧ w = w' := by
  rcases Int.lt_trichotomy a b with h | h | h
  · rw [show cmpI a b = -1 by unfold cmpI; rw [if_pos h]]
    go_enter Try.func56, Try.ntmps56
    go_wp2
    go_ret
    exact ⟨rfl, rfl⟩
  · subst h
    rw [show cmpI a a = 0 by simp [cmpI]]
    go_enter Try.func56, Try.ntmps56
    go_wp2
    go_ret
    exact ⟨rfl, rfl⟩
  · rw [show cmpI a b = 1 by unfold cmpI; rw [if_neg (by omega), if_pos h]]
    have h' : ¬ a < b := by omega
    go_enter Try.func56, Try.ntmps56
    go_wp2
    go_ret
    exact ⟨rfl, rfl⟩
def or3 (a b c : Int) : Int := if a ≠ 0 then a else if b ≠ 0 then b else c
theorem or3_cmp (k n : Int) (m : Nat) (k' n' : Int) (m' : Nat) : or3 (cmpI k k') (cmpI n n') (cmpI m m') = cmpH k n m k' n' m' := rfl
set_option maxRecDepth 100000 in
theorem Or3_any (g : Nat) (a b c : Int) (w : World) (h : w.heap[g]? = some (.cells #[.int .i64 a, .int .i64 b, .int .i64 c] 3)) :
    Calls Try.prog 55 #[.slice (some ⟨g, 0, none⟩) 3 3] w fun e w' => e = .returned (.int .i64 (or3 a b c)) ∧ w = w' := by
  have c0 := (cells_of h 0).1
  have c1 := (cells_of h 1).1
  have c2 := (cells_of h 2).1
  have HC := Lib.hid (And.intro c0 (And.intro c1 c2))
  clear c0 c1 c2 h
  go_enter Try.func55, Try.ntmps55
  go_wp2
  go_loop [8] (fun i => ∃ k : Nat, k ≤ 3 ∧ i = .int .i64 k ∧ (0 < k → a = 0) ∧ (1 < k → b = 0) ∧ (2 < k → c = 0)) (fun i => 3 - (intOf i).toNat)
  case atStart => exact ⟨0, by omega, rfl, by omega, by omega, by omega⟩
  case round =>
    obtain ⟨k, hk, rfl, h0, h1, h2⟩ := hrel
    have HX := Lib.hid (And.intro h0 (And.intro h1 h2))
    clear h0 h1 h2
    by_cases hlt : k < 3
    · obtain ⟨z, hz, hzn, hz0⟩ : ∃ z : Int, w.cell? ⟨g, k, none⟩ = some (.int .i64 z) ∧ (z ≠ 0 → or3 a b c = z) ∧ (z = 0 → (0 < k + 1 → a = 0) ∧ (1 < k + 1 → b = 0) ∧ (2 < k + 1 → c = 0)) := by
        match k, hlt with
        | 0, _ => exact ⟨a, HC.out.1, fun h => by simp [or3, h], fun h => ⟨fun _ => h, by omega, by omega⟩⟩
        | 1, _ => exact ⟨b, HC.out.2.1, fun h => by have := HX.out.1 (by omega); simp [or3, h, this], fun h => ⟨fun _ => HX.out.1 (by omega), fun _ => h, by omega⟩⟩
        | 2, _ => exact ⟨c, HC.out.2.2, fun h => by have := HX.out.1 (by omega); have := HX.out.2.1 (by omega); simp [or3, *], fun h => ⟨fun _ => HX.out.1 (by omega), fun _ => HX.out.2.1 (by omega), fun _ => h⟩⟩
      have HZ := Lib.hid (And.intro hzn hz0)
      clear hzn hz0
      by_cases hzz : z = 0
      · have hb : (z != 0) = false := by simp [hzz]
        have HZZ := Lib.hid hzz
        clear hzz
        go_wp2
        go_round
        case rel => exact ⟨k + 1, by omega, by go_num, HZ.out.2 HZZ.out⟩
        case measure => simp [intOf]; omega
      · have hb : (z != 0) = true := by simp [hzz]
        have HZZ := Lib.hid hzz
        clear hzz
        go_wp2
        go_ret
        exact ⟨ret_i64 (HZ.out.1 HZZ.out).symm, rfl⟩
    · go_wp2
      go_ret
      have h0 := HX.out.1 (by omega)
      have h1 := HX.out.2.1 (by omega)
      have h2 := HX.out.2.2 (by omega)
      exact ⟨ret_i64 (by simp [or3, h0, h1, h2]), rfl⟩

set_option maxRecDepth 100000 in
theorem cmpF_any (N : Nat) (ih : Hid (∀ t, sz t ≤ N → ∀ t' v v' w, TrV w (· < w.heap.size) t v → TrV w (· < w.heap.size) t' v' → Calls Try.prog 19 #[v, v'] w fun e w' => e = .returned (.int .i64 (cmpT t t')) ∧ Below w.heap.size w w'))
    (l l' : List Tm) (hl : szL l ≤ N) (s s' : Value) (w : World) (h : TrS w (· < w.heap.size) l s) (h' : TrS w (· < w.heap.size) l' s') :
    Calls Try.prog 57 #[s, s', .func (.func 19) #[] #[]] w fun e w' => e = .returned (.int .i64 (cmpL l l')) ∧ Below w.heap.size w w' := by
  obtain ⟨oa, cap, b, o, rfl, hlc, hcm, hoa, hel⟩ := trS_at h
  obtain ⟨oa', cap', b', o', rfl, hlc', hcm', hoa', hel'⟩ := trS_at h'
  have H := Lib.hid (And.intro hoa hel)
  have H' := Lib.hid (And.intro hoa' hel')
  clear h h' hoa hel hoa' hel'
  have e1 : ∀ (args : Array Value) (w : World), (callFunc 19 args).run Try.prog w = .ok (.enter 19 args) w := fun _ _ => by go_simp
  go_enter Try.func57, Try.ntmps57
  go_wp2_with fail
  go_loopw [13] (fun i wr => ∃ k : Nat, k ≤ l.length ∧ k ≤ l'.length ∧ i = .int .i64 k ∧ Hid (cmpL l l' = cmpL (l.drop k) (l'.drop k)) ∧ Hid (Below w.heap.size w wr)) (fun i _ => l.length - (intOf i).toNat)
  case atStart => exact ⟨0, by omega, by omega, rfl, rfl, bZ w⟩
  case round =>
    obtain ⟨k, hk, hk', rfl, HR, HB⟩ := hrel
    by_cases hlt : k < l.length
    · obtain ⟨rfl, hQb⟩ := H.out.1 (by omega)
      obtain ⟨oa2, cap2, e0, e1', e2, e3⟩ := H.out.2 k hlt
      have d0 := (World.cell?_of_block (w := w) (a := ⟨b, o + k * 3, none⟩) (HB.out.block b hQb)).trans e0
      have d1 := (World.cell?_of_block (w := w) (a := ⟨b, o + k * 3 + 1, none⟩) (HB.out.block b hQb)).trans e1'
      have d2 := (World.cell?_of_block (w := w) (a := ⟨b, o + k * 3 + 2, none⟩) (HB.out.block b hQb)).trans e2
      have HE := Lib.hid e3
      have hdr : l.drop k = l[k] :: l.drop (k + 1) := List.drop_eq_getElem_cons hlt
      clear e0 e1' e2 e3
      by_cases hlt' : k < l'.length
      · obtain ⟨rfl, hQb'⟩ := H'.out.1 (by omega)
        obtain ⟨oa3, cap3, e0, e1', e2, e3⟩ := H'.out.2 k hlt'
        have d3 := (World.cell?_of_block (w := w) (a := ⟨b', o' + k * 3, none⟩) (HB.out.block b' hQb')).trans e0
        have d4 := (World.cell?_of_block (w := w) (a := ⟨b', o' + k * 3 + 1, none⟩) (HB.out.block b' hQb')).trans e1'
        have d5 := (World.cell?_of_block (w := w) (a := ⟨b', o' + k * 3 + 2, none⟩) (HB.out.block b' hQb')).trans e2
        have hbl' : b' < wr.heap.size := Nat.lt_of_lt_of_le hQb' HB.out.size
        have HE' := Lib.hid e3
        have hdr' : l'.drop k = l'[k] :: l'.drop (k + 1) := List.drop_eq_getElem_cons hlt'
        clear e0 e1' e2 e3
        have hc : cmpL l l' = if cmpT l[k] l'[k] ≠ 0 then cmpT l[k] l'[k] else cmpL (l.drop (k + 1)) (l'.drop (k + 1)) := by rw [HR.out, hdr, hdr']; rfl
        have hsz : sz l[k] ≤ N := by have := sz_mem (List.getElem_mem hlt); omega
        have hgr : ∀ o1 o2, Below w.heap.size w ((wr.alloc o1).alloc o2) := fun o1 o2 => bA (bA HB.out o1) o2
        have hcall := fun o1 o2 => ih.out l[k] hsz l'[k] _ _ _ (trV_up (hgr o1 o2) HE.out) (trV_up (hgr o1 o2) HE'.out)
        have HCA := Lib.hid hcall
        have HG := Lib.hid hgr
        clear hdr hdr' hsz hgr hcall
        by_cases hz : cmpT l[k] l'[k] = 0
        · have hb : (cmpT l[k] l'[k] != 0) = false := by simp [hz]
          have HC := Lib.hid (show cmpL l l' = cmpL (l.drop (k + 1)) (l'.drop (k + 1)) by rw [hc]; simp [hz])
          clear hz hc
          generalize cmpT l[k] l'[k] = z at *
          go_wp2_with fail
          refine (HCA.out _ _).mono ?_
          rintro e w5 ⟨rfl, hb5⟩
          have HB5 := Lib.hid (below_next (HG.out _ _) hb5)
          clear hb5
          go_wp2_with fail
          go_roundw
          case rel => exact ⟨k + 1, by omega, by omega, by go_num, HC.out, HB5.out⟩
          case measure => simp [intOf]; omega
        · have hb : (cmpT l[k] l'[k] != 0) = true := by simp [hz]
          have HC := Lib.hid (show cmpL l l' = cmpT l[k] l'[k] by rw [hc]; simp [hz])
          clear hz hc
          generalize cmpT l[k] l'[k] = z at *
          go_wp2_with fail
          refine (HCA.out _ _).mono ?_
          rintro e w5 ⟨rfl, hb5⟩
          have HB5 := Lib.hid (below_next (HG.out _ _) hb5)
          clear hb5
          go_wp2_with fail
          go_ret
          exact ⟨ret_i64 HC.out.symm, HB5.out⟩
      · have hc : cmpL l l' = 1 := by rw [HR.out, hdr, List.drop_eq_nil_of_le (by omega : l'.length ≤ k)]; rfl
        have HC := Lib.hid hc
        clear hc hdr
        go_wp2_with fail
        go_ret
        exact ⟨ret_i64 HC.out.symm, bA HB.out _⟩
    · have hc : cmpL l l' = if l.length < l'.length then -1 else 0 := by
        rw [HR.out, List.drop_eq_nil_of_le (by omega : l.length ≤ k)]
        by_cases h2 : l.length < l'.length
        · rw [if_pos h2, List.drop_eq_getElem_cons (show k < l'.length by omega)]; rfl
        · rw [if_neg h2, List.drop_eq_nil_of_le (by omega)]; rfl
      have HC := Lib.hid hc
      clear hc
      by_cases h2 : l.length < l'.length
      · go_wp2_with fail
        go_ret
        exact ⟨ret_i64 (by rw [HC.out, if_pos h2]), HB.out⟩
      · go_wp2_with fail
        go_ret
        exact ⟨ret_i64 (by rw [HC.out, if_neg h2]), HB.out⟩

set_option maxRecDepth 100000 in
theorem compare_n (N : Nat) : ∀ t, sz t ≤ N → ∀ t' v v' w, TrV w (· < w.heap.size) t v → TrV w (· < w.heap.size) t' v' → Calls Try.prog 19 #[v, v'] w fun e w' => e = .returned (.int .i64 (cmpT t t')) ∧ Below w.heap.size w w' := by
  induction N with
  | zero => intro t ht; have := sz_pos t; omega
  | succ N ih =>
    intro t ht t' v v' w hv hv'
    have IH := Lib.hid ih
    clear ih
    obtain ⟨sl, rfl, -, -, hsl⟩ := trV_iff.1 hv
    obtain ⟨oa, cap, b, o, rfl, hlc, hcm, -, -⟩ := trS_at hsl
    obtain ⟨sl', rfl, -, -, hsl'⟩ := trV_iff.1 hv'
    obtain ⟨oa', cap', b', o', rfl, hlc', hcm', -, -⟩ := trS_at hsl'
    have hF := fun (W : World) => cmpF_any N IH t.l t'.l (by have := sz_l t; omega) (.slice oa t.l.length cap) (.slice oa' t'.l.length cap') W
    have HS := Lib.hid (And.intro hsl hsl')
    have HF := Lib.hid hF
    have hct := cmpT_h t t'
    rw [← or3_cmp] at hct
    clear hF hsl hsl' hv hv' IH
    generalize hlt : t.l.length = m at *
    generalize hlt' : t'.l.length = m' at *
    have HT := Lib.hid hct
    have HL := Lib.hid (And.intro hlt hlt')
    clear hct hlt hlt'
    generalize t.k = tk at *
    generalize t.n = tn at *
    generalize t'.k = tk' at *
    generalize t'.n = tn' at *
    go_enter Try.func19, Try.ntmps19
    go_wp2_with fail
    have hgr : Below w.heap.size w ((w.alloc (.cells #[.int .i64 tk, .int .i64 tn, .slice oa m cap] 24)).alloc (.cells #[.int .i64 tk', .int .i64 tn', .slice oa' m' cap'] 24)) := bA (bA (bZ w) _) _
    have hq1 : ((w.alloc (.cells #[.int .i64 tk, .int .i64 tn, .slice oa m cap] 24)).alloc (.cells #[.int .i64 tk', .int .i64 tn', .slice oa' m' cap'] 24)).heap[w.heap.size]? = some (.cells #[.int .i64 tk, .int .i64 tn, .slice oa m cap] 24) := by simp only [heap_alloc, alloc_size]; simp
    have hq2 : ((w.alloc (.cells #[.int .i64 tk, .int .i64 tn, .slice oa m cap] 24)).alloc (.cells #[.int .i64 tk', .int .i64 tn', .slice oa' m' cap'] 24)).heap[w.heap.size + 1]? = some (.cells #[.int .i64 tk', .int .i64 tn', .slice oa' m' cap'] 24) := by simp only [heap_alloc, alloc_size]; simp
    generalize ((w.alloc (.cells #[.int .i64 tk, .int .i64 tn, .slice oa m cap] 24)).alloc (.cells #[.int .i64 tk', .int .i64 tn', .slice oa' m' cap'] 24)) = wb at *
    have c0 := (cells_of hq1 0).1
    have c1 := (cells_of hq1 1).1
    have c2 := (cells_of hq1 2).1
    have d0 := (cells_of hq2 0).1
    have d1 := (cells_of hq2 1).1
    have d2 := (cells_of hq2 2).1
    have l1 := block_lt hq1
    have l2 := block_lt hq2
    simp only [List.getElem?_toArray, List.getElem?_cons_zero, List.getElem?_cons_succ] at c0 c1 c2 d0 d1 d2
    have HG := Lib.hid hgr
    generalize hq1e : w.heap.size = q1 at *
    have HQ1 := Lib.hid hq1e
    clear hq1e
    generalize hq12 : q1 + 1 = q2 at *
    have HE := Lib.hid hq12
    have hk : ∀ W : World, Below wb.heap.size wb W → W.cell? ⟨q1, 0, none⟩ = some (.int .i64 tk) ∧ W.cell? ⟨q1, 1, none⟩ = some (.int .i64 tn) ∧ W.cell? ⟨q1, 2, none⟩ = some (.slice oa m cap) ∧ W.cell? ⟨q2, 0, none⟩ = some (.int .i64 tk') ∧ W.cell? ⟨q2, 1, none⟩ = some (.int .i64 tn') ∧ W.cell? ⟨q2, 2, none⟩ = some (.slice oa' m' cap') := fun W hg => by
      have f1 : ∀ j, W.cell? ⟨q1, j, none⟩ = wb.cell? ⟨q1, j, none⟩ := fun j => World.cell?_of_block (w := wb) (hg.block q1 l1)
      have f2 : ∀ j, W.cell? ⟨q2, j, none⟩ = wb.cell? ⟨q2, j, none⟩ := fun j => World.cell?_of_block (w := wb) (hg.block q2 l2)
      rw [f1, f1, f1, f2, f2, f2]
      exact ⟨c0, c1, c2, d0, d1, d2⟩
    have HK := Lib.hid hk
    clear hq12 hk hq1 hq2 hgr
    go_region_held3 (fun W => W.cell? ⟨q1, 0, none⟩ = some (.int .i64 tk) ∧ W.cell? ⟨q1, 1, none⟩ = some (.int .i64 tn) ∧ W.cell? ⟨q1, 2, none⟩ = some (.slice oa m cap) ∧ W.cell? ⟨q2, 0, none⟩ = some (.int .i64 tk') ∧ W.cell? ⟨q2, 1, none⟩ = some (.int .i64 tn') ∧ W.cell? ⟨q2, 2, none⟩ = some (.slice oa' m' cap'))
      (first | (refine HK.out _ ?_; (repeat (first | with_reducible assumption | with_reducible exact bZ _ | with_reducible apply bA | with_reducible apply bD)); done))
      (first
        | (go_at_call 56; (with_reducible refine (cmpC_any _ _ _).mono ?_); rintro e w' ⟨rfl, rfl⟩)
        | (go_at_call 55; (with_reducible refine (Or3_any _ _ _ _ _ (heap_alloc_new_d _ _)).mono ?_); rintro e w' ⟨rfl, rfl⟩))
    have HF2 := Lib.hid (HF.out (wb.alloc (.cells #[.int .i64 (cmpI tk tk'), .int .i64 (cmpI tn tn'), .int .i64 (cmpI m m')] 3)).drew)
    have hg2 : Below q1 w (wb.alloc (.cells #[.int .i64 (cmpI tk tk'), .int .i64 (cmpI tn tn'), .int .i64 (cmpI m m')] 3)).drew := by
      rw [← HQ1.out]; rw [← HQ1.out] at HG; exact bD (bA HG.out _)
    have hsz : w.heap.size ≤ (wb.alloc (.cells #[.int .i64 (cmpI tk tk'), .int .i64 (cmpI tn tn'), .int .i64 (cmpI m m')] 3)).drew.heap.size := hg2.size
    have HG2 := Lib.hid hg2
    have HS2 := Lib.hid hsz
    have hc0 := HK.out _ (bD (bA (bZ wb) (.cells #[.int .i64 (cmpI tk tk'), .int .i64 (cmpI tn tn'), .int .i64 (cmpI m m')] 3)))
    obtain ⟨-, -, x1, -, -, x2⟩ := hc0
    clear hg2 hsz
    by_cases hz : or3 (cmpI tk tk') (cmpI tn tn') (cmpI m m') = 0
    · have hb : (or3 (cmpI tk tk') (cmpI tn tn') (cmpI m m') != 0) = false := by simp [hz]
      have hres : cmpT t t' = cmpL t.l t'.l := by rw [HT.out]; simp [hz]
      have HR := Lib.hid hres
      clear hz hres
      go_wp2_with fail
      refine (HF2.out (trS_mono (fun b h => ?_) (fun b h => HG2.out.block b h) HS.out.1) (trS_mono (fun b h => ?_) (fun b h => HG2.out.block b h) HS.out.2)).mono ?_
      · have h1 := HS2.out; have h2 := HQ1.out; omega
      · have h1 := HS2.out; have h2 := HQ1.out; omega
      rintro e w5 ⟨rfl, hb5⟩
      have HB5 := Lib.hid (below_le HG2.out hb5 (by have h1 := HS2.out; have h2 := HQ1.out; omega))
      clear hb5
      go_wp2_with fail
      go_ret
      exact ⟨ret_i64 HR.out.symm, by rw [HQ1.out]; exact HB5.out⟩
    · have hb : (or3 (cmpI tk tk') (cmpI tn tn') (cmpI m m') != 0) = true := by simp [hz]
      have hres : cmpT t t' = or3 (cmpI tk tk') (cmpI tn tn') (cmpI m m') := by rw [HT.out]; simp [hz]
      have HR := Lib.hid hres
      clear hz hres
      go_wp2_with fail
      go_ret
      exact ⟨ret_i64 HR.out.symm, by rw [HQ1.out]; exact HG2.out⟩
theorem Compare_any (t t' : Tm) (v v' : Value) (w : World) (h : TrV w (· < w.heap.size) t v) (h' : TrV w (· < w.heap.size) t' v') :
    Calls Try.prog 19 #[v, v'] w fun e w' => e = .returned (.int .i64 (cmpT t t')) ∧ Below w.heap.size w w' := compare_n (sz t) t (Nat.le_refl _) t' v v' w h h'
set_option maxRecDepth 100000 in
theorem Same_any (t t' : Tm) (v v' : Value) (w : World) (h : TrV w (· < w.heap.size) t v) (h' : TrV w (· < w.heap.size) t' v') :
    Calls Try.prog 17 #[v, v'] w fun e w' => e = .returned (.bool (eqT t t')) ∧ Below w.heap.size w w' := by
  obtain ⟨sl, rfl, -, -, hsl⟩ := trV_iff.1 h
  obtain ⟨oa, cap, b, o, rfl, hlc, hcm, -, -⟩ := trS_at hsl
  obtain ⟨sl', rfl, -, -, hsl'⟩ := trV_iff.1 h'
  obtain ⟨oa', cap', b', o', rfl, hlc', hcm', -, -⟩ := trS_at hsl'
  have hgr : ∀ o1 o2, Below w.heap.size w ((w.alloc o1).alloc o2) := fun o1 o2 => bA (bA (bZ w) o1) o2
  have hcall := fun o1 o2 => Compare_any t t' _ _ _ (trV_up (hgr o1 o2) h) (trV_up (hgr o1 o2) h')
  have HC := Lib.hid hcall
  have HG := Lib.hid hgr
  have HQ := Lib.hid (eqT_cmp t t')
  clear hgr hcall h h' hsl hsl'
  go_enter Try.func17, Try.ntmps17
  go_wp2_with fail
  refine (HC.out _ _).mono ?_
  rintro e w5 ⟨rfl, hb5⟩
  have HB5 := Lib.hid (below_next (HG.out _ _) hb5)
  clear hb5
  go_wp2_with fail
  go_ret
  exact ⟨ret_bool HQ.out.symm, HB5.out⟩
end Go.Proofs.Ytapdfdjknehhgaa
