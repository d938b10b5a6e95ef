/- Merged: RNodes, RIs. -/
import Derived.Test.YtapdfdjknehhgaaTree

/- The reference's nodes. -/
namespace Go.Proofs.Ytapdfdjknehhgaa
open Go.RowKit Go.Tr

set_option maxRecDepth 100000 in
set_option maxHeartbeats 400000 in
theorem rnodes_n (N : Nat) : ∀ (t : Tm), sz t ≤ N → ∀ (v : Value) (w : World), TrV w (· < w.heap.size) t v →
    Calls Try.prog 64 #[v] w fun e w' => e = .returned (.bool (allN okN t)) ∧ Below w.heap.size w w' := by
  induction N with
  | zero => intro t ht; have := sz_pos t; omega
  | succ N ih =>
    intro t ht v w hv
    have IH := Lib.hid ih
    clear ih
    obtain ⟨sl, rfl, hk1, hk2, hsl⟩ := trV_iff.1 hv
    obtain ⟨oa, cap, b, o, rfl, hlc, hcm, hoa, hel⟩ := trS_at hsl
    have HEL := Lib.hid (And.intro hoa hel)
    have H := Lib.hid (And.intro (fun o => bA (bZ w) o) hv)
    clear hoa hel hv hsl hk1 hk2
    go_enter Try.func64, Try.ntmps64
    by_cases hn : t.n < 0
    · have hres : allN okN t = false := by
        rw [allN_t, show okN t = false from by simp [okN]; omega, Bool.false_and]
      have HRS := Lib.hid hres
      clear hres
      go_wp2_with fail
      go_ret
      rw [HRS.out]
      exact ⟨rfl, H.out.1 _⟩
    · have hn2 : (0 : Int) ≤ t.n := by omega
      by_cases hk : t.k = 1
      · have hb1 : (t.k != 1) = false := by simp [hk]
        have hb2 : (t.k == 1) = true := by simp [hk]
        by_cases hl : 0 < t.l.length
        · have hl2 : (0 : Int) < (t.l.length : Int) := by omega
          have hle : t.l.isEmpty = false := by cases h : t.l with
            | nil => rw [h] at hl; simp at hl
            | cons a r => rfl
          have hres : allN okN t = false := by
            rw [allN_t, show okN t = false from by simp [okN, hk, hle], Bool.false_and]
          have HRS := Lib.hid hres
          clear hres hle hk
          go_wp2_with fail
          go_ret
          rw [HRS.out]
          exact ⟨rfl, H.out.1 _⟩
        · have hl2 : (t.l.length : Int) ≤ 0 := by omega
          have hl3 : (t.l.length : Int) ≤ 8 := by omega
          have HA : Hid (allN okN t = allNL okN (t.l.drop 0)) := Lib.hid (by
            rw [allN_t, show okN t = true from by simp [okN, hk, hn2]; exact List.length_eq_zero_iff.1 (by omega)]; rfl)
          clear hk
          go_wp2_with fail
          go_loopw [3] (fun i wr => ∃ k : Nat, k ≤ t.l.length ∧ i = .int .i64 k ∧ Hid (allN okN t = allNL okN (t.l.drop k)) ∧ Hid (Below w.heap.size w wr ∧ wr.heap[w.heap.size]? = some (.cells #[.int .i64 t.k, .int .i64 t.n, .slice oa t.l.length cap] 24))) (fun i _ => t.l.length - (intOf i).toNat)
          case atStart => exact ⟨0, by omega, rfl, HA.out, H.out.1 _, heap_alloc_new w _⟩
          case round =>
            obtain ⟨k, hk, rfl, HR, HI⟩ := hrel
            have c2 := (cells_of HI.out.2 2).1
            simp only [List.getElem?_toArray, List.getElem?_cons_zero, List.getElem?_cons_succ] at c2
            have hws := block_lt HI.out.2
            by_cases hlt : k < t.l.length
            · exfalso; omega
            · have hres : allN okN t = true := by rw [HR.out, List.drop_eq_nil_of_le (by omega)]; rfl
              have HRS := Lib.hid hres
              clear hres
              go_wp2_with fail
              go_ret
              rw [HRS.out]
              exact ⟨rfl, HI.out.1⟩
      · have hb1 : (t.k != 1) = true := by simp [hk]
        have hb2 : (t.k == 1) = false := by simp [hk]
        by_cases hk2 : t.k = 2
        · have hb3 : (t.k != 2) = false := by simp [hk2]
          by_cases hl : t.l.length ≤ 8
          · have hl3 : (t.l.length : Int) ≤ 8 := by omega
            have HA : Hid (allN okN t = allNL okN (t.l.drop 0)) := Lib.hid (by
              rw [allN_t, show okN t = true from by simp [okN, hk2, hn2, hl]]; rfl)
            clear hk hk2
            go_wp2_with fail
            go_loopw [3] (fun i wr => ∃ k : Nat, k ≤ t.l.length ∧ i = .int .i64 k ∧ Hid (allN okN t = allNL okN (t.l.drop k)) ∧ Hid (Below w.heap.size w wr ∧ wr.heap[w.heap.size]? = some (.cells #[.int .i64 t.k, .int .i64 t.n, .slice oa t.l.length cap] 24))) (fun i _ => t.l.length - (intOf i).toNat)
            case atStart => exact ⟨0, by omega, rfl, HA.out, H.out.1 _, heap_alloc_new w _⟩
            case round =>
              obtain ⟨k, hk, rfl, HR, HI⟩ := hrel
              have c2 := (cells_of HI.out.2 2).1
              simp only [List.getElem?_toArray, List.getElem?_cons_zero, List.getElem?_cons_succ] at c2
              have hws := block_lt HI.out.2
              by_cases hlt : k < t.l.length
              · obtain ⟨rfl, hQb⟩ := HEL.out.1 (by omega)
                obtain ⟨oa2, cap2, e0, e1, e2, e3⟩ := HEL.out.2 k hlt
                have hbl := HI.out.1.block b hQb
                have d0 := (World.cell?_of_block (w := w) (a := ⟨b, o + k * 3, none⟩) hbl).trans e0
                have d1 := (World.cell?_of_block (w := w) (a := ⟨b, o + k * 3 + 1, none⟩) hbl).trans e1
                have d2 := (World.cell?_of_block (w := w) (a := ⟨b, o + k * 3 + 2, none⟩) hbl).trans e2
                have hcall := IH.out t.l[k] (by have := sz_l t; have := sz_mem (List.getElem_mem hlt); omega) _ wr (trV_up HI.out.1 e3)
                have hdr : allNL okN (t.l.drop k) = (allN okN t.l[k] && allNL okN (t.l.drop (k + 1))) := by rw [List.drop_eq_getElem_cons hlt]; rfl
                have i0 : (0 : Int) ≤ (k : Int) := Int.natCast_nonneg _
                have i1 : (k : Int) < (t.l.length : Int) := by omega
                obtain ⟨q, hq⟩ : ∃ q, q = allN okN t.l[k] := ⟨_, rfl⟩
                rw [← hq] at hcall hdr
                have HC := Lib.hid (And.intro hcall hdr)
                clear hcall hdr hq e0 e1 e2 e3 hbl
                cases q with
                | true =>
                  go_wp2_with fail
                  refine HC.out.1.mono ?_
                  rintro e w5 ⟨rfl, hb5⟩
                  have HB := Lib.hid (And.intro (below_next HI.out.1 hb5) ((hb5.block _ hws).trans HI.out.2))
                  clear hb5
                  go_wp2_with fail
                  go_roundw
                  case rel => exact ⟨k + 1, by omega, by go_num, by rw [HR.out, HC.out.2, Bool.true_and]; exact rfl, HB.out.1, HB.out.2⟩
                  case measure => simp [intOf]; omega
                | false =>
                  go_wp2_with fail
                  refine HC.out.1.mono ?_
                  rintro e w5 ⟨rfl, hb5⟩
                  have HB := Lib.hid (below_next HI.out.1 hb5)
                  clear hb5
                  go_wp2_with fail
                  go_ret
                  rw [HR.out, HC.out.2]
                  exact ⟨rfl, HB.out⟩
              · have hres : allN okN t = true := by rw [HR.out, List.drop_eq_nil_of_le (by omega)]; rfl
                have HRS := Lib.hid hres
                clear hres
                go_wp2_with fail
                go_ret
                rw [HRS.out]
                exact ⟨rfl, HI.out.1⟩
          · have hl3 : (8 : Int) < (t.l.length : Int) := by omega
            have hres : allN okN t = false := by
              rw [allN_t, show okN t = false from by simp [okN, hk2]; omega, Bool.false_and]
            have HRS := Lib.hid hres
            clear hres hk hk2
            go_wp2_with fail
            go_ret
            rw [HRS.out]
            exact ⟨rfl, H.out.1 _⟩
        · have hb3 : (t.k != 2) = true := by simp [hk2]
          have hres : allN okN t = false := by
            rw [allN_t, show okN t = false from by simp [okN, hk, hk2], Bool.false_and]
          have HRS := Lib.hid hres
          clear hres hk hk2
          go_wp2_with fail
          go_ret
          rw [HRS.out]
          exact ⟨rfl, H.out.1 _⟩
end Go.Proofs.Ytapdfdjknehhgaa

/- The reference's Is and All. -/
namespace Go.Proofs.Ytapdfdjknehhgaa
open Go.RowKit Go.Tr

def cntS (left : Int) (_ : Tm) (d : Int) : Int × Bool := (left - 1, decide (0 ≤ left - 1) && decide (d ≤ 200))
theorem cntS_counts : Counts 200 cntS (fun _ => true) := fun s t d => by simp [cntS]
theorem cnt_ok {t : Tm} {d left m : Int} (h0 : 0 ≤ left) (h : wk cntS t d left = (m, true)) : 0 ≤ m ∧ m ≤ left := by
  have h1 := wk_counts cntS_counts t d left h0
  rw [h] at h1
  have h2 := h1.1.1 rfl
  have h3 := h1.2 rfl
  have h4 := sz_pos t
  simp only at h3
  omega
set_option maxRecDepth 100000 in
set_option maxHeartbeats 400000 in
theorem counted_n (N : Nat) : ∀ (t : Tm), sz t ≤ N → ∀ (v : Value) (d left : Int) (w : World), 0 ≤ left → left ≤ 2000 → 1 ≤ d → d ≤ 201 → TrV w (· < w.heap.size) t v →
    Calls Try.prog 53 #[v, .int .i64 left, .int .i64 d] w fun e w' => e = .returned (.tuple #[.int .i64 (wk cntS t d left).1, .bool (wk cntS t d left).2]) ∧ Below w.heap.size w w' := by
  induction N with
  | zero => intro t ht; have := sz_pos t; omega
  | succ N ih =>
    intro t ht v d left w hl0 hl1 hd0 hd1 hv
    have IH := Lib.hid ih
    clear ih
    obtain ⟨sl, rfl, hk1, hk2, hsl⟩ := trV_iff.1 hv
    obtain ⟨oa, cap, b, o, rfl, hlc, hcm, hoa, hel⟩ := trS_at hsl
    have HEL := Lib.hid (And.intro hoa hel)
    have H := Lib.hid (And.intro (fun o => bA (bZ w) o) hv)
    clear hoa hel hv hsl hk1 hk2
    have hw := wk_t cntS t d left
    go_enter Try.func53, Try.ntmps53
    by_cases hz : left = 0
    · have hres : wk cntS t d left = (left - 1, false) := by
        rw [hw, show (cntS left t d).2 = false from by simp [cntS]; omega]; rfl
      rw [hres]
      clear hres hw
      subst hz
      go_wp2_with fail
      go_ret2
      exact ⟨rfl, H.out.1 _⟩
    · by_cases hd : 200 < d
      · have hres : wk cntS t d left = (left - 1, false) := by
          rw [hw, show (cntS left t d).2 = false from by simp [cntS]; omega]; rfl
        rw [hres]
        clear hres hw
        have hz2 : (0 : Int) ≤ left - 1 := by omega
        go_wp2_with fail
        go_ret2
        exact ⟨rfl, H.out.1 _⟩
      · have hz2 : (0 : Int) ≤ left - 1 := by omega
        have hd2 : d ≤ 200 := by omega
        have HA : Hid (wk cntS t d left = wkL cntS (t.l.drop 0) (d + 1) (left - 1)) := Lib.hid (by
          rw [hw, show (cntS left t d).2 = true from by simp [cntS]; omega]; rfl)
        clear hw
        go_wp2_with fail
        go_loopw [1, 8] (fun m i wr => ∃ (k : Nat) (z : Int), k ≤ t.l.length ∧ m = .int .i64 z ∧ i = .int .i64 k ∧ 0 ≤ z ∧ z ≤ 2000 ∧ Hid (wk cntS t d left = wkL cntS (t.l.drop k) (d + 1) z) ∧ Hid (Below w.heap.size w wr ∧ wr.heap[w.heap.size]? = some (.cells #[.int .i64 t.k, .int .i64 t.n, .slice oa t.l.length cap] 24))) (fun _ i _ => t.l.length - (intOf i).toNat)
        case atStart => exact ⟨0, _, by omega, rfl, rfl, by omega, by omega, HA, H.out.1 _, heap_alloc_new w _⟩
        case round =>
          obtain ⟨k, z, hk, rfl, rfl, hz0, hz1, HR, HI⟩ := hrel
          have c2 := (cells_of HI.out.2 2).1
          simp only [List.getElem?_toArray, List.getElem?_cons_zero, List.getElem?_cons_succ] at c2
          have hws := block_lt HI.out.2
          by_cases hlt : k < t.l.length
          · obtain ⟨rfl, hQb⟩ := HEL.out.1 (by omega)
            obtain ⟨oa2, cap2, e0, e1, e2, e3⟩ := HEL.out.2 k hlt
            have hbl := HI.out.1.block b hQb
            have d0 := (World.cell?_of_block (w := w) (a := ⟨b, o + k * 3, none⟩) hbl).trans e0
            have d1 := (World.cell?_of_block (w := w) (a := ⟨b, o + k * 3 + 1, none⟩) hbl).trans e1
            have d2 := (World.cell?_of_block (w := w) (a := ⟨b, o + k * 3 + 2, none⟩) hbl).trans e2
            have hcall := IH.out t.l[k] (by have := sz_l t; have := sz_mem (List.getElem_mem hlt); omega) _ (d + 1) z wr hz0 hz1 (by omega) (by omega) (trV_up HI.out.1 e3)
            have hdr : wkL cntS (t.l.drop k) (d + 1) z = if (wk cntS t.l[k] (d + 1) z).2 then wkL cntS (t.l.drop (k + 1)) (d + 1) (wk cntS t.l[k] (d + 1) z).1 else ((wk cntS t.l[k] (d + 1) z).1, false) := by rw [List.drop_eq_getElem_cons hlt]; rfl
            have i0 : (0 : Int) ≤ (k : Int) := Int.natCast_nonneg _
            have i1 : (k : Int) < (t.l.length : Int) := by omega
            rcases hq : wk cntS t.l[k] (d + 1) z with ⟨z2, q⟩
            rw [hq] at hcall hdr
            simp only at hcall hdr
            have hz2' : q = true → 0 ≤ z2 ∧ z2 ≤ z := fun h => cnt_ok hz0 (by rw [hq, h])
            have HC := Lib.hid (And.intro hcall hdr)
            clear hcall hdr hq e0 e1 e2 e3 hbl
            cases q with
            | true =>
              obtain ⟨hy0, hy1⟩ := hz2' rfl
              clear hz2'
              go_wp2_with fail
              refine HC.out.1.mono ?_
              rintro e w5 ⟨rfl, hb5⟩
              have HB := Lib.hid (And.intro (below_next HI.out.1 hb5) ((hb5.block _ hws).trans HI.out.2))
              clear hb5
              go_wp2_with fail
              go_roundw
              case rel => exact ⟨k + 1, z2, by omega, rfl, by go_num, by omega, by omega, by rw [HR.out, HC.out.2]; exact Lib.hid (if_pos trivial), HB.out.1, HB.out.2⟩
              case measure => simp [intOf]; omega
            | false =>
              clear hz2'
              go_wp2_with fail
              refine HC.out.1.mono ?_
              rintro e w5 ⟨rfl, hb5⟩
              have HB := Lib.hid (below_next HI.out.1 hb5)
              clear hb5
              go_wp2_with fail
              go_ret2
              rw [HR.out, HC.out.2]
              exact ⟨rfl, HB.out⟩
          · have hres : wk cntS t d left = (z, true) := by rw [HR.out, List.drop_eq_nil_of_le (by omega)]; rfl
            have HRS := Lib.hid hres
            clear hres
            go_wp2_with fail
            go_ret2
            rw [HRS.out]
            exact ⟨rfl, HI.out.1⟩
set_option maxRecDepth 100000 in
theorem RIs_any (t : Tm) (v : Value) (w : World) (hv : TrV w (· < w.heap.size) t v) :
    Calls Try.prog 26 #[v] w fun e w' => e = .returned (.bool (good t)) ∧ Below w.heap.size w w' := by
  have hgood : good t = ((wk cntS t 1 2000).2 && allN okN t) := by
    have h := (wk_counts cntS_counts t 1 2000 (by omega)).1
    unfold good
    congr 1
    rw [Bool.eq_iff_iff, h]
    simp [allN_true]
    omega
  have h1 := counted_n (sz t) t (Nat.le_refl _) v 1 2000
  obtain ⟨sl, rfl, hk1, hk2, hsl⟩ := trV_iff.1 hv
  obtain ⟨oa, cap, b, o, rfl, -, -, -, -⟩ := trS_at hsl
  have hgr : ∀ o1, Below w.heap.size w (w.alloc o1) := fun o1 => bA (bZ w) o1
  have hcall := fun o1 => h1 (w.alloc o1) (by omega) (by omega) (by omega) (by omega) (trV_up (hgr o1) hv)
  rcases hq : wk cntS t 1 2000 with ⟨z, q⟩
  rw [hq] at hgood hcall
  simp only at hgood hcall
  have HC := Lib.hid hcall
  have HG := Lib.hid hgr
  have HV := Lib.hid hv
  clear hgr hcall hv hsl hq h1 hk1 hk2
  rw [hgood]
  clear hgood
  go_enter Try.func26, Try.ntmps26
  go_wp2_with fail
  refine (HC.out _).mono ?_
  rintro e w5 ⟨rfl, hb5⟩
  have c := cells_of ((hb5.block _ (by simp only [alloc_size]; omega)).trans (heap_alloc_new w _))
  have c0 := (c 0).1
  have c1 := (c 1).1
  have c2 := (c 2).1
  simp only [List.getElem?_toArray, List.getElem?_cons_zero, List.getElem?_cons_succ] at c0 c1 c2
  have HB5 := Lib.hid (below_next (HG.out _) hb5)
  clear hb5 c
  cases q with
  | true =>
    go_wp2_with fail
    refine (rnodes_n (sz t) t (Nat.le_refl _) _ _ (trV_up HB5.out HV.out)).mono ?_
    rintro e w6 ⟨rfl, hb6⟩
    have HB6 := Lib.hid (below_next HB5.out hb6)
    clear hb6
    go_wp2_with fail
    go_ret
    exact ⟨by simp, HB6.out⟩
  | false =>
    go_wp2_with fail
    go_ret
    exact ⟨rfl, HB5.out⟩
set_option maxRecDepth 100000 in
theorem RAll_any (l : List Tm) (s : Value) (w : World) (h : TrS w (· < w.heap.size) l s) :
    Calls Try.prog 27 #[s] w fun e w' => e = .returned (.bool (l.all good)) ∧ Below w.heap.size w w' := by
  obtain ⟨oa, cap, b, o, rfl, hlc, hcm, hoa, hel⟩ := trS_at h
  have HEL := Lib.hid (And.intro hoa hel)
  clear h hoa hel
  go_enter Try.func27, Try.ntmps27
  go_wp2_with fail
  go_loopw [3] (fun i wr => ∃ k : Nat, k ≤ l.length ∧ i = .int .i64 k ∧ Hid (l.all good = (l.drop k).all good) ∧ Hid (Below w.heap.size w wr)) (fun i _ => l.length - (intOf i).toNat)
  case atStart => exact ⟨0, by omega, rfl, rfl, bZ w⟩
  case round =>
    obtain ⟨k, hk, rfl, HR, HI⟩ := hrel
    by_cases hlt : k < l.length
    · obtain ⟨rfl, hQb⟩ := HEL.out.1 (by omega)
      obtain ⟨oa2, cap2, e0, e1, e2, e3⟩ := HEL.out.2 k hlt
      have hbl := HI.out.block b hQb
      have d0 := (World.cell?_of_block (w := w) (a := ⟨b, o + k * 3, none⟩) hbl).trans e0
      have d1 := (World.cell?_of_block (w := w) (a := ⟨b, o + k * 3 + 1, none⟩) hbl).trans e1
      have d2 := (World.cell?_of_block (w := w) (a := ⟨b, o + k * 3 + 2, none⟩) hbl).trans e2
      have hcall := RIs_any l[k] _ wr (trV_up HI.out e3)
      have hdr : (l.drop k).all good = (good l[k] && (l.drop (k + 1)).all good) := by rw [List.drop_eq_getElem_cons hlt]; rfl
      have i0 : (0 : Int) ≤ (k : Int) := Int.natCast_nonneg _
      have i1 : (k : Int) < (l.length : Int) := by omega
      obtain ⟨q, hq⟩ : ∃ q, q = good l[k] := ⟨_, rfl⟩
      rw [← hq] at hcall hdr
      have HC := Lib.hid (And.intro hcall hdr)
      clear hcall hdr hq e0 e1 e2 e3 hbl
      cases q with
      | true =>
        go_wp2_with fail
        refine HC.out.1.mono ?_
        rintro e w5 ⟨rfl, hb5⟩
        have HB := Lib.hid (below_next HI.out hb5)
        clear hb5
        go_wp2_with fail
        go_roundw
        case rel => exact ⟨k + 1, by omega, by go_num, by rw [HR.out, HC.out.2, Bool.true_and]; exact rfl, HB.out⟩
        case measure => simp [intOf]; omega
      | false =>
        go_wp2_with fail
        refine HC.out.1.mono ?_
        rintro e w5 ⟨rfl, hb5⟩
        have HB := Lib.hid (below_next HI.out hb5)
        clear hb5
        go_wp2_with fail
        go_ret
        rw [HR.out, HC.out.2]
        exact ⟨rfl, HB.out⟩
    · have hres : l.all good = true := by rw [HR.out, List.drop_eq_nil_of_le (by omega)]; rfl
      have HRS := Lib.hid hres
      clear hres
      go_wp2_with fail
      go_ret
      rw [HRS.out]
      exact ⟨rfl, HI.out⟩
end Go.Proofs.Ytapdfdjknehhgaa
