/- Size of both, depth, Vars and Ground. -/
import Derived.Test.YtapdfdjknehhgaaSub
import Derived.Test.YtapdfdjknehhgaaRVars
import Derived.Test.YtapdfdjknehhgaaSn
import Derived.Deep.CutRange
import Derived.Deep.RegionHeld3
import Derived.Deep.QuietTactic
import Derived.BigQuiet
namespace Go.Tr
/-- Size's step: nodes, the deepest, and how many are left. -/
def sizS (s : Int × Int × Int) (_ : Tm) (d : Int) : (Int × Int × Int) × Bool := ((s.1 + 1, max s.2.1 d, s.2.2 - 1), decide (0 ≤ s.2.2 - 1) && decide (d ≤ 200))
theorem wkL_siz : ∀ (l : List Tm), (∀ x ∈ l, ∀ (d n m left : Int), 0 ≤ left → d - 1 ≤ m → (wk sizS x d (n, m, left)).2 = (wk fitS x d left).2 ∧ ((wk fitS x d left).2 = true → (wk sizS x d (n, m, left)).1 = (n + sz x, max m (d + dp x - 1), left - sz x))) →
    ∀ (d n m left : Int), 0 ≤ left → d - 1 ≤ m → (wkL sizS l d (n, m, left)).2 = (wkL fitS l d left).2 ∧ ((wkL fitS l d left).2 = true → (wkL sizS l d (n, m, left)).1 = (n + szL l, max m (d + dpL l - 1), left - szL l))
  | [], _, d, n, m, left, _, hm => by
    simp only [wkL, szL, dpL, true_and, forall_const, Prod.mk.injEq]
    omega
  | a :: r, h, d, n, m, left, h0, hm => by
    obtain ⟨h1, h2⟩ := h a (by simp) d n m left h0 hm
    simp only [wkL, h1]
    cases hq : (wk fitS a d left).2 with
    | false => simp
    | true =>
      simp only [if_true]
      have h3 := h2 hq
      have h4 := (wk_fitS a d left h0)
      have h5 := h4.2 hq
      have h6 := h4.1.1 hq
      rw [h3, h5]
      obtain ⟨h7, h8⟩ := wkL_siz r (fun x hx => h x (by simp [hx])) d (n + sz a) (max m (d + dp a - 1)) (left - sz a) (by omega) (by omega)
      refine ⟨h7, fun hh => ?_⟩
      rw [h8 hh]
      simp only [szL, dpL, Prod.mk.injEq]
      omega
theorem wk_siz (t : Tm) : ∀ (d n m left : Int), 0 ≤ left → d - 1 ≤ m → (wk sizS t d (n, m, left)).2 = (wk fitS t d left).2 ∧ ((wk fitS t d left).2 = true → (wk sizS t d (n, m, left)).1 = (n + sz t, max m (d + dp t - 1), left - sz t)) := by
  induction t using Tm.ind with
  | h k q l ih =>
    intro d n m left h0 hm
    simp only [wk]
    have e1 : (sizS (n, m, left) (.node k q l) d).2 = (fitS left (.node k q l) d).2 := rfl
    rw [e1]
    cases hq : (fitS left (.node k q l) d).2 with
    | false => simp
    | true =>
      simp only [if_true]
      have hq' : (decide (0 ≤ left - 1) && decide (d ≤ 200)) = true := hq
      simp only [Bool.and_eq_true, decide_eq_true_eq] at hq'
      obtain ⟨h1, h2⟩ := wkL_siz l ih (d + 1) (n + 1) (max m d) (left - 1) (by omega) (by omega)
      refine ⟨h1, fun hh => ?_⟩
      have h3 := h2 hh
      show (wkL sizS l (d + 1) (n + 1, max m d, left - 1)).1 = _
      rw [h3]
      simp only [sz, dp, Prod.mk.injEq]
      omega
/-- What Size returns. -/
def sizE (t : Tm) : Int × Int := if fit t then (sz t, dp t) else (2001, 201)
theorem siz_fit (t : Tm) : (wk sizS t 1 (0, 0, 2000)).2 = fit t ∧ (fit t = true → (wk sizS t 1 (0, 0, 2000)).1 = ((sz t : Int), (dp t : Int), 2000 - (sz t : Int))) := by
  obtain ⟨h1, h2⟩ := wk_siz t 1 0 0 2000 (by omega) (by omega)
  have h3 := wk_fitS t 1 2000 (by omega)
  have hf : (wk fitS t 1 2000).2 = fit t := by
    rw [Bool.eq_iff_iff, h3.1]
    simp only [fit, Bool.and_eq_true, decide_eq_true_eq]
    omega
  refine ⟨by rw [h1, hf], fun h => ?_⟩
  rw [h2 (by rw [hf]; exact h)]
  have := dp_pos t
  have e1 : (0 : Int) + sz t = sz t := by omega
  have e2 : max (0 : Int) (1 + dp t - 1) = dp t := by omega
  rw [e1, e2]
end Go.Tr
namespace Go.Proofs.Ytapdfdjknehhgaa
open Go.RowKit Go.Tr

/-- What the closure of Size has in memory. -/
structure SizeI (cn cd cl pf : Nat) (s : Int × Int × Int) (w : World) (Q : Nat → Prop) : Prop where
  hn : w.heap[cn]? = some (.cells #[.int .i64 s.1] 3)
  hd : w.heap[cd]? = some (.cells #[.int .i64 s.2.1] 3)
  hl : w.heap[cl]? = some (.cells #[.int .i64 s.2.2] 3)
  hf : w.heap[pf]? = some (.cells #[.func (.func 90) #[] #[.pointer (some ⟨cl, 0, none⟩)]] 77)
  ne : cn ≠ cd ∧ cn ≠ cl ∧ cd ≠ cl ∧ pf ≠ cn ∧ pf ≠ cd ∧ pf ≠ cl
  nq : ¬ Q cn ∧ ¬ Q cd ∧ ¬ Q cl
  lt : ∀ b, Q b → b < w.heap.size
theorem sizeI_grow {cn cd cl pf : Nat} {s : Int × Int × Int} {w w' : World} {Q Q' : Nat → Prop} (h : SizeI cn cd cl pf s w Q) (hb : Below w.heap.size w w') (hq : ∀ b, Q' b → Q b ∨ (w.heap.size ≤ b ∧ b < w'.heap.size)) : SizeI cn cd cl pf s w' Q' := by
  have l1 := block_lt h.hn
  have l2 := block_lt h.hd
  have l3 := block_lt h.hl
  have nq : ∀ c, c < w.heap.size → ¬ Q c → ¬ Q' c := fun c hc hn hq' => by
    rcases hq c hq' with h1 | h1
    · exact hn h1
    · omega
  refine ⟨(hb.block cn l1).trans h.hn, (hb.block cd l2).trans h.hd, (hb.block cl l3).trans h.hl, (hb.block pf (block_lt h.hf)).trans h.hf, h.ne, ⟨nq _ l1 h.nq.1, nq _ l2 h.nq.2.1, nq _ l3 h.nq.2.2⟩, fun b hb' => ?_⟩
  rcases hq b hb' with h1 | h1
  · have := h.lt b h1; have := hb.size; omega
  · exact h1.2
theorem sizeI_n {cn cd cl pf : Nat} {s : Int × Int × Int} {w : World} {Q : Nat → Prop} (h : SizeI cn cd cl pf s w Q) (u : Int) : SizeI cn cd cl pf (u, s.2) (w.setCell ⟨cn, 0, none⟩ (.int .i64 u)) Q :=
  ⟨one_setCell h.hn, (Below.heap_setCell _ _ _ _ h.ne.1.symm).trans h.hd, (Below.heap_setCell _ _ _ _ h.ne.2.1.symm).trans h.hl, (Below.heap_setCell _ _ _ _ h.ne.2.2.2.1).trans h.hf, h.ne, h.nq, fun b hb => by simpa [World.setCell] using h.lt b hb⟩
theorem sizeI_d {cn cd cl pf : Nat} {s : Int × Int × Int} {w : World} {Q : Nat → Prop} (h : SizeI cn cd cl pf s w Q) (u : Int) : SizeI cn cd cl pf (s.1, u, s.2.2) (w.setCell ⟨cd, 0, none⟩ (.int .i64 u)) Q :=
  ⟨(Below.heap_setCell _ _ _ _ h.ne.1).trans h.hn, one_setCell h.hd, (Below.heap_setCell _ _ _ _ h.ne.2.2.1.symm).trans h.hl, (Below.heap_setCell _ _ _ _ h.ne.2.2.2.2.1).trans h.hf, h.ne, h.nq, fun b hb => by simpa [World.setCell] using h.lt b hb⟩
theorem sizeI_l {cn cd cl pf : Nat} {s : Int × Int × Int} {w : World} {Q : Nat → Prop} (h : SizeI cn cd cl pf s w Q) (u : Int) : SizeI cn cd cl pf (s.1, s.2.1, u) (w.setCell ⟨cl, 0, none⟩ (.int .i64 u)) Q :=
  ⟨(Below.heap_setCell _ _ _ _ h.ne.2.1).trans h.hn, (Below.heap_setCell _ _ _ _ h.ne.2.2.1).trans h.hd, one_setCell h.hl, (Below.heap_setCell _ _ _ _ h.ne.2.2.2.2.2).trans h.hf, h.ne, h.nq, fun b hb => by simpa [World.setCell] using h.lt b hb⟩
def okZ (s : Int × Int × Int) (_ : Nat) : Prop := okL s.2.2 ∧ 0 ≤ s.1 ∧ s.1 + s.2.2 ≤ 9000 ∧ -9000000000000000000 ≤ s.2.1 ∧ s.2.1 ≤ 9000000000000000000
set_option maxRecDepth 100000 in
set_option maxHeartbeats 1000000 in
theorem size1_sees {cn cd cl pf : Nat} : Sees 52 #[.pointer (some ⟨cn, 0, none⟩), .pointer (some ⟨cd, 0, none⟩), .pointer (some ⟨pf, 0, none⟩)] sizS okZ (SizeI cn cd cl pf) (fun _ => true) := by
  refine ⟨fun s t d m hs hf => ?_, fun _ _ => by go_simp, fun s w Q h => h.lt, fun s w w' Q Q' h hb hq => sizeI_grow h hb hq, fun s w Q t d v m _ hok _ h hv => ?_⟩
  · simp only [sizS, Bool.and_eq_true, decide_eq_true_eq] at hf
    unfold okZ okL at *
    simp only [sizS]
    omega
  obtain ⟨n, dd, lft⟩ := s
  obtain ⟨sl, rfl, hk1, hk2, hsl⟩ := trV_iff.1 hv
  obtain ⟨oa, cap, b, o, rfl, hlc, hcm, -, -⟩ := trS_at hsl
  have h1 := sizeI_grow (Q' := Q) h (below_alloc w (.cells #[.int .i64 t.k, .int .i64 t.n, .slice oa t.l.length cap] 24)) (fun b hb => .inl hb)
  have hk := kp_alloc h.lt (.cells #[.int .i64 t.k, .int .i64 t.n, .slice oa t.l.length cap] 24)
  have h2 := sizeI_n h1 (n + 1)
  have h3 := sizeI_d h2 (max dd d)
  have h4 := sizeI_l h3 (lft - 1)
  have hk2' := ((hk.trans (kp_set h.nq.1 0 (.int .i64 (n + 1)))).trans (kp_set h.nq.2.1 0 (.int .i64 (max dd d)))).trans (kp_set h.nq.2.2 0 (.int .i64 (lft - 1)))
  have a0 := cell_of_one h1.hn
  have f0 := free_of_one h1.hn
  have a1 := cell_of_one h2.hd
  have f1 := free_of_one h2.hd
  have a2 := cell_of_one h3.hf
  have ef := enter_fits
  have hok' : okL lft ∧ 0 ≤ n ∧ n + lft ≤ 9000 ∧ -9000000000000000000 ≤ dd ∧ dd ≤ 9000000000000000000 := hok
  have hfit := fits_any cl lft d _ h3.hl (by unfold okL at hok'; omega) (by unfold okL at hok'; omega)
  have HF := Lib.hid hfit
  have HH := Lib.hid (And.intro h4 hk2')
  have n0 : 0 ≤ n := hok'.2.1
  have n1 : n ≤ 9000 := by unfold okL at hok'; omega
  clear hv hsl h h1 hk hk1 hk2 hok hok' hfit h2 h3 h4 hk2'
  simp only [sizS]
  go_enter Try.func52, Try.ntmps52
  go_wp2_with fail
  refine HF.out.mono ?_
  rintro e w2 ⟨rfl, rfl⟩
  go_wp2_with fail
  go_ret
  exact ⟨ret_bool (by rw [show decide (1 ≤ lft) = decide (0 ≤ lft - 1) from decide_eq_decide.2 (by omega)]), HH.out.1, HH.out.2⟩
set_option maxRecDepth 100000 in
set_option maxHeartbeats 1000000 in
theorem Size_any (t : Tm) (v : Value) (w : World) (hv : TrV w (· < w.heap.size) t v) :
    Calls Try.prog 15 #[v] w fun e w' => e = .returned (.tuple #[.int .i64 (sizE t).1, .int .i64 (sizE t).2]) ∧ Below w.heap.size w w' := by
  obtain ⟨sl, rfl, hk1, hk2, hsl⟩ := trV_iff.1 hv
  obtain ⟨oa, cap, b, o, rfl, hlc, hcm, -, -⟩ := trS_at hsl
  clear hk1 hk2 hsl
  have HV := Lib.hid hv
  clear hv
  obtain ⟨z, hz⟩ : ∃ z, sizE t = z := ⟨_, rfl⟩
  rw [hz]
  have HZ := Lib.hid hz
  clear hz
  go_enter Try.func15, Try.ntmps15
  go_wp2_with (go_at_call 50; refine (limits_any _).mono ?_; rintro e w1 ⟨rfl, rfl⟩)
  generalize hW : ((((w.alloc _).alloc _).alloc _).alloc _).alloc _ = w5
  have hb5 : Below w.heap.size w w5 := by rw [← hW]; exact bA (bA (bA (bA (bA (bZ w) _) _) _) _) _
  have hI : SizeI (w.heap.size + 1) (w.heap.size + 1 + 1) (w.heap.size + 1 + 1 + 1) (w.heap.size + 1 + 1 + 1 + 1) (0, 0, 2000) w5 (· < w.heap.size) := by
    rw [← hW]
    refine ⟨by (simp only [heap_alloc, alloc_size]; repeat (first | rw [if_pos trivial] | rw [if_pos (by omega)] | rw [if_neg (by omega)])), by (simp only [heap_alloc, alloc_size]; repeat (first | rw [if_pos trivial] | rw [if_pos (by omega)] | rw [if_neg (by omega)])), by (simp only [heap_alloc, alloc_size]; repeat (first | rw [if_pos trivial] | rw [if_pos (by omega)] | rw [if_neg (by omega)])), by (simp only [heap_alloc, alloc_size]; repeat (first | rw [if_pos trivial] | rw [if_pos (by omega)] | rw [if_neg (by omega)])), by omega, by omega, fun b hb => by simp only [alloc_size]; omega⟩
  clear hW
  generalize w.heap.size + 1 + 1 + 1 + 1 = pf at hI ⊢
  generalize w.heap.size + 1 + 1 + 1 = cl at hI ⊢
  generalize w.heap.size + 1 + 1 = cd at hI ⊢
  generalize w.heap.size + 1 = cn at hI ⊢
  have hcall := walk_any (Lib.hid (size1_sees (cn := cn) (cd := cd) (cl := cl) (pf := pf))) (sz t) t (Nat.le_refl _) _ 1 (0, 0, 2000) w5 (· < w.heap.size) 0 (trV_below hb5 HV.out) (by unfold okZ okL; simp) (allN_true t) hI (by omega) (.inl (fun s t d h => by simp only [sizS, Bool.and_eq_true, decide_eq_true_eq] at h; omega))
  have hsf := siz_fit t
  rw [hsf.1] at hcall
  have HC := Lib.hid hcall
  have HB := Lib.hid (And.intro hb5 hsf.2)
  clear hcall hI hb5 hsf
  obtain ⟨q, hq⟩ : ∃ q, fit t = q := ⟨_, rfl⟩
  have hz1 : z = if q then ((sz t : Int), (dp t : Int)) else (2001, 201) := by rw [← HZ.out]; unfold sizE; rw [hq]
  have HZ1 := Lib.hid hz1
  clear hz1
  refine HC.out.mono ?_
  rintro e w6 ⟨rfl, hI6, hk6⟩
  rw [hq]
  have hc6 := HB.out.1.trans hk6.below
  cases q
  · have HD := Lib.hid hc6
    clear hI6 hk6 hc6 hq
    go_wp2_with fail
    go_ret2
    rw [show z = (2001, 201) from HZ1.out]
    exact ⟨rfl, HD.out⟩
  · rw [HB.out.2 hq] at hI6
    have a0 := cell_of_one hI6.hn
    have a1 := cell_of_one hI6.hd
    have HD := Lib.hid hc6
    clear hI6 hk6 hc6 hq
    go_upto_region 5 with fail
    go_region_held3 (fun W => W.cell? ⟨cn, 0, none⟩ = some (.int .i64 (sz t)) ∧ W.cell? ⟨cd, 0, none⟩ = some (.int .i64 (dp t))) (exact ⟨a0, a1⟩) (fail)
    all_goals
      go_wp2_with fail
      go_ret2
      rw [show z = ((sz t : Int), (dp t : Int)) from HZ1.out]
      exact ⟨rfl, bD HD.out⟩
theorem dpL_take (l : List Tm) (j : Nat) (h : j < l.length) : dpL (l.take (j + 1)) = max (dpL (l.take j)) (dp l[j]) := by
  induction l generalizing j with
  | nil => simp at h
  | cons a r ih =>
    cases j with
    | zero => simp [dpL]
    | succ j =>
      have h' : j < r.length := by simpa using h
      simp only [List.take_succ_cons, dpL, List.getElem_cons_succ, ih j h']
      omega
set_option maxRecDepth 100000 in
set_option maxHeartbeats 1000000 in
theorem depth_n (N : Nat) : ∀ t, sz t ≤ N → dp t ≤ 1000000000 → ∀ v w, TrV w (· < w.heap.size) t v →
    Calls Try.prog 54 #[v] w fun e w' => e = .returned (.int .i64 (dp t)) ∧ Below w.heap.size w w' := by
  induction N with
  | zero => intro t h; have := sz_pos t; omega
  | succ N ih =>
    intro t hN hd v w hv
    obtain ⟨sl, rfl, -, -, hsl⟩ := trV_iff.1 hv
    obtain ⟨oa, cap, b, o, rfl, hlc, hcm, hoa, hel⟩ := trS_at hsl
    have HEL := Lib.hid (And.intro hoa hel)
    have IH := Lib.hid ih
    have HZ := Lib.hid (And.intro hN (And.intro (sz_l t) (And.intro (dp_l t) hd)))
    have hdl : (dpL t.l : Int) ≤ 1000000000 := by have := dp_l t; omega
    have hbox := heap_alloc_new w (.cells #[.int .i64 t.k, .int .i64 t.n, .slice oa t.l.length cap] 24)
    have HB := Lib.hid hbox
    clear hv hsl hoa hel ih hN hd hbox
    go_enter Try.func54, Try.ntmps54
    go_wp2_with fail
    go_loopw [3, 4] (fun nv i wr => ∃ j : Nat, j ≤ t.l.length ∧ nv = .int .i64 (dpL (t.l.take j)) ∧ i = .int .i64 j ∧ Hid (Below w.heap.size w wr ∧ wr.heap[w.heap.size]? = some (.cells #[.int .i64 t.k, .int .i64 t.n, .slice oa t.l.length cap] 24))) (fun _ i _ => t.l.length - (intOf i).toNat)
    case atStart => exact ⟨0, by omega, rfl, rfl, bA (bZ w) _, HB.out⟩
    case round =>
      obtain ⟨j, hj, rfl, rfl, HR⟩ := hrel
      have c2 := (cells_of HR.out.2 2).1
      simp only [List.getElem?_toArray, List.getElem?_cons_zero, List.getElem?_cons_succ] at c2
      by_cases hlt : j < t.l.length
      · obtain ⟨rfl, hQb⟩ := HEL.out.1 (by omega)
        obtain ⟨oa2, cap2, e0, e1, e2, e3⟩ := HEL.out.2 j hlt
        have hbl := HR.out.1.block b hQb
        have d0 := (World.cell?_of_block (w := w) (a := ⟨b, o + j * 3, none⟩) hbl).trans e0
        have d1 := (World.cell?_of_block (w := w) (a := ⟨b, o + j * 3 + 1, none⟩) hbl).trans e1
        have d2 := (World.cell?_of_block (w := w) (a := ⟨b, o + j * 3 + 2, none⟩) hbl).trans e2
        have hdm := dp_mem (List.getElem_mem hlt)
        have hcall := IH.out t.l[j] (by have h1 := HZ.out.1; have h2 := HZ.out.2.1; have := sz_mem (List.getElem_mem hlt); omega) (by omega) _ wr (trV_up HR.out.1 e3)
        have htk := dpL_take t.l j hlt
        have HC := Lib.hid (And.intro hcall htk)
        clear e0 e1 e2 e3 hbl hcall htk
        have i0 : (0 : Int) ≤ (j : Int) := Int.natCast_nonneg _
        have i1 : (j : Int) < (t.l.length : Int) := by omega
        go_wp2_with fail
        refine HC.out.1.mono ?_
        rintro e w5 ⟨rfl, hb5⟩
        have HF := Lib.hid (And.intro (below_next HR.out.1 hb5) ((hb5.block _ (block_lt HR.out.2)).trans HR.out.2))
        clear hb5
        go_wp2_with fail
        go_roundw
        case rel => exact ⟨j + 1, by omega, by rw [HC.out.2]; congr 1; omega, by go_num, HF.out⟩
        case measure => simp [intOf]; omega
      · have hres : dpL (t.l.take j) = dpL t.l := by rw [List.take_of_length_le (by omega)]
        have hdp : (dp t : Int) = (dpL t.l : Int) + 1 := by have := HZ.out.2.2.1; omega
        rw [hres]
        have HS := Lib.hid hdp
        clear hres hdp
        have p0 : (0 : Int) ≤ (dpL t.l : Int) := Int.natCast_nonneg _
        go_wp2_with fail
        go_ret
        rw [HS.out]
        exact ⟨rfl, HR.out.1⟩
set_option maxRecDepth 100000 in
theorem RSize_any (t : Tm) (v : Value) (w : World) (hv : TrV w (· < w.heap.size) t v) :
    Calls Try.prog 16 #[v] w fun e w' => e = .returned (.tuple #[.int .i64 (sizE t).1, .int .i64 (sizE t).2]) ∧ Below w.heap.size w w' := by
  have hcn := wk_counts cntS_counts t 1 2000 (by omega)
  have hq : (wk cntS t 1 2000).2 = fit t := by
    rw [Bool.eq_iff_iff, hcn.1]
    simp only [fit, Bool.and_eq_true, decide_eq_true_eq, allN_true, and_true]
    omega
  have hl : fit t = true → (wk cntS t 1 2000).1 = 2000 - (sz t : Int) := fun h => hcn.2 (by rw [hq]; exact h)
  have h1 := counted_n (sz t) t (Nat.le_refl _) v 1 2000
  obtain ⟨sl, rfl, hk1, hk2, hsl⟩ := trV_iff.1 hv
  obtain ⟨oa, cap, b, o, rfl, -, -, -, -⟩ := trS_at hsl
  have hcall := h1 (w.alloc (.cells #[.int .i64 t.k, .int .i64 t.n, .slice oa t.l.length cap] 24)) (by omega) (by omega) (by omega) (by omega) (trV_up (bA (bZ w) _) hv)
  rw [hq] at hcall
  obtain ⟨z, hz⟩ : ∃ z, sizE t = z := ⟨_, rfl⟩
  rw [hz]
  obtain ⟨q, hfq⟩ : ∃ q, fit t = q := ⟨_, rfl⟩
  rw [hfq] at hcall hl
  have hz1 : z = if q then ((sz t : Int), (dp t : Int)) else (2001, 201) := by rw [← hz]; unfold sizE; rw [hfq]
  have hdp : q = true → dp t ≤ 200 ∧ sz t ≤ 2000 := by
    rw [← hfq]
    intro h
    simp only [fit, Bool.and_eq_true, decide_eq_true_eq] at h
    omega
  have HZ := Lib.hid (And.intro hz1 (And.intro hl (And.intro hdp hv)))
  have HC := Lib.hid hcall
  clear hk1 hk2 hsl h1 hcn hq hl hcall hz hfq hz1 hdp hv
  go_enter Try.func16, Try.ntmps16
  go_wp2_with fail
  refine HC.out.mono ?_
  rintro e w2 ⟨rfl, hb2⟩
  have c := cells_of ((hb2.block _ (by simp only [alloc_size]; omega)).trans (heap_alloc_new w _))
  have c0 := (c 0).1
  have c1 := (c 1).1
  have c2 := (c 2).1
  simp only [List.getElem?_toArray, List.getElem?_cons_zero, List.getElem?_cons_succ] at c0 c1 c2
  have HB2 := Lib.hid (below_next (bA (bZ w) _) hb2)
  clear hb2 c
  cases q
  · go_wp2_with fail
    go_ret2
    rw [show z = (2001, 201) from HZ.out.1]
    exact ⟨rfl, HB2.out⟩
  · rw [HZ.out.2.1 rfl]
    have hs1 : (sz t : Int) ≤ 2000 := by have := (HZ.out.2.2.1 (by simp)).2; omega
    have hs0 : (0 : Int) ≤ (sz t : Int) := Int.natCast_nonneg _
    go_wp2_with fail
    refine (depth_n (sz t) t (Nat.le_refl _) (by have := (HZ.out.2.2.1 (by simp)).1; omega) _ _ (trV_up HB2.out HZ.out.2.2.2)).mono ?_
    rintro e w3 ⟨rfl, hb3⟩
    have HB3 := Lib.hid (below_next HB2.out hb3)
    clear hb3
    go_wp2_with fail
    go_ret2
    rw [show z = ((sz t : Int), (dp t : Int)) from HZ.out.1]
    exact ⟨by first | rfl | (rw [Int.sub_sub_self]; rfl) | (simp only [Int.sub_sub_self]; rfl), HB3.out⟩
theorem Vars_any (l : List Tm) (s : Value) (w : World) (hs : TrS w (· < w.heap.size) l s) (hsz : szL l ≤ 1000000000) :
    Calls Try.prog 22 #[s] w fun e w' => ∃ v, e = .returned v ∧ IntS w' (· < w'.heap.size) (varsG l) v ∧ Below w.heap.size w w' := by
  have hA := areTrees_any l s w hs
  obtain ⟨oa, cap, b, o, rfl, -⟩ := trS_at hs
  obtain ⟨q, hq⟩ : ∃ q, l.all good = q := ⟨_, rfl⟩
  have hv : varsG l = if q then vars l else [] := by unfold varsG; rw [hq]
  rw [hq] at hA
  have HA := Lib.hid (And.intro hA (And.intro hs (And.intro hsz hq)))
  clear hA hs hsz hq
  rw [hv]
  clear hv
  cases q
  · go_enter Try.func22, Try.ntmps22
    go_wp2_with fail
    refine HA.out.1.mono ?_
    rintro e w2 ⟨rfl, hb2⟩
    have HB := Lib.hid hb2
    clear hb2
    rw [show errT false = 4 from rfl]
    go_wp2_with fail
    go_ret
    exact ⟨_, rfl, ⟨none, 0, 0, 0, rfl, Nat.le_refl _, by decide, fun h => absurd h (by simp), fun i h => absurd h (by simp)⟩, HB.out⟩
  · go_enter Try.func22, Try.ntmps22
    go_wp2_with fail
    refine HA.out.1.mono ?_
    rintro e w2 ⟨rfl, hb2⟩
    have HB := Lib.hid hb2
    clear hb2
    rw [show errT true = 0 from rfl]
    go_wp2_with fail
    refine (variables_any l _ _ (trS_up HB.out HA.out.2.1) (by have := HA.out.2.2.1; omega) (by have := good_dpL HA.out.2.2.2; omega)).mono ?_
    rintro e w3 ⟨v, rfl, h1, h2⟩
    have HD := Lib.hid (And.intro (intS_new h1) (below_next HB.out h2))
    clear h1 h2
    go_wp2_with fail
    go_ret
    exact ⟨v, rfl, HD.out.1, HD.out.2⟩
/-- A tree without variables. -/
def grd (t : Tm) : Bool := good t && allN (fun t => t.k == 2) t
theorem Ground_any (t : Tm) (v : Value) (w : World) (hv : TrV w (· < w.heap.size) t v) :
    Calls Try.prog 24 #[v] w fun e w' => e = .returned (.bool (grd t)) ∧ Below w.heap.size w w' := by
  obtain ⟨sl, rfl, hk1, hk2, hsl⟩ := trV_iff.1 hv
  obtain ⟨oa, cap, b, o, rfl, hlc, hcm, -, -⟩ := trS_at hsl
  have ht := isTree_any ground1_asks t _ (w.alloc (.cells #[.int .i64 t.k, .int .i64 t.n, .slice oa t.l.length cap] 24)) (trV_up (bA (bZ w) _) hv)
  rw [isT_eq] at ht
  have HT := Lib.hid (show Calls _ _ _ _ (fun e w' => e = .returned (.bool (grd t)) ∧ Below _ _ w') from ht)
  clear hk1 hk2 hsl ht hv
  go_enter Try.func24, Try.ntmps24
  go_wp2_with fail
  refine HT.out.mono ?_
  rintro e w2 ⟨rfl, hb2⟩
  have H2 := Lib.hid (below_next (bA (bZ w) _) hb2)
  clear hb2
  go_wp2_with fail
  go_ret
  exact ⟨rfl, H2.out⟩
end Go.Proofs.Ytapdfdjknehhgaa
