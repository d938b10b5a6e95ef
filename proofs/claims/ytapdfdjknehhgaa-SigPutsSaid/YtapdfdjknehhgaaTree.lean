/- What is a tree. -/
import Derived.Test.YtapdfdjknehhgaaWlk
import Derived.OneCell
import Derived.Laws.EntriesVeiled
import Derived.IntWalk
namespace Go.Proofs.Ytapdfdjknehhgaa
open Go.RowKit Go.Tr

theorem kp_set {Q : Nat → Prop} {w : World} {c : Nat} (hc : ¬ Q c) (o : Nat) (u : Value) : Kp Q w (w.setCell ⟨c, o, none⟩ u) :=
  ⟨rfl, rfl, rfl, by simp [World.setCell], fun k hk => Below.heap_setCell _ _ _ _ (fun e => hc (by have e' : k = c := e; rw [← e']; exact hk))⟩
theorem kp_alloc {Q : Nat → Prop} {w : World} (hq : ∀ b, Q b → b < w.heap.size) (o : Obj) : Kp Q w (w.alloc o) := below_kp ((Below.refl _ w).alloc (Nat.le_refl _) o) hq
theorem below_alloc (w : World) (o : Obj) : Below w.heap.size w (w.alloc o) := (Below.refl _ w).alloc (Nat.le_refl _) o
theorem below_next {w w1 w2 : World} (h : Below w.heap.size w w1) (k : Below w1.heap.size w1 w2) : Below w.heap.size w w2 := below_le h k h.size
theorem alloc_size (w : World) (o : Obj) : (w.alloc o).heap.size = w.heap.size + 1 := by simp
theorem block_lt {w : World} {b : Nat} {o : Obj} (h : w.heap[b]? = some o) : b < w.heap.size := by
  rcases Nat.lt_or_ge b w.heap.size with h' | h'
  · exact h'
  · rw [Array.getElem?_eq_none h'] at h; cases h

theorem fits_any (c : Nat) (n d : Int) (w : World) (hc : w.heap[c]? = some (.cells #[.int .i64 n] 3)) (h0 : -1000 ≤ n) (h1 : n ≤ 9000) :
    Calls Try.prog 90 #[.int .i64 d, .pointer (some ⟨c, 0, none⟩)] w fun e w' => e = .returned (.bool (decide (0 ≤ n - 1) && decide (d ≤ 200))) ∧ w' = w.setCell ⟨c, 0, none⟩ (.int .i64 (n - 1)) := by
  have c0 := cell_of_one hc
  have f0 := free_of_one hc
  have hs := one_setCell (u := .int .i64 (n - 1)) hc
  have c1 := cell_of_one hs
  clear hs
  by_cases hn : 0 ≤ n - 1
  · have hb : decide (0 ≤ n - 1) = true := by simpa using hn
    rw [hb]
    have hn' : 1 ≤ n := by omega
    clear hb
    go_enter Try.func90, Try.ntmps90
    go_wp2
    go_ret
    exact ⟨rfl, rfl⟩
  · have hb : decide (0 ≤ n - 1) = false := by simpa using hn
    rw [hb]
    have hn' : ¬ 1 ≤ n := by omega
    clear hb
    go_enter Try.func90, Try.ntmps90
    go_wp2
    go_ret
    exact ⟨rfl, rfl⟩

theorem enter_fits (args : Array Value) (w : World) : (callFunc 90 args).run Try.prog w = .ok (.enter 90 args) w := by go_simp
theorem isNode_any (t : Tm) (v : Value) (P : Nat → Prop) (w : World) (hv : TrV w P t v) :
    Calls Try.prog 94 #[v] w fun e w' => e = .returned (.bool (okN t)) ∧ Below w.heap.size w w' := by
  obtain ⟨sl, rfl, -, -, hsl⟩ := trV_iff.1 hv
  obtain ⟨oa, cap, b, o, rfl, hlc, hcm, -, -⟩ := trS_at hsl
  have e : okN t = ((t.k == 1 && decide (0 ≤ t.n) && decide (t.l.length = 0)) || (t.k == 2 && decide (0 ≤ t.n) && decide (t.l.length ≤ 8))) := by
    unfold okN; congr 2; rw [Bool.eq_iff_iff]; simp
  rw [e]
  clear hv hsl e
  generalize t.k = k
  generalize t.n = n
  generalize t.l.length = m at *
  go_enter Try.func94, Try.ntmps94
  go_wp2
  all_goals go_ret
  all_goals refine ⟨ret_bool ?_, below_alloc w _⟩
  all_goals simp only [beq_iff_eq, beq_eq_false_iff_ne, ne_eq] at *
  all_goals rw [Bool.eq_iff_iff]
  all_goals simp only [Bool.or_eq_true, Bool.and_eq_true, beq_iff_eq, decide_eq_true_eq, Bool.false_eq_true, false_iff]
  all_goals omega

/-- A function that is asked of each node. -/
structure Asks (G : Nat) (p : Tm → Bool) : Prop where
  enters : ∀ (args : Array Value) (w : World), (callFunc G args).run Try.prog w = .ok (.enter G args) w
  gives : ∀ (w : World) (t : Tm) (v : Value) (P : Nat → Prop), TrV w P t v → Calls Try.prog G #[v] w fun e w' => e = .returned (.bool (p t)) ∧ Below w.heap.size w w'

/-- What the closure of isTree has in memory. -/
structure TreeI (G c pf pa : Nat) (left : Int) (w : World) (Q : Nat → Prop) : Prop where
  hc : w.heap[c]? = some (.cells #[.int .i64 left] 3)
  hf : w.heap[pf]? = some (.cells #[.func (.func 90) #[] #[.pointer (some ⟨c, 0, none⟩)]] 77)
  ha : w.heap[pa]? = some (.cells #[.func (.func G) #[] #[]] 34)
  nf : pf ≠ c
  na : pa ≠ c
  nq : ¬ Q c
  lt : ∀ b, Q b → b < w.heap.size
theorem treeI_grow {G c pf pa : Nat} {left : Int} {w w' : World} {Q Q' : Nat → Prop} (h : TreeI G c pf pa left w Q) (hb : Below w.heap.size w w') (hq : ∀ b, Q' b → Q b ∨ (w.heap.size ≤ b ∧ b < w'.heap.size)) : TreeI G c pf pa left w' Q' := by
  have l1 := block_lt h.hc
  refine ⟨(hb.block c l1).trans h.hc, (hb.block pf (block_lt h.hf)).trans h.hf, (hb.block pa (block_lt h.ha)).trans h.ha, h.nf, h.na, fun hc => ?_, fun b hb' => ?_⟩
  · rcases hq c hc with h1 | h1
    · exact h.nq h1
    · omega
  · rcases hq b hb' with h1 | h1
    · have := h.lt b h1; have := hb.size; omega
    · exact h1.2
theorem treeI_set {G c pf pa : Nat} {left : Int} {w : World} {Q : Nat → Prop} (h : TreeI G c pf pa left w Q) (u : Int) : TreeI G c pf pa u (w.setCell ⟨c, 0, none⟩ (.int .i64 u)) Q :=
  ⟨one_setCell h.hc, (Below.heap_setCell _ _ _ _ h.nf).trans h.hf, (Below.heap_setCell _ _ _ _ h.na).trans h.ha, h.nf, h.na, h.nq, fun b hb => by simpa [World.setCell] using h.lt b hb⟩

def okL (n : Int) : Prop := 0 ≤ n ∧ n ≤ 9000
set_option maxRecDepth 100000 in
theorem isTree1_sees {G c pf pa : Nat} {p : Tm → Bool} (A : Asks G p) :
    Sees 93 #[.pointer (some ⟨pf, 0, none⟩), .pointer (some ⟨pa, 0, none⟩)] (askS p) (fun s _ => okL s) (TreeI G c pf pa) (fun _ => true) := by
  refine ⟨fun s t d m hs hf => ?_, fun _ _ => by go_simp, fun s w Q h => h.lt, fun s w w' Q Q' h hb hq => treeI_grow h hb hq, fun s w Q t d v m _ hok _ h hv => ?_⟩
  · simp only [askS, Bool.and_eq_true, decide_eq_true_eq] at hf
    unfold okL at *
    simp only [askS]
    omega
  · have hgr := below_alloc w (.cells #[.int .i64 t.k, .int .i64 t.n, .slice none 0 0] 24)
    obtain ⟨sl, rfl, hk1, hk2, hsl⟩ := trV_iff.1 hv
    obtain ⟨oa, cap, b, o, rfl, hlc, hcm, -, -⟩ := trS_at hsl
    clear hgr
    have h1 := treeI_grow (Q' := Q) h (below_alloc w (.cells #[.int .i64 t.k, .int .i64 t.n, .slice oa t.l.length cap] 24)) (fun b hb => .inl hb)
    have hk := kp_alloc h.lt (.cells #[.int .i64 t.k, .int .i64 t.n, .slice oa t.l.length cap] 24)
    have hnew := heap_alloc_new w (.cells #[.int .i64 t.k, .int .i64 t.n, .slice oa t.l.length cap] 24)
    have hcs : c ≠ w.heap.size := by have := block_lt h.hc; omega
    have hfit := fits_any c s d (w.alloc (.cells #[.int .i64 t.k, .int .i64 t.n, .slice oa t.l.length cap] 24)) h1.hc (by unfold okL at hok; omega) (by unfold okL at hok; omega)
    have h2 := treeI_set h1 (s - 1)
    have hk2' := hk.trans (kp_set h.nq 0 (.int .i64 (s - 1)))
    have hv2 := trV_kp hk2' hv
    have hnew2 := (Below.heap_setCell _ ⟨c, 0, none⟩ (.int .i64 (s - 1)) _ hcs.symm).trans hnew
    have cf := cell_of_one h1.hf
    have hnode := isNode_any t _ Q _ hv2
    have eA := A.enters
    have HH := Lib.hid (And.intro h2 (And.intro hk2' (And.intro hv2 hnew2)))
    have HF := Lib.hid hfit
    have HN := Lib.hid hnode
    clear h1 hk hnew hfit h2 hk2' hv2 hnew2 hnode hsl hk1 hk2 hv
    simp only [askS]
    cases hd : (decide (0 ≤ s - 1) && decide (d ≤ 200)) with
    | false =>
      have HD := Lib.hid hd
      clear hd
      go_enter Try.func93, Try.ntmps93
      go_wp2_with fail
      refine HF.out.mono ?_
      rintro e w2 ⟨rfl, rfl⟩
      rw [HD.out]
      go_wp2_with fail
      go_ret
      exact ⟨rfl, HH.out.1, HH.out.2.1⟩
    | true =>
      have HD := Lib.hid hd
      clear hd
      have d0 := (cells_of HH.out.2.2.2 0).1
      have d1 := (cells_of HH.out.2.2.2 1).1
      have d2 := (cells_of HH.out.2.2.2 2).1
      go_enter Try.func93, Try.ntmps93
      go_wp2_with fail
      refine HF.out.mono ?_
      rintro e w2 ⟨rfl, rfl⟩
      rw [HD.out]
      go_wp2_with fail
      refine HN.out.mono ?_
      rintro e w3 ⟨rfl, hb3⟩
      have hI3 := treeI_grow (Q' := Q) HH.out.1 hb3 (fun b hb => .inl hb)
      have hk3 := HH.out.2.1.trans (below_kp hb3 HH.out.1.lt)
      have hlt3 := block_lt HH.out.2.2.2
      have hn3 := (hb3.block _ hlt3).trans HH.out.2.2.2
      have ca := cell_of_one hI3.ha
      have d3 := (cells_of hn3 0).1
      have d4 := (cells_of hn3 1).1
      have d5 := (cells_of hn3 2).1
      have ht := A.gives w3 t _ Q (trV_kp (below_kp hb3 HH.out.1.lt) HH.out.2.2.1)
      have HT := Lib.hid ht
      have HI := Lib.hid (And.intro hI3 hk3)
      clear hI3 hk3 hlt3 hn3 ht hb3 d0 d1 d2
      cases hn : okN t with
      | false =>
        go_wp2_with fail
        go_ret
        exact ⟨ret_bool (by simp [*]), HI.out.1, HI.out.2⟩
      | true =>
        go_wp2_with fail
        refine HT.out.mono ?_
        rintro e w4 ⟨rfl, hb4⟩
        have hI4 := treeI_grow (Q' := Q) HI.out.1 hb4 (fun b hb => .inl hb)
        have hk4 := HI.out.2.trans (below_kp hb4 HI.out.1.lt)
        have HJ := Lib.hid (And.intro hI4 hk4)
        clear hI4 hk4 hb4
        go_wp2_with fail
        go_ret
        exact ⟨ret_bool (by simp [*]), HJ.out.1, HJ.out.2⟩

theorem limits_any (w : World) : Calls Try.prog 50 #[] w fun e w' => e = .returned (.func (.func 90) #[] #[.pointer (some ⟨w.heap.size, 0, none⟩)]) ∧ w' = w.alloc (.cells #[.int .i64 2000] 3) := by
  go_enter Try.func50, Try.ntmps50
  go_wp2
  go_ret
  exact ⟨rfl, rfl⟩
set_option maxRecDepth 100000 in
theorem isTree_any {G : Nat} {p : Tm → Bool} (A : Asks G p) (t : Tm) (v : Value) (w : World) (hv : TrV w (· < w.heap.size) t v) :
    Calls Try.prog 62 #[v, .func (.func G) #[] #[]] w fun e w' => e = .returned (.bool (isT p t)) ∧ Below w.heap.size w w' := by
  obtain ⟨sl, rfl, hk1, hk2, hsl⟩ := trV_iff.1 hv
  obtain ⟨oa, cap, b, o, rfl, hlc, hcm, -, -⟩ := trS_at hsl
  clear hk1 hk2 hsl
  have HV := Lib.hid hv
  have HA := Lib.hid A
  clear hv A
  go_enter Try.func62, Try.ntmps62
  go_wp2_with fail
  refine (limits_any _).mono ?_
  rintro e w1 ⟨rfl, rfl⟩
  go_wp2_with fail
  have hI : ∀ (o1 : Obj), TreeI G (w.heap.size + 1 + 1) (w.heap.size + 1 + 1 + 1) (w.heap.size + 1) 2000 ((((w.alloc o1).alloc (.cells #[.func (.func G) #[] #[]] 34)).alloc (.cells #[.int .i64 2000] 3)).alloc (.cells #[.func (.func 90) #[] #[.pointer (some ⟨w.heap.size + 1 + 1, 0, none⟩)]] 77)) (· < w.heap.size) := fun o1 =>
    ⟨by simp only [heap_alloc, alloc_size]; simp, by simp only [heap_alloc, alloc_size]; simp, by simp only [heap_alloc, alloc_size]; simp, by omega, by omega, by simp only [Nat.not_lt]; omega, fun b hb => by simp only [alloc_size]; omega⟩
  have hb : ∀ (o1 o2 o3 o4 : Obj), Below w.heap.size w ((((w.alloc o1).alloc o2).alloc o3).alloc o4) := fun o1 o2 o3 o4 => below_next (below_next (below_next (below_alloc _ _) (below_alloc _ _)) (below_alloc _ _)) (below_alloc _ _)
  refine (walk_any (Lib.hid (isTree1_sees HA.out)) (sz t) t (Nat.le_refl _) _ 1 2000 _ (· < w.heap.size) 0 (trV_below (hb _ _ _ _) HV.out) (by unfold okL; omega) (allN_true t) (hI _) (by omega) (.inl (fun s t d h => by simp only [askS, Bool.and_eq_true, decide_eq_true_eq] at h; omega))).mono ?_
  rintro e w2 ⟨rfl, -, hk⟩
  have hb2 := (hb _ _ _ _).trans hk.below
  have HB := Lib.hid hb2
  clear hI hb hk hb2
  go_wp2_with fail
  go_ret
  exact ⟨rfl, HB.out⟩

theorem tree1_asks : Asks 101 (fun _ => true) := by
  refine ⟨fun _ _ => by go_simp, fun w t v P hv => ?_⟩
  obtain ⟨sl, rfl, hk1, hk2, hsl⟩ := trV_iff.1 hv
  obtain ⟨oa, cap, b, o, rfl, hlc, hcm, -, -⟩ := trS_at hsl
  clear hk1 hk2 hsl hv
  go_enter Try.func101, Try.ntmps101
  go_wp2
  go_ret
  exact ⟨rfl, below_alloc _ _⟩
theorem ground1_asks : Asks 63 (fun t => t.k == 2) := by
  refine ⟨fun _ _ => by go_simp, fun w t v P hv => ?_⟩
  obtain ⟨sl, rfl, hk1, hk2, hsl⟩ := trV_iff.1 hv
  obtain ⟨oa, cap, b, o, rfl, hlc, hcm, -, -⟩ := trS_at hsl
  clear hk1 hk2 hsl hv
  go_enter Try.func63, Try.ntmps63
  go_wp2
  go_ret
  exact ⟨rfl, below_alloc _ _⟩
theorem isT_true (t : Tm) : isT (fun _ => true) t = good t := by
  rw [isT_eq]
  have h : allN (fun _ => true) t = true := by
    induction t using Tm.ind with
    | h k n l ih => simp only [allN, Bool.true_and]; rw [allNL_iff]; exact ih
  rw [h, Bool.and_true]
/-- What Tree returns. -/
def errT (b : Bool) : Int := if b then 0 else 4
theorem Tree_any (t : Tm) (v : Value) (w : World) (hv : TrV w (· < w.heap.size) t v) :
    Calls Try.prog 69 #[v] w fun e w' => e = .returned (.int .i64 (errT (good t))) ∧ Below w.heap.size w w' := by
  obtain ⟨sl, rfl, hk1, hk2, hsl⟩ := trV_iff.1 hv
  obtain ⟨oa, cap, b, o, rfl, hlc, hcm, -, -⟩ := trS_at hsl
  clear hk1 hk2 hsl
  have hb := below_alloc w (.cells #[.int .i64 t.k, .int .i64 t.n, .slice oa t.l.length cap] 24)
  have ht := isTree_any tree1_asks t _ _ (trV_mono (fun b (h : b < w.heap.size) => Nat.lt_of_lt_of_le h hb.size) (fun b h => hb.block b h) t hv)
  have HT := Lib.hid ht
  have HB := Lib.hid hb
  clear ht hb hv
  rw [← isT_true]
  cases hg : isT (fun _ => true) t with
  | false =>
    go_enter Try.func69, Try.ntmps69
    go_wp2_with fail
    refine HT.out.mono ?_
    rintro e w2 ⟨rfl, hb2⟩
    rw [hg]
    have H2 := Lib.hid (below_next HB.out hb2)
    clear hb2
    go_wp2_with fail
    go_ret
    exact ⟨rfl, H2.out⟩
  | true =>
    go_enter Try.func69, Try.ntmps69
    go_wp2_with fail
    refine HT.out.mono ?_
    rintro e w2 ⟨rfl, hb2⟩
    rw [hg]
    have H2 := Lib.hid (below_next HB.out hb2)
    clear hb2
    go_wp2_with fail
    go_ret
    exact ⟨rfl, H2.out⟩
theorem bZ (w : World) : Below w.heap.size w w := Below.refl _ w
theorem bA {a w : World} (h : Below a.heap.size a w) (o : Obj) : Below a.heap.size a (w.alloc o) := h.alloc h.size o
theorem heap_alloc_new_d (w : World) (o : Obj) : (w.alloc o).drew.heap[w.heap.size]? = some o := heap_alloc_new w o
theorem bD {a w : World} (h : Below a.heap.size a w) : Below a.heap.size a w.drew := h.drew
theorem trV_up {w w' : World} (hb : Below w.heap.size w w') {t : Tm} {v : Value} (h : TrV w (· < w.heap.size) t v) : TrV w' (· < w'.heap.size) t v :=
  trV_mono (fun b (h : b < w.heap.size) => Nat.lt_of_lt_of_le h hb.size) (fun b h => hb.block b h) t h
theorem trS_up {w w' : World} (hb : Below w.heap.size w w') {l : List Tm} {s : Value} (h : TrS w (· < w.heap.size) l s) : TrS w' (· < w'.heap.size) l s :=
  trS_mono (fun b (h : b < w.heap.size) => Nat.lt_of_lt_of_le h hb.size) (fun b h => hb.block b h) h

end Go.Proofs.Ytapdfdjknehhgaa
