/- Renamings of variables and shifts, plainly: no program. -/
import Derived.Test.YtapdfdjknehhgaaBehP
namespace Go.Tr

theorem leaf_of {n : Int} {c : List Tm} (h : okN (.node 1 n c) = true) : 0 ≤ n ∧ c = [] := by
  simp only [okN, Tm.k, Tm.n, Tm.l] at h
  have e1 : ((1 : Int) == 1) = true := rfl
  have e2 : ((1 : Int) == 2) = false := rfl
  rw [e1, e2] at h
  simp only [Bool.true_and, Bool.false_and, Bool.or_false, Bool.and_eq_true, List.isEmpty_iff] at h
  exact ⟨of_decide_eq_true h.1, h.2⟩
theorem kids_ok {k n : Int} {c : List Tm} (h : allN okN (.node k n c) = true) : okN (.node k n c) = true ∧ ∀ x ∈ c, allN okN x = true := by
  rw [allN_t] at h
  simp only [Bool.and_eq_true, allNL_iff] at h
  exact h
def ren (h : Int → Int) (t : Tm) : Tm := repT (fun n => var (h n)) t
theorem ren_var (h : Int → Int) (n : Int) (c : List Tm) : ren h (.node 1 n c) = .node 1 (h n) [] := repT_var _ _ rfl
theorem ren_op (h : Int → Int) {k : Int} (hk : k ≠ 1) (n : Int) (c : List Tm) : ren h (.node k n c) = .node k n (c.map (ren h)) := repT_op _ _ hk
theorem ren_ren (g h : Int → Int) (t : Tm) : ren g (ren h t) = ren (fun n => g (h n)) t := by
  unfold ren
  rw [repT_comp]
  rfl
theorem occ_kid {k n v : Int} {c : List Tm} {x : Tm} (hx : x ∈ c) (h : occ v x = true) : occ v (.node k n c) = true := by
  show ((k == 1 && n == v) || occL v c) = true
  rw [(occL_iff v c).2 ⟨x, hx, h⟩, Bool.or_true]
theorem occ_var (n v : Int) (c : List Tm) : occ v (.node 1 n c) = ((n == v) || occL v c) := rfl
theorem occ_op {k : Int} (hk : k ≠ 1) (n v : Int) (c : List Tm) : occ v (.node k n c) = occL v c := by
  show ((k == 1 && n == v) || occL v c) = _
  rw [show (k == 1) = false from by simpa using hk, Bool.false_and, Bool.false_or]
theorem ren_congr {g h : Int → Int} (t : Tm) : allN okN t = true → (∀ v, occ v t = true → g v = h v) → ren g t = ren h t := by
  induction t using Tm.ind with
  | h k n c ih =>
    intro h1 h2
    obtain ⟨a1, a2⟩ := kids_ok h1
    by_cases hk : k = 1
    · subst hk
      rw [ren_var, ren_var, h2 n (by rw [occ_var]; simp)]
    · rw [ren_op _ hk, ren_op _ hk]
      congr 1
      exact List.map_congr_left fun x hx => ih x hx (a2 x hx) fun v hv => h2 v (occ_kid hx hv)
theorem ren_id (t : Tm) : allN okN t = true → ren (fun n => n) t = t := by
  induction t using Tm.ind with
  | h k n c ih =>
    intro h1
    obtain ⟨a1, a2⟩ := kids_ok h1
    by_cases hk : k = 1
    · subst hk
      rw [ren_var, (leaf_of a1).2]
    · rw [ren_op _ hk]
      congr 1
      exact (List.map_congr_left fun x hx => ih x hx (a2 x hx)).trans (List.map_id c)
theorem occ_ren {h : Int → Int} {v : Int} (t : Tm) : allN okN t = true → occ v (ren h t) = true → ∃ u, occ u t = true ∧ v = h u := by
  induction t using Tm.ind with
  | h k n c ih =>
    intro h1 h2
    obtain ⟨a1, a2⟩ := kids_ok h1
    by_cases hk : k = 1
    · subst hk
      rw [ren_var, occ_var] at h2
      have h3 : (h n == v) = true := by simpa [occL] using h2
      exact ⟨n, by rw [occ_var]; simp, (eq_of_beq h3).symm⟩
    · rw [ren_op _ hk, occ_op hk, occL_iff] at h2
      obtain ⟨y, hy, ho⟩ := h2
      obtain ⟨x, hx, rfl⟩ := List.mem_map.1 hy
      obtain ⟨u, h3, h4⟩ := ih x hx (a2 x hx) ho
      exact ⟨u, occ_kid hx h3, h4⟩
theorem ren_occ {h : Int → Int} {u : Int} (t : Tm) : allN okN t = true → occ u t = true → occ (h u) (ren h t) = true := by
  induction t using Tm.ind with
  | h k n c ih =>
    intro h1 h2
    obtain ⟨a1, a2⟩ := kids_ok h1
    by_cases hk : k = 1
    · subst hk
      rw [occ_var, (leaf_of a1).2] at h2
      have e : n = u := by simpa [occL] using h2
      rw [ren_var, occ_var, e]
      simp
    · rw [occ_op hk, occL_iff] at h2
      obtain ⟨x, hx, ho⟩ := h2
      rw [ren_op _ hk]
      exact occ_kid (List.mem_map.2 ⟨x, hx, rfl⟩) (ih x hx (a2 x hx) ho)
theorem szL_ren {h : Int → Int} : ∀ (l : List Tm), (∀ x ∈ l, sz (ren h x) = sz x ∧ dp (ren h x) = dp x) → szL (l.map (ren h)) = szL l ∧ dpL (l.map (ren h)) = dpL l
  | [], _ => ⟨rfl, rfl⟩
  | a :: r, hh => by
    obtain ⟨i1, i2⟩ := szL_ren r fun x hx => hh x (List.mem_cons_of_mem _ hx)
    obtain ⟨j1, j2⟩ := hh a (List.mem_cons_self)
    simp only [List.map_cons, szL, dpL, i1, i2, j1, j2, and_self]
theorem sz_ren {h : Int → Int} (t : Tm) : allN okN t = true → sz (ren h t) = sz t ∧ dp (ren h t) = dp t := by
  induction t using Tm.ind with
  | h k n c ih =>
    intro h1
    obtain ⟨a1, a2⟩ := kids_ok h1
    by_cases hk : k = 1
    · subst hk
      rw [ren_var, (leaf_of a1).2]
      exact ⟨rfl, rfl⟩
    · rw [ren_op _ hk]
      obtain ⟨i1, i2⟩ := szL_ren c fun x hx => ih x hx (a2 x hx)
      simp only [sz, dp, i1, i2, and_self]
theorem ren_ok {h : Int → Int} (t : Tm) : allN okN t = true → (∀ v, occ v t = true → 0 ≤ h v) → allN okN (ren h t) = true := by
  induction t using Tm.ind with
  | h k n c ih =>
    intro h1 h2
    obtain ⟨a1, a2⟩ := kids_ok h1
    by_cases hk : k = 1
    · subst hk
      have h3 := h2 n (by rw [occ_var]; simp)
      rw [ren_var, allN_t]
      show (okN (.node 1 (h n) []) && true) = true
      rw [Bool.and_true]
      show ((1 : Int) == 1 && decide (0 ≤ h n) && true || _) = true
      rw [decide_eq_true h3]; rfl
    · rw [ren_op _ hk, allN_t]
      simp only [Bool.and_eq_true, allNL_iff]
      refine ⟨by rw [← a1]; exact okN_len (List.length_map _) (List.isEmpty_map), fun x hx => ?_⟩
      obtain ⟨y, hy, rfl⟩ := List.mem_map.1 hx
      exact ih y hy (a2 y hy) fun v hv => h2 v (occ_kid hy hv)
theorem shiftE_zero {t : Tm} {f b : Int} : shiftE t f b = 0 ↔ good t = true ∧ 0 ≤ f ∧ ∀ v, occ v t = true → v < f ∨ (f ≤ v + b ∧ v + b ≤ 1000000) := by
  have hv : (vars [t]).all (shiftP f b) = true ↔ ∀ v, occ v t = true → v < f ∨ (f ≤ v + b ∧ v + b ≤ 1000000) := by
    rw [List.all_eq_true]
    constructor
    · intro h v ho
      have := h v ((vars_one t v).2 ho)
      simp only [shiftP, Bool.or_eq_true, Bool.and_eq_true, decide_eq_true_eq] at this
      omega
    · intro h v hm
      have := h v ((vars_one t v).1 hm)
      simp only [shiftP, Bool.or_eq_true, Bool.and_eq_true, decide_eq_true_eq]
      omega
  unfold shiftE
  by_cases h1 : good t = true
  · rw [if_pos h1]
    by_cases h2 : f < 0
    · rw [if_pos h2]
      constructor
      · intro h; omega
      · rintro ⟨-, h, -⟩; omega
    · rw [if_neg h2]
      by_cases h3 : (vars [t]).all (shiftP f b) = true
      · rw [if_pos h3]
        exact ⟨fun _ => ⟨h1, by omega, hv.1 h3⟩, fun _ => rfl⟩
      · rw [if_neg h3]
        exact ⟨fun h => absurd h (by decide), fun h => absurd (hv.2 h.2.2) h3⟩
  · rw [if_neg h1]
    exact ⟨fun h => absurd h (by decide), fun h => absurd h.1 h1⟩
theorem shiftT_ren (f b : Int) (t : Tm) : shiftT f b t = ren (shiftN f b) t := rfl
/-- What is shifted is a tree. -/
theorem shift_good {t : Tm} {f b : Int} (h : shiftE t f b = 0) : good (shiftT f b t) = true := by
  obtain ⟨h1, h2, h3⟩ := shiftE_zero.1 h
  obtain ⟨hf, ho⟩ := (good_fit t).1 h1
  obtain ⟨e1, e2⟩ := sz_ren (h := shiftN f b) t ho
  refine (good_fit _).2 ⟨?_, ren_ok t ho fun v hv => ?_⟩
  · simp only [fit, shiftT_ren, e1, e2] at hf ⊢
    exact hf
  · have := h3 v hv
    have h4 := occ_nonneg t ho v hv
    unfold shiftN
    (repeat' split) <;> omega
/-- There and back. -/
theorem shift_back {t : Tm} {f a : Int} (h : shiftE t f a = 0) (ha : 0 ≤ a) : shiftE (shiftT f a t) f (-a) = 0 ∧ shiftT f (-a) (shiftT f a t) = t := by
  obtain ⟨h1, h2, h3⟩ := shiftE_zero.1 h
  have ho := ((good_fit t).1 h1).2
  refine ⟨shiftE_zero.2 ⟨shift_good h, h2, fun v hv => ?_⟩, ?_⟩
  · obtain ⟨u, hu, rfl⟩ := occ_ren t ho hv
    have := h3 u hu
    unfold shiftN
    (repeat' split) <;> omega
  · rw [shiftT_ren, shiftT_ren, ren_ren]
    refine (ren_congr t ho fun v hv => ?_).trans (ren_id t ho)
    have := h3 v hv
    unfold shiftN
    (repeat' split) <;> omega
/-- By two numbers, one after the other. -/
theorem shift_sum {t : Tm} {f a b : Int} (h : shiftE t f a = 0) (h' : shiftE (shiftT f a t) f b = 0) : shiftE t f (a + b) = 0 ∧ shiftT f b (shiftT f a t) = shiftT f (a + b) t := by
  obtain ⟨h1, h2, h3⟩ := shiftE_zero.1 h
  obtain ⟨-, -, h4⟩ := shiftE_zero.1 h'
  have ho := ((good_fit t).1 h1).2
  have h5 : ∀ v, occ v t = true → v < f ∨ (f ≤ v + (a + b) ∧ v + (a + b) ≤ 1000000) := by
    intro v hv
    have q1 := h3 v hv
    have q2 := h4 _ (ren_occ (h := shiftN f a) t ho hv)
    unfold shiftN at q2
    split at q2 <;> omega
  refine ⟨shiftE_zero.2 ⟨h1, h2, h5⟩, ?_⟩
  rw [shiftT_ren, shiftT_ren, shiftT_ren, ren_ren]
  refine ren_congr t ho fun v hv => ?_
  have := h3 v hv
  unfold shiftN
  (repeat' split) <;> omega
end Go.Tr
