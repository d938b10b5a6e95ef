/- Substitutions one behind the other, plainly: no program. -/
import Derived.Test.YtapdfdjknehhgaaTx
namespace Go.Tr

theorem repT_comp (f g : Int → Tm) (t : Tm) : repT g (repT f t) = repT (fun n => repT g (f n)) t := by
  induction t using Tm.ind with
  | h k n l ih =>
    by_cases hk : k = 1
    · rw [repT_var f _ (show (Tm.node k n l).k = 1 from hk), repT_var _ _ (show (Tm.node k n l).k = 1 from hk)]
    · rw [repT_op f _ (show (Tm.node k n l).k ≠ 1 from hk), repT_op _ (Tm.node k n l) (show (Tm.node k n l).k ≠ 1 from hk)]
      show repT g (Tm.node k n (l.map (repT f))) = _
      rw [repT_op _ _ (show (Tm.node k n (l.map (repT f))).k ≠ 1 from hk)]
      show Tm.node k n ((l.map (repT f)).map (repT g)) = Tm.node k n (l.map _)
      rw [List.map_map]
      congr 1
      exact List.map_congr_left fun x hx => ih x hx
theorem substT_comp (l m : List Tm) (t : Tm) : substT m (substT l t) = substT (l.map (substT m)) t := by
  unfold substT
  rw [repT_comp]
  congr 1
  funext n
  rw [List.getD_eq_getElem?_getD, List.getD_eq_getElem?_getD, List.getElem?_map]
  cases l[n.toNat]? with
  | none => rfl
  | some y => rfl
theorem inRange_get {l : List Tm} {n : Int} (h : inRange l.length n = true) : l.getD n.toNat default ∈ l := by
  simp only [inRange, Bool.and_eq_true, decide_eq_true_eq] at h
  have hn : n.toNat < l.length := by omega
  rw [List.getD_eq_getElem?_getD, List.getElem?_eq_getElem hn]
  exact List.getElem_mem hn
theorem okN_len {k n : Int} {a b : List Tm} (h1 : a.length = b.length) (h2 : a.isEmpty = b.isEmpty) : okN (.node k n a) = okN (.node k n b) := by
  show ((k == 1) && decide (0 ≤ n) && a.isEmpty || (k == 2) && decide (0 ≤ n) && decide (a.length ≤ 8)) = ((k == 1) && decide (0 ≤ n) && b.isEmpty || (k == 2) && decide (0 ≤ n) && decide (b.length ≤ 8))
  rw [h1, h2]
theorem substT_ok {l : List Tm} (hl : ∀ y ∈ l, allN okN y = true) (t : Tm) : allN okN t = true → allN (fun x => x.k != 1 || inRange l.length x.n) t = true → allN okN (substT l t) = true := by
  induction t using Tm.ind with
  | h k n c ih =>
    intro h1 h2
    rw [allN_t] at h1 h2
    simp only [Bool.and_eq_true, allNL_iff] at h1 h2
    obtain ⟨a1, a2⟩ := h1
    obtain ⟨b1, b2⟩ := h2
    by_cases hk : k = 1
    · unfold substT
      rw [repT_var _ _ (show (Tm.node k n c).k = 1 from hk)]
      refine hl _ (inRange_get ?_)
      simpa [Tm.k, Tm.n, hk] using b1
    · unfold substT
      rw [repT_op _ _ (show (Tm.node k n c).k ≠ 1 from hk), allN_t]
      simp only [Bool.and_eq_true, allNL_iff]
      refine ⟨?_, fun x hx => ?_⟩
      · rw [← a1]
        show okN (Tm.node k n (c.map _)) = okN (Tm.node k n c)
        exact okN_len (List.length_map _) (List.isEmpty_map)
      · obtain ⟨y, hy, rfl⟩ := List.mem_map.1 hx
        exact ih y hy (a2 y hy) (b2 y hy)
theorem substT_occ {l : List Tm} {v : Int} (t : Tm) : allN (fun x => x.k != 1 || inRange l.length x.n) t = true → occ v (substT l t) = true → ∃ y ∈ l, occ v y = true := by
  induction t using Tm.ind with
  | h k n c ih =>
    intro h2 ho
    rw [allN_t] at h2
    simp only [Bool.and_eq_true, allNL_iff] at h2
    obtain ⟨b1, b2⟩ := h2
    by_cases hk : k = 1
    · unfold substT at ho
      rw [repT_var _ _ (show (Tm.node k n c).k = 1 from hk)] at ho
      exact ⟨_, inRange_get (by simpa [Tm.k, Tm.n, hk] using b1), ho⟩
    · unfold substT at ho
      rw [repT_op _ _ (show (Tm.node k n c).k ≠ 1 from hk)] at ho
      have ho' : ((k == 1 && n == v) || occL v (c.map (repT fun n => l.getD n.toNat default))) = true := ho
      have hk' : (k == 1) = false := by simpa using hk
      rw [hk', Bool.false_and, Bool.false_or, occL_iff] at ho'
      obtain ⟨x, hx, hox⟩ := ho'
      obtain ⟨y, hy, rfl⟩ := List.mem_map.1 hx
      exact ih y hy (b2 y hy) hox
theorem substE_zero {t : Tm} {l : List Tm} : substE t l = 0 ↔ good t = true ∧ l.all good = true ∧ most (vars [t]) < l.length ∧ fit (substT l t) = true := by
  unfold substE
  cases h1 : good t <;> cases h2 : l.all good <;> simp only [Bool.and_true, Bool.and_false, Bool.false_eq_true, if_false, if_true, false_and, and_false, true_and, iff_false] <;> try omega
  split
  · constructor
    · omega
    · rintro ⟨h, -⟩; omega
  · rename_i h
    cases h3 : fit (substT l t)
    · simp
    · simp; omega
theorem good_fit (t : Tm) : good t = true ↔ fit t = true ∧ allN okN t = true := by
  unfold good fit
  simp only [Bool.and_eq_true]
/-- Where every element of l takes m in, what comes to t is the same both ways, and so is whether it fits. -/
theorem behind_same {t : Tm} {l m : List Tm} (h1 : substE t l = 0) (hm : m.all good = true) (hall : ∀ y ∈ l, substE y m = 0) :
    substE (substT l t) m = substE t (l.map (substT m)) ∧ substT m (substT l t) = substT (l.map (substT m)) t := by
  refine ⟨?_, substT_comp l m t⟩
  obtain ⟨g1, g2, g3, g4⟩ := substE_zero.1 h1
  have hin := range_of g1 g3
  have hokl : ∀ y ∈ l, allN okN y = true := fun y hy => ((good_fit y).1 (List.all_eq_true.1 g2 y hy)).2
  have hokm : ∀ y ∈ m, allN okN y = true := fun y hy => ((good_fit y).1 (List.all_eq_true.1 hm y hy)).2
  have hgx : good (substT l t) = true := (good_fit _).2 ⟨g4, substT_ok hokl t ((good_fit t).1 g1).2 hin⟩
  have hmx : most (vars [substT l t]) < m.length := by
    rcases most_in (vars [substT l t]) with h | h
    · rw [h]; omega
    · rw [vars_one] at h
      obtain ⟨y, hy, ho⟩ := substT_occ t hin h
      have h3 := (substE_zero.1 (hall y hy)).2.2.1
      have h4 := most_mem ((vars_one y _).2 ho)
      omega
  have hgb : (l.map (substT m)).all good = true := List.all_eq_true.2 fun z hz => by
    obtain ⟨y, hy, rfl⟩ := List.mem_map.1 hz
    obtain ⟨a1, a2, a3, a4⟩ := substE_zero.1 (hall y hy)
    exact (good_fit _).2 ⟨a4, substT_ok hokm y (hokl y hy) (range_of a1 a3)⟩
  unfold substE
  rw [hgx, hm, g1, hgb, substT_comp]
  simp only [Bool.and_self, if_true, List.length_map]
  rw [if_neg (show ¬ ((m.length : Int) ≤ most (vars [substT l t])) by omega), if_neg (show ¬ ((l.length : Int) ≤ most (vars [t])) by omega)]
end Go.Tr
