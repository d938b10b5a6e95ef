/- Trees whose variables are numbered by their first occurrence, plainly: no program. -/
import Derived.Test.YtapdfdjknehhgaaShP
namespace Go.Tr

theorem repT_congr {g h : Int → Tm} (t : Tm) : allN okN t = true → (∀ v, occ v t = true → g v = h v) → repT g t = repT h t := by
  induction t using Tm.ind with
  | h k n c ih =>
    intro h1 h2
    obtain ⟨a1, a2⟩ := kids_ok h1
    by_cases hk : k = 1
    · subst hk
      rw [repT_var _ _ (show (Tm.node 1 n c).k = 1 from rfl), repT_var _ _ (show (Tm.node 1 n c).k = 1 from rfl)]
      exact h2 n (by rw [occ_var]; simp)
    · rw [repT_op _ _ (show (Tm.node k n c).k ≠ 1 from hk), repT_op _ _ (show (Tm.node k n c).k ≠ 1 from hk)]
      congr 1
      exact List.map_congr_left fun x hx => ih x hx (a2 x hx) fun v hv => h2 v (occ_kid hx hv)
theorem wkL_ren {h : Int → Int} {S : Int → Prop} (hS : ∀ a b, S a → S b → h a = h b → a = b) : ∀ (l : List Tm),
    (∀ x ∈ l, ∀ (d : Int) (vs : List Int), (∀ y ∈ vs, S y) → (wk stepV (ren h x) d (vs.map h)).1 = (wk stepV x d vs).1.map h) → (∀ x ∈ l, ∀ v, occ v x = true → S v) →
    ∀ (d : Int) (vs : List Int), (∀ y ∈ vs, S y) → (wkL stepV (l.map (ren h)) d (vs.map h)).1 = (wkL stepV l d vs).1.map h
  | [], _, _, _, _, _ => rfl
  | a :: r, h1, h2, d, vs, hv => by
    simp only [List.map_cons, wkL, wk_stepV, if_true]
    rw [h1 a (by simp) d vs hv]
    refine wkL_ren hS r (fun x hx => h1 x (by simp [hx])) (fun x hx => h2 x (by simp [hx])) d _ fun y hy => ?_
    rcases (wk_mem a y d vs).1 hy with h3 | h3
    · exact hv y h3
    · exact h2 a (by simp) y h3
theorem wk_ren {h : Int → Int} {S : Int → Prop} (hS : ∀ a b, S a → S b → h a = h b → a = b) (t : Tm) : allN okN t = true → (∀ v, occ v t = true → S v) →
    ∀ (d : Int) (vs : List Int), (∀ y ∈ vs, S y) → (wk stepV (ren h t) d (vs.map h)).1 = (wk stepV t d vs).1.map h := by
  induction t using Tm.ind with
  | h k n c ih =>
    intro h1 h2 d vs hv
    obtain ⟨a1, a2⟩ := kids_ok h1
    by_cases hk : k = 1
    · subst hk
      obtain ⟨-, rfl⟩ := leaf_of a1
      have hn : S n := h2 n (by rw [occ_var]; simp)
      have hc : (vs.map h).contains (h n) = vs.contains n := by
        rw [Bool.eq_iff_iff, List.contains_iff_mem, List.contains_iff_mem]
        constructor
        · intro hm
          obtain ⟨y, hy, e⟩ := List.mem_map.1 hm
          rw [← hS y n (hv y hy) hn e]; exact hy
        · exact fun hm => List.mem_map.2 ⟨n, hm, rfl⟩
      rw [ren_var]
      simp only [wk, stepV, wkL, if_true, Tm.k, Tm.n, hc]
      by_cases hx : n ∈ vs <;> simp [hx]
    · rw [ren_op _ hk]
      have e : (k == 1) = false := by simpa using hk
      simp only [wk, stepV, Tm.k, Tm.n, e, Bool.false_and, Bool.false_eq_true, if_false, if_true]
      exact wkL_ren hS c (fun x hx => ih x hx (a2 x hx) fun v ho => h2 v (occ_kid hx ho)) (fun x hx v ho => h2 v (occ_kid hx ho)) _ vs hv
/-- Renamed variables come in the same order. -/
theorem vars_ren {h : Int → Int} {l : List Tm} (hl : ∀ x ∈ l, allN okN x = true) (hS : ∀ a ∈ vars l, ∀ b ∈ vars l, h a = h b → a = b) : vars (l.map (ren h)) = (vars l).map h := by
  have hS' : ∀ a b, a ∈ vars l → b ∈ vars l → h a = h b → a = b := fun a b ha hb => hS a ha b hb
  have := wkL_ren (S := (· ∈ vars l)) hS' l (fun x hx => wk_ren hS' x (hl x hx) fun v ho => vars_occ hx ho) (fun x hx v ho => vars_occ hx ho) 1 [] (fun y hy => by cases hy)
  exact this
theorem idx_map {h : Int → Int} : ∀ (vs : List Int), (∀ a ∈ vs, ∀ b ∈ vs, h a = h b → a = b) → ∀ n ∈ vs, (vs.map h).idxOf (h n) = vs.idxOf n
  | [], _, n, hn => by cases hn
  | a :: r, hS, n, hn => by
    rw [List.map_cons, List.idxOf_cons, List.idxOf_cons]
    by_cases he : a = n
    · subst he; simp
    · have hne : h a ≠ h n := fun e => he (hS a (by simp) n hn e)
      rw [show (h a == h n) = false from by simpa using hne, show (a == n) = false from by simpa using he]
      simp only [cond_false]
      rw [idx_map r (fun a ha b hb => hS a (by simp [ha]) b (by simp [hb])) n (by rcases List.mem_cons.1 hn with e | e; exact absurd e.symm he; exact e)]
theorem idx_get : ∀ (vs : List Int), vs.Nodup → ∀ i (h : i < vs.length), vs.idxOf vs[i] = i
  | [], _, i, h => absurd h (by simp)
  | a :: r, hn, 0, _ => by simp
  | a :: r, hn, i + 1, h => by
    have hi : i < r.length := by simpa using h
    have hne : a ≠ r[i] := fun e => (List.nodup_cons.1 hn).1 (e ▸ List.getElem_mem hi)
    rw [List.getElem_cons_succ, List.idxOf_cons, show (a == r[i]) = false from by simpa using hne, cond_false, idx_get r (List.nodup_cons.1 hn).2 i hi]
theorem idx_lt {vs : List Int} {n : Int} (h : n ∈ vs) : vs.idxOf n < vs.length := List.idxOf_lt_length_of_mem h
theorem idx_at {vs : List Int} {n : Int} (h : n ∈ vs) : vs[vs.idxOf n]'(idx_lt h) = n := List.getElem_idxOf (idx_lt h)
theorem idx_inj {vs : List Int} : ∀ a ∈ vs, ∀ b ∈ vs, idx vs a = idx vs b → a = b := by
  intro a ha b hb e
  have e' : vs.idxOf a = vs.idxOf b := by unfold idx at e; omega
  have h1 := idx_at ha
  have h2 := idx_at hb
  simp only [e'] at h1
  exact h1.symm.trans h2
theorem numT_ren (vs : List Int) (t : Tm) : numT vs t = ren (idx vs) t := rfl
theorem all_ok {l : List Tm} (h : l.all good = true) : ∀ x ∈ l, allN okN x = true := fun x hx => ((good_fit x).1 (List.all_eq_true.1 h x hx)).2
theorem ren_good {h : Int → Int} {t : Tm} (ht : good t = true) (hp : ∀ v, occ v t = true → 0 ≤ h v) : good (ren h t) = true := by
  obtain ⟨hf, ho⟩ := (good_fit t).1 ht
  obtain ⟨e1, e2⟩ := sz_ren (h := h) t ho
  refine (good_fit _).2 ⟨?_, ren_ok t ho hp⟩
  simp only [fit, e1, e2] at hf ⊢
  exact hf
theorem ren_all {h : Int → Int} {l : List Tm} (hl : l.all good = true) (hp : ∀ v ∈ vars l, 0 ≤ h v) : (l.map (ren h)).all good = true :=
  List.all_eq_true.2 fun y hy => by
    obtain ⟨x, hx, rfl⟩ := List.mem_map.1 hy
    exact ren_good (List.all_eq_true.1 hl x hx) fun v hv => hp v (vars_occ hx hv)
theorem szL_all {h : Int → Int} {l : List Tm} (hl : l.all good = true) : szL (l.map (ren h)) = szL l := (szL_ren l fun x hx => sz_ren x (all_ok hl x hx)).1
theorem vars_nonneg {l : List Tm} (hl : l.all good = true) : ∀ v ∈ vars l, 0 ≤ v := by
  intro v hv
  obtain ⟨x, hx, ho⟩ := (occL_iff v l).1 ((vars_mem l v).1 hv)
  exact occ_nonneg x (all_ok hl x hx) v ho
/-- What Normal returns. -/
def nrm (l : List Tm) : List Tm := l.map (numT (vars l))
theorem nrm_good {l : List Tm} (hl : l.all good = true) : (nrm l).all good = true := ren_all hl fun v _ => by unfold idx; omega
theorem nrm_vars {l : List Tm} (hl : l.all good = true) : vars (nrm l) = (vars l).map (idx (vars l)) := vars_ren (all_ok hl) idx_inj
theorem nrm_vars_len {l : List Tm} (hl : l.all good = true) : (vars (nrm l)).length = (vars l).length := by rw [nrm_vars hl, List.length_map]
theorem nrm_vars_at {l : List Tm} (hl : l.all good = true) (i : Nat) (h : i < (vars (nrm l)).length) : (vars (nrm l))[i] = i := by
  have h2 : i < (vars l).length := by rw [← nrm_vars_len hl]; exact h
  simp only [nrm_vars hl, List.getElem_map]
  unfold idx
  rw [idx_get _ (vars_nodup l) i h2]
theorem nrm_nrm {l : List Tm} (hl : l.all good = true) : nrm (nrm l) = nrm l := by
  show (l.map (numT (vars l))).map (numT (vars (nrm l))) = l.map (numT (vars l))
  rw [List.map_map]
  refine List.map_congr_left fun x hx => ?_
  show numT (vars (nrm l)) (numT (vars l) x) = numT (vars l) x
  rw [numT_ren, numT_ren, ren_ren]
  refine ren_congr x (all_ok hl x hx) fun v hv => ?_
  have hm := vars_occ hx hv
  have hlt := idx_lt hm
  have hlt2 : (vars l).idxOf v < (vars (nrm l)).length := by rw [nrm_vars_len hl]; exact hlt
  have h1 := nrm_vars_at hl _ hlt2
  have h2 := idx_get _ (vars_nodup (nrm l)) _ hlt2
  rw [h1] at h2
  show idx (vars (nrm l)) (idx (vars l) v) = idx (vars l) v
  unfold idx at *
  omega
theorem var_good {n : Int} (h : 0 ≤ n) : good (var n) = true := by
  refine (good_iff _).2 ⟨by show sz (.node 1 n []) ≤ 2000; simp only [sz, szL]; omega, by show dp (.node 1 n []) ≤ 200; simp only [dp, dpL]; omega, ?_⟩
  rw [allN_t]
  show (okN (.node 1 n []) && true) = true
  rw [Bool.and_true]
  show ((1 : Int) == 1 && decide (0 ≤ n) && true || _) = true
  rw [decide_eq_true h]; rfl
/-- Put back, they are the trees that there were. -/
theorem nrm_back {l : List Tm} (hl : l.all good = true) {t : Tm} (ht : t ∈ l) : substE (numT (vars l) t) ((vars l).map var) = 0 ∧ substT ((vars l).map var) (numT (vars l) t) = t := by
  have hok := all_ok hl t ht
  have hg := List.all_eq_true.1 hl t ht
  have hs : substT ((vars l).map var) (numT (vars l) t) = t := by
    unfold substT numT
    rw [repT_comp]
    refine (repT_congr (h := fun n => var n) t hok fun v hv => ?_).trans (ren_id t hok)
    have hm := vars_occ ht hv
    rw [show repT (fun n => ((vars l).map var).getD n.toNat default) (var (idx (vars l) v)) = ((vars l).map var).getD (idx (vars l) v).toNat default from repT_var _ _ rfl]
    have e : (idx (vars l) v).toNat = (vars l).idxOf v := by unfold idx; omega
    rw [e, List.getD_eq_getElem?_getD, List.getElem?_map, List.getElem?_eq_getElem (idx_lt hm), idx_at hm]
    rfl
  refine ⟨substE_zero.2 ⟨ren_good hg fun v _ => by unfold idx; omega, List.all_eq_true.2 fun y hy => ?_, ?_, ?_⟩, hs⟩
  · obtain ⟨v, hv, rfl⟩ := List.mem_map.1 hy
    exact var_good (vars_nonneg hl v hv)
  · rw [List.length_map]
    rcases most_in (vars [numT (vars l) t]) with h | h
    · rw [h]; omega
    · rw [vars_one] at h
      obtain ⟨u, hu, e⟩ := occ_ren t hok h
      have := idx_lt (vars_occ ht hu)
      unfold idx at e
      omega
  · rw [hs]
    exact ((good_fit t).1 hg).1
/-- Shifted trees have the same normal form. -/
theorem nrm_shift {l : List Tm} {b : Int} (hl : l.all good = true) (hb : ∀ t ∈ l, shiftE t 0 b = 0) : (l.map (shiftT 0 b)).all good = true ∧ nrm (l.map (shiftT 0 b)) = nrm l := by
  have hp : ∀ v ∈ vars l, 0 ≤ v ∧ 0 ≤ v + b := by
    intro v hv
    obtain ⟨x, hx, ho⟩ := (occL_iff v l).1 ((vars_mem l v).1 hv)
    have h0 := occ_nonneg x (all_ok hl x hx) v ho
    have := (shiftE_zero.1 (hb x hx)).2.2 v ho
    omega
  have hinj : ∀ a ∈ vars l, ∀ c ∈ vars l, shiftN 0 b a = shiftN 0 b c → a = c := by
    intro a ha c hc e
    have h1 := hp a ha
    have h2 := hp c hc
    unfold shiftN at e
    rw [if_neg (by omega), if_neg (by omega)] at e
    omega
  have hv : vars (l.map (shiftT 0 b)) = (vars l).map (shiftN 0 b) := vars_ren (all_ok hl) hinj
  refine ⟨List.all_eq_true.2 fun y hy => ?_, ?_⟩
  · obtain ⟨x, hx, rfl⟩ := List.mem_map.1 hy
    exact shift_good (hb x hx)
  · unfold nrm
    rw [hv, List.map_map]
    refine List.map_congr_left fun x hx => ?_
    show numT ((vars l).map (shiftN 0 b)) (shiftT 0 b x) = numT (vars l) x
    rw [numT_ren, numT_ren, shiftT_ren, ren_ren]
    refine ren_congr x (all_ok hl x hx) fun v hv => ?_
    unfold idx
    rw [idx_map _ hinj v (vars_occ hx hv)]
theorem eqAll_len {l m : List Tm} (h : l = m) : (decide (l.length = m.length) && (l.zip m).all (fun x => eqT x.1 x.2)) = true := by
  subst h
  rw [decide_eq_true rfl, Bool.true_and, List.all_eq_true]
  intro x hx
  rw [eqT_iff]
  induction l with
  | nil => simp at hx
  | cons a r ih =>
    rw [List.zip_cons_cons] at hx
    rcases List.mem_cons.1 hx with e | e
    · rw [e]
    · exact ih e
theorem shiftE_one {t : Tm} {b : Int} (hg : good t = true) (h : shiftE t 0 b ≠ 0) : shiftE t 0 b = 1 := by
  unfold shiftE at *
  rw [if_pos hg] at *
  split at h <;> (try split at h) <;> (try split) <;> (try split) <;> simp_all
end Go.Tr
