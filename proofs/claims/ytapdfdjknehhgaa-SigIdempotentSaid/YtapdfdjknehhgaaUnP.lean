/- What a unifier is, plainly: no program. -/
import Derived.Test.YtapdfdjknehhgaaNorP
namespace Go.Tr

/-- The substitution makes equal what the list says. -/
def Sol (σ : Int → Tm) (b : Bec) : Prop := ∀ n u, fndT n b = some u → σ n = repT σ u
theorem sol_pre {σ : Int → Tm} {b e : Bec} (h : Sol σ (b ++ e)) : Sol σ b := by
  intro n u hf
  refine h n u ?_
  clear h
  induction b with
  | nil => cases hf
  | cons a r ih =>
    simp only [List.cons_append, fndT] at hf ⊢
    split
    · rename_i h1; rw [if_pos h1] at hf; exact hf
    · rename_i h1; rw [if_neg h1] at hf; exact ih hf
theorem sol_snoc {σ : Int → Tm} {b : Bec} {n : Int} {u : Tm} (h : Sol σ b) (hn : σ n = repT σ u) : Sol σ (b ++ [(n, u)]) := by
  intro m v hf
  rw [fndT_append] at hf
  cases hb : fndT m b with
  | some z => rw [hb] at hf; rw [Option.some_or] at hf; exact h m v (by rw [hb]; exact hf)
  | none =>
    rw [hb, Option.none_or] at hf
    split at hf
    · rename_i he
      have : m = n := by simpa using he
      subst this
      rw [← Option.some.inj hf]; exact hn
    · cases hf
theorem sol_last {σ : Int → Tm} {b : Bec} {n : Int} {u : Tm} (hf : fndT n b = none) (h : Sol σ (b ++ [(n, u)])) : σ n = repT σ u := by
  refine h n u ?_
  rw [fndT_append, hf, Option.none_or, if_pos (by simp)]
theorem rep_root {σ : Int → Tm} {b : Bec} (h : Sol σ b) (f : Nat) : ∀ t r, rootF b f t = some r → repT σ r = repT σ t := by
  induction f with
  | zero => intro t r hr; cases hr
  | succ f ih =>
    intro t r hr
    by_cases hk : t.k = 1
    · cases hf : fndT t.n b with
      | none => rw [rootF_none hk hf] at hr; rw [← Option.some.inj hr]
      | some u =>
        rw [rootF_some hk hf] at hr
        rw [ih u r hr, repT_var σ t hk, h t.n u hf]
    · rw [rootF_op hk] at hr
      rw [← Option.some.inj hr]
theorem rep_rootT {σ : Int → Tm} {b : Bec} {c : Int} (hb : WfB b c) (h : Sol σ b) {t : Tm} (ht : okT t) : repT σ (rootT b t) = repT σ t := rep_root h _ _ _ (rootT_is hb t ht).1
theorem var_eta {t : Tm} (ht : okT t) (hk : t.k = 1) : t = var t.n := by
  have h := okT_var ht hk
  obtain ⟨k, n, l⟩ := t
  simp only [Tm.k, Tm.n, Tm.l] at *
  subst hk h; rfl
theorem sameR_eq {x y : Tm} (h : sameR x y = true) : x.k = y.k ∧ x.n = y.n ∧ x.l.length = y.l.length := by
  simp only [sameR, Bool.and_eq_true, beq_iff_eq, decide_eq_true_eq] at h
  exact ⟨h.1.1, h.1.2, h.2⟩
theorem ok_k {t : Tm} (h : okT t) : t.k = 1 ∨ t.k = 2 := by
  have h1 := h.1
  obtain ⟨k, n, l⟩ := t
  have h2 := (kids_ok h1).1
  simp only [okN, Tm.k, Tm.n, Tm.l, Bool.or_eq_true, Bool.and_eq_true, beq_iff_eq] at h2 ⊢
  omega
abbrev LkF := Bec → Int → Tm → Tm → Bec × Int × Int
/-- What is found equal is equal under what solves the list. -/
def Snd (f : LkF) : Prop := ∀ b c x y, WfB b c → okT x → okT y → (f b c x y).2.2 = 0 → (∃ e, (f b c x y).1 = b ++ e) ∧ ∀ σ, Sol σ (f b c x y).1 → repT σ x = repT σ y
theorem lookL_snd {f : LkF} (hf : KeepsB f) (hs : Snd f) : ∀ l m b c, l.length = m.length → WfB b c → (∀ x ∈ l, okT x) → (∀ x ∈ m, okT x) → (lookL f b c l m).2.2 = 0 →
    (∃ e, (lookL f b c l m).1 = b ++ e) ∧ ∀ σ, Sol σ (lookL f b c l m).1 → l.map (repT σ) = m.map (repT σ)
  | [], [], b, c, _, _, _, _, _ => ⟨⟨[], by simp [lookL]⟩, fun _ _ => rfl⟩
  | x :: l, y :: m, b, c, hl, hb, hx, hy, hz => by
    simp only [lookL] at hz ⊢
    by_cases h0 : (f b c x y).2.2 = 0
    · rw [if_pos h0] at hz ⊢
      obtain ⟨⟨e1, h1⟩, h2⟩ := hs b c x y hb (hx x (by simp)) (hy y (by simp)) h0
      obtain ⟨hw, -⟩ := hf b c x y hb (hx x (by simp)) (hy y (by simp))
      obtain ⟨⟨e2, h3⟩, h4⟩ := lookL_snd hf hs l m _ _ (by simpa using hl) hw (fun z hz => hx z (by simp [hz])) (fun z hz => hy z (by simp [hz])) hz
      refine ⟨⟨e1 ++ e2, by rw [h3, h1, List.append_assoc]⟩, fun σ hσ => ?_⟩
      have h5 := h4 σ hσ
      rw [h3] at hσ
      rw [List.map_cons, List.map_cons, h5, h2 σ (sol_pre hσ)]
    · rw [if_neg h0] at hz
      exact absurd hz h0
theorem becT_snd {b : Bec} {c : Int} {p q : Tm} (hk : p.k = 1) (hn : fndT p.n b = none) (hz : (becT b c p q).2.2 = 0) : (∃ e, (becT b c p q).1 = b ++ e) ∧ ∀ σ, Sol σ (becT b c p q).1 → repT σ p = repT σ q := by
  unfold becT at hz ⊢
  split at hz
  · exact absurd hz (by simp)
  · rename_i h
    rw [if_neg h]
    exact ⟨⟨_, rfl⟩, fun σ hσ => by rw [repT_var σ p hk]; exact sol_last hn hσ⟩
theorem lookT_snd (g : Nat) : Snd (lookT g) := by
  induction g with
  | zero => intro b c x y _ _ _ hz; exact absurd hz (by simp [lookT])
  | succ g ih =>
    intro b c x y hb hx hy hz
    obtain ⟨-, rx, ox⟩ := rootT_is hb x hx
    obtain ⟨-, ry, oy⟩ := rootT_is hb y hy
    have hb1 : WfB b (c + 1) := ⟨by have := hb.len; omega, hb.ok, hb.ac⟩
    have main : (lookR (lookT g) b (c + 1) (rootT b x) (rootT b y)).2.2 = 0 → (∃ e, (lookR (lookT g) b (c + 1) (rootT b x) (rootT b y)).1 = b ++ e) ∧ ∀ σ, Sol σ (lookR (lookT g) b (c + 1) (rootT b x) (rootT b y)).1 → repT σ (rootT b x) = repT σ (rootT b y) := by
      generalize rootT b x = X at *
      generalize rootT b y = Y at *
      unfold lookR
      by_cases h1 : X.k = 1 ∧ sameR X Y = true
      · rw [if_pos h1]
        intro _
        refine ⟨⟨[], by simp⟩, fun σ _ => ?_⟩
        obtain ⟨e1, e2, e3⟩ := sameR_eq h1.2
        rw [var_eta ox h1.1, var_eta oy (by rw [← e1]; exact h1.1), e2]
      · rw [if_neg h1]
        by_cases h2 : Y.k = 1 ∧ (X.k ≠ 1 ∨ X.n < Y.n)
        · rw [if_pos h2]
          intro hz
          obtain ⟨h3, h4⟩ := becT_snd h2.1 (ry h2.1) hz
          exact ⟨h3, fun σ hσ => (h4 σ hσ).symm⟩
        · rw [if_neg h2]
          by_cases h3 : X.k = 1
          · rw [if_pos h3]
            exact fun hz => becT_snd h3 (rx h3) hz
          · rw [if_neg h3]
            by_cases h4 : sameR X Y = true
            · rw [if_pos h4]
              intro hz
              obtain ⟨e1, e2, e3⟩ := sameR_eq h4
              obtain ⟨h5, h6⟩ := lookL_snd (lookT_wf g) ih X.l Y.l b (c + 1) e3 hb1 (fun z hz => okT_mem ox hz) (fun z hz => okT_mem oy hz) hz
              refine ⟨h5, fun σ hσ => ?_⟩
              rw [repT_op σ X h3, repT_op σ Y (by rw [← e1]; exact h3), e1, e2, h6 σ hσ]
            · rw [if_neg h4]
              intro hz
              exact absurd hz (by simp)
    simp only [lookT] at hz ⊢
    by_cases hc : 20000 < c + 1
    · rw [if_pos hc] at hz
      exact absurd hz (by simp)
    · rw [if_neg hc] at hz ⊢
      obtain ⟨⟨e, h1⟩, h2⟩ := main hz
      refine ⟨⟨e, h1⟩, fun σ hσ => ?_⟩
      have h3 := h2 σ hσ
      rw [h1] at hσ
      rw [rep_rootT hb (sol_pre hσ) hx, rep_rootT hb (sol_pre hσ) hy] at h3
      exact h3

/-- A variable is met within a tree, with everything put in. -/
inductive Reach (b : Bec) (tgt : Int) : Tm → Prop
  | here {t : Tm} : occ tgt t = true → Reach b tgt t
  | step {t u : Tm} {m : Int} : occ m t = true → fndT m b = some u → Reach b tgt u → Reach b tgt t
theorem reach_kid {b : Bec} {tgt k n : Int} {c : List Tm} {x : Tm} (hx : x ∈ c) (h : Reach b tgt x) : Reach b tgt (.node k n c) := by
  cases h with
  | here h => exact .here (occ_kid hx h)
  | step h1 h2 h3 => exact .step (occ_kid hx h1) h2 h3
theorem wkL_reach {b : Bec} {tgt : Int} {F : List Int → Tm → Int → List Int × Bool} : ∀ (l : List Tm), (∀ x ∈ l, ∀ d s, (wk F x d s).2 = false → Reach b tgt x) → ∀ d s, (wkL F l d s).2 = false → ∃ x ∈ l, Reach b tgt x
  | [], _, d, s, h => by simp [wkL] at h
  | a :: r, hx, d, s, h => by
    simp only [wkL] at h
    cases hw : (wk F a d s).2 with
    | false => exact ⟨a, by simp, hx a (by simp) d s hw⟩
    | true =>
      rw [hw] at h
      obtain ⟨x, h1, h2⟩ := wkL_reach r (fun x hm => hx x (by simp [hm])) d _ h
      exact ⟨x, by simp [h1], h2⟩
theorem wk_reach {b : Bec} {tgt : Int} {F : List Int → Tm → Int → List Int × Bool} (hF : ∀ s t d, (F s t d).2 = false → Reach b tgt t) (t : Tm) : ∀ d s, (wk F t d s).2 = false → Reach b tgt t := by
  induction t using Tm.ind with
  | h k n c ih =>
    intro d s h
    simp only [wk] at h
    cases hf : (F s (.node k n c) d).2 with
    | false => exact hF s _ d hf
    | true =>
      rw [hf] at h
      simp only [if_true] at h
      obtain ⟨x, h1, h2⟩ := wkL_reach c ih _ _ h
      exact reach_kid h1 h2
theorem occ_self {t : Tm} (hk : t.k = 1) : occ t.n t = true := by
  obtain ⟨k, n, c⟩ := t
  simp only [Tm.k] at hk
  subst hk
  rw [occ_var]
  simp [Tm.n]
theorem occS_reach (b : Bec) (tgt : Int) (f : Nat) : ∀ s t d, (occS b tgt f s t d).2 = false → Reach b tgt t := by
  induction f with
  | zero => intro s t d h; simp [occS] at h
  | succ f ih =>
    intro s t d h
    simp only [occS] at h
    by_cases h1 : t.k ≠ 1 ∨ t.n ∈ s
    · rw [if_pos h1] at h; simp at h
    · rw [if_neg h1] at h
      have hk : t.k = 1 := Decidable.not_not.1 fun e => h1 (.inl e)
      by_cases h2 : t.n = tgt
      · exact .here (by rw [← h2]; exact occ_self hk)
      · rw [if_neg h2] at h
        cases hf : fndT t.n b with
        | none =>
          exfalso
          rw [hf] at h
          cases f with
          | zero => simp [zeroT, wk, wkL, occS] at h
          | succ f =>
            have hz : (zeroT.k ≠ 1 ∨ zeroT.n ∈ s ++ [t.n]) := .inl (by decide)
            simp [zeroT, wk, wkL, occS, Tm.k] at h
        | some u =>
          rw [hf] at h
          exact .step (occ_self hk) hf (wk_reach ih u _ _ h)
theorem occB_reach {b : Bec} {tgt : Int} {t : Tm} (h : occB b tgt t = true) : Reach b tgt t := by
  unfold occB at h
  rw [Bool.not_eq_true'] at h
  exact wk_reach (occS_reach b tgt _) t _ _ h
theorem szL_rep {σ : Int → Tm} {c : List Tm} {x : Tm} (hx : x ∈ c) : sz (repT σ x) ≤ szL (c.map (repT σ)) := sz_mem (List.mem_map.2 ⟨x, hx, rfl⟩)
theorem sz_occ {σ : Int → Tm} {m : Int} (t : Tm) : allN okN t = true → occ m t = true → sz (σ m) ≤ sz (repT σ t) ∧ (t.k ≠ 1 → sz (σ m) < sz (repT σ t)) := by
  induction t using Tm.ind with
  | h k n c ih =>
    intro h1 h2
    obtain ⟨a1, a2⟩ := kids_ok h1
    by_cases hk : k = 1
    · subst hk
      rw [occ_var, (leaf_of a1).2] at h2
      have e : n = m := by simpa [occL] using h2
      rw [repT_var σ (.node 1 n c) rfl]
      subst e
      exact ⟨Nat.le_refl _, fun h => absurd rfl h⟩
    · rw [occ_op hk, occL_iff] at h2
      obtain ⟨x, hx, ho⟩ := h2
      have h3 := (ih x hx (a2 x hx) ho).1
      have h4 := szL_rep (σ := σ) hx
      rw [repT_op σ (.node k n c) hk]
      show sz (σ m) ≤ sz (.node k n (c.map (repT σ))) ∧ _
      have h5 : sz (.node k n (c.map (repT σ))) = 1 + szL (c.map (repT σ)) := rfl
      exact ⟨by omega, fun _ => by show sz (σ m) < sz (.node k n (c.map (repT σ))); omega⟩
theorem sz_reach {σ : Int → Tm} {b : Bec} {tgt : Int} (hs : Sol σ b) (hb : ∀ x ∈ b, okT x.2) {t : Tm} (h : Reach b tgt t) : allN okN t = true → sz (σ tgt) ≤ sz (repT σ t) ∧ (t.k ≠ 1 → sz (σ tgt) < sz (repT σ t)) := by
  induction h with
  | here h => exact fun ho => sz_occ _ ho h
  | @step t u m h1 h2 _ ih =>
    intro ho
    obtain ⟨z, hz, hzu⟩ := fndT_mem h2
    have h3 := (ih (by rw [← hzu]; exact (hb z hz).1)).1
    rw [← hs m u h2] at h3
    have h4 := sz_occ (σ := σ) t ho h1
    exact ⟨by omega, fun hk => by have := h4.2 hk; omega⟩
/-- Where a substitution makes a pair equal, the pair is not refused, and what is found it solves. -/
def Cmp (f : LkF) : Prop := ∀ b c x y, WfB b c → okT x → okT y → ∀ σ, Sol σ b → repT σ x = repT σ y → (f b c x y).2.2 ≠ 3 ∧ ((f b c x y).2.2 = 0 → Sol σ (f b c x y).1)
theorem lookL_cmp {f : LkF} (hf : KeepsB f) (hs : Cmp f) : ∀ l m b c, WfB b c → (∀ x ∈ l, okT x) → (∀ x ∈ m, okT x) → ∀ σ, Sol σ b → l.map (repT σ) = m.map (repT σ) →
    (lookL f b c l m).2.2 ≠ 3 ∧ ((lookL f b c l m).2.2 = 0 → Sol σ (lookL f b c l m).1)
  | [], [], b, c, _, _, _, σ, h, _ => ⟨by simp [lookL], fun _ => by simpa [lookL] using h⟩
  | [], _ :: _, b, c, _, _, _, σ, h, he => by simp at he
  | _ :: _, [], b, c, _, _, _, σ, h, he => by simp at he
  | x :: l, y :: m, b, c, hb, hx, hy, σ, h, he => by
    simp only [List.map_cons, List.cons.injEq] at he
    obtain ⟨h1, h2⟩ := hs b c x y hb (hx x (by simp)) (hy y (by simp)) σ h he.1
    obtain ⟨hw, -⟩ := hf b c x y hb (hx x (by simp)) (hy y (by simp))
    simp only [lookL]
    by_cases h0 : (f b c x y).2.2 = 0
    · rw [if_pos h0]
      exact lookL_cmp hf hs l m _ _ hw (fun z hz => hx z (by simp [hz])) (fun z hz => hy z (by simp [hz])) σ (h2 h0) he.2
    · rw [if_neg h0]
      exact ⟨h1, fun e => absurd e h0⟩
theorem becT_cmp {b : Bec} {c c' : Int} {p q : Tm} (hb : WfB b c') (hq : okT q) (hqr : q.k = 1 → q.n ≠ p.n ∧ fndT q.n b = none) {σ : Int → Tm} (hs : Sol σ b) (he : σ p.n = repT σ q) :
    (becT b c p q).2.2 ≠ 3 ∧ ((becT b c p q).2.2 = 0 → Sol σ (becT b c p q).1) := by
  have ho : occB b p.n q = false := by
    rw [Bool.eq_false_iff]
    intro h
    have hr := occB_reach h
    by_cases hk : q.k = 1
    · obtain ⟨h1, h2⟩ := hqr hk
      rw [var_eta hq hk] at hr
      have e : ∀ m, occ m (var q.n) = true → m = q.n := by
        intro m hm
        have : ((q.n == m) || occL m []) = true := hm
        have e : q.n = m := by simpa [occL] using this
        exact e.symm
      cases hr with
      | here h => exact h1 (e _ h).symm
      | step h3 h4 _ => rw [e _ h3, h2] at h4; cases h4
    · have := (sz_reach hs hb.ok hr hq.1).2 hk
      rw [he] at this
      omega
  unfold becT
  rw [ho]
  simp only [Bool.false_eq_true, if_false]
  exact ⟨by decide, fun _ => sol_snoc hs he⟩
theorem lookT_cmp (g : Nat) : Cmp (lookT g) := by
  induction g with
  | zero => intro b c x y _ _ _ σ _ _; exact ⟨by simp [lookT], fun h => absurd h (by simp [lookT])⟩
  | succ g ih =>
    intro b c x y hb hx hy σ hs he
    obtain ⟨-, rx, ox⟩ := rootT_is hb x hx
    obtain ⟨-, ry, oy⟩ := rootT_is hb y hy
    have hb1 : WfB b (c + 1) := ⟨by have := hb.len; omega, hb.ok, hb.ac⟩
    rw [← rep_rootT hb hs hx, ← rep_rootT hb hs hy] at he
    simp only [lookT]
    by_cases hc : 20000 < c + 1
    · rw [if_pos hc]
      exact ⟨show (2 : Int) ≠ 3 by decide, fun h => absurd (show (2 : Int) = 0 from h) (by decide)⟩
    · rw [if_neg hc]
      generalize rootT b x = X at *
      generalize rootT b y = Y at *
      unfold lookR
      by_cases h1 : X.k = 1 ∧ sameR X Y = true
      · rw [if_pos h1]
        exact ⟨by simp, fun _ => hs⟩
      · rw [if_neg h1]
        have hne : X.k = 1 → Y.k = 1 → X.n ≠ Y.n := fun hkx hky e => h1 ⟨hkx, sameR_var ox oy hkx hky e⟩
        by_cases h2 : Y.k = 1 ∧ (X.k ≠ 1 ∨ X.n < Y.n)
        · rw [if_pos h2]
          exact becT_cmp hb ox (fun hk => ⟨hne hk h2.1, rx hk⟩) hs (by rw [he, repT_var σ Y h2.1])
        · rw [if_neg h2]
          by_cases h3 : X.k = 1
          · rw [if_pos h3]
            exact becT_cmp hb oy (fun hk => ⟨fun e => hne h3 hk e.symm, ry hk⟩) hs (by rw [← he, repT_var σ X h3])
          · rw [if_neg h3]
            have h5 : Y.k ≠ 1 := fun e => h2 ⟨e, .inl h3⟩
            rw [repT_op σ X h3, repT_op σ Y h5] at he
            simp only [Tm.node.injEq] at he
            obtain ⟨e1, e2, e3⟩ := he
            have h4 : sameR X Y = true := by
              have := congrArg List.length e3
              rw [List.length_map, List.length_map] at this
              simp only [sameR, Bool.and_eq_true, beq_iff_eq, decide_eq_true_eq]
              exact ⟨⟨e1, e2⟩, this⟩
            rw [if_pos h4]
            exact lookL_cmp (lookT_wf g) ih X.l Y.l b (c + 1) hb1 (fun z hz => okT_mem ox hz) (fun z hz => okT_mem oy hz) σ hs e3
end Go.Tr
