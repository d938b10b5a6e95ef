/- Merged: Tm, Tn, To, Tp, Tq, Tu, Uq, Acc, Set, Sg. -/

/- Trees, plainly: no program. -/
namespace Go.Tr

inductive Tm where
  | node (k n : Int) (l : List Tm)

namespace Tm
def k : Tm → Int
  | node k _ _ => k
def n : Tm → Int
  | node _ n _ => n
def l : Tm → List Tm
  | node _ _ l => l
end Tm
instance : Inhabited Tm := ⟨.node 0 0 []⟩
theorem Tm.eta (t : Tm) : Tm.node t.k t.n t.l = t := by cases t; rfl

theorem Tm.ind {P : Tm → Prop} (h : ∀ k n l, (∀ x ∈ l, P x) → P (.node k n l)) (t : Tm) : P t :=
  Tm.rec (motive_1 := P) (motive_2 := fun l => ∀ x ∈ l, P x) h (fun x hx => by cases hx) (fun a r ha hr x hx => by
    rcases List.mem_cons.1 hx with rfl | hx
    · exact ha
    · exact hr x hx) t

mutual
def sz : Tm → Nat
  | .node _ _ l => 1 + szL l
def szL : List Tm → Nat
  | [] => 0
  | t :: r => sz t + szL r
end
mutual
def dp : Tm → Nat
  | .node _ _ l => 1 + dpL l
def dpL : List Tm → Nat
  | [] => 0
  | t :: r => max (dp t) (dpL r)
end
theorem sz_pos (t : Tm) : 0 < sz t := by cases t; simp [sz]; omega
theorem dp_pos (t : Tm) : 0 < dp t := by cases t; simp [dp]; omega
theorem sz_mem {l : List Tm} {x : Tm} (h : x ∈ l) : sz x ≤ szL l := by
  induction l with
  | nil => cases h
  | cons a r ih =>
    simp only [szL]
    rcases List.mem_cons.1 h with rfl | h
    · omega
    · have := ih h; omega
theorem dp_mem {l : List Tm} {x : Tm} (h : x ∈ l) : dp x ≤ dpL l := by
  induction l with
  | nil => cases h
  | cons a r ih =>
    simp only [dpL]
    rcases List.mem_cons.1 h with rfl | h
    · omega
    · have := ih h; omega
theorem sz_l (t : Tm) : sz t = 1 + szL t.l := by cases t; rfl
theorem dp_l (t : Tm) : dp t = 1 + dpL t.l := by cases t; rfl

/-! the order -/
def cmpI (a b : Int) : Int := if a < b then -1 else if b < a then 1 else 0
mutual
def cmpT : Tm → Tm → Int
  | .node k n l, .node k' n' l' =>
    if cmpI k k' ≠ 0 then cmpI k k' else if cmpI n n' ≠ 0 then cmpI n n' else if cmpI l.length l'.length ≠ 0 then cmpI l.length l'.length else cmpL l l'
def cmpL : List Tm → List Tm → Int
  | [], [] => 0
  | [], _ :: _ => -1
  | _ :: _, [] => 1
  | a :: r, b :: r' => if cmpT a b ≠ 0 then cmpT a b else cmpL r r'
end
def cmpH (k n : Int) (len : Nat) (k' n' : Int) (len' : Nat) : Int :=
  if cmpI k k' ≠ 0 then cmpI k k' else if cmpI n n' ≠ 0 then cmpI n n' else cmpI len len'
theorem cmpT_h (a b : Tm) : cmpT a b = if cmpH a.k a.n a.l.length b.k b.n b.l.length ≠ 0 then cmpH a.k a.n a.l.length b.k b.n b.l.length else cmpL a.l b.l := by
  cases a; cases b
  simp only [cmpT, cmpH, Tm.k, Tm.n, Tm.l]
  split <;> simp_all
  split <;> simp_all
mutual
def eqT : Tm → Tm → Bool
  | .node k n l, .node k' n' l' => k == k' && n == n' && eqL l l'
def eqL : List Tm → List Tm → Bool
  | [], [] => true
  | a :: r, b :: r' => eqT a b && eqL r r'
  | _, _ => false
end
theorem eqL_len : ∀ (l l' : List Tm), l.length ≠ l'.length → eqL l l' = false
  | [], [], h => absurd rfl h
  | [], _ :: _, _ => by simp [eqL]
  | _ :: _, [], _ => by simp [eqL]
  | a :: r, b :: r', h => by simp [eqL, eqL_len r r' (by simpa using h)]
theorem eqT_iff (a : Tm) : ∀ b, eqT a b = true ↔ a = b := by
  induction a using Tm.ind with
  | h k n l ih =>
    intro b
    obtain ⟨k', n', l'⟩ := b
    have hl : ∀ (l : List Tm), (∀ x ∈ l, ∀ b, eqT x b = true ↔ x = b) → ∀ l', eqL l l' = true ↔ l = l' := by
      intro l
      induction l with
      | nil => intro _ l'; cases l' <;> simp [eqL]
      | cons a r ih2 =>
        intro h l'
        cases l' with
        | nil => simp [eqL]
        | cons b r' => simp [eqL, h a (by simp) b, ih2 (fun x hx => h x (by simp [hx])) r']
    simp [eqT, hl l ih l', and_assoc]
theorem eqL_iff : ∀ (l l' : List Tm), eqL l l' = true ↔ l = l'
  | [], [] => by simp [eqL]
  | [], _ :: _ => by simp [eqL]
  | _ :: _, [] => by simp [eqL]
  | a :: r, b :: r' => by simp [eqL, eqT_iff a b, eqL_iff r r']
theorem cmpI_zero (a b : Int) : cmpI a b = 0 ↔ a = b := by unfold cmpI; split <;> (try split) <;> omega
theorem cmpI_range (a b : Int) : -1 ≤ cmpI a b ∧ cmpI a b ≤ 1 := by unfold cmpI; split <;> (try split) <;> omega
theorem cmpI_neg (a b : Int) : cmpI a b = - cmpI b a := by unfold cmpI; split <;> split <;> (try split) <;> omega
theorem cmpI_trans (a b c : Int) (h1 : cmpI a b ≤ 0) (h2 : cmpI b c ≤ 0) : cmpI a c ≤ 0 ∧ (cmpI a c = 0 → cmpI a b = 0 ∧ cmpI b c = 0) := by
  unfold cmpI at *
  refine ⟨?_, fun h => ⟨?_, ?_⟩⟩ <;> (repeat' split at h1) <;> (repeat' split at h2) <;> (try (repeat' split at h)) <;> (repeat' split) <;> omega
theorem cmpI_self (a : Int) : cmpI a a = 0 := by simp [cmpI]

/-- What an order is asked for, at one tree. -/
def Ord (a : Tm) : Prop := (∀ b, (cmpT a b = 0 ↔ a = b) ∧ -1 ≤ cmpT a b ∧ cmpT a b ≤ 1 ∧ cmpT a b = - cmpT b a) ∧
  ∀ b c, cmpT a b ≤ 0 → cmpT b c ≤ 0 → cmpT a c ≤ 0 ∧ (cmpT a c = 0 → cmpT a b = 0 ∧ cmpT b c = 0)
def OrdL (a : List Tm) : Prop := (∀ b, a.length = b.length → (cmpL a b = 0 ↔ a = b) ∧ -1 ≤ cmpL a b ∧ cmpL a b ≤ 1 ∧ cmpL a b = - cmpL b a) ∧
  ∀ b c, a.length = b.length → b.length = c.length → cmpL a b ≤ 0 → cmpL b c ≤ 0 → cmpL a c ≤ 0 ∧ (cmpL a c = 0 → cmpL a b = 0 ∧ cmpL b c = 0)
theorem ordL_of : ∀ (l : List Tm), (∀ x ∈ l, Ord x) → OrdL l
  | [], _ => by
    refine ⟨fun b h => ?_, fun b c h1 h2 _ _ => ?_⟩
    · cases b with
      | nil => simp [cmpL]
      | cons _ _ => simp at h
    · cases b with
      | nil => cases c with
        | nil => simp [cmpL]
        | cons _ _ => simp at h2
      | cons _ _ => simp at h1
  | a :: r, h => by
    obtain ⟨ha, ha2⟩ := h a (by simp)
    obtain ⟨hr, hr2⟩ := ordL_of r (fun x hx => h x (by simp [hx]))
    refine ⟨fun b hb => ?_, fun b c hb hc => ?_⟩
    · cases b with
      | nil => simp at hb
      | cons b r' =>
        obtain ⟨h1, h2, h3, h4⟩ := ha b
        obtain ⟨g1, g2, g3, g4⟩ := hr r' (by simpa using hb)
        simp only [cmpL, List.cons.injEq]
        by_cases hz : cmpT a b = 0
        · have hz' : cmpT b a = 0 := by omega
          simp only [hz, hz', ne_eq, not_true, if_false]
          exact ⟨by rw [g1, ← h1]; simp [hz], g2, g3, g4⟩
        · have hz' : ¬ cmpT b a = 0 := by omega
          simp only [hz, hz', ne_eq, not_false_eq_true, if_true]
          refine ⟨⟨fun h => by first | exact h.elim | exact absurd h hz, fun h => absurd (h1.2 h.1) hz⟩, h2, h3, h4⟩
    · cases b with
      | nil => simp at hb
      | cons b rb =>
        cases c with
        | nil => simp at hc
        | cons c rc =>
          have k1 := ha2 b c
          have k2 := hr2 rb rc (by simpa using hb) (by simpa using hc)
          obtain ⟨e1, -, -, -⟩ := ha b
          obtain ⟨e2, -, -, -⟩ := ha c
          simp only [cmpL]
          by_cases z1 : cmpT a b = 0
          · obtain rfl := e1.1 z1
            simp only [z1, ne_eq, not_true, if_false]
            by_cases z2 : cmpT a c = 0
            · simp only [z2, not_true, if_false]
              intro p q
              exact k2 p q
            · simp only [z2, not_false_eq_true, if_true]
              intro p q
              exact ⟨q, fun h => by first | exact h.elim | omega⟩
          · simp only [z1, ne_eq, not_false_eq_true, if_true]
            by_cases z2 : cmpT b c = 0
            · simp only [z2, not_true, if_false]
              intro p q
              have := k1 p (by omega)
              by_cases z3 : cmpT a c = 0
              · exact absurd (this.2 z3).1 z1
              · simp only [z3, not_false_eq_true, if_true]
                exact ⟨this.1, fun h => by first | exact h.elim | omega⟩
            · simp only [z2, not_false_eq_true, if_true]
              intro p q
              have := k1 p q
              by_cases z3 : cmpT a c = 0
              · exact absurd (this.2 z3).1 z1
              · simp only [z3, not_false_eq_true, if_true]
                exact ⟨this.1, fun h => by first | exact h.elim | omega⟩
theorem ord (a : Tm) : Ord a := by
  induction a using Tm.ind with
  | h k n l ih =>
    obtain ⟨hl, hl2⟩ := ordL_of l ih
    refine ⟨fun b => ?_, fun b c => ?_⟩
    · obtain ⟨k', n', l'⟩ := b
      have r1 := cmpI_range k k'
      have r2 := cmpI_range n n'
      have r3 := cmpI_range l.length l'.length
      have n1 := cmpI_neg k k'
      have n2 := cmpI_neg n n'
      have n3 := cmpI_neg l.length l'.length
      have z1 := cmpI_zero k k'
      have z2 := cmpI_zero n n'
      have z3 := cmpI_zero l.length l'.length
      simp only [cmpT, Tm.node.injEq]
      by_cases c1 : cmpI k k' = 0
      · have c1' : cmpI k' k = 0 := by omega
        by_cases c2 : cmpI n n' = 0
        · have c2' : cmpI n' n = 0 := by omega
          by_cases c3 : cmpI l.length l'.length = 0
          · have c3' : cmpI l'.length l.length = 0 := by omega
            obtain ⟨g1, g2, g3, g4⟩ := hl l' (by have := z3.1 c3; omega)
            simp only [c1, c2, c3, c1', c2', c3', ne_eq, not_true, if_false]
            exact ⟨by rw [g1]; simp [z1.1 c1, z2.1 c2], g2, g3, g4⟩
          · have c3' : ¬ cmpI l'.length l.length = 0 := by omega
            simp only [c1, c2, c3, c1', c2', c3', ne_eq, not_true, if_false, not_false_eq_true, if_true]
            refine ⟨⟨fun h => by first | exact h.elim | omega, fun h => ?_⟩, r3.1, r3.2, n3⟩
            exact absurd (z3.2 (by rw [h.2.2])) c3
        · have c2' : ¬ cmpI n' n = 0 := by omega
          simp only [c1, c2, c1', c2', ne_eq, not_true, if_false, not_false_eq_true, if_true]
          refine ⟨⟨fun h => by first | exact h.elim | omega, fun h => absurd (z2.2 h.2.1) c2⟩, r2.1, r2.2, n2⟩
      · have c1' : ¬ cmpI k' k = 0 := by omega
        simp only [c1, c1', ne_eq, not_false_eq_true, if_true]
        refine ⟨⟨fun h => by first | exact h.elim | omega, fun h => absurd (z1.2 h.1) c1⟩, r1.1, r1.2, n1⟩
    · obtain ⟨k', n', l'⟩ := b
      obtain ⟨k2, n2, l2⟩ := c
      have t1 := cmpI_trans k k' k2
      have t2 := cmpI_trans n n' n2
      have t3 := cmpI_trans l.length l'.length l2.length
      have t4 := hl2 l' l2
      have z3 := cmpI_zero l.length l'.length
      have z3' := cmpI_zero l'.length l2.length
      have z1 := cmpI_zero k k'
      have z1' := cmpI_zero k' k2
      have z2 := cmpI_zero n n'
      have z2' := cmpI_zero n' n2
      simp only [cmpT]
      by_cases a1 : cmpI k k' = 0
      · obtain rfl := z1.1 a1
        by_cases b1 : cmpI k k2 = 0
        · obtain rfl := z1'.1 b1
          by_cases a2 : cmpI n n' = 0
          · obtain rfl := z2.1 a2
            by_cases b2 : cmpI n n2 = 0
            · obtain rfl := z2'.1 b2
              simp only [cmpI_self, ne_eq, not_true, if_false]
              by_cases a3 : cmpI l.length l'.length = 0
              · have e3 : l.length = l'.length := by have := z3.1 a3; omega
                by_cases b3 : cmpI l'.length l2.length = 0
                · have e4 : l'.length = l2.length := by have := z3'.1 b3; omega
                  simp only [e3, e4, cmpI_self, not_true, if_false]
                  exact t4 e3 e4
                · rw [e3]
                  simp only [b3, cmpI_self, not_true, if_false, not_false_eq_true, if_true]
                  intro p q; exact ⟨q, fun h => by first | exact h.elim | omega⟩
              · simp only [a3, not_false_eq_true, if_true]
                by_cases b3 : cmpI l'.length l2.length = 0
                · have e4 : l'.length = l2.length := by have := z3'.1 b3; omega
                  rw [e4] at a3 ⊢
                  simp only [a3, cmpI_self, not_true, if_false, not_false_eq_true, if_true]
                  intro p q; exact ⟨p, fun h => by first | exact h.elim | omega⟩
                · simp only [b3, not_false_eq_true, if_true]
                  intro p q
                  have := t3 p q
                  by_cases c3 : cmpI l.length l2.length = 0
                  · exact absurd (this.2 c3).1 a3
                  · simp only [c3, not_false_eq_true, if_true]; exact ⟨this.1, fun h => by first | exact h.elim | omega⟩
            · simp only [b2, cmpI_self, ne_eq, not_true, if_false, not_false_eq_true, if_true]
              intro p q; exact ⟨q, fun h => by first | exact h.elim | omega⟩
          · simp only [a2, cmpI_self, ne_eq, not_true, if_false, not_false_eq_true, if_true]
            by_cases b2 : cmpI n' n2 = 0
            · obtain rfl := z2'.1 b2
              simp only [a2, cmpI_self, not_true, if_false, not_false_eq_true, if_true]
              intro p q; exact ⟨p, fun h => by first | exact h.elim | omega⟩
            · simp only [b2, not_false_eq_true, if_true]
              intro p q
              have := t2 p q
              by_cases c3 : cmpI n n2 = 0
              · exact absurd (this.2 c3).1 a2
              · simp only [c3, not_false_eq_true, if_true]; exact ⟨this.1, fun h => by first | exact h.elim | omega⟩
        · simp only [b1, cmpI_self, ne_eq, not_true, if_false, not_false_eq_true, if_true]
          intro p q; exact ⟨q, fun h => by first | exact h.elim | omega⟩
      · by_cases b1 : cmpI k' k2 = 0
        · obtain rfl := z1'.1 b1
          simp only [a1, ne_eq, not_false_eq_true, if_true]
          intro p q; exact ⟨p, fun h => by first | exact h.elim | omega⟩
        · simp only [a1, b1, ne_eq, not_false_eq_true, if_true]
          intro p q
          have := t1 p q
          by_cases c3 : cmpI k k2 = 0
          · exact absurd (this.2 c3).1 a1
          · simp only [c3, not_false_eq_true, if_true]; exact ⟨this.1, fun h => by first | exact h.elim | omega⟩
theorem eqT_cmp (a b : Tm) : eqT a b = (cmpT a b == 0) := by
  rw [Bool.eq_iff_iff, eqT_iff]; simp [((ord a).1 b).1]

/-! going through a tree -/
section
variable {σ : Type} (f : σ → Tm → Int → σ × Bool)
mutual
def wk : Tm → Int → σ → σ × Bool
  | .node k n l, d, s => if (f s (.node k n l) d).2 then wkL l (d + 1) (f s (.node k n l) d).1 else ((f s (.node k n l) d).1, false)
def wkL : List Tm → Int → σ → σ × Bool
  | [], _, s => (s, true)
  | t :: r, d, s => if (wk t d s).2 then wkL r d (wk t d s).1 else ((wk t d s).1, false)
end
theorem wkL_ok_of {ok : σ → Nat → Prop} : ∀ (l : List Tm), (∀ x ∈ l, ∀ (d : Int) (s : σ) (m : Nat), ok s (sz x + m) → (wk f x d s).2 = true → ok (wk f x d s).1 m) → ∀ (d : Int) (s : σ) (m : Nat), ok s (szL l + m) → (wkL f l d s).2 = true → ok (wkL f l d s).1 m
  | [], _, d, s, m, hs, _ => by simpa [wkL, szL] using hs
  | a :: r, hx, d, s, m, hs, h2 => by
    simp only [wkL] at h2 ⊢
    cases hw : (wk f a d s).2 with
    | false => rw [hw] at h2; simp at h2
    | true =>
      rw [hw] at h2
      simp only [if_true] at h2 ⊢
      exact wkL_ok_of r (fun x hm => hx x (by simp [hm])) d _ m (hx a (by simp) d s (szL r + m) (by simpa [szL, Nat.add_assoc] using hs) hw) h2
theorem wk_ok {ok : σ → Nat → Prop} (h : ∀ s t d m, ok s (m + 1) → (f s t d).2 = true → ok (f s t d).1 m) (t : Tm) : ∀ (d : Int) (s : σ) (m : Nat), ok s (sz t + m) → (wk f t d s).2 = true → ok (wk f t d s).1 m := by
  induction t using Tm.ind with
  | h k n l ih =>
    intro d s m hs
    simp only [wk]
    cases hf : (f s (.node k n l) d).2 with
    | false => simp
    | true =>
      simp only [if_true]
      exact wkL_ok_of f l ih _ _ _ (h s _ d (szL l + m) (by have e : szL l + m + 1 = sz (.node k n l) + m := by simp only [sz]; omega
                                                            rw [e]; exact hs) hf)
theorem wkL_ok {ok : σ → Nat → Prop} (h : ∀ s t d m, ok s (m + 1) → (f s t d).2 = true → ok (f s t d).1 m) (l : List Tm) (d : Int) (s : σ) (m : Nat) (hs : ok s (szL l + m)) (h2 : (wkL f l d s).2 = true) : ok (wkL f l d s).1 m :=
  wkL_ok_of f l (fun x _ => wk_ok f h x) d s m hs h2
theorem wk_t (t : Tm) (d : Int) (s : σ) : wk f t d s = if (f s t d).2 then wkL f t.l (d + 1) (f s t d).1 else ((f s t d).1, false) := by cases t; rfl
end

/-! trees that are right -/
def okN (t : Tm) : Bool := (t.k == 1 && decide (0 ≤ t.n) && t.l.isEmpty) || (t.k == 2 && decide (0 ≤ t.n) && decide (t.l.length ≤ 8))
def askS (p : Tm → Bool) (left : Int) (t : Tm) (d : Int) : Int × Bool := (left - 1, decide (0 ≤ left - 1) && decide (d ≤ 200) && okN t && p t)
def isT (p : Tm → Bool) (t : Tm) : Bool := (wk (askS p) t 1 2000).2
mutual
def allN (p : Tm → Bool) : Tm → Bool
  | .node k n l => p (.node k n l) && allNL p l
def allNL (p : Tm → Bool) : List Tm → Bool
  | [] => true
  | t :: r => allN p t && allNL p r
end
theorem allN_t (p : Tm → Bool) (t : Tm) : allN p t = (p t && allNL p t.l) := by cases t; rfl
theorem allNL_iff (p : Tm → Bool) (l : List Tm) : allNL p l = true ↔ ∀ x ∈ l, allN p x = true := by
  induction l with
  | nil => simp [allNL]
  | cons a r ih => simp [allNL, ih]
/-- A step that counts and asks. -/
def Counts (D : Int) (f : Int → Tm → Int → Int × Bool) (q : Tm → Bool) : Prop := ∀ s t d, f s t d = (s - 1, decide (0 ≤ s - 1) && decide (d ≤ D) && q t)
theorem wkL_counts_of {D : Int} {f : Int → Tm → Int → Int × Bool} {q : Tm → Bool} :
    ∀ (l : List Tm), (∀ x ∈ l, ∀ (d left : Int), 0 ≤ left → ((wk f x d left).2 = true ↔ (sz x : Int) ≤ left ∧ d + dp x ≤ D + 1 ∧ allN q x = true) ∧ ((wk f x d left).2 = true → (wk f x d left).1 = left - sz x)) →
        ∀ (d left : Int), d ≤ D + 1 → 0 ≤ left → ((wkL f l d left).2 = true ↔ (szL l : Int) ≤ left ∧ d + dpL l ≤ D + 1 ∧ allNL q l = true) ∧ ((wkL f l d left).2 = true → (wkL f l d left).1 = left - szL l) := by
  intro l
  induction l with
  | nil => intro _ d left hd hlft; simp [wkL, szL, dpL, allNL]; omega
  | cons a r ih2 =>
    intro h d left hd hlft
    obtain ⟨h1, h2⟩ := h a (by simp) d left hlft
    simp only [wkL, szL, dpL, allNL]
    cases hw : (wk f a d left).2 with
    | false =>
      rw [hw] at h1
      simp only [Bool.false_eq_true, if_false, false_iff, false_implies, and_true, Bool.and_eq_true]
      intro ⟨g1, g2, g3, g4⟩
      exact absurd (h1.2 ⟨by omega, by omega, g3⟩) (by simp)
    | true =>
      have e := h2 hw
      obtain ⟨g1, g2, g3⟩ := h1.1 hw
      obtain ⟨k1, k2⟩ := ih2 (fun x hx => h x (by simp [hx])) d (wk f a d left).1 hd (by omega)
      simp only [if_true]
      rw [k1]
      refine ⟨⟨fun ⟨q1, q2, q3⟩ => ⟨by omega, by omega, by simp [g3, q3]⟩, fun ⟨q1, q2, q3⟩ => ⟨by omega, by omega, by simp [g3] at q3; exact q3⟩⟩, fun hh => ?_⟩
      rw [k2 (k1.2 hh)]; omega
theorem wk_counts {D : Int} {f : Int → Tm → Int → Int × Bool} {q : Tm → Bool} (hf : Counts D f q) (t : Tm) : ∀ (d left : Int), 0 ≤ left →
    ((wk f t d left).2 = true ↔ (sz t : Int) ≤ left ∧ d + dp t ≤ D + 1 ∧ allN q t = true) ∧ ((wk f t d left).2 = true → (wk f t d left).1 = left - sz t) := by
  induction t using Tm.ind with
  | h k n l ih =>
    intro d left hlft
    simp only [wk, hf left _ d, allN]
    cases hb : (decide (0 ≤ left - 1) && decide (d ≤ D) && q (.node k n l)) with
    | false =>
      simp only [Bool.false_eq_true, if_false, false_iff, false_implies, and_true]
      intro ⟨g1, g2, g3⟩
      simp only [sz, dp, Bool.and_eq_true] at g1 g2 g3
      have : (decide (0 ≤ left - 1) && decide (d ≤ D) && q (.node k n l)) = true := by
        simp only [Bool.and_eq_true, decide_eq_true_eq]; exact ⟨⟨by omega, by omega⟩, g3.1⟩
      rw [hb] at this; cases this
    | true =>
      simp only [Bool.and_eq_true, decide_eq_true_eq] at hb
      obtain ⟨⟨b1, b2⟩, b3⟩ := hb
      obtain ⟨k1, k2⟩ := wkL_counts_of l ih (d + 1) (left - 1) (by omega) (by omega)
      simp only [if_true, sz, dp, b3, Bool.true_and]
      rw [k1]
      exact ⟨⟨fun ⟨q1, q2, q3⟩ => ⟨by omega, by omega, q3⟩, fun ⟨q1, q2, q3⟩ => ⟨by omega, by omega, q3⟩⟩, fun hh => by rw [k2 (k1.2 hh)]; omega⟩
theorem wkL_counts {D : Int} {f : Int → Tm → Int → Int × Bool} {q : Tm → Bool} (hf : Counts D f q) (l : List Tm) (d left : Int) (hd : d ≤ D + 1) (h0 : 0 ≤ left) :
    ((wkL f l d left).2 = true ↔ (szL l : Int) ≤ left ∧ d + dpL l ≤ D + 1 ∧ allNL q l = true) ∧ ((wkL f l d left).2 = true → (wkL f l d left).1 = left - szL l) :=
  wkL_counts_of l (fun x _ => wk_counts hf x) d left hd h0
theorem allN_true (t : Tm) : allN (fun _ => true) t = true := by
  induction t using Tm.ind with
  | h k n l ih => simp only [allN, Bool.true_and]; rw [allNL_iff]; exact ih
/-- The law's few: not too many nodes, not too deep. -/
def fewS (left : Int) (_ : Tm) (d : Int) : Int × Bool := (left - 1, decide (0 ≤ left - 1) && decide (d ≤ 1000))
def few (l : List Tm) : Bool := (wkL fewS l 1 6000).2
theorem few_iff (l : List Tm) : few l = true ↔ szL l ≤ 6000 ∧ dpL l ≤ 1000 := by
  have h := (wkL_counts (D := 1000) (f := fewS) (q := fun _ => true) (fun s t d => by simp [fewS]) l 1 6000 (by omega) (by omega)).1
  have ha : allNL (fun _ => true) l = true := by
    rw [allNL_iff]; exact fun x _ => allN_true x
  unfold few
  rw [h, ha]
  simp; omega
/-- A tree that is right. -/
def good (t : Tm) : Bool := decide (sz t ≤ 2000) && decide (dp t ≤ 200) && allN okN t
theorem allN_and (p q : Tm → Bool) (t : Tm) : allN (fun x => p x && q x) t = (allN p t && allN q t) := by
  induction t using Tm.ind with
  | h k n l ih =>
    have hl : allNL (fun x => p x && q x) l = (allNL p l && allNL q l) := by
      rw [Bool.eq_iff_iff]; simp only [allNL_iff, Bool.and_eq_true]
      exact ⟨fun h => ⟨fun x hx => by have := h x hx; rw [ih x hx] at this; simp at this; exact this.1, fun x hx => by have := h x hx; rw [ih x hx] at this; simp at this; exact this.2⟩, fun h x hx => by rw [ih x hx]; simp [h.1 x hx, h.2 x hx]⟩
    simp only [allN, hl]
    cases p (.node k n l) <;> cases q (.node k n l) <;> simp [Bool.and_comm]
theorem isT_eq (p : Tm → Bool) (t : Tm) : isT p t = (good t && allN p t) := by
  have h := (wk_counts (D := 200) (f := askS p) (q := fun x => okN x && p x) (fun s t d => by simp [askS, Bool.and_assoc]) t 1 2000 (by omega)).1
  rw [allN_and] at h
  unfold isT good
  rw [Bool.eq_iff_iff, h]
  simp only [Bool.and_eq_true, decide_eq_true_eq]
  exact ⟨fun ⟨a, b, c, d⟩ => ⟨⟨⟨by omega, by omega⟩, c⟩, d⟩, fun ⟨⟨⟨a, b⟩, c⟩, d⟩ => ⟨by omega, by omega, c, d⟩⟩
end Go.Tr

/- Variables, plainly. -/
namespace Go.Tr

def stepV (vs : List Int) (t : Tm) (_ : Int) : List Int × Bool := (if t.k == 1 && !vs.contains t.n then vs ++ [t.n] else vs, true)
/-- The variables of a list of trees, behind those that were met. -/
def varsL (l : List Tm) (vs : List Int) : List Int := (wkL stepV l 1 vs).1
def vars (l : List Tm) : List Int := varsL l []
theorem wkL_stepV (l : List Tm) : ∀ (d : Int) (vs : List Int), (∀ x ∈ l, ∀ d vs, (wk stepV x d vs).2 = true) → (wkL stepV l d vs).2 = true := by
  induction l with
  | nil => intro d vs _; rfl
  | cons a r ih => intro d vs h; simp only [wkL, h a (by simp), if_true]; exact ih _ _ (fun x hx => h x (by simp [hx]))
theorem wk_stepV (t : Tm) : ∀ (d : Int) (vs : List Int), (wk stepV t d vs).2 = true := by
  induction t using Tm.ind with
  | h k n l ih => intro d vs; simp only [wk, stepV, if_true]; exact wkL_stepV l _ _ ih
theorem wkL_stepV' (l : List Tm) (d : Int) (vs : List Int) : (wkL stepV l d vs).2 = true := wkL_stepV l d vs (fun x _ => wk_stepV x)

mutual
/-- A tree with trees in the places of its variables. -/
def repT (g : Int → Tm) : Tm → Tm
  | .node k n l => if k = 1 then g n else .node k n (repL g l)
def repL (g : Int → Tm) : List Tm → List Tm
  | [] => []
  | t :: r => repT g t :: repL g r
end
theorem repL_map (g : Int → Tm) (l : List Tm) : repL g l = l.map (repT g) := by
  induction l with
  | nil => rfl
  | cons a r ih => simp [repL, ih]
theorem repT_var (g : Int → Tm) (t : Tm) (h : t.k = 1) : repT g t = g t.n := by
  obtain ⟨k, n, l⟩ := t
  simp only [Tm.k] at h
  simp [repT, h, Tm.n]
theorem repT_op (g : Int → Tm) (t : Tm) (h : t.k ≠ 1) : repT g t = .node t.k t.n (t.l.map (repT g)) := by
  obtain ⟨k, n, l⟩ := t
  simp only [Tm.k] at h
  simp [repT, h, Tm.n, Tm.k, Tm.l, repL_map]
theorem len_szL (l : List Tm) : l.length ≤ szL l := by
  induction l with
  | nil => simp [szL]
  | cons a r ih => simp only [szL, List.length_cons]; have := sz_pos a; omega
end Go.Tr

/- Substitution, plainly. -/
namespace Go.Tr

def fitS (left : Int) (_ : Tm) (d : Int) : Int × Bool := (left - 1, decide (0 ≤ left - 1) && decide (d ≤ 200))
theorem fitS_counts : Counts 200 fitS (fun _ => true) := fun s t d => by simp [fitS]
theorem wk_fitS (t : Tm) (d left : Int) (h0 : 0 ≤ left) : ((wk fitS t d left).2 = true ↔ (sz t : Int) ≤ left ∧ d + dp t ≤ 201) ∧ ((wk fitS t d left).2 = true → (wk fitS t d left).1 = left - sz t) := by
  obtain ⟨h1, h2⟩ := wk_counts fitS_counts t d left h0
  rw [allN_true] at h1
  exact ⟨by rw [h1]; simp, h2⟩
/-- The step of grown: a variable counts as much as what stands in its place. -/
def growS (g : Int → Tm) (left : Int) (t : Tm) (d : Int) : Int × Bool := if t.k = 1 then wk fitS (g t.n) d left else fitS left t d
theorem wkL_growS {g : Int → Tm} : ∀ (l : List Tm), (∀ x ∈ l, ∀ (d left : Int), 0 ≤ left → ((wk (growS g) x d left).2 = true ↔ (sz (repT g x) : Int) ≤ left ∧ d + dp (repT g x) ≤ 201) ∧ ((wk (growS g) x d left).2 = true → (wk (growS g) x d left).1 = left - sz (repT g x))) →
    ∀ (d left : Int), d ≤ 201 → 0 ≤ left → ((wkL (growS g) l d left).2 = true ↔ (szL (repL g l) : Int) ≤ left ∧ d + dpL (repL g l) ≤ 201) ∧ ((wkL (growS g) l d left).2 = true → (wkL (growS g) l d left).1 = left - szL (repL g l)) := by
  intro l
  induction l with
  | nil => intro _ d left hd hlft; simp [wkL, szL, dpL, repL]; omega
  | cons a r ih2 =>
    intro h d left hd hlft
    obtain ⟨h1, h2⟩ := h a (by simp) d left hlft
    simp only [wkL, szL, dpL, repL]
    cases hw : (wk (growS g) a d left).2 with
    | false =>
      rw [hw] at h1
      simp only [Bool.false_eq_true, if_false, false_iff, false_implies, and_true]
      intro ⟨g1, g2⟩
      exact absurd (h1.2 ⟨by omega, by omega⟩) (by simp)
    | true =>
      have e := h2 hw
      obtain ⟨g1, g2⟩ := h1.1 hw
      obtain ⟨k1, k2⟩ := ih2 (fun x hx => h x (by simp [hx])) d (wk (growS g) a d left).1 hd (by omega)
      simp only [if_true]
      rw [k1]
      refine ⟨⟨fun ⟨q1, q2⟩ => ⟨by omega, by omega⟩, fun ⟨q1, q2⟩ => ⟨by omega, by omega⟩⟩, fun hh => ?_⟩
      rw [k2 (k1.2 hh)]; omega
/-- A tree whose variables have nothing in them. -/
def leaf (t : Tm) : Bool := t.k != 1 || t.l.isEmpty
theorem wk_growS {g : Int → Tm} (t : Tm) (ht : allN leaf t = true) : ∀ (d left : Int), 0 ≤ left →
    ((wk (growS g) t d left).2 = true ↔ (sz (repT g t) : Int) ≤ left ∧ d + dp (repT g t) ≤ 201) ∧ ((wk (growS g) t d left).2 = true → (wk (growS g) t d left).1 = left - sz (repT g t)) := by
  induction t using Tm.ind with
  | h k n l ih =>
    intro d left hlft
    rw [allN_t, Bool.and_eq_true] at ht
    obtain ⟨hlf, hch⟩ := ht
    rw [allNL_iff] at hch
    by_cases hk : k = 1
    · have hl : l = [] := by simpa [leaf, Tm.k, Tm.l, hk] using hlf
      subst hl
      obtain ⟨h1, h2⟩ := wk_fitS (g n) d left hlft
      rw [repT_var g _ (by simpa [Tm.k] using hk)]
      have e : wk (growS g) (.node k n []) d left = wk fitS (g n) d left := by
        simp only [wk, growS, Tm.k, Tm.n, hk, if_true, wkL]
        generalize wk fitS (g n) d left = r
        obtain ⟨r1, r2⟩ := r
        cases r2 <;> rfl
      rw [e]
      exact ⟨h1, h2⟩
    · rw [repT_op g _ (by simpa [Tm.k] using hk)]
      simp only [wk, growS, Tm.k, Tm.n, Tm.l, hk, if_false, fitS, sz, dp]
      rw [← repL_map]
      cases hb : (decide (0 ≤ left - 1) && decide (d ≤ 200)) with
      | false =>
        simp only [Bool.false_eq_true, if_false, false_iff, false_implies, and_true]
        intro ⟨g1, g2⟩
        have : (decide (0 ≤ left - 1) && decide (d ≤ 200)) = true := by
          simp only [Bool.and_eq_true, decide_eq_true_eq]; exact ⟨by omega, by omega⟩
        rw [hb] at this; cases this
      | true =>
        simp only [Bool.and_eq_true, decide_eq_true_eq] at hb
        obtain ⟨k1, k2⟩ := wkL_growS l (fun x hx => ih x hx (hch x hx)) (d + 1) (left - 1) (by omega) (by omega)
        simp only [if_true]
        rw [k1]
        exact ⟨⟨fun ⟨q1, q2⟩ => ⟨by omega, by omega⟩, fun ⟨q1, q2⟩ => ⟨by omega, by omega⟩⟩, fun hh => by rw [k2 (k1.2 hh)]; omega⟩
/-- Not greater than a tree can be. -/
def fit (t : Tm) : Bool := decide (sz t ≤ 2000) && decide (dp t ≤ 200)
theorem growS_fit {g : Int → Tm} (t : Tm) (ht : allN leaf t = true) : (wk (growS g) t 1 2000).2 = fit (repT g t) := by
  rw [Bool.eq_iff_iff, (wk_growS t ht 1 2000 (by omega)).1]
  simp only [fit, Bool.and_eq_true, decide_eq_true_eq]
  omega
theorem allN_mono {p q : Tm → Bool} (h : ∀ t, p t = true → q t = true) (t : Tm) : allN p t = true → allN q t = true := by
  induction t using Tm.ind with
  | h k n l ih =>
    simp only [allN, Bool.and_eq_true, allNL_iff]
    exact fun ⟨a, b⟩ => ⟨h _ a, fun x hx => ih x hx (b x hx)⟩
theorem good_iff (t : Tm) : good t = true ↔ sz t ≤ 2000 ∧ dp t ≤ 200 ∧ allN okN t = true := by simp [good, and_assoc]
theorem good_leaf {t : Tm} (h : good t = true) : allN leaf t = true := by
  refine allN_mono (fun x hx => ?_) t ((good_iff t).1 h).2.2
  simp only [okN, leaf, Bool.or_eq_true, Bool.and_eq_true, beq_iff_eq, bne_iff_ne, ne_eq, decide_eq_true_eq] at hx ⊢
  rcases hx with ⟨-, h⟩ | ⟨⟨h, -⟩, -⟩
  · exact .inr h
  · exact .inl (by omega)
/-- The greatest of a list of numbers, -1 of none. -/
def most (l : List Int) : Int := l.foldl max (-1)
theorem foldl_max_ge (l : List Int) : ∀ (a : Int), a ≤ l.foldl max a ∧ ∀ x ∈ l, x ≤ l.foldl max a := by
  induction l with
  | nil => intro a; simp
  | cons b r ih =>
    intro a
    obtain ⟨h1, h2⟩ := ih (max a b)
    simp only [List.foldl_cons]
    refine ⟨by omega, fun x hx => ?_⟩
    rcases List.mem_cons.1 hx with rfl | hx
    · omega
    · exact h2 x hx
theorem foldl_max_in (l : List Int) : ∀ (a : Int), l.foldl max a = a ∨ l.foldl max a ∈ l := by
  induction l with
  | nil => intro a; simp
  | cons b r ih =>
    intro a
    simp only [List.foldl_cons]
    rcases ih (max a b) with h | h
    · rcases Int.le_total a b with h' | h'
      · rw [h, Int.max_eq_right h']; right; simp
      · rw [h, Int.max_eq_left h']; left; rfl
    · right; exact List.mem_cons_of_mem _ h
theorem most_mem {l : List Int} {x : Int} (h : x ∈ l) : x ≤ most l := (foldl_max_ge l _).2 x h
theorem most_ge (l : List Int) : -1 ≤ most l := (foldl_max_ge l _).1
theorem most_in (l : List Int) : most l = -1 ∨ most l ∈ l := foldl_max_in l _

/-! the variables that there are -/
theorem stepV_mem (vs : List Int) (t : Tm) (d : Int) (n : Int) : n ∈ (stepV vs t d).1 ↔ n ∈ vs ∨ (t.k = 1 ∧ n = t.n) := by
  unfold stepV
  by_cases hk : t.k = 1
  · cases hc : vs.contains t.n with
    | true =>
      simp only [Bool.not_true, Bool.and_false, Bool.false_eq_true, if_false]
      have hm : t.n ∈ vs := by simpa using hc
      exact ⟨.inl, fun h => h.elim id (fun h => h.2 ▸ hm)⟩
    | false => simp [hk]
  · simp [hk]
mutual
def occ (n : Int) : Tm → Bool
  | .node k m l => (k == 1 && m == n) || occL n l
def occL (n : Int) : List Tm → Bool
  | [] => false
  | t :: r => occ n t || occL n r
end
theorem occL_iff (n : Int) (l : List Tm) : occL n l = true ↔ ∃ x ∈ l, occ n x = true := by
  induction l with
  | nil => simp [occL]
  | cons a r ih => simp [occL, ih]
theorem wkL_mem (l : List Tm) (n : Int) : (∀ x ∈ l, ∀ d vs, n ∈ (wk stepV x d vs).1 ↔ n ∈ vs ∨ occ n x = true) → ∀ d vs, n ∈ (wkL stepV l d vs).1 ↔ n ∈ vs ∨ occL n l = true := by
  induction l with
  | nil => intro _ d vs; simp [wkL, occL]
  | cons a r ih =>
    intro h d vs
    simp only [wkL, wk_stepV, if_true, occL, Bool.or_eq_true]
    rw [ih (fun x hx => h x (by simp [hx])), h a (by simp), or_assoc]
theorem wk_mem (t : Tm) (n : Int) : ∀ d vs, n ∈ (wk stepV t d vs).1 ↔ n ∈ vs ∨ occ n t = true := by
  induction t using Tm.ind with
  | h k m l ih =>
    intro d vs
    have e : (stepV vs (.node k m l) d).2 = true := rfl
    simp only [wk, e, if_true, occ, Bool.or_eq_true, Bool.and_eq_true, beq_iff_eq]
    rw [wkL_mem l n ih, stepV_mem]
    simp only [Tm.k, Tm.n]
    constructor
    · rintro ((h | ⟨h, h'⟩) | h)
      · exact .inl h
      · exact .inr (.inl ⟨h, h'.symm⟩)
      · exact .inr (.inr h)
    · rintro (h | ⟨h, h'⟩ | h)
      · exact .inl (.inl h)
      · exact .inl (.inr ⟨h, h'.symm⟩)
      · exact .inr h
theorem vars_mem (l : List Tm) (n : Int) : n ∈ vars l ↔ occL n l = true := by
  unfold vars varsL
  rw [wkL_mem l n (fun x _ => wk_mem x n)]; simp
theorem allN_occ {p : Int → Bool} (t : Tm) (h : ∀ n, occ n t = true → p n = true) : allN (fun x => x.k != 1 || p x.n) t = true := by
  induction t using Tm.ind with
  | h k m l ih =>
    simp only [allN, Bool.and_eq_true, allNL_iff, Tm.k, Tm.n, Bool.or_eq_true, bne_iff_ne, ne_eq]
    refine ⟨?_, fun x hx => ih x hx (fun n hn => h n ?_)⟩
    · by_cases hk : k = 1
      · exact .inr (h m (by simp [occ, hk]))
      · exact .inl hk
    · simp only [occ, Bool.or_eq_true]; exact .inr ((occL_iff n l).2 ⟨x, hx, hn⟩)
theorem occ_nonneg (t : Tm) : allN okN t = true → ∀ n, occ n t = true → 0 ≤ n := by
  induction t using Tm.ind with
  | h k m l ih =>
    intro h n hn
    simp only [allN, Bool.and_eq_true, allNL_iff] at h
    simp only [occ, Bool.or_eq_true, Bool.and_eq_true, beq_iff_eq] at hn
    rcases hn with ⟨hk, rfl⟩ | hn
    · have := h.1
      simp only [okN, Tm.k, Tm.n, Bool.or_eq_true, Bool.and_eq_true, beq_iff_eq, decide_eq_true_eq] at this
      rcases this with h | h
      · exact of_decide_eq_true h.1.2
      · exact of_decide_eq_true h.1.2
    · obtain ⟨x, hx, hxn⟩ := (occL_iff n l).1 hn
      exact ih x hx (h.2 x hx) n hxn
def inRange (k : Nat) (n : Int) : Bool := decide (0 ≤ n) && decide (n < k)
theorem vars_one (t : Tm) (n : Int) : n ∈ vars [t] ↔ occ n t = true := by rw [vars_mem]; simp [occL]
theorem range_of {t : Tm} (ht : good t = true) {k : Nat} (h : most (vars [t]) < k) : allN (fun x => x.k != 1 || inRange k x.n) t = true :=
  allN_occ t (fun n hn => by
    have h1 := occ_nonneg t ((good_iff t).1 ht).2.2 n hn
    have h2 := most_mem ((vars_one t n).2 hn)
    simp only [inRange, Bool.and_eq_true, decide_eq_true_eq]; omega)
/-- A tree with the elements of a list in the places of its variables. -/
def substT (l : List Tm) (t : Tm) : Tm := repT (fun n => l.getD n.toNat default) t
def substE (t : Tm) (l : List Tm) : Int := if good t && l.all good then (if (l.length : Int) ≤ most (vars [t]) then 1 else if fit (substT l t) then 0 else 2) else 4
def var (n : Int) : Tm := .node 1 n []
def shiftN (from_ by_ n : Int) : Int := if n < from_ then n else n + by_
/-- May a variable be moved? -/
def shiftP (from_ by_ n : Int) : Bool := decide (n < from_) || (decide (from_ - n ≤ by_) && decide (by_ ≤ 1000000 - n))
def shiftT (from_ by_ : Int) (t : Tm) : Tm := repT (fun n => var (shiftN from_ by_ n)) t
def shiftE (t : Tm) (from_ by_ : Int) : Int := if good t then (if from_ < 0 then 1 else if (vars [t]).all (shiftP from_ by_) then 0 else 1) else 4
theorem allN_vars {p : Int → Bool} {t : Tm} (h : (vars [t]).all p = true) : allN (fun x => x.k != 1 || p x.n) t = true :=
  allN_occ t (fun n hn => List.all_eq_true.1 h n ((vars_one t n).2 hn))
theorem sz_var (n : Int) : sz (var n) = 1 := rfl
end Go.Tr

/- Numbering, plainly. -/
namespace Go.Tr

theorem stepV_nodup {vs : List Int} {t : Tm} {d : Int} (h : vs.Nodup) : (stepV vs t d).1.Nodup := by
  unfold stepV
  split
  · rename_i hc
    simp only [Bool.and_eq_true, Bool.not_eq_true'] at hc
    have hn : t.n ∉ vs := by have := hc.2; simpa using this
    rw [List.nodup_append]
    exact ⟨h, by simp, fun a ha b hb => by simp at hb; subst hb; exact fun e => hn (e ▸ ha)⟩
  · exact h
theorem wkL_nodup (l : List Tm) : (∀ x ∈ l, ∀ d vs, vs.Nodup → (wk stepV x d vs).1.Nodup) → ∀ d vs, vs.Nodup → (wkL stepV l d vs).1.Nodup := by
  induction l with
  | nil => intro _ d vs h; exact h
  | cons a r ih =>
    intro h d vs hv
    simp only [wkL, wk_stepV, if_true]
    exact ih (fun x hx => h x (by simp [hx])) d _ (h a (by simp) d vs hv)
theorem wk_nodup (t : Tm) : ∀ d vs, vs.Nodup → (wk stepV t d vs).1.Nodup := by
  induction t using Tm.ind with
  | h k m l ih =>
    intro d vs hv
    have e : (stepV vs (.node k m l) d).2 = true := rfl
    simp only [wk, e, if_true]
    exact wkL_nodup l ih _ _ (stepV_nodup hv)
theorem vars_nodup (l : List Tm) : (vars l).Nodup := wkL_nodup l (fun x _ => wk_nodup x) 1 [] (by simp)
/-- Where a number stands in a list. -/
def idx (vs : List Int) (n : Int) : Int := (vs.idxOf n : Nat)
/-- A tree whose variables are numbered by a list. -/
def numT (vs : List Int) (t : Tm) : Tm := repT (fun n => var (idx vs n)) t
theorem good_dpL {l : List Tm} (h : l.all good = true) : dpL l ≤ 200 := by
  induction l with
  | nil => simp [dpL]
  | cons a r ih =>
    simp only [List.all_cons, Bool.and_eq_true] at h
    have := ((good_iff a).1 h.1).2.1
    have := ih h.2
    simp only [dpL]; omega
theorem vars_occ {l : List Tm} {t : Tm} (ht : t ∈ l) {n : Int} (h : occ n t = true) : n ∈ vars l := (vars_mem l n).2 ((occL_iff n l).2 ⟨t, ht, h⟩)
theorem stepV_len (vs : List Int) (t : Tm) (d : Int) : (stepV vs t d).1.length ≤ vs.length + 1 := by
  unfold stepV; split <;> simp
theorem wkL_len (l : List Tm) : (∀ x ∈ l, ∀ d vs, (wk stepV x d vs).1.length ≤ vs.length + sz x) → ∀ d vs, (wkL stepV l d vs).1.length ≤ vs.length + szL l := by
  induction l with
  | nil => intro _ d vs; simp [wkL, szL]
  | cons a r ih =>
    intro h d vs
    simp only [wkL, wk_stepV, if_true, szL]
    have h1 := ih (fun x hx => h x (by simp [hx])) d (wk stepV a d vs).1
    have h2 := h a (by simp) d vs
    omega
theorem wk_len (t : Tm) : ∀ d vs, (wk stepV t d vs).1.length ≤ vs.length + sz t := by
  induction t using Tm.ind with
  | h k m l ih =>
    intro d vs
    have e : (stepV vs (.node k m l) d).2 = true := rfl
    simp only [wk, e, if_true, sz]
    have h1 := wkL_len l ih (d + 1) (stepV vs (.node k m l) d).1
    have h2 := stepV_len vs (.node k m l) d
    omega
theorem vars_len (l : List Tm) : (vars l).length ≤ szL l := by
  have := wkL_len l (fun x _ => wk_len x) 1 []
  simpa [vars, varsL] using this
end Go.Tr

/- Matching, plainly. -/
namespace Go.Tr

def zeroT : Tm := .node 0 0 []
mutual
def matchT : Tm → Tm → List Tm → List Tm × Bool
  | .node k n pl, t, l =>
    if k = 1 then (if (l.getD n.toNat default).k ≠ 0 then (l, eqT (l.getD n.toNat default) t) else (l.set n.toNat t, true))
    else if k = t.k ∧ n = t.n ∧ pl.length = t.l.length then matchL pl t.l l else (l, false)
def matchL : List Tm → List Tm → List Tm → List Tm × Bool
  | [], _, l => (l, true)
  | _ :: _, [], l => (l, false)
  | a :: r, b :: r', l => if (matchT a b l).2 then matchL r r' (matchT a b l).1 else ((matchT a b l).1, false)
end
theorem matchT_p (p t : Tm) (l : List Tm) : matchT p t l = if p.k = 1 then (if (l.getD p.n.toNat default).k ≠ 0 then (l, eqT (l.getD p.n.toNat default) t) else (l.set p.n.toNat t, true))
    else if p.k = t.k ∧ p.n = t.n ∧ p.l.length = t.l.length then matchL p.l t.l l else (l, false) := by cases p; rfl
theorem matchT_len (p : Tm) : ∀ t l, (matchT p t l).1.length = l.length := by
  induction p using Tm.ind with
  | h k n pl ih =>
    intro t l
    have hl : ∀ (pl : List Tm), (∀ x ∈ pl, ∀ t l, (matchT x t l).1.length = l.length) → ∀ tl l, (matchL pl tl l).1.length = l.length := by
      intro pl
      induction pl with
      | nil => intro _ tl l; rfl
      | cons a r ih2 =>
        intro h tl l
        cases tl with
        | nil => rfl
        | cons b r' =>
          simp only [matchL]
          split
          · rw [ih2 (fun x hx => h x (by simp [hx])), h a (by simp)]
          · exact h a (by simp) b l
    rw [matchT_p]
    by_cases h1 : (Tm.node k n pl).k = 1
    · rw [if_pos h1]
      by_cases h2 : (l.getD (Tm.node k n pl).n.toNat default).k ≠ 0
      · rw [if_pos h2]
      · rw [if_neg h2]; simp
    · rw [if_neg h1]
      by_cases h2 : (Tm.node k n pl).k = t.k ∧ (Tm.node k n pl).n = t.n ∧ (Tm.node k n pl).l.length = t.l.length
      · rw [if_pos h2]; exact hl pl ih _ _
      · rw [if_neg h2]
theorem matchT_elems (p : Tm) : ∀ t l, ∀ x ∈ (matchT p t l).1, x ∈ l ∨ sz x ≤ sz t := by
  induction p using Tm.ind with
  | h k n pl ih =>
    intro t l
    have hl : ∀ (pl : List Tm), (∀ x ∈ pl, ∀ t l, ∀ y ∈ (matchT x t l).1, y ∈ l ∨ sz y ≤ sz t) → ∀ tl l, ∀ y ∈ (matchL pl tl l).1, y ∈ l ∨ sz y ≤ szL tl := by
      intro pl
      induction pl with
      | nil => intro _ tl l y hy; exact .inl hy
      | cons a r ih2 =>
        intro h tl l y hy
        cases tl with
        | nil => exact .inl hy
        | cons b r' =>
          simp only [matchL, szL] at hy ⊢
          split at hy
          · rcases ih2 (fun x hx => h x (by simp [hx])) r' _ y hy with h1 | h1
            · rcases h a (by simp) b l y h1 with h2 | h2
              · exact .inl h2
              · right; omega
            · right; omega
          · rcases h a (by simp) b l y hy with h2 | h2
            · exact .inl h2
            · right; omega
    intro x hx
    rw [matchT_p] at hx
    by_cases h1 : (Tm.node k n pl).k = 1
    · rw [if_pos h1] at hx
      by_cases h2 : (l.getD (Tm.node k n pl).n.toNat default).k ≠ 0
      · rw [if_pos h2] at hx; exact .inl hx
      · rw [if_neg h2] at hx
        rcases List.mem_or_eq_of_mem_set hx with h | h
        · exact .inl h
        · right; rw [h]; exact Nat.le_refl _
    · rw [if_neg h1] at hx
      by_cases h2 : (Tm.node k n pl).k = t.k ∧ (Tm.node k n pl).n = t.n ∧ (Tm.node k n pl).l.length = t.l.length
      · rw [if_pos h2] at hx
        rcases hl pl ih _ _ x hx with h | h
        · exact .inl h
        · right; have := sz_l t; omega
      · rw [if_neg h2] at hx; exact .inl hx
def matchN (p : Tm) : Nat := (most (vars [p]) + 1).toNat
def matchR (p t : Tm) : List Tm × Bool := matchT p t (List.replicate (matchN p) zeroT)
end Go.Tr

/- Unification, plainly: with a number that falls. -/
namespace Go.Tr

abbrev Bec := List (Int × Tm)
def fndT (n : Int) : Bec → Option Tm
  | [] => none
  | x :: r => if n == x.1 then some x.2 else fndT n r
/-- What a tree is as far as its root. -/
def rootF (b : Bec) : Nat → Tm → Option Tm
  | 0, _ => none
  | f + 1, t => if t.k = 1 then (match fndT t.n b with
    | none => some t
    | some u => rootF b f u) else some t
theorem rootF_op {b : Bec} {f : Nat} {t : Tm} (h : t.k ≠ 1) : rootF b (f + 1) t = some t := by simp [rootF, h]
theorem rootF_none {b : Bec} {f : Nat} {t : Tm} (h : t.k = 1) (h2 : fndT t.n b = none) : rootF b (f + 1) t = some t := by simp [rootF, h, h2]
theorem rootF_some {b : Bec} {f : Nat} {t u : Tm} (h : t.k = 1) (h2 : fndT t.n b = some u) : rootF b (f + 1) t = rootF b f u := by simp [rootF, h, h2]
/-- Does a variable not occur within a tree, with everything put in? The step: which variables were met. -/
def occS (b : Bec) (tgt : Int) : Nat → List Int → Tm → Int → List Int × Bool
  | 0 => fun met _ _ => (met, true)
  | f + 1 => fun met t d => if t.k ≠ 1 ∨ t.n ∈ met then (met, true) else if t.n = tgt then (met ++ [t.n], false) else wk (occS b tgt f) ((fndT t.n b).getD zeroT) d (met ++ [t.n])
def rem : Bec → List Int → Nat
  | [], _ => 0
  | x :: r, met => (if x.1 ∈ met then 0 else 1) + rem r met
theorem rem_le (b : Bec) (met : List Int) : rem b met ≤ b.length := by
  induction b with
  | nil => simp [rem]
  | cons a r ih => simp only [rem, List.length_cons]; split <;> omega
theorem rem_mono {b : Bec} {m m' : List Int} (h : ∀ x ∈ m, x ∈ m') : rem b m' ≤ rem b m := by
  induction b with
  | nil => simp [rem]
  | cons a r ih =>
    simp only [rem]
    by_cases h1 : a.1 ∈ m
    · have h2 := h _ h1
      rw [if_pos h1, if_pos h2]; omega
    · rw [if_neg h1]; split <;> omega
theorem rem_lt {b : Bec} {m : List Int} {n : Int} {u : Tm} (h : fndT n b = some u) (hn : n ∉ m) : rem b (m ++ [n]) < rem b m := by
  induction b with
  | nil => cases h
  | cons a r ih =>
    simp only [fndT] at h
    have hle : rem r (m ++ [n]) ≤ rem r m := rem_mono (fun x hx => by simp [hx])
    simp only [rem]
    by_cases ha : n = a.1
    · rw [← ha, if_pos (by simp), if_neg hn]; omega
    · have hb : (n == a.1) = false := by simpa using ha
      rw [hb] at h
      simp only [Bool.false_eq_true, if_false] at h
      have := ih h
      by_cases hm : a.1 ∈ m
      · rw [if_pos (by simp [hm]), if_pos hm]; omega
      · rw [if_neg (by simp [hm]; exact fun e => ha e.symm), if_neg hm]; omega
theorem wkL_sub {f : List Int → Tm → Int → List Int × Bool} (l : List Tm) : (∀ x ∈ l, ∀ d s, ∀ y ∈ s, y ∈ (wk f x d s).1) → ∀ d s, ∀ y ∈ s, y ∈ (wkL f l d s).1 := by
  induction l with
  | nil => intro _ d s y hy; exact hy
  | cons a r ih =>
    intro h d s y hy
    simp only [wkL]
    have h1 := h a (by simp) d s y hy
    split
    · exact ih (fun x hx => h x (by simp [hx])) d _ y h1
    · exact h1
theorem wk_sub {f : List Int → Tm → Int → List Int × Bool} (hf : ∀ s t d, ∀ y ∈ s, y ∈ (f s t d).1) (t : Tm) : ∀ d s, ∀ y ∈ s, y ∈ (wk f t d s).1 := by
  induction t using Tm.ind with
  | h k n l ih =>
    intro d s y hy
    simp only [wk]
    have h1 := hf s (.node k n l) d y hy
    split
    · exact wkL_sub l ih _ _ y h1
    · exact h1
theorem occS_sub (b : Bec) (tgt : Int) (f : Nat) : ∀ s t d, ∀ y ∈ s, y ∈ (occS b tgt f s t d).1 := by
  induction f with
  | zero => intro s t d y hy; exact hy
  | succ f ih =>
    intro s t d y hy
    simp only [occS]
    split
    · exact hy
    · split
      · simp [hy]
      · exact wk_sub ih _ d _ y (by simp [hy])
def okO (b : Bec) (f : Nat) (s : List Int) (_ : Nat) : Prop := rem b s < f
def occB (b : Bec) (tgt : Int) (t : Tm) : Bool := !(wk (occS b tgt (b.length + 1)) t 1 []).2
end Go.Tr

/- Unification, plainly: looking at pairs. -/
namespace Go.Tr

/-- A tree as the unifier meets it. -/
def okT (t : Tm) : Prop := allN okN t = true ∧ dp t ≤ 200 ∧ sz t ≤ 2000
theorem okT_mem {t x : Tm} (h : okT t) (hx : x ∈ t.l) : okT x := by
  obtain ⟨h1, h2, h3⟩ := h
  rw [allN_t, Bool.and_eq_true] at h1
  refine ⟨(allNL_iff _ _).1 h1.2 x hx, ?_, ?_⟩
  · have := dp_mem hx; have := dp_l t; omega
  · have := sz_mem hx; have := sz_l t; omega
theorem okT_good {t : Tm} (h : okT t) : good t = true := by
  obtain ⟨h1, h2, h3⟩ := h
  simp [good, h1, h2, h3]
theorem good_okT {t : Tm} (h : good t = true) : okT t := by
  simp only [good, Bool.and_eq_true, decide_eq_true_eq] at h
  exact ⟨h.2, h.1.2, h.1.1⟩
theorem okT_var {t : Tm} (h : okT t) (hk : t.k = 1) : t.l = [] := by
  have h1 := h.1
  rw [allN_t, Bool.and_eq_true] at h1
  have h2 := h1.1
  simp only [okN, hk, Bool.or_eq_true, Bool.and_eq_true] at h2
  simp at h2
  exact h2.2
theorem fndT_ix {n : Int} {u : Tm} : ∀ {b : Bec}, fndT n b = some u → ∃ (i : Nat) (h : i < b.length), b[i].1 = n ∧ b[i].2 = u
  | [], h => by cases h
  | x :: r, h => by
    simp only [fndT] at h
    split at h
    · rename_i hn; cases h; exact ⟨0, by simp, by simp only [List.getElem_cons_zero]; exact (beq_iff_eq.1 hn).symm, rfl⟩
    · obtain ⟨i, hi, h1, h2⟩ := fndT_ix h
      exact ⟨i + 1, by simp; omega, by simpa using h1, by simpa using h2⟩
theorem fndT_none {n : Int} : ∀ {b : Bec}, fndT n b = none → ∀ x ∈ b, x.1 ≠ n
  | [], _, x, hx => by cases hx
  | y :: r, h, x, hx => by
    simp only [fndT] at h
    split at h
    · cases h
    · rename_i hn
      rcases List.mem_cons.1 hx with rfl | hx
      · intro e; exact hn (by simp [e])
      · exact fndT_none h x hx
theorem fndT_none_iff {n : Int} {b : Bec} : fndT n b = none ↔ ∀ x ∈ b, x.1 ≠ n := by
  refine ⟨fndT_none, fun h => ?_⟩
  cases hf : fndT n b with
  | none => rfl
  | some u => obtain ⟨i, hi, h1, -⟩ := fndT_ix hf; exact absurd h1 (h _ (List.getElem_mem hi))
theorem fndT_mem {n : Int} {u : Tm} {b : Bec} (h : fndT n b = some u) : ∃ x ∈ b, x.2 = u := by
  obtain ⟨i, hi, -, h2⟩ := fndT_ix h
  exact ⟨b[i], List.getElem_mem hi, h2⟩
/-- A variable becomes a tree whose root was none of those that became something by then, nor itself. -/
def Acyc (b : Bec) : Prop := ∀ i (_ : i < b.length), b[i].2.k = 1 → ∀ j (_ : j < b.length), j ≤ i → b[j].1 ≠ b[i].2.n
theorem rootF_ex {b : Bec} (hb : Acyc b) (f : Nat) : ∀ t, (t.k = 1 → ∀ j (_ : j < b.length), j + f < b.length → b[j].1 ≠ t.n) → ∃ r, rootF b (f + 1) t = some r ∧ (r.k = 1 → fndT r.n b = none) ∧ (r = t ∨ ∃ x ∈ b, x.2 = r) := by
  induction f with
  | zero =>
    intro t ht
    by_cases hk : t.k = 1
    · have hn : fndT t.n b = none := fndT_none_iff.2 (fun x hx => by
        obtain ⟨j, hj, rfl⟩ := List.getElem_of_mem hx
        exact ht hk j hj (by omega))
      exact ⟨t, rootF_none hk hn, fun _ => hn, .inl rfl⟩
    · exact ⟨t, rootF_op hk, fun h => absurd h hk, .inl rfl⟩
  | succ f ih =>
    intro t ht
    by_cases hk : t.k = 1
    · cases hn : fndT t.n b with
      | none => exact ⟨t, rootF_none hk hn, fun _ => hn, .inl rfl⟩
      | some u =>
        obtain ⟨i, hi, h1, rfl⟩ := fndT_ix hn
        have hif : b.length ≤ i + (f + 1) := by
          apply Nat.le_of_not_lt
          intro hlt
          exact ht hk i hi hlt h1
        obtain ⟨r, h2, h3, h4⟩ := ih b[i].2 (fun hk2 j hj hjf => hb i hi hk2 j hj (by omega))
        rw [rootF_some hk hn]
        refine ⟨r, h2, h3, .inr ?_⟩
        rcases h4 with rfl | h4
        · exact ⟨_, List.getElem_mem hi, rfl⟩
        · exact h4
    · exact ⟨t, rootF_op hk, fun h => absurd h hk, .inl rfl⟩
def rootT (b : Bec) (t : Tm) : Tm := (rootF b (b.length + 1) t).getD t
structure WfB (b : Bec) (c : Int) : Prop where
  len : (b.length : Int) ≤ c
  ok : ∀ x ∈ b, okT x.2
  ac : Acyc b
theorem rootT_is {b : Bec} {c : Int} (hb : WfB b c) (t : Tm) (ht : okT t) : rootF b (b.length + 1) t = some (rootT b t) ∧ ((rootT b t).k = 1 → fndT (rootT b t).n b = none) ∧ okT (rootT b t) := by
  obtain ⟨r, h1, h2, h3⟩ := rootF_ex hb.ac b.length t (fun _ j _ h => by omega)
  have e : rootT b t = r := by unfold rootT; rw [h1]; rfl
  rw [e]
  refine ⟨h1, h2, ?_⟩
  rcases h3 with rfl | ⟨x, hx, rfl⟩
  · exact ht
  · exact hb.ok x hx
def sameR (a b : Tm) : Bool := a.k == b.k && a.n == b.n && decide (a.l.length = b.l.length)
def lookL (f : Bec → Int → Tm → Tm → Bec × Int × Int) : Bec → Int → List Tm → List Tm → Bec × Int × Int
  | b, c, x :: l, y :: m => if (f b c x y).2.2 = 0 then lookL f (f b c x y).1 (f b c x y).2.1 l m else f b c x y
  | b, c, _, _ => (b, c, 0)
def becT (b : Bec) (c : Int) (p q : Tm) : Bec × Int × Int := if occB b p.n q then (b, c, 3) else (b ++ [(p.n, q)], c, 0)
/-- A pair of roots. -/
def lookR (f : Bec → Int → Tm → Tm → Bec × Int × Int) (b : Bec) (c : Int) (x y : Tm) : Bec × Int × Int :=
  if x.k = 1 ∧ sameR x y then (b, c, 0)
  else if y.k = 1 ∧ (x.k ≠ 1 ∨ x.n < y.n) then becT b c y x
  else if x.k = 1 then becT b c x y
  else if sameR x y then lookL f b c x.l y.l
  else (b, c, 3)
def lookT : Nat → Bec → Int → Tm → Tm → Bec × Int × Int
  | 0 => fun b c _ _ => (b, c + 1, 2)
  | g + 1 => fun b c x y => if 20000 < c + 1 then (b, c + 1, 2) else lookR (lookT g) b (c + 1) (rootT b x) (rootT b y)
theorem acyc_snoc {b : Bec} {n : Int} {t : Tm} (hb : Acyc b) (hn : t.k = 1 → t.n ≠ n ∧ fndT t.n b = none) : Acyc (b ++ [(n, t)]) := by
  intro i hi hk j hj hji
  simp only [List.length_append, List.length_cons, List.length_nil, Nat.zero_add] at hi hj
  by_cases hil : i < b.length
  · rw [List.getElem_append_left hil] at hk ⊢
    rw [List.getElem_append_left (by omega)]
    exact hb i hil hk j (by omega) hji
  · have hie : i = b.length := by omega
    subst hie
    rw [List.getElem_append_right (Nat.le_refl _)] at hk ⊢
    simp only [Nat.sub_self, List.getElem_cons_zero] at hk ⊢
    obtain ⟨h1, h2⟩ := hn hk
    by_cases hjl : j < b.length
    · rw [List.getElem_append_left hjl]
      exact fndT_none h2 _ (List.getElem_mem hjl)
    · rw [List.getElem_append_right (by omega)]
      simp only [show j - b.length = 0 from by omega, List.getElem_cons_zero]
      exact fun e => h1 e.symm
theorem becT_wf {b : Bec} {c : Int} {p q : Tm} (hb : WfB b c) (hl : (b.length : Int) + 1 ≤ c) (hq : okT q) (hk : q.k = 1 → q.n ≠ p.n ∧ fndT q.n b = none) : WfB (becT b c p q).1 (becT b c p q).2.1 := by
  unfold becT
  split
  · exact hb
  · exact ⟨by simpa using hl, fun x hx => by
      rcases List.mem_append.1 hx with h | h
      · exact hb.ok x h
      · simp only [List.mem_cons, List.not_mem_nil, or_false] at h; subst h; exact hq, acyc_snoc hb.ac hk⟩
/-- What looking at a pair keeps. -/
def KeepsB (f : Bec → Int → Tm → Tm → Bec × Int × Int) : Prop := ∀ b c x y, WfB b c → okT x → okT y → WfB (f b c x y).1 (f b c x y).2.1 ∧ c ≤ (f b c x y).2.1
theorem lookL_wf {f : Bec → Int → Tm → Tm → Bec × Int × Int} (hf : KeepsB f) : ∀ l m b c, WfB b c → (∀ x ∈ l, okT x) → (∀ x ∈ m, okT x) → WfB (lookL f b c l m).1 (lookL f b c l m).2.1 ∧ c ≤ (lookL f b c l m).2.1
  | [], [], b, c, h, _, _ => ⟨h, Int.le_refl _⟩
  | [], _ :: _, b, c, h, _, _ => ⟨h, Int.le_refl _⟩
  | _ :: _, [], b, c, h, _, _ => ⟨h, Int.le_refl _⟩
  | x :: l, y :: m, b, c, h, hl, hm => by
    have h1 := hf b c x y h (hl x (by simp)) (hm y (by simp))
    simp only [lookL]
    split
    · have h2 := lookL_wf hf l m _ _ h1.1 (fun x hx => hl x (by simp [hx])) (fun x hx => hm x (by simp [hx]))
      exact ⟨h2.1, Int.le_trans h1.2 h2.2⟩
    · exact h1
theorem sameR_var {x y : Tm} (hx : okT x) (hy : okT y) (hkx : x.k = 1) (hky : y.k = 1) (hn : x.n = y.n) : sameR x y = true := by
  simp [sameR, hkx, hky, hn, okT_var hx hkx, okT_var hy hky]
theorem lookR_wf {f : Bec → Int → Tm → Tm → Bec × Int × Int} (hf : KeepsB f) {b : Bec} {c : Int} {x y : Tm} (hb : WfB b c) (hl : (b.length : Int) + 1 ≤ c) (hx : okT x) (hy : okT y) (hxr : x.k = 1 → fndT x.n b = none) (hyr : y.k = 1 → fndT y.n b = none) :
    WfB (lookR f b c x y).1 (lookR f b c x y).2.1 ∧ c ≤ (lookR f b c x y).2.1 := by
  have hc : ∀ p q, c ≤ (becT b c p q).2.1 := fun p q => by unfold becT; split <;> exact Int.le_refl _
  unfold lookR
  split
  · exact ⟨hb, Int.le_refl _⟩
  · rename_i h1
    split
    · rename_i h2
      refine ⟨becT_wf hb hl hx (fun hk => ⟨fun e => ?_, hxr hk⟩), hc _ _⟩
      exact h1 ⟨hk, sameR_var hx hy hk h2.1 e⟩
    · split
      · rename_i h2 h3
        refine ⟨becT_wf hb hl hy (fun hk => ⟨fun e => ?_, hyr hk⟩), hc _ _⟩
        exact h1 ⟨h3, sameR_var hx hy h3 hk e.symm⟩
      · split
        · exact lookL_wf hf _ _ _ _ hb (fun z hz => okT_mem hx hz) (fun z hz => okT_mem hy hz)
        · exact ⟨hb, Int.le_refl _⟩
theorem lookT_wf (g : Nat) : KeepsB (lookT g) := by
  induction g with
  | zero => intro b c x y hb _ _; exact ⟨⟨by have := hb.len; show (b.length : Int) ≤ c + 1; omega, hb.ok, hb.ac⟩, by show c ≤ c + 1; omega⟩
  | succ g ih =>
    intro b c x y hb hx hy
    have hb1 : WfB b (c + 1) := ⟨by have := hb.len; omega, hb.ok, hb.ac⟩
    simp only [lookT]
    split
    · exact ⟨hb1, by show c ≤ c + 1; omega⟩
    · obtain ⟨-, h2, h3⟩ := rootT_is hb x hx
      obtain ⟨-, h4, h5⟩ := rootT_is hb y hy
      have := lookR_wf ih hb1 (by have := hb.len; omega) h3 h5 h2 h4
      exact ⟨this.1, by omega⟩
def LeP (f : Bec → Int → Tm → Tm → Bec × Int × Int) : Prop := ∀ b c x y, (f b c x y).2.2 = 0 → (f b c x y).2.1 ≤ 20000
theorem lookL_le {f : Bec → Int → Tm → Tm → Bec × Int × Int} (hf : LeP f) : ∀ l m b c, c ≤ 20000 → (lookL f b c l m).2.2 = 0 → (lookL f b c l m).2.1 ≤ 20000
  | [], [], _, _, h, _ => h
  | [], _ :: _, _, _, h, _ => h
  | _ :: _, [], _, _, h, _ => h
  | x :: l, y :: m, b, c, _, he => by
    simp only [lookL] at he ⊢
    split
    · rename_i h0
      rw [if_pos h0] at he
      exact lookL_le hf l m _ _ (hf _ _ _ _ h0) he
    · rename_i h0
      rw [if_neg h0] at he
      exact absurd he h0
theorem lookT_le (g : Nat) : LeP (lookT g) := by
  induction g with
  | zero => intro b c x y h; exact absurd h (by show (2 : Int) ≠ 0; decide)
  | succ g ih =>
    intro b c x y h
    simp only [lookT] at h ⊢
    split
    · rename_i h1
      rw [if_pos h1] at h
      exact absurd h (by show ¬ (2 : Int) = 0; decide)
    · rename_i h1
      rw [if_neg h1] at h
      have hbec : ∀ p q, (becT b (c + 1) p q).2.1 = c + 1 := fun p q => by unfold becT; split <;> rfl
      unfold lookR at h ⊢
      split
      · show c + 1 ≤ 20000; omega
      · rename_i h2
        rw [if_neg h2] at h
        split
        · rw [hbec]; omega
        · rename_i h3
          rw [if_neg h3] at h
          split
          · rw [hbec]; omega
          · rename_i h4
            rw [if_neg h4] at h
            split
            · rename_i h5
              rw [if_pos h5] at h
              exact lookL_le ih _ _ _ _ (by omega) h
            · show c + 1 ≤ 20000; omega
end Go.Tr

/- What became what has no cycle. -/
namespace Go.Tr

/-- From one list of variables that were met to a later one: what is new is not the target, and what it became has been gone through. -/
def Done (b : Bec) (tgt : Int) (s s' : List Int) : Prop := (∀ x ∈ s, x ∈ s') ∧ ∀ x ∈ s', x ∉ s → x ≠ tgt ∧ ∀ u, fndT x b = some u → ∀ y, occ y u = true → y ∈ s'
theorem Done.refl (b : Bec) (tgt : Int) (s : List Int) : Done b tgt s s := ⟨fun _ h => h, fun _ h h' => absurd h h'⟩
theorem Done.trans {b : Bec} {tgt : Int} {s1 s2 s3 : List Int} (h : Done b tgt s1 s2) (k : Done b tgt s2 s3) : Done b tgt s1 s3 := by
  refine ⟨fun x hx => k.1 x (h.1 x hx), fun x hx hn => ?_⟩
  by_cases h2 : x ∈ s2
  · obtain ⟨h3, h4⟩ := h.2 x h2 hn
    exact ⟨h3, fun u hu y hy => k.1 y (h4 u hu y hy)⟩
  · exact k.2 x hx h2
theorem wkL_done {b : Bec} {tgt : Int} {f : Nat} {F : List Int → Tm → Int → List Int × Bool} : ∀ (l : List Tm), (∀ x ∈ l, ∀ (d : Int) (s : List Int), rem b s < f → (wk F x d s).2 = true → Done b tgt s (wk F x d s).1 ∧ ∀ y, occ y x = true → y ∈ (wk F x d s).1) →
    ∀ (d : Int) (s : List Int), rem b s < f → (wkL F l d s).2 = true → Done b tgt s (wkL F l d s).1 ∧ ∀ y, occL y l = true → y ∈ (wkL F l d s).1
  | [], _, d, s, _, _ => ⟨Done.refl _ _ _, fun y h => by simp [occL] at h⟩
  | a :: r, h, d, s, hr, h2 => by
    simp only [wkL] at h2 ⊢
    cases hb : (wk F a d s).2 with
    | false => rw [hb] at h2; simp at h2
    | true =>
      rw [hb] at h2
      simp only [if_true] at h2 ⊢
      obtain ⟨h3, h4⟩ := h a (by simp) d s hr hb
      obtain ⟨h5, h6⟩ := wkL_done r (fun x hx => h x (by simp [hx])) d _ (Nat.lt_of_le_of_lt (rem_mono h3.1) hr) h2
      refine ⟨h3.trans h5, fun y hy => ?_⟩
      simp only [occL, Bool.or_eq_true] at hy
      rcases hy with hy | hy
      · exact h5.1 y (h4 y hy)
      · exact h6 y hy
theorem wk_done {b : Bec} {tgt : Int} {f : Nat} {F : List Int → Tm → Int → List Int × Bool} (hF : ∀ s t d, rem b s < f → (F s t d).2 = true → Done b tgt s (F s t d).1 ∧ (t.k = 1 → t.n ∈ (F s t d).1)) (t : Tm) : ∀ (d : Int) (s : List Int), rem b s < f → (wk F t d s).2 = true → Done b tgt s (wk F t d s).1 ∧ ∀ y, occ y t = true → y ∈ (wk F t d s).1 := by
  induction t using Tm.ind with
  | h k n l ih =>
    intro d s hr h2
    simp only [wk] at h2 ⊢
    cases hb : (F s (.node k n l) d).2 with
    | false => rw [hb] at h2; simp at h2
    | true =>
      rw [hb] at h2
      simp only [if_true] at h2 ⊢
      obtain ⟨h3, h4⟩ := hF s _ d hr hb
      obtain ⟨h5, h6⟩ := wkL_done l ih (d + 1) _ (Nat.lt_of_le_of_lt (rem_mono h3.1) hr) h2
      refine ⟨h3.trans h5, fun y hy => ?_⟩
      simp only [occ, Bool.or_eq_true, Bool.and_eq_true, beq_iff_eq] at hy
      rcases hy with ⟨hk, rfl⟩ | hy
      · exact h5.1 _ (h4 hk)
      · exact h6 y hy
theorem occS_done (b : Bec) (tgt : Int) (f : Nat) : ∀ s t d, rem b s < f → (occS b tgt f s t d).2 = true → Done b tgt s (occS b tgt f s t d).1 ∧ (t.k = 1 → t.n ∈ (occS b tgt f s t d).1) := by
  induction f with
  | zero => intro s t d h; omega
  | succ f ih =>
    intro s t d hr h2
    simp only [occS] at h2 ⊢
    split
    · rename_i h
      exact ⟨Done.refl _ _ _, fun hk => by rcases h with h | h; exact absurd hk h; exact h⟩
    · rename_i h
      rw [if_neg h] at h2
      have hk : t.k = 1 := by apply Classical.byContradiction; intro hk; exact h (.inl hk)
      have hm : t.n ∉ s := fun hm => h (.inr hm)
      split
      · rename_i h3; rw [if_pos h3] at h2; cases h2
      · rename_i h3
        rw [if_neg h3] at h2
        have hone : ∀ s', Done b tgt (s ++ [t.n]) s' → (∀ u, fndT t.n b = some u → ∀ y, occ y u = true → y ∈ s') → Done b tgt s s' := fun s' hd hu => by
          refine ⟨fun x hx => hd.1 x (by simp [hx]), fun x hx hn => ?_⟩
          by_cases hx2 : x = t.n
          · subst hx2; exact ⟨h3, hu⟩
          · exact hd.2 x hx (by simp [hn, hx2])
        cases hf : fndT t.n b with
        | none =>
          rw [hf] at h2
          have e : ∀ s', wk (occS b tgt f) zeroT d s' = (s', true) := fun s' => by
            rw [wk_t, show occS b tgt f s' zeroT d = (s', true) from by
              cases f with
              | zero => rfl
              | succ f => simp only [occS]; rw [if_pos (.inl (by decide))]]
            simp [zeroT, Tm.l, wkL]
          rw [show (Option.none : Option Tm).getD zeroT = zeroT from rfl, e]
          exact ⟨hone _ (Done.refl _ _ _) (fun u hu => by rw [hf] at hu; cases hu), fun _ => by simp⟩
        | some u =>
          rw [hf] at h2
          have hr2 : rem b (s ++ [t.n]) < f := by have := rem_lt hf hm; omega
          obtain ⟨h4, h5⟩ := wk_done ih u d (s ++ [t.n]) hr2 h2
          refine ⟨hone _ h4 (fun u' hu' y hy => ?_), fun _ => h4.1 _ (by simp)⟩
          rw [hf] at hu'; cases hu'
          exact h5 y hy
/-- What a variable became has this variable in it. -/
def Beh1 (b : Bec) (y x : Int) : Prop := ∃ u, fndT x b = some u ∧ occ y u = true
def AccB (b : Bec) : Prop := ∀ x, Acc (Beh1 b) x
theorem fndT_append (m n : Int) (t : Tm) : ∀ (b : Bec), fndT m (b ++ [(n, t)]) = (fndT m b).or (if m == n then some t else none)
  | [] => by simp [fndT]
  | a :: r => by
    simp only [List.cons_append, fndT]
    split
    · simp
    · exact fndT_append m n t r
theorem accB_nil : AccB [] := fun x => ⟨x, fun y ⟨u, hu, _⟩ => by cases hu⟩
theorem accB_snoc {b : Bec} {n : Int} {t : Tm} (hb : AccB b) (hn : fndT n b = none) (ho : occB b n t = false) : AccB (b ++ [(n, t)]) := by
  have ho' : (wk (occS b n (b.length + 1)) t 1 []).2 = true := by unfold occB at ho; simpa using ho
  obtain ⟨hd, hv⟩ := wk_done (occS_done b n (b.length + 1)) t 1 [] (by have := rem_le b []; omega) ho'
  generalize (wk (occS b n (b.length + 1)) t 1 []).1 = S at hd hv
  have hS : ∀ x ∈ S, x ≠ n ∧ ∀ u, fndT x b = some u → ∀ y, occ y u = true → y ∈ S := fun x hx => hd.2 x hx (by simp)
  have hne : ∀ x, x ≠ n → fndT x (b ++ [(n, t)]) = fndT x b := fun x hx => by
    rw [fndT_append, show (x == n) = false from by simpa using hx]; simp
  have h1 : ∀ x, Acc (Beh1 b) x → x ∈ S → Acc (Beh1 (b ++ [(n, t)])) x := by
    intro x hx
    induction hx with
    | intro x _ ih =>
      intro hxS
      obtain ⟨h2, h3⟩ := hS x hxS
      refine ⟨x, fun y ⟨u, hu, hy⟩ => ?_⟩
      rw [hne x h2] at hu
      exact ih y ⟨u, hu, hy⟩ (h3 u hu y hy)
  have h2 : Acc (Beh1 (b ++ [(n, t)])) n := by
    refine ⟨n, fun y ⟨u, hu, hy⟩ => ?_⟩
    rw [fndT_append, hn] at hu
    simp only [beq_self_eq_true, if_true, Option.none_or, Option.some.injEq] at hu
    subst hu
    exact h1 y (hb y) (hv y hy)
  intro x
  have hx := hb x
  induction hx with
  | intro x _ ih =>
    by_cases hxn : x = n
    · subst hxn; exact h2
    · refine ⟨x, fun y ⟨u, hu, hy⟩ => ?_⟩
      rw [hne x hxn] at hu
      exact ih y ⟨u, hu, hy⟩
theorem becT_acc {b : Bec} {c : Int} {p q : Tm} (hb : AccB b) (hn : fndT p.n b = none) : AccB (becT b c p q).1 := by
  unfold becT
  split
  · exact hb
  · rename_i h
    exact accB_snoc hb hn (by simpa using h)
def KeepsA (f : Bec → Int → Tm → Tm → Bec × Int × Int) : Prop := ∀ b c x y, WfB b c → AccB b → okT x → okT y → AccB (f b c x y).1
theorem lookL_acc {f : Bec → Int → Tm → Tm → Bec × Int × Int} (hf : KeepsB f) (ha : KeepsA f) : ∀ l m b c, WfB b c → AccB b → (∀ x ∈ l, okT x) → (∀ x ∈ m, okT x) → AccB (lookL f b c l m).1
  | [], [], b, c, _, h, _, _ => h
  | [], _ :: _, b, c, _, h, _, _ => h
  | _ :: _, [], b, c, _, h, _, _ => h
  | x :: l, y :: m, b, c, hw, h, hl, hm => by
    have h1 := ha b c x y hw h (hl x (by simp)) (hm y (by simp))
    simp only [lookL]
    split
    · exact lookL_acc hf ha l m _ _ (hf b c x y hw (hl x (by simp)) (hm y (by simp))).1 h1 (fun x hx => hl x (by simp [hx])) (fun x hx => hm x (by simp [hx]))
    · exact h1
theorem lookT_acc (g : Nat) : KeepsA (lookT g) := by
  induction g with
  | zero => intro b c x y _ h _ _; exact h
  | succ g ih =>
    intro b c x y hb h hx hy
    have hb1 : WfB b (c + 1) := ⟨by have := hb.len; omega, hb.ok, hb.ac⟩
    simp only [lookT]
    split
    · exact h
    · obtain ⟨-, h2, h3⟩ := rootT_is hb x hx
      obtain ⟨-, h4, h5⟩ := rootT_is hb y hy
      unfold lookR
      split
      · exact h
      · split
        · rename_i h6; exact becT_acc h (h4 h6.1)
        · split
          · rename_i h6; exact becT_acc h (h2 h6)
          · split
            · exact lookL_acc (lookT_wf g) ih _ _ _ _ hb1 h (fun z hz => okT_mem h3 hz) (fun z hz => okT_mem h5 hz)
            · exact h
end Go.Tr

/- Everything put into everything, plainly. -/
namespace Go.Tr

/-- What stands in a list at a number. -/
def atL (l : List Tm) (n : Int) : Tm := (l[n.toNat]?).getD zeroT
def settleL (F : List Tm → Int → Option (List Tm × Bool)) : List Int → List Tm → Option (List Tm × Bool)
  | [], l => some (l, true)
  | m :: r, l => match F l m with
    | none => none
    | some (l1, true) => settleL F r l1
    | some (l1, false) => some (l1, false)
def settleT (b : Bec) : Nat → List Tm → Int → Option (List Tm × Bool)
  | 0 => fun _ _ => none
  | f + 1 => fun l n => if (atL l n).k ≠ 0 then some (l, true) else match fndT n b with
    | none => some (l.set n.toNat (var n), true)
    | some t => match settleL (settleT b f) (vars [t]) l with
      | none => none
      | some (l1, true) => some (l1.set n.toNat (if fit (repT (atL l1) t) then repT (atL l1) t else zeroT), fit (repT (atL l1) t))
      | some (l1, false) => some (l1, false)
theorem settleT_succ (b : Bec) (f : Nat) (l : List Tm) (n : Int) : settleT b (f + 1) l n = if (atL l n).k ≠ 0 then some (l, true) else match fndT n b with
    | none => some (l.set n.toNat (var n), true)
    | some t => match settleL (settleT b f) (vars [t]) l with
      | none => none
      | some (l1, true) => some (l1.set n.toNat (if fit (repT (atL l1) t) then repT (atL l1) t else zeroT), fit (repT (atL l1) t))
      | some (l1, false) => some (l1, false) := rfl
theorem settleL_mono {F G : List Tm → Int → Option (List Tm × Bool)} (h : ∀ l n r, F l n = some r → G l n = some r) : ∀ (ns : List Int) (l : List Tm) (r : List Tm × Bool), settleL F ns l = some r → settleL G ns l = some r
  | [], _, _, hr => hr
  | m :: ns, l, r, hr => by
    simp only [settleL] at hr ⊢
    cases hF : F l m with
    | none => rw [hF] at hr; cases hr
    | some p =>
      rw [hF] at hr
      rw [h l m p hF]
      obtain ⟨l1, ok⟩ := p
      cases ok with
      | true => exact settleL_mono h ns l1 r hr
      | false => exact hr
theorem settleT_mono (b : Bec) (f : Nat) : ∀ l n r, settleT b f l n = some r → settleT b (f + 1) l n = some r := by
  induction f with
  | zero => intro l n r h; cases h
  | succ f ih =>
    intro l n r h
    rw [settleT_succ] at h ⊢
    split
    · rename_i h1; rw [if_pos h1] at h; exact h
    · rename_i h1
      rw [if_neg h1] at h
      cases hf : fndT n b with
      | none => rw [hf] at h; exact h
      | some t =>
        rw [hf] at h
        simp only at h ⊢
        cases hL : settleL (settleT b f) (vars [t]) l with
        | none => rw [hL] at h; cases h
        | some p =>
          rw [hL] at h
          rw [settleL_mono ih _ _ _ hL]
          exact h
theorem settleT_le (b : Bec) {f g : Nat} (hfg : f ≤ g) {l : List Tm} {n : Int} {r : List Tm × Bool} (h : settleT b f l n = some r) : settleT b g l n = some r := by
  induction hfg with
  | refl => exact h
  | step _ ih => exact settleT_mono b _ _ _ _ ih
theorem settleT_one (b : Bec) {f g : Nat} {l : List Tm} {n : Int} {r s : List Tm × Bool} (h : settleT b f l n = some r) (k : settleT b g l n = some s) : r = s := by
  have h1 := settleT_le b (Nat.le_max_left f g) h
  have h2 := settleT_le b (Nat.le_max_right f g) k
  rw [h1] at h2
  exact Option.some.inj h2
/-- What settling comes to, with enough fuel. -/
def Sets (b : Bec) (l : List Tm) (n : Int) (r : List Tm × Bool) : Prop := ∃ f, settleT b f l n = some r
inductive SetsL (b : Bec) : List Int → List Tm → List Tm × Bool → Prop
  | nil (l : List Tm) : SetsL b [] l (l, true)
  | no {m : Int} {ns : List Int} {l l1 : List Tm} : Sets b l m (l1, false) → SetsL b (m :: ns) l (l1, false)
  | yes {m : Int} {ns : List Int} {l l1 : List Tm} {r : List Tm × Bool} : Sets b l m (l1, true) → SetsL b ns l1 r → SetsL b (m :: ns) l r
theorem setsL_fuel {b : Bec} {ns : List Int} {l : List Tm} {r : List Tm × Bool} (h : SetsL b ns l r) : ∃ f, settleL (settleT b f) ns l = some r := by
  induction h with
  | nil l => exact ⟨0, rfl⟩
  | no h => obtain ⟨f, h⟩ := h; exact ⟨f, by simp only [settleL]; rw [h]⟩
  | @yes m ns l l1 r h _ ih =>
    obtain ⟨f, h⟩ := h
    obtain ⟨f2, h2⟩ := ih
    refine ⟨max f f2, ?_⟩
    simp only [settleL]
    rw [settleT_le b (Nat.le_max_left f f2) h]
    exact settleL_mono (fun l n r hr => settleT_le b (Nat.le_max_right f f2) hr) _ _ _ h2
theorem sets_done {b : Bec} {l : List Tm} {n : Int} (h : (atL l n).k ≠ 0) : Sets b l n (l, true) := ⟨1, by rw [settleT_succ]; rw [if_pos h]⟩
theorem sets_free {b : Bec} {l : List Tm} {n : Int} (h : (atL l n).k = 0) (hf : fndT n b = none) : Sets b l n (l.set n.toNat (var n), true) := ⟨1, by rw [settleT_succ]; rw [if_neg (by simp [h]), hf]⟩
theorem sets_no {b : Bec} {l l1 : List Tm} {n : Int} {t : Tm} (h : (atL l n).k = 0) (hf : fndT n b = some t) (hl : SetsL b (vars [t]) l (l1, false)) : Sets b l n (l1, false) := by
  obtain ⟨f, hl⟩ := setsL_fuel hl
  exact ⟨f + 1, by rw [settleT_succ]; rw [if_neg (by simp [h]), hf]; simp only; rw [hl]⟩
theorem sets_yes {b : Bec} {l l1 : List Tm} {n : Int} {t : Tm} (h : (atL l n).k = 0) (hf : fndT n b = some t) (hl : SetsL b (vars [t]) l (l1, true)) : Sets b l n (l1.set n.toNat (if fit (repT (atL l1) t) then repT (atL l1) t else zeroT), fit (repT (atL l1) t)) := by
  obtain ⟨f, hl⟩ := setsL_fuel hl
  exact ⟨f + 1, by rw [settleT_succ]; rw [if_neg (by simp [h]), hf]; simp only; rw [hl]⟩
/-- A property of trees that what is within them has too is kept by looking at pairs. -/
def KeepsP (P : Tm → Prop) (f : Bec → Int → Tm → Tm → Bec × Int × Int) : Prop := ∀ b c x y, (∀ z ∈ b, P z.2) → P x → P y → ∀ z ∈ (f b c x y).1, P z.2
theorem becT_P {P : Tm → Prop} {b : Bec} {c : Int} {p q : Tm} (hb : ∀ z ∈ b, P z.2) (hq : P q) : ∀ z ∈ (becT b c p q).1, P z.2 := by
  unfold becT
  split
  · exact hb
  · intro z hz
    rcases List.mem_append.1 hz with h | h
    · exact hb z h
    · simp only [List.mem_cons, List.not_mem_nil, or_false] at h; subst h; exact hq
theorem lookL_P {P : Tm → Prop} {f : Bec → Int → Tm → Tm → Bec × Int × Int} (hf : KeepsP P f) : ∀ l m b c, (∀ z ∈ b, P z.2) → (∀ x ∈ l, P x) → (∀ x ∈ m, P x) → ∀ z ∈ (lookL f b c l m).1, P z.2
  | [], [], _, _, h, _, _ => h
  | [], _ :: _, _, _, h, _, _ => h
  | _ :: _, [], _, _, h, _, _ => h
  | x :: l, y :: m, b, c, h, hl, hm => by
    have h1 := hf b c x y h (hl x (by simp)) (hm y (by simp))
    simp only [lookL]
    split
    · exact lookL_P hf l m _ _ h1 (fun x hx => hl x (by simp [hx])) (fun x hx => hm x (by simp [hx]))
    · exact h1
theorem rootF_P {P : Tm → Prop} {b : Bec} (hb : ∀ z ∈ b, P z.2) (f : Nat) : ∀ t r, P t → rootF b f t = some r → P r := by
  induction f with
  | zero => intro t r _ h; cases h
  | succ f ih =>
    intro t r ht h
    simp only [rootF] at h
    split at h
    · cases hn : fndT t.n b with
      | none => rw [hn] at h; simp only [Option.some.injEq] at h; subst h; exact ht
      | some u =>
        rw [hn] at h
        obtain ⟨x, hx, rfl⟩ := fndT_mem hn
        exact ih _ _ (hb x hx) h
    · simp only [Option.some.injEq] at h; subst h; exact ht
theorem rootT_P {P : Tm → Prop} {b : Bec} (hb : ∀ z ∈ b, P z.2) {t : Tm} (ht : P t) : P (rootT b t) := by
  unfold rootT
  cases h : rootF b (b.length + 1) t with
  | none => exact ht
  | some r => exact rootF_P hb _ t r ht h
theorem lookT_P {P : Tm → Prop} (hP : ∀ t, P t → ∀ x ∈ t.l, P x) (g : Nat) : KeepsP P (lookT g) := by
  induction g with
  | zero => intro b c x y h _ _; exact h
  | succ g ih =>
    intro b c x y h hx hy
    simp only [lookT]
    split
    · exact h
    · have h1 := rootT_P h hx
      have h2 := rootT_P h hy
      unfold lookR
      split
      · exact h
      · split
        · exact becT_P h h1
        · split
          · exact becT_P h h2
          · split
            · exact lookL_P ih _ _ _ _ h (hP _ h1) (hP _ h2)
            · exact h
end Go.Tr

/- Signatures, sorts and what is inferred, plainly: no program. -/
namespace Go.Tr
structure Op1 where
  nm : ByteArray
  ar : List Int
  rs : Int
deriving DecidableEq
structure Sg where
  so : List ByteArray
  op : List Op1
def okC (c : UInt8) : Bool := decide (33 ≤ c.toNat) && decide (c.toNat ≤ 126) && !(c.toNat == 40) && !(c.toNat == 41) && !(c.toNat == 44)
def isNm (b : ByteArray) : Bool := decide (1 ≤ b.size) && decide (b.size ≤ 32) && b.data.toList.all okC
def marks (b : ByteArray) : Nat := b.data.toList.count 95
def sortOk (m : Nat) (n : Int) : Bool := decide (0 ≤ n) && decide (n < m)
def sortsOk (m : Nat) (l : List Int) : Bool := l.all (sortOk m)
def opOk (m : Nat) (o : Op1) : Bool := isNm o.nm && decide (o.ar.length ≤ 8) && sortsOk m o.ar && sortOk m o.rs && (decide (marks o.nm = 0) || (decide (marks o.nm = o.ar.length) && decide (marks o.nm < o.nm.size)))
def memB {α : Type} [DecidableEq α] (x : α) (s : List α) : Bool := s.any fun y => decide (y = x)
theorem memB_iff {α : Type} [DecidableEq α] (x : α) (s : List α) : memB x s = true ↔ x ∈ s := by
  unfold memB; simp
theorem memB_false {α : Type} [DecidableEq α] {x : α} {s : List α} (h : x ∉ s) : memB x s = false := by
  cases e : memB x s
  · rfl
  · exact absurd ((memB_iff x s).1 e) h
def soGo : List ByteArray → List ByteArray → Bool
  | _, [] => true
  | s, x :: r => !memB x s && isNm x && decide (marks x = 0) && soGo (s ++ [x]) r
def opGo (m : Nat) : List Op1 → List Op1 → Bool
  | _, [] => true
  | s, x :: r => opOk m x && !memB x s && opGo m (s ++ [x]) r
def chk (s : Sg) : Int := if decide (s.so.length ≤ 64) && decide (s.op.length ≤ 256) && soGo [] s.so && opGo s.so.length [] s.op then 0 else 40
/-- The operation of a root. -/
def opAtT (s : Sg) (n : Int) (m : Nat) : Option Op1 := match s.op[n.toNat]? with
  | none => none
  | some o => if o.ar.length = m then some o else none
theorem opAtT_some {s : Sg} {n : Int} {m : Nat} {o : Op1} (h : opAtT s n m = some o) : s.op[n.toNat]? = some o ∧ o.ar.length = m := by
  unfold opAtT at h
  split at h
  · cases h
  · rename_i o' ho
    split at h
    · cases h; exact ⟨ho, by assumption⟩
    · cases h
mutual
def sortT (s : Sg) (vs : List Int) : Tm → Option Int
  | .node k n l => if k = 1 then vs[n.toNat]? else match opAtT s n l.length with
    | none => none
    | some o => if sortsT s vs l o.ar then some o.rs else none
def sortsT (s : Sg) (vs : List Int) : List Tm → List Int → Bool
  | [], _ => true
  | _ :: _, [] => false
  | t :: r, a :: as => decide (sortT s vs t = some a) && sortsT s vs r as
end
theorem sortT_t (s : Sg) (vs : List Int) (t : Tm) : sortT s vs t = if t.k = 1 then vs[t.n.toNat]? else match opAtT s t.n t.l.length with
    | none => none
    | some o => if sortsT s vs t.l o.ar then some o.rs else none := by cases t; rw [sortT]; rfl
/-- What Sort says: the sort, and the error. -/
def sortE (s : Sg) (vs : List Int) (t : Tm) : Int × Int :=
  if chk s ≠ 0 then (0, 40) else if !sortsOk s.so.length vs then (0, 1) else if !good t then (0, 4) else match sortT s vs t with
    | none => (0, 4)
    | some n => (n, 0)
def getK (f : List (Int × Int)) (n : Int) : Option Int := (f.find? (fun x => x.1 == n)).map (·.2)
mutual
def infT (s : Sg) : Tm → Int → List (Int × Int) → Option (List (Int × Int))
  | .node k n l, so, f => if k = 1 then (if n < 4000 then (match getK f n with
      | none => some (f ++ [(n, so)])
      | some a => if a = so then some f else none) else none) else match opAtT s n l.length with
    | none => none
    | some o => if o.rs = so then infsT s l o.ar f else none
def infsT (s : Sg) : List Tm → List Int → List (Int × Int) → Option (List (Int × Int))
  | [], _, f => some f
  | _ :: _, [], _ => none
  | t :: r, a :: as, f => match infT s t a f with
    | none => none
    | some g => infsT s r as g
end
theorem infT_t (s : Sg) (t : Tm) (so : Int) (f : List (Int × Int)) : infT s t so f = if t.k = 1 then (if t.n < 4000 then (match getK f t.n with
      | none => some (f ++ [(t.n, so)])
      | some a => if a = so then some f else none) else none) else match opAtT s t.n t.l.length with
    | none => none
    | some o => if o.rs = so then infsT s t.l o.ar f else none := by cases t; rw [infT]; rfl
/-- Terms with their sorts, one after the other: each has to be a tree. -/
def infsA (s : Sg) : List Tm → List Int → List (Int × Int) → Option (List (Int × Int))
  | [], _, f => some f
  | _ :: _, [], _ => none
  | t :: r, a :: as, f => if good t then (match infT s t a f with
    | none => none
    | some g => infsA s r as g) else none
def listK (f : List (Int × Int)) : List Int := (List.range ((f.map (·.1)).foldl max (-1) + 1).toNat).map fun (n : Nat) => (getK f (n : Int)).getD (-1)
/-- What Infer says: the list, and the error. -/
def infE (s : Sg) (l : List Tm) (so : List Int) : List Int × Int :=
  if chk s ≠ 0 then ([], 40) else if so.length ≠ l.length ∨ sortsOk s.so.length so = false then ([], 1) else match infsA s l so [] with
    | none => ([], 4)
    | some f => (listK f, 0)
/-- The operations with a name, of those from the i-th on. -/
def findN (nm : ByteArray) : List Op1 → Nat → List Int
  | [], _ => []
  | o :: r, i => if o.nm = nm then (i : Int) :: findN nm r (i + 1) else findN nm r (i + 1)
mutual
def pathsT : Tm → List Int → List (List Int)
  | .node _ _ l, p => p :: pathsL l p 0
def pathsL : List Tm → List Int → Nat → List (List Int)
  | [], _, _ => []
  | t :: r, p, i => pathsT t (p ++ [(i : Int)]) ++ pathsL r p (i + 1)
end
theorem pathsT_t (t : Tm) (p : List Int) : pathsT t p = p :: pathsL t.l p 0 := by cases t; rfl
end Go.Tr
