/- What the substitution is that a unifier comes to, plainly: no program. -/
import Derived.Test.YtapdfdjknehhgaaUnP
namespace Go.Tr

/-- What a variable is with everything put in. -/
inductive Val (b : Bec) : Int → Tm → Prop
  | free {n : Int} : fndT n b = none → Val b n (var n)
  | bound {n : Int} {u : Tm} {g : Int → Tm} : fndT n b = some u → (∀ m, occ m u = true → Val b m (g m)) → Val b n (repT g u)
def BOk (b : Bec) : Prop := ∀ x ∈ b, okT x.2
theorem bok_f {b : Bec} (h : BOk b) {n : Int} {u : Tm} (hf : fndT n b = some u) : okT u := by
  obtain ⟨x, hx, rfl⟩ := fndT_mem hf
  exact h x hx
theorem val_fun {b : Bec} (hb : BOk b) {n : Int} {t : Tm} (h : Val b n t) : ∀ {t' : Tm}, Val b n t' → t = t' := by
  induction h with
  | free h =>
    intro t' h'
    cases h' with
    | free _ => rfl
    | bound h1 _ => rw [h] at h1; cases h1
  | @bound n u g h1 _ ih =>
    intro t' h'
    cases h' with
    | free h2 => rw [h1] at h2; cases h2
    | bound h2 h3 =>
      rw [h1] at h2
      cases Option.some.inj h2
      exact repT_congr u (bok_f hb h1).1 fun m hm => ih m hm (h3 m hm)
theorem rep_ok {g : Int → Tm} (t : Tm) : allN okN t = true → (∀ m, occ m t = true → allN okN (g m) = true) → allN okN (repT g t) = true := by
  induction t using Tm.ind with
  | h k n c ih =>
    intro h1 h2
    obtain ⟨a1, a2⟩ := kids_ok h1
    by_cases hk : k = 1
    · subst hk
      rw [repT_var _ (.node 1 n c) rfl]
      exact h2 n (by rw [occ_var]; simp)
    · rw [repT_op _ (.node k n c) hk, allN_t]
      simp only [Bool.and_eq_true, allNL_iff]
      refine ⟨by rw [← a1]; exact okN_len (List.length_map _) (List.isEmpty_map), fun x hx => ?_⟩
      obtain ⟨y, hy, rfl⟩ := List.mem_map.1 hx
      exact ih y hy (a2 y hy) fun m hm => h2 m (occ_kid hy hm)
theorem rep_occ {g : Int → Tm} {m : Int} (t : Tm) : allN okN t = true → occ m (repT g t) = true → ∃ q, occ q t = true ∧ occ m (g q) = true := by
  induction t using Tm.ind with
  | h k n c ih =>
    intro h1 h2
    obtain ⟨a1, a2⟩ := kids_ok h1
    by_cases hk : k = 1
    · subst hk
      rw [repT_var _ (.node 1 n c) rfl] at h2
      exact ⟨n, by rw [occ_var]; simp, h2⟩
    · rw [repT_op _ (.node k n c) hk] at h2
      have h3 : occL m (c.map (repT g)) = true := by rw [← occ_op hk n]; exact h2
      obtain ⟨x, hx, ho⟩ := (occL_iff m _).1 h3
      obtain ⟨y, hy, rfl⟩ := List.mem_map.1 hx
      obtain ⟨q, h4, h5⟩ := ih y hy (a2 y hy) ho
      exact ⟨q, occ_kid hy h4, h5⟩
theorem var_ok {n : Int} (h : 0 ≤ n) : allN okN (var n) = true := ((good_fit _).1 (var_good h)).2
theorem val_ok {b : Bec} (hb : BOk b) {n : Int} {t : Tm} (h : Val b n t) : 0 ≤ n → allN okN t = true := by
  induction h with
  | free _ => exact fun h => var_ok h
  | @bound n u g h1 _ ih => exact fun _ => rep_ok u (bok_f hb h1).1 fun m hm => ih m hm (occ_nonneg u (bok_f hb h1).1 m hm)
theorem ok_k0 {t : Tm} (h : allN okN t = true) : t.k ≠ 0 := by
  obtain ⟨k, n, l⟩ := t
  have h2 := (kids_ok h).1
  simp only [okN, Tm.k, Tm.n, Tm.l, Bool.or_eq_true, Bool.and_eq_true, beq_iff_eq] at h2 ⊢
  omega
theorem occ_varn {m n : Int} (h : occ m (var n) = true) : m = n := by
  have h2 : ((n == m) || occL m []) = true := h
  have e : n = m := by simpa [occL] using h2
  exact e.symm
theorem val_vars {b : Bec} (hb : BOk b) {N : Int} (hr : ∀ x ∈ b, ∀ m, occ m x.2 = true → m < N) {n : Int} {t : Tm} (h : Val b n t) : n < N → ∀ m, occ m t = true → m < N ∧ fndT m b = none := by
  induction h with
  | free h => intro hn m hm; rw [occ_varn hm]; exact ⟨hn, h⟩
  | @bound n u g h1 _ ih =>
    intro _ m hm
    obtain ⟨q, h3, h4⟩ := rep_occ u (bok_f hb h1).1 hm
    obtain ⟨x, hx, rfl⟩ := fndT_mem h1
    exact ih q h3 (hr x hx q h3) m h4
theorem val_mgu {b : Bec} (hb : BOk b) {σ : Int → Tm} (hs : Sol σ b) {n : Int} {t : Tm} (h : Val b n t) : repT σ t = σ n := by
  induction h with
  | free _ => exact repT_var _ _ rfl
  | @bound n u g h1 _ ih =>
    rw [repT_comp, hs n u h1]
    exact repT_congr u (bok_f hb h1).1 fun m hm => ih m hm
theorem val_fix {b : Bec} (hb : BOk b) {ρ : Int → Tm} (hf : ∀ m, fndT m b = none → ρ m = var m) {n : Int} {t : Tm} (h : Val b n t) : repT ρ t = t := by
  induction h with
  | free h => rw [repT_var _ _ rfl]; exact hf _ h
  | @bound n u g h1 _ ih =>
    rw [repT_comp]
    exact repT_congr u (bok_f hb h1).1 fun m hm => ih m hm
theorem val_sol {b : Bec} (hb : BOk b) {ρ : Int → Tm} {n : Int} {u : Tm} (hf : fndT n b = some u) (hn : Val b n (ρ n)) (hm : ∀ m, occ m u = true → Val b m (ρ m)) : ρ n = repT ρ u := val_fun hb hn (.bound hf hm)

theorem atL_set {l : List Tm} {n m : Int} {t : Tm} (hn : 0 ≤ n) (hl : n < l.length) (hm : 0 ≤ m) : atL (l.set n.toNat t) m = if m = n then t else atL l m := by
  unfold atL
  rw [List.getElem?_set]
  by_cases h : m = n
  · subst h
    rw [if_pos rfl, if_pos rfl, if_pos (by omega)]
    rfl
  · rw [if_neg h, if_neg (by omega)]
/-- What stands in the list is right. -/
def SInv (b : Bec) (l : List Tm) : Prop := ∀ m, 0 ≤ m → (atL l m).k ≠ 0 → Val b m (atL l m) ∧ fit (atL l m) = true
def SStep (b : Bec) (l l' : List Tm) (n : Int) : Prop := l'.length = l.length ∧ SInv b l' ∧ (atL l' n).k ≠ 0 ∧ ∀ m, 0 ≤ m → (atL l m).k ≠ 0 → atL l' m = atL l m
theorem settleL_inv {b : Bec} {F : List Tm → Int → Option (List Tm × Bool)} {N : Nat} (hF : ∀ (l : List Tm) (n : Int) (l' : List Tm), l.length = N → SInv b l → 0 ≤ n → n < N → F l n = some (l', true) → SStep b l l' n) : ∀ (ns : List Int) (l l' : List Tm), l.length = N → SInv b l → (∀ n ∈ ns, 0 ≤ n ∧ n < N) → settleL F ns l = some (l', true) →
    l'.length = l.length ∧ SInv b l' ∧ (∀ n ∈ ns, (atL l' n).k ≠ 0) ∧ ∀ m, 0 ≤ m → (atL l m).k ≠ 0 → atL l' m = atL l m
  | [], l, l', _, hi, _, h => by
    simp only [settleL, Option.some.injEq, Prod.mk.injEq, and_true] at h
    subst h
    exact ⟨rfl, hi, (fun _ h => by cases h), fun _ _ _ => rfl⟩
  | n :: ns, l, l', hl, hi, hn, h => by
    simp only [settleL] at h
    cases hf : F l n with
    | none => rw [hf] at h; cases h
    | some p =>
      obtain ⟨l1, ok⟩ := p
      rw [hf] at h
      cases ok with
      | false => simp at h
      | true =>
        obtain ⟨hn1, hn2⟩ := hn n (by simp)
        obtain ⟨a1, a2, a3, a4⟩ := hF l n l1 hl hi hn1 hn2 hf
        obtain ⟨b1, b2, b3, b4⟩ := settleL_inv hF ns l1 l' (by rw [a1]; exact hl) a2 (fun m hm => hn m (by simp [hm])) h
        refine ⟨by rw [b1, a1], b2, fun m hm => ?_, fun m h0 hk => ?_⟩
        · rcases List.mem_cons.1 hm with rfl | hm
          · rw [b4 m hn1 a3]; exact a3
          · exact b3 m hm
        · have e := a4 m h0 hk
          rw [b4 m h0 (by rw [e]; exact hk), e]
theorem settleT_inv {b : Bec} (hb : BOk b) {N : Nat} (hr : ∀ x ∈ b, ∀ m, occ m x.2 = true → m < N) (f : Nat) : ∀ (l : List Tm) (n : Int) (l' : List Tm), l.length = N → SInv b l → 0 ≤ n → n < N → settleT b f l n = some (l', true) → SStep b l l' n := by
  induction f with
  | zero => intro l n l' _ _ _ _ h; cases h
  | succ f ih =>
    intro l n l' hl hi hn0 hn1 h
    rw [settleT_succ] at h
    by_cases h0 : (atL l n).k ≠ 0
    · rw [if_pos h0] at h
      simp only [Option.some.injEq, Prod.mk.injEq, and_true] at h
      subst h
      exact ⟨rfl, hi, h0, fun _ _ _ => rfl⟩
    · rw [if_neg h0] at h
      cases hf : fndT n b with
      | none =>
        rw [hf] at h
        simp only [Option.some.injEq, Prod.mk.injEq, and_true] at h
        subst h
        have hs := fun m (hm : 0 ≤ m) => atL_set (t := var n) hn0 (show n < (l.length : Int) by omega) hm
        refine ⟨List.length_set .., fun m hm hk => ?_, ?_, fun m hm hk => ?_⟩
        · rw [hs m hm] at hk ⊢
          by_cases e : m = n
          · subst e
            rw [if_pos rfl]
            exact ⟨.free hf, ((good_fit _).1 (var_good hm)).1⟩
          · rw [if_neg e] at hk ⊢
            exact hi m hm hk
        · rw [hs n hn0, if_pos rfl]; exact ok_k0 (var_ok hn0)
        · rw [hs m hm, if_neg (fun e => by subst e; exact h0 hk)]
      | some u =>
        rw [hf] at h
        simp only at h
        cases hL : settleL (settleT b f) (vars [u]) l with
        | none => rw [hL] at h; cases h
        | some p =>
          obtain ⟨l1, ok⟩ := p
          rw [hL] at h
          cases ok with
          | false => simp at h
          | true =>
            simp only [Option.some.injEq, Prod.mk.injEq] at h
            obtain ⟨h1, h2⟩ := h
            rw [if_pos h2] at h1
            subst h1
            have hu := bok_f hb hf
            obtain ⟨x, hx, hxu⟩ := fndT_mem hf
            have hvr : ∀ m ∈ vars [u], 0 ≤ m ∧ m < N := fun m hm => by
              have ho := (vars_one u m).1 hm
              exact ⟨occ_nonneg u hu.1 m ho, hr x hx m (by rw [hxu]; exact ho)⟩
            obtain ⟨b1, b2, b3, b4⟩ := settleL_inv (fun l n l' => ih l n l') (vars [u]) l l1 hl hi hvr hL
            have hl1 : n < (l1.length : Int) := by rw [b1, hl]; exact hn1
            have hs := fun m (hm : 0 ≤ m) => atL_set (t := repT (atL l1) u) hn0 hl1 hm
            have hv : Val b n (repT (atL l1) u) := .bound hf fun m hm => by
              have hm' := (vars_one u m).2 hm
              exact (b2 m (hvr m hm').1 (b3 m hm')).1
            refine ⟨by rw [List.length_set, b1], fun m hm hk => ?_, ?_, fun m hm hk => ?_⟩
            · rw [hs m hm] at hk ⊢
              by_cases e : m = n
              · subst e
                rw [if_pos rfl]
                exact ⟨hv, h2⟩
              · rw [if_neg e] at hk ⊢
                exact b2 m hm hk
            · rw [hs n hn0, if_pos rfl]; exact ok_k0 (val_ok hb hv hn0)
            · rw [hs m hm, if_neg (fun e => by subst e; exact h0 hk)]
              exact b4 m hm hk
def ups (N : Nat) : List Int := (List.range N).map Int.ofNat
theorem ups_mem {N : Nat} {n : Int} : n ∈ ups N ↔ 0 ≤ n ∧ n < N := by
  unfold ups
  rw [List.mem_map]
  constructor
  · rintro ⟨i, hi, rfl⟩
    have := List.mem_range.1 hi
    show (0 : Int) ≤ (i : Int) ∧ (i : Int) < N
    omega
  · rintro ⟨h1, h2⟩
    exact ⟨n.toNat, List.mem_range.2 (by omega), by show ((n.toNat : Nat) : Int) = n; omega⟩
theorem sinv_zero (b : Bec) (N : Nat) : SInv b (List.replicate N zeroT) := by
  intro m _ hk
  exfalso
  unfold atL at hk
  rw [List.getElem?_replicate] at hk
  split at hk <;> exact hk rfl
theorem sets_all {b : Bec} (hb : BOk b) {N : Nat} (hr : ∀ x ∈ b, ∀ m, occ m x.2 = true → m < N) {r : List Tm} (h : SetsL b (ups N) (List.replicate N zeroT) (r, true)) : r.length = N ∧ ∀ n : Int, 0 ≤ n → n < N → Val b n (atL r n) ∧ fit (atL r n) = true := by
  obtain ⟨f, hf⟩ := setsL_fuel h
  obtain ⟨h1, h2, h3, -⟩ := settleL_inv (fun l n l' => settleT_inv hb hr f l n l') (ups N) _ r (List.length_replicate ..) (sinv_zero b N) (fun n hn => ups_mem.1 hn) hf
  exact ⟨by rw [h1, List.length_replicate], fun n hn0 hn1 => h2 n hn0 (h3 n (ups_mem.2 ⟨hn0, hn1⟩))⟩
/-- The substitution that a list is; other variables stay. -/
def rho (r : List Tm) (n : Int) : Tm := if 0 ≤ n ∧ n < r.length then atL r n else var n

/-- Keys that are met are variables of the trees that are looked at. -/
def KeepsK (K : Int → Prop) (P : Tm → Prop) (f : LkF) : Prop := ∀ b c x y, (∀ z ∈ b, K z.1) → (∀ z ∈ b, P z.2) → P x → P y → ∀ z ∈ (f b c x y).1, K z.1
theorem becT_K {K : Int → Prop} {b : Bec} {c : Int} {p q : Tm} (hb : ∀ z ∈ b, K z.1) (hp : K p.n) : ∀ z ∈ (becT b c p q).1, K z.1 := by
  unfold becT
  split
  · exact hb
  · intro z hz
    rcases List.mem_append.1 hz with h | h
    · exact hb z h
    · simp only [List.mem_cons, List.not_mem_nil, or_false] at h; subst h; exact hp
theorem lookL_K {K : Int → Prop} {P : Tm → Prop} {f : LkF} (hf : KeepsP P f) (hk : KeepsK K P f) : ∀ l m b c, (∀ z ∈ b, K z.1) → (∀ z ∈ b, P z.2) → (∀ x ∈ l, P x) → (∀ x ∈ m, P x) → ∀ z ∈ (lookL f b c l m).1, K z.1
  | [], [], _, _, h, _, _, _ => by simpa [lookL] using h
  | [], _ :: _, _, _, h, _, _, _ => by simpa [lookL] using h
  | _ :: _, [], _, _, h, _, _, _ => by simpa [lookL] using h
  | x :: l, y :: m, b, c, h, h2, hx, hy => by
    simp only [lookL]
    have h3 := hk b c x y h h2 (hx x (by simp)) (hy y (by simp))
    split
    · exact lookL_K hf hk l m _ _ h3 (hf b c x y h2 (hx x (by simp)) (hy y (by simp))) (fun z hz => hx z (by simp [hz])) (fun z hz => hy z (by simp [hz]))
    · exact h3
theorem lookT_K {K : Int → Prop} {P : Tm → Prop} (hP : ∀ t, P t → ∀ x ∈ t.l, P x) (hK : ∀ t, P t → t.k = 1 → K t.n) (g : Nat) : KeepsK K P (lookT g) := by
  induction g with
  | zero => intro b c x y h _ _ _; exact h
  | succ g ih =>
    intro b c x y h h0 hx hy
    simp only [lookT]
    split
    · exact h
    · have h1 := rootT_P h0 hx
      have h2 := rootT_P h0 hy
      unfold lookR
      split
      · exact h
      · split
        · rename_i h3; exact becT_K h (hK _ h2 h3.1)
        · split
          · rename_i h3; exact becT_K h (hK _ h1 h3)
          · split
            · exact lookL_K (lookT_P hP g) ih _ _ _ _ h h0 (hP _ h1) (hP _ h2)
            · exact h
theorem lookL_code {f : LkF} (hf : ∀ b c x y, (f b c x y).2.2 = 0 ∨ (f b c x y).2.2 = 2 ∨ (f b c x y).2.2 = 3) : ∀ l m b c, (lookL f b c l m).2.2 = 0 ∨ (lookL f b c l m).2.2 = 2 ∨ (lookL f b c l m).2.2 = 3
  | [], [], _, _ => .inl rfl
  | [], _ :: _, _, _ => .inl rfl
  | _ :: _, [], _, _ => .inl rfl
  | x :: l, y :: m, b, c => by
    simp only [lookL]
    split
    · exact lookL_code hf l m _ _
    · exact hf b c x y
theorem lookT_code (g : Nat) : ∀ b c x y, (lookT g b c x y).2.2 = 0 ∨ (lookT g b c x y).2.2 = 2 ∨ (lookT g b c x y).2.2 = 3 := by
  induction g with
  | zero => intro b c x y; exact .inr (.inl rfl)
  | succ g ih =>
    intro b c x y
    simp only [lookT]
    split
    · exact .inr (.inl rfl)
    · unfold lookR
      have hbec : ∀ b c p q, (becT b c p q).2.2 = 0 ∨ (becT b c p q).2.2 = 2 ∨ (becT b c p q).2.2 = 3 := by
        intro b c p q
        unfold becT
        split
        · exact .inr (.inr rfl)
        · exact .inl rfl
      split
      · exact .inl rfl
      · split
        · exact hbec _ _ _ _
        · split
          · exact hbec _ _ _ _
          · split
            · exact lookL_code ih _ _ _ _
            · exact .inr (.inr rfl)
/-- A pair of the same tree is found equal at once. -/
theorem lookL_self {g : Nat} : ∀ (l : List Tm), (∀ x ∈ l, ∀ c : Int, c + sz x ≤ 20000 → dp x ≤ g → ∃ c', lookT g [] c x x = ([], c', 0) ∧ c' ≤ c + sz x) → ∀ c : Int, c + szL l ≤ 20000 → dpL l ≤ g → ∃ c', lookL (lookT g) [] c l l = ([], c', 0) ∧ c' ≤ c + szL l
  | [], _, c, _, _ => ⟨c, rfl, by simp [szL]⟩
  | a :: r, h, c, hc, hd => by
    simp only [szL, dpL] at hc hd
    obtain ⟨c1, h1, h2⟩ := h a (by simp) c (by omega) (by omega)
    obtain ⟨c2, h3, h4⟩ := lookL_self r (fun x hx => h x (by simp [hx])) c1 (by omega) (by omega)
    refine ⟨c2, ?_, by simp only [szL]; omega⟩
    simp only [lookL, h1, if_true]
    exact h3
theorem root_nil (x : Tm) : rootT [] x = x := by
  unfold rootT rootF
  split <;> rfl
theorem lookT_self (x : Tm) : ∀ (g : Nat) (c : Int), c + sz x ≤ 20000 → dp x ≤ g → ∃ c', lookT g [] c x x = ([], c', 0) ∧ c' ≤ c + sz x := by
  induction x using Tm.ind with
  | h k n l ih =>
    intro g c hc hd
    cases g with
    | zero => have := dp_pos (.node k n l); omega
    | succ g =>
      have h1 : sz (.node k n l) = 1 + szL l := rfl
      have h2 : dp (.node k n l) = 1 + dpL l := rfl
      rw [h1] at hc
      rw [h2] at hd
      have hs : sameR (.node k n l) (.node k n l) = true := by simp [sameR]
      simp only [lookT]
      rw [if_neg (by omega), root_nil]
      unfold lookR
      rw [hs]
      by_cases hk : k = 1
      · rw [if_pos ⟨hk, rfl⟩]
        exact ⟨c + 1, rfl, by rw [h1]; omega⟩
      · have hk' : ¬ (Tm.node k n l).k = 1 := hk
        rw [if_neg (fun h => hk' h.1), if_neg (fun h => hk' h.1), if_neg hk', if_pos rfl]
        obtain ⟨c', h3, h4⟩ := lookL_self (g := g) l (fun x hx c => ih x hx g c) (c + 1) (by omega) (by omega)
        exact ⟨c', h3, by rw [h1]; omega⟩
theorem settleL_nil {f : Nat} (hf : ∀ l n l' ok, settleT [] f l n = some (l', ok) → ok = true) : ∀ (ns : List Int) (l l' : List Tm) (ok : Bool), settleL (settleT [] f) ns l = some (l', ok) → ok = true
  | [], l, l', ok, h => by simp only [settleL, Option.some.injEq, Prod.mk.injEq] at h; exact h.2.symm
  | n :: ns, l, l', ok, h => by
    simp only [settleL] at h
    cases hp : settleT [] f l n with
    | none => rw [hp] at h; cases h
    | some p =>
      obtain ⟨l1, ok1⟩ := p
      have := hf _ _ _ _ hp
      subst this
      rw [hp] at h
      exact settleL_nil hf ns l1 l' ok h
theorem settleT_nil (f : Nat) : ∀ l n l' ok, settleT [] f l n = some (l', ok) → ok = true := by
  cases f with
  | zero => intro l n l' ok h; cases h
  | succ f =>
    intro l n l' ok h
    rw [settleT_succ] at h
    split at h
    · simp only [Option.some.injEq, Prod.mk.injEq] at h; exact h.2.symm
    · simp only [fndT, Option.some.injEq, Prod.mk.injEq] at h; exact h.2.symm
theorem sets_nil {ns : List Int} {l : List Tm} {r : List Tm × Bool} (h : SetsL [] ns l r) : r.2 = true := by
  obtain ⟨f, hf⟩ := setsL_fuel h
  obtain ⟨l', ok⟩ := r
  exact settleL_nil (settleT_nil f) ns l l' ok hf
theorem wf0 : WfB [] 0 := ⟨by simp, (fun x hx => by cases hx), fun i hi => by simp at hi⟩
theorem sol_nil (σ : Int → Tm) : Sol σ [] := fun n u h => by cases h
theorem atL_getD {r : List Tm} {n : Int} (h0 : 0 ≤ n) (h1 : n < (r.length : Int)) (d : Tm) : r.getD n.toNat d = atL r n := by
  have h : n.toNat < r.length := by omega
  unfold atL
  rw [List.getD_eq_getElem?_getD, List.getElem?_eq_getElem h]
  rfl
/-- What comes of a unification that succeeds. -/
theorem uni_facts {p t : Tm} (hp : good p = true) (ht : good t = true) {N : Nat} (hN : N = (most (vars [p, t]) + 1).toNat) {b : Bec} {c : Int} (h0 : lookT 20001 [] 0 p t = (b, c, 0)) {r : List Tm} (hr : SetsL b (ups N) (List.replicate N zeroT) (r, true)) :
    r.length = N ∧ r.all good = true ∧ repT (rho r) p = repT (rho r) t ∧ (∀ x ∈ r, substE x r = 0 ∧ substT r x = x ∧ ∀ m, occ m x = true → m < N) ∧ ∀ σ : Int → Tm, repT σ p = repT σ t → ∀ n : Int, 0 ≤ n → n < N → repT σ (atL r n) = σ n := by
  have op := good_okT hp
  have ot := good_okT ht
  have hwf := (lookT_wf 20001 [] 0 p t wf0 op ot).1
  rw [h0] at hwf
  have hb : BOk b := hwf.ok
  have hge := most_ge (vars [p, t])
  have hPc : ∀ x : Tm, (allN okN x = true ∧ ∀ m, occ m x = true → m < (N : Int)) → ∀ y ∈ x.l, allN okN y = true ∧ ∀ m, occ m y = true → m < (N : Int) := by
    intro x hx y hy
    obtain ⟨k, n, l⟩ := x
    exact ⟨(kids_ok hx.1).2 y hy, fun m hm => hx.2 m (occ_kid hy hm)⟩
  have hin : ∀ x ∈ [p, t], ∀ m, occ m x = true → m < (N : Int) := by
    intro x hx m hm
    have := most_mem (vars_occ hx hm)
    omega
  have Pp : allN okN p = true ∧ ∀ m, occ m p = true → m < (N : Int) := ⟨op.1, hin p (by simp)⟩
  have Pt : allN okN t = true ∧ ∀ m, occ m t = true → m < (N : Int) := ⟨ot.1, hin t (by simp)⟩
  have hP := lookT_P (P := fun x => allN okN x = true ∧ ∀ m, occ m x = true → m < (N : Int)) hPc 20001 [] 0 p t (fun z hz => by cases hz) Pp Pt
  have hK := lookT_K (K := fun n => 0 ≤ n ∧ n < (N : Int)) (P := fun x => allN okN x = true ∧ ∀ m, occ m x = true → m < (N : Int)) hPc (fun x hx hk => ⟨occ_nonneg x hx.1 _ (occ_self hk), hx.2 _ (occ_self hk)⟩) 20001 [] 0 p t (fun z hz => by cases hz) (fun z hz => by cases hz) Pp Pt
  rw [h0] at hP hK
  simp only at hP hK
  have hrange : ∀ x ∈ b, ∀ m, occ m x.2 = true → m < (N : Int) := fun x hx => (hP x hx).2
  obtain ⟨hlen, hval⟩ := sets_all hb hrange hr
  have hrho : ∀ n : Int, 0 ≤ n → n < N → rho r n = atL r n := fun n h1 h2 => by unfold rho; rw [if_pos ⟨h1, by omega⟩]
  have hsol : Sol (rho r) b := by
    intro n u hf
    obtain ⟨i, hi, e1, e2⟩ := fndT_ix hf
    obtain ⟨k1, k2⟩ := hK _ (List.getElem_mem hi)
    rw [e1] at k1 k2
    have hx := hP _ (List.getElem_mem hi)
    rw [e2] at hx
    refine val_sol hb hf (by rw [hrho n k1 k2]; exact (hval n k1 k2).1) fun m hm => ?_
    have m1 := occ_nonneg u hx.1 m hm
    rw [hrho m m1 (hx.2 m hm)]
    exact (hval m m1 (hx.2 m hm)).1
  have hfree : ∀ m, fndT m b = none → rho r m = var m := by
    intro m hm
    unfold rho
    split
    · rename_i h
      exact val_fun hb (hval m h.1 (by omega)).1 (.free hm)
    · rfl
  have hsnd := lookT_snd 20001 [] 0 p t wf0 op ot (by rw [h0])
  rw [h0] at hsnd
  have elem : ∀ x ∈ r, ∃ n : Int, 0 ≤ n ∧ n < N ∧ x = atL r n := by
    intro x hx
    obtain ⟨i, hi, rfl⟩ := List.mem_iff_getElem.1 hx
    refine ⟨(i : Int), by omega, by omega, ?_⟩
    unfold atL
    rw [Int.toNat_natCast, List.getElem?_eq_getElem hi]
    rfl
  have hgood : ∀ x ∈ r, good x = true := by
    intro x hx
    obtain ⟨n, n0, n1, rfl⟩ := elem x hx
    exact (good_fit _).2 ⟨(hval n n0 n1).2, val_ok hb (hval n n0 n1).1 n0⟩
  have hall : r.all good = true := List.all_eq_true.2 hgood
  refine ⟨hlen, hall, hsnd.2 _ hsol, fun x hx => ?_, fun σ hσ n n0 n1 => ?_⟩
  · have hg := hgood x hx
    obtain ⟨n, n0, n1, rfl⟩ := elem x hx
    have hv := (hval n n0 n1).1
    have hok := val_ok hb hv n0
    have hvars := val_vars hb hrange hv n1
    have hs : substT r (atL r n) = atL r n := by
      unfold substT
      refine (repT_congr (h := rho r) _ hok fun m hm => ?_).trans (val_fix hb hfree hv)
      have m0 := occ_nonneg _ hok m hm
      have m1 := (hvars m hm).1
      rw [atL_getD m0 (by omega), hrho m m0 m1]
    refine ⟨substE_zero.2 ⟨hg, hall, ?_, by rw [hs]; exact ((good_fit _).1 hg).1⟩, hs, fun m hm => (hvars m hm).1⟩
    rcases most_in (vars [atL r n]) with h | h
    · rw [h]; omega
    · have := (hvars _ ((vars_one _ _).1 h)).1
      omega
  · have hc := (lookT_cmp 20001 [] 0 p t wf0 op ot σ (sol_nil σ) hσ).2 (by rw [h0])
    rw [h0] at hc
    exact val_mgu hb hc (hval n n0 n1).1
/-- Where something makes both trees equal, no pair is refused. -/
theorem uni_yes {p t : Tm} (hp : good p = true) (ht : good t = true) {σ : Int → Tm} (h : repT σ p = repT σ t) : (lookT 20001 [] 0 p t).2.2 ≠ 3 :=
  (lookT_cmp 20001 [] 0 p t wf0 (good_okT hp) (good_okT ht) σ (sol_nil σ) h).1
theorem uni_self {a : Tm} (ha : good a = true) : ∃ c, lookT 20001 [] 0 a a = ([], c, 0) := by
  obtain ⟨h1, h2, -⟩ := (good_iff a).1 ha
  obtain ⟨c, h3, -⟩ := lookT_self a 20001 0 (by omega) (by omega)
  exact ⟨c, h3⟩
theorem self_at {N : Nat} {r : List Tm} (hr : SetsL [] (ups N) (List.replicate N zeroT) (r, true)) : r.length = N ∧ ∀ i (h : i < r.length), r[i] = var i := by
  obtain ⟨hlen, hval⟩ := sets_all (b := []) (fun x hx => by cases hx) (fun x hx => by cases hx) hr
  refine ⟨hlen, fun i h => ?_⟩
  have hv := (hval i (by omega) (by omega)).1
  have e : atL r i = r[i] := by
    unfold atL
    rw [Int.toNat_natCast, List.getElem?_eq_getElem h]
    rfl
  rw [e] at hv
  generalize r[i] = t at hv
  cases hv with
  | free _ => rfl
  | bound h1 _ => cases h1
end Go.Tr
