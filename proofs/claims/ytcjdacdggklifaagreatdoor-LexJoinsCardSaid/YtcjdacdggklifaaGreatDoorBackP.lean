/- There and back: what Join writes is cut into the tokens that it was handed; with a byte less it is not. No walk here. -/
import Derived.Test.YtcjdacdggklifaaGreatDoorSpell
namespace Go.Proofs.YtcjdacdggklifaaGreatDoor
open Go.RowKit

/-! Bytes that are no blank. -/
def nb (l : Lx.Bs) : Nat := (l.filter fun c => !Lx.blank c).length
theorem nb_append (a b : Lx.Bs) : nb (a ++ b) = nb a + nb b := by simp [nb]
theorem nb_full (l : Lx.Bs) (h : ∀ c ∈ l, Lx.blank c = false) : nb l = l.length := by
  unfold nb
  rw [List.filter_eq_self.2 (fun c hc => by rw [h c hc]; rfl)]
theorem nb_split (l : Lx.Bs) (n : Nat) : nb l = nb (l.take n) + nb (l.drop n) := by rw [← nb_append, List.take_append_drop]
theorem take_run (p : UInt8 → Bool) (l : Lx.Bs) : l.take (Lx.run p l) = l.takeWhile p := (List.prefix_iff_eq_take.1 (List.takeWhile_prefix p)).symm
theorem run_all (p : UInt8 → Bool) (l : Lx.Bs) : ∀ c ∈ l.take (Lx.run p l), p c = true := by
  rw [take_run]
  exact List.all_eq_true.1 (List.all_takeWhile)
theorem not_blank_of {p : UInt8 → Bool} (hp : ∀ c, Lx.blank c = true → p c = false) {c : UInt8} (h : p c = true) : Lx.blank c = false := by
  cases hb : Lx.blank c with
  | false => rfl
  | true => rw [hp c hb] at h; cases h
theorem tok_bytes {l : Lx.Bs} {k n : Nat} {s : Lx.Bs} {len : Nat} (h : Lx.step l = .tok k n s len) : ∀ c ∈ l.take len, Lx.blank c = false := by
  rcases Lx.step_tok_iff.1 h with ⟨_, ht⟩ | ⟨_, ht⟩ | ⟨_, ht⟩ | ⟨_, ht⟩
  · obtain ⟨-, -, -, -, rfl⟩ := Lx.word_tok.1 ht
    exact fun c hc => not_blank_of (fun _ => Lx.blank_not_inw) (run_all _ _ c hc)
  · obtain ⟨-, -, -, -, rfl⟩ := Lx.number_tok.1 ht
    exact fun c hc => not_blank_of (fun _ => Lx.blank_not_inw) (Lx.digit_inw (run_all _ _ c hc))
  · obtain ⟨-, -, -, -, rfl⟩ := Lx.symbol_tok.1 ht
    exact fun c hc => not_blank_of (fun _ => Lx.blank_not_symb) (run_all _ _ c hc)
  · obtain ⟨hne, -, -, -, rfl⟩ := Lx.sign_tok.1 ht
    rw [← List.prefix_iff_eq_take.1 (Lx.sgn_pre l)]
    exact Lx.signs_no_blank _ (Lx.sgn_mem hne)
theorem tok_nb {l : Lx.Bs} {k n : Nat} {s : Lx.Bs} {len : Nat} (h : Lx.step l = .tok k n s len) : nb (l.take len) = len := by
  rw [nb_full _ (tok_bytes h), List.length_take]
  have := (Lx.step_tok h).2
  omega

/-! Tokens that are right. -/
/-- A token is cut, as it is written, ahead of these bytes. -/
def Ahead (t : RT) (m : Lx.Bs) : Prop := ∃ k n s, Lx.step (bts t.text ++ m) = .tok k n s (bts t.text).length ∧ t.k = (k : Nat) ∧ t.n = (n : Nat) ∧ bts t.s = s
theorem Ahead.fits {t : RT} {m m' : Lx.Bs} (h : Ahead t m) (hf : Lx.Fits m m') : Ahead t m' := by
  obtain ⟨k, n, s, h1, h2⟩ := h
  exact ⟨k, n, s, Lx.step_fits h1 hf, h2⟩
theorem Ahead.bytes {t : RT} {m : Lx.Bs} (h : Ahead t m) : ∀ c ∈ bts t.text, Lx.blank c = false := by
  obtain ⟨k, n, s, h1, h2⟩ := h
  have := tok_bytes h1
  rwa [List.take_left] at this
theorem Ahead.pos {t : RT} {m : Lx.Bs} (h : Ahead t m) : 0 < (bts t.text).length := by
  obtain ⟨k, n, s, h1, h2⟩ := h
  exact (Lx.step_tok h1).1
theorem numF_lt : ∀ (ds : Lx.Bs) (m n : Nat), (∀ c ∈ ds, Lx.digit c = true) → Lx.numF m ds = some n → n < (m + 1) * 10 ^ ds.length
  | [], m, n, _, h => by simp [Lx.numF] at h; subst h; simp
  | c :: r, m, n, hd, h => by
    rw [Lx.numF] at h
    split at h
    · cases h
    · have h1 := numF_lt r _ n (fun c hc => hd c (List.mem_cons_of_mem _ hc)) h
      have h2 : c.toNat - 48 ≤ 9 := by
        have := hd c (List.mem_cons_self ..)
        simp only [Lx.digit, Bool.and_eq_true, decide_eq_true_eq, UInt8.le_iff_toNat_le] at this
        have e : (57 : UInt8).toNat = 57 := rfl
        omega
      have h3 : (10 * m + (c.toNat - 48) + 1) * 10 ^ r.length ≤ (10 * (m + 1)) * 10 ^ r.length := Nat.mul_le_mul (by omega) (Nat.le_refl _)
      have e : (m + 1) * 10 ^ (c :: r).length = (10 * (m + 1)) * 10 ^ r.length := by
        rw [List.length_cons, Nat.pow_succ, Nat.mul_comm (10 ^ r.length) 10, ← Nat.mul_assoc, Nat.mul_comm (m + 1) 10]
      rw [e]; omega
theorem nDigits_le : ∀ (k u : Nat), u < 10 ^ (k + 1) → Lib.nDigits u ≤ k + 1
  | 0, u, h => by rw [Lib.nDigits_small (by simpa using h)]; omega
  | k + 1, u, h => by
    by_cases h10 : u < 10
    · rw [Lib.nDigits_small h10]; omega
    · rw [Lib.nDigits_big h10]
      have : u / 10 < 10 ^ (k + 1) := by
        apply Nat.div_lt_of_lt_mul
        rw [Nat.pow_succ] at h; omega
      have := nDigits_le k (u / 10) this
      omega
theorem txt_three (t : RT) (h : t.k = 3) : bts t.text = Lib.itoa t.n := by unfold RT.text; rw [if_pos h]; try rfl
theorem txt_not (t : RT) (h : t.k ≠ 3) : t.text = t.s := by unfold RT.text; rw [if_neg h]
/-- What is cut as a token takes as many bytes as the token is written with, or more. -/
theorem tok_len {l : Lx.Bs} {k n : Nat} {s : Lx.Bs} {len : Nat} (h : Lx.step l = .tok k n s len) (t : RT) (hk : t.k = (k : Nat)) (hn : t.n = (n : Nat)) (hs : bts t.s = s) : (bts t.text).length ≤ len := by
  have hl := Lx.step_tok h
  have h' : Lx.step (l.take len ++ l.drop len) = .tok k n s (l.take len).length := by
    rw [List.take_append_drop, List.length_take, Nat.min_eq_left hl.2]; exact h
  rcases Lx.tok_text h' with ⟨h3, _⟩ | ⟨h3, h4⟩
  · rw [txt_three t (by rw [hk, h3]; rfl), hn, itoa_nat, Lib.decDigits_length]
    have hd : ∃ k' n' s', Lx.number l = .tok k' n' s' len ∧ n' = n := by
      rcases Lx.step_tok_iff.1 h with ⟨_, ht⟩ | ⟨_, ht⟩ | ⟨_, ht⟩ | ⟨_, ht⟩
      · obtain ⟨-, hk, -⟩ := Lx.word_tok.1 ht
        rw [h3] at hk; split at hk <;> omega
      · exact ⟨_, _, _, ht, rfl⟩
      · obtain ⟨-, hk, -⟩ := Lx.symbol_tok.1 ht
        rw [h3] at hk; split at hk <;> omega
      · obtain ⟨-, hk, -⟩ := Lx.sign_tok.1 ht
        omega
    obtain ⟨k', n', s', ht, rfl⟩ := hd
    obtain ⟨-, hv, -, -, hlen⟩ := Lx.number_tok.1 ht
    have hlt := numF_lt _ 0 n' (by rw [hlen]; exact run_all _ _) hv
    rw [List.length_take, Nat.min_eq_left hl.2, Nat.zero_add, Nat.one_mul] at hlt
    obtain ⟨j, rfl⟩ : ∃ j, len = j + 1 := ⟨len - 1, by omega⟩
    exact nDigits_le j n' hlt
  · rw [txt_not t (by rw [hk]; exact fun e => h3 (by omega)), hs, h4, List.length_take]; omega
theorem alike_iff (x : Lx.Tok) (t : RT) : alikeB (rt x) t = true ↔ t.k = (x.k : Nat) ∧ t.n = (x.n : Nat) ∧ bts t.s = x.s := by
  unfold alikeB rt
  simp only [Bool.and_eq_true, beq_iff_eq, ByteArray.toList_eq]
  have e : ((ofB x.s).data.toList = t.s.data.toList) ↔ (bts t.s = x.s) := by
    have e1 : (ofB x.s).data.toList = x.s := bts_ofB x.s
    rw [e1]
    exact ⟨fun h => h.symm, fun h => h.symm⟩
  rw [e]
  constructor
  · rintro ⟨⟨h1, h2⟩, h3⟩; exact ⟨h1.symm, h2.symm, h3⟩
  · rintro ⟨h1, h2, h3⟩; exact ⟨⟨h1.symm, h2.symm⟩, h3⟩
def wide (rs : List RT) : Nat := (rs.map fun t => (bts t.text).length).sum
theorem wide_cons (a : RT) (l : List RT) : wide (a :: l) = (bts a.text).length + wide l := by simp [wide]
theorem likes_nil (rs : List RT) (h : likes [] rs = true) : rs = [] := by cases rs with | nil => rfl | cons => simp [likes] at h
theorem likes_cons {x : RT} {l : List RT} {rs : List RT} (h : likes (x :: l) rs = true) : ∃ t r, rs = t :: r ∧ alikeB x t = true ∧ likes l r = true := by
  cases rs with
  | nil => simp [likes] at h
  | cons t r => simp only [likes, Bool.and_eq_true] at h; exact ⟨t, r, rfl, h⟩
/-- A text has as many bytes that are no blank as its tokens are written with, or more. -/
theorem need (l : Lx.Bs) : ∀ (x : Nat) (ts : List Lx.Tok) (rs : List RT), Lx.T l x = .good ts → likes (ts.map rt) rs = true → wide rs ≤ nb l := by
  induction l using Lx.step_induct with
  | h0 => intro x ts rs h hl; rw [Lx.T_nil] at h; cases h; rw [likes_nil rs hl]; exact Nat.zero_le _
  | hbad l hl hs => intro x ts rs h; rw [Lx.T_bad hl hs] at h; cases h
  | hfill l n hs ih =>
    intro x ts rs h hl
    rw [Lx.T_fill hs] at h
    have := ih _ _ _ h hl
    rw [nb_split l n]; omega
  | htok l k n s len hs ih =>
    intro x ts rs h hl
    rw [Lx.T_tok hs, Lx.Res.pre_good] at h
    obtain ⟨l', h1, rfl⟩ := h
    obtain ⟨t, r, rfl, ha, hr⟩ := likes_cons hl
    have := ih _ _ _ h1 hr
    obtain ⟨hk, hn, hs2⟩ := (alike_iff _ _).1 ha
    have h2 := tok_len hs t hk hn hs2
    rw [nb_split l len, tok_nb hs]
    unfold wide at *
    rw [List.map_cons, List.sum_cons]; omega
theorem right_of {t : RT} {x : Lx.Tok} (hT : Lx.T (bts t.text) 0 = .good [x]) (ha : alikeB (rt x) t = true) : rightB t = true := by
  have hg : Lx.G 2 (bts t.text) 0 = .good [x] := (Lx.G_few 2 _ 0 1 [x] rfl (by omega)).2 hT
  unfold rightB cutB
  rw [show ([t] : List RT).length + 1 = 2 from rfl, hg]
  simp [toks, likes, ha]
theorem right_one {t : RT} (h : rightB t = true) : ∃ x, Lx.T (bts t.text) 0 = .good [x] ∧ alikeB (rt x) t = true := by
  unfold rightB cutB at h
  rw [show ([t] : List RT).length + 1 = 2 from rfl] at h
  cases hg : Lx.G 2 (bts t.text) 0 with
  | bad a => rw [hg] at h; simp [toks, likes] at h
  | good l =>
    rw [hg] at h
    simp only [toks] at h
    have hl := likes_len _ _ h
    rw [List.length_map] at hl
    match l, hl with
    | [x], _ =>
      have hT := (Lx.G_few 2 _ 0 1 [x] rfl (by omega)).1 hg
      simp only [List.map_cons, List.map_nil, likes, Bool.and_true] at h
      exact ⟨x, hT, h⟩
theorem Ahead.right {t : RT} (h : Ahead t []) : ∃ x, Lx.T (bts t.text) 0 = .good [x] ∧ alikeB (rt x) t = true := by
  obtain ⟨k, n, s, h1, h2, h3, h4⟩ := h
  rw [List.append_nil] at h1
  refine ⟨⟨k, n, s, 0, 0 + (bts t.text).length⟩, ?_, (alike_iff _ _).2 ⟨h2, h3, h4⟩⟩
  rw [Lx.T_tok h1, List.drop_length, Lx.T_nil]; rfl
theorem right_iff (t : RT) : rightB t = true ↔ Ahead t [] := by
  constructor
  · intro h
    obtain ⟨x, hT, ha⟩ := right_one h
    obtain ⟨f, w, r, hl, _, _, _, hst, _⟩ := Lx.chain _ _ _ hT
    obtain ⟨hk, hn, hs⟩ := (alike_iff _ _).1 ha
    have hle := tok_len hst t hk hn hs
    have hlen := congrArg List.length hl
    rw [List.length_append, List.length_append] at hlen
    have hf : f = [] := List.eq_nil_of_length_eq_zero (by omega)
    have hr : r = [] := List.eq_nil_of_length_eq_zero (by omega)
    subst hf hr
    rw [List.nil_append, List.append_nil] at hl
    rw [List.append_nil] at hst
    rw [← hl] at hst
    exact ⟨x.k, x.n, x.s, by rw [List.append_nil]; exact hst, hk, hn, hs⟩
  · intro h
    obtain ⟨x, hT, ha⟩ := h.right
    exact right_of hT ha
theorem apart_two {a b : RT} (h : apartB a b = true) : ∃ x y, Lx.T (bts a.text ++ bts b.text) 0 = .good [x, y] ∧ alikeB (rt x) a = true ∧ alikeB (rt y) b = true := by
  unfold apartB cutB at h
  rw [show ([a, b] : List RT).length + 1 = 3 from rfl, bts_append] at h
  cases hg : Lx.G 3 (bts a.text ++ bts b.text) 0 with
  | bad a => rw [hg] at h; simp [toks, likes] at h
  | good l =>
    rw [hg] at h
    simp only [toks] at h
    have hl := likes_len _ _ h
    rw [List.length_map] at hl
    match l, hl with
    | [x, y], _ =>
      have hT := (Lx.G_few 3 _ 0 2 [x, y] rfl (by omega)).1 hg
      simp only [List.map_cons, List.map_nil, likes, Bool.and_true, Bool.and_eq_true] at h
      exact ⟨x, y, hT, h⟩
theorem apart_of {a b : RT} {x y : Lx.Tok} (hT : Lx.T (bts a.text ++ bts b.text) 0 = .good [x, y]) (h1 : alikeB (rt x) a = true) (h2 : alikeB (rt y) b = true) : apartB a b = true := by
  have hg := (Lx.G_few 3 _ 0 2 [x, y] rfl (by omega)).2 hT
  unfold apartB cutB
  rw [show ([a, b] : List RT).length + 1 = 3 from rfl, bts_append, hg]
  simp [toks, likes, h1, h2]
theorem apart_ahead {a b : RT} (h : apartB a b = true) : Ahead a (bts b.text) := by
  obtain ⟨x, y, hT, h1, h2⟩ := apart_two h
  obtain ⟨f, w, r, hl, _, _, _, hst, hTr, _⟩ := Lx.chain _ _ _ hT
  obtain ⟨hk, hn, hs⟩ := (alike_iff _ _).1 h1
  have hle := tok_len hst a hk hn hs
  obtain ⟨f2, w2, r2, hl2, _, _, _, hst2, _⟩ := Lx.chain _ _ _ hTr
  obtain ⟨hk2, hn2, hs2⟩ := (alike_iff _ _).1 h2
  have hle2 := tok_len hst2 b hk2 hn2 hs2
  have e1 := congrArg List.length hl
  have e2 := congrArg List.length hl2
  simp only [List.length_append] at e1 e2
  have hf : f = [] := List.eq_nil_of_length_eq_zero (by omega)
  have hw : w.length = (bts a.text).length := by omega
  subst hf
  rw [List.nil_append] at hl
  rw [← hl, hw] at hst
  exact ⟨x.k, x.n, x.s, hst, hk, hn, hs⟩
theorem ahead_apart {a b : RT} (ha : Ahead a (bts b.text)) (hb : Ahead b []) : apartB a b = true := by
  obtain ⟨k, n, s, h1, h2, h3, h4⟩ := ha
  obtain ⟨k', n', s', g1, g2, g3, g4⟩ := hb
  rw [List.append_nil] at g1
  refine apart_of (x := ⟨k, n, s, 0, 0 + (bts a.text).length⟩) (y := ⟨k', n', s', 0 + (bts a.text).length, 0 + (bts a.text).length + (bts b.text).length⟩) ?_ ((alike_iff _ _).2 ⟨h2, h3, h4⟩) ((alike_iff _ _).2 ⟨g2, g3, g4⟩)
  rw [Lx.T_tok h1, List.drop_left, Lx.T_tok g1, List.drop_length, Lx.T_nil]; rfl

/-! There and back. -/
theorem bts_is (t : ByteArray) : t.data.toList = bts t := rfl
theorem ahead_tail {a : RT} {l : List RT} (ha : Ahead a []) (hl : ∀ t ∈ l, Ahead t []) : Ahead a (joinF a l) := by
  cases l with
  | nil => exact ha
  | cons b l =>
    rw [joinF, sp]
    cases hab : apartB a b with
    | true =>
      rw [if_pos rfl, List.nil_append, bts_is]
      exact (apart_ahead hab).fits (Lx.Fits.append _ _ (fun e => by have := (hl b (List.mem_cons_self ..)).pos; rw [e] at this; simp at this))
    | false => rw [if_neg (by simp)]; exact ha.fits (Lx.Fits.blank _ (by decide) _)
theorem blank_step (l : Lx.Bs) : Lx.step (32 :: l) = .fill 1 := by unfold Lx.step; rw [Lx.kd_blank (by decide)]
/-- What Join writes is cut into the tokens that it was handed. -/
theorem back (l : List RT) : ∀ (a : RT) (x : Nat), Ahead a [] → (∀ t ∈ l, Ahead t []) → ∃ ts, Lx.T (bts a.text ++ joinF a l) x = .good ts ∧ likes (ts.map rt) (a :: l) = true := by
  induction l with
  | nil =>
    intro a x ha hl
    obtain ⟨k, n, s, h1, h2, h3, h4⟩ := ha
    rw [List.append_nil] at h1
    refine ⟨[⟨k, n, s, x, x + (bts a.text).length⟩], ?_, ?_⟩
    · rw [joinF, List.append_nil, Lx.T_tok h1, List.drop_length, Lx.T_nil]; rfl
    · simp only [List.map_cons, List.map_nil, likes, Bool.and_true]; exact (alike_iff _ _).2 ⟨h2, h3, h4⟩
  | cons b l ih =>
    intro a x ha hl
    obtain ⟨k, n, s, h1, h2, h3, h4⟩ := ahead_tail ha hl
    have hb := hl b (List.mem_cons_self ..)
    have hl2 := fun t ht => hl t (List.mem_cons_of_mem _ ht)
    have hq : ∃ y, Lx.T (joinF a (b :: l)) (x + (bts a.text).length) = Lx.T (bts b.text ++ joinF b l) y := by
      rw [joinF, sp, bts_is, List.append_assoc]
      cases hab : apartB a b with
      | true => exact ⟨_, by rw [if_pos rfl, List.nil_append]⟩
      | false => exact ⟨_, by rw [if_neg (by simp), List.singleton_append, Lx.T_fill (blank_step _), List.drop_one, List.tail_cons]⟩
    obtain ⟨y, hy⟩ := hq
    obtain ⟨ts, hT, hlk⟩ := ih b y hb hl2
    refine ⟨⟨k, n, s, x, x + (bts a.text).length⟩ :: ts, ?_, ?_⟩
    · rw [Lx.T_tok h1, List.drop_left, hy, hT]; rfl
    · rw [List.map_cons, likes, hlk, Bool.and_true]; exact (alike_iff _ _).2 ⟨h2, h3, h4⟩
theorem nb_join (l : List RT) : ∀ (a : RT), Ahead a [] → (∀ t ∈ l, Ahead t []) → nb (bts a.text ++ joinF a l) = wide (a :: l) := by
  induction l with
  | nil => intro a ha _; rw [joinF, List.append_nil, nb_full _ ha.bytes]; simp [wide]
  | cons b l ih =>
    intro a ha hl
    have := ih b (hl b (List.mem_cons_self ..)) (fun t ht => hl t (List.mem_cons_of_mem _ ht))
    have e : nb (sp a b) = 0 := by unfold sp; split <;> rfl
    rw [joinF, bts_is, List.append_assoc, nb_append, nb_append, e, this, nb_full _ ha.bytes, wide_cons a (b :: l)]
    omega
theorem len_join (l : List RT) : ∀ (a : RT), wide (a :: l) ≤ (bts a.text ++ joinF a l).length ∧ (bts a.text ++ joinF a l).length ≤ wide (a :: l) + l.length := by
  induction l with
  | nil => intro a; simp [wide, joinF]
  | cons b l ih =>
    intro a
    have := ih b
    have e : (sp a b).length ≤ 1 := by unfold sp; split <;> simp
    rw [joinF, bts_is, List.append_assoc, List.length_append, List.length_append, wide_cons, List.length_cons]
    omega
def less (l : Lx.Bs) (k : Nat) : Lx.Bs := l.take k ++ l.drop (k + 1)
theorem less_app (a b : Lx.Bs) (k : Nat) (h : a.length ≤ k) : less (a ++ b) k = a ++ less b (k - a.length) := by
  unfold less
  rw [List.take_append, List.drop_append, List.take_of_length_le h, List.drop_of_length_le (by omega), List.nil_append, List.append_assoc, show k + 1 - a.length = k - a.length + 1 from by omega]
theorem less_head {l : Lx.Bs} {k : Nat} (h : 0 < k) (x : Lx.Bs) (hx : x <+: l) (hx0 : x ≠ []) : Lx.Fits x (less l k) := by
  intro c hc
  left
  unfold less at hc
  cases l with
  | nil => simp at hc
  | cons d r =>
    obtain ⟨j, rfl⟩ : ∃ j, k = j + 1 := ⟨k - 1, by omega⟩
    rw [List.take_succ_cons, List.cons_append, List.head?_cons] at hc
    cases x with
    | nil => exact absurd rfl hx0
    | cons e q =>
      obtain ⟨z, hz⟩ := hx
      rw [List.cons_append, List.cons.injEq] at hz
      rw [List.head?_cons, hz.1]; exact hc
/-- A byte less that is no blank: too few bytes are left. -/
theorem less_full {l : Lx.Bs} {k : Nat} (hk : k < l.length) (hb : Lx.blank l[k] = false) {rs : List RT} (hw : nb l = wide rs) {x : Nat} {ts : List Lx.Tok} (hT : Lx.T (less l k) x = .good ts) (hl : likes (ts.map rt) rs = true) : False := by
  have h1 := need _ _ _ _ hT hl
  have h2 : nb l = nb (l.take k) + (1 + nb (l.drop (k + 1))) := by
    rw [nb_split l k, List.drop_eq_getElem_cons hk]
    congr 1
    rw [show l[k] :: l.drop (k + 1) = [l[k]] ++ l.drop (k + 1) from rfl, nb_append]
    congr 1
    simp [nb, hb]
  unfold less at h1
  rw [nb_append] at h1
  omega
/-- A blank less: two tokens have run together. -/
theorem less_blank (l : List RT) : ∀ (a : RT) (x k : Nat), Ahead a [] → (∀ t ∈ l, Ahead t []) → ∀ (hk : k < (bts a.text ++ joinF a l).length), Lx.blank (bts a.text ++ joinF a l)[k] = true → ∀ ts, Lx.T (less (bts a.text ++ joinF a l) k) x = .good ts → likes (ts.map rt) (a :: l) = true → False := by
  induction l with
  | nil =>
    intro a x k ha hl hk hb
    have hm : (bts a.text ++ joinF a [])[k] ∈ bts a.text := by
      simp [joinF]
    rw [ha.bytes _ hm] at hb; cases hb
  | cons b l ih =>
    intro a x k ha hl hk hb ts hT hlk
    have hbb := hl b (List.mem_cons_self ..)
    have hl2 := fun t ht => hl t (List.mem_cons_of_mem _ ht)
    have hJ : joinF a (b :: l) = sp a b ++ (bts b.text ++ joinF b l) := by rw [joinF, bts_is, List.append_assoc]
    have hka : (bts a.text).length ≤ k := by
      rcases Nat.lt_or_ge k (bts a.text).length with h | h
      · rw [List.getElem_append_left h] at hb
        rw [ha.bytes _ (List.getElem_mem h)] at hb; cases hb
      · exact h
    rw [less_app _ _ _ hka] at hT
    obtain ⟨j, hj⟩ : ∃ j, k - (bts a.text).length = j := ⟨_, rfl⟩
    rw [hj] at hT
    have hjl : j < (joinF a (b :: l)).length := by rw [List.length_append] at hk; omega
    have hbj : Lx.blank (joinF a (b :: l))[j] = true := by
      rw [List.getElem_append_right hka] at hb
      subst hj; exact hb
    -- the rest, once the first token is cut
    have rest : ∀ (m : Lx.Bs) (y : Nat), Ahead a m → Lx.T (bts a.text ++ m) x = .good ts → ∃ ts', Lx.T m (x + (bts a.text).length) = .good ts' ∧ likes (ts'.map rt) (b :: l) = true := by
      rintro m y ⟨k', n', s', h1, h2, h3, h4⟩ hTm
      rw [Lx.T_tok h1, List.drop_left, Lx.Res.pre_good] at hTm
      obtain ⟨ts', h5, rfl⟩ := hTm
      rw [List.singleton_append, List.map_cons, likes, Bool.and_eq_true] at hlk
      exact ⟨ts', h5, hlk.2⟩
    cases hab : apartB a b with
    | true =>
      have hs : sp a b = [] := by rw [sp, hab]; rfl
      rw [hJ, hs, List.nil_append] at hT
      have hbj2 : ∃ h : j < (bts b.text ++ joinF b l).length, Lx.blank (bts b.text ++ joinF b l)[j] = true := by
        have e : joinF a (b :: l) = bts b.text ++ joinF b l := by rw [hJ, hs, List.nil_append]
        refine ⟨by rw [← e]; exact hjl, ?_⟩
        simp only [← e]; exact hbj
      obtain ⟨hj2, hbj2⟩ := hbj2
      have hj0 : 0 < j := by
        rcases Nat.eq_zero_or_pos j with h0 | h0
        · subst h0
          rw [List.getElem_append_left hbb.pos, hbb.bytes _ (List.getElem_mem _)] at hbj2; cases hbj2
        · exact h0
      have hA : Ahead a (less (bts b.text ++ joinF b l) j) := (apart_ahead hab).fits (less_head hj0 _ (List.prefix_append ..) (fun e => by have := hbb.pos; rw [e] at this; simp at this))
      obtain ⟨ts', h1, h2⟩ := rest _ 0 hA hT
      exact ih b _ j hbb hl2 hj2 hbj2 ts' h1 h2
    | false =>
      have hs : sp a b = [32] := by rw [sp, hab]; rfl
      rw [hJ, hs] at hT
      rcases Nat.eq_zero_or_pos j with h0 | h0
      · subst h0
        have e : less ([32] ++ (bts b.text ++ joinF b l)) 0 = bts b.text ++ joinF b l := by simp [less]
        rw [e] at hT
        have hnbV := nb_join l b hbb hl2
        have hne : bts a.text ≠ [] := fun e => by have := ha.pos; rw [e] at this; simp at this
        have hA : Ahead a (bts b.text ++ joinF b l) := by
          cases hst : Lx.step (bts a.text ++ (bts b.text ++ joinF b l)) with
          | bad => rw [Lx.T_bad (by simp [hne]) hst] at hT; cases hT
          | fill n =>
            rw [Lx.T_fill hst] at hT
            have h1 := need _ _ _ _ hT hlk
            have h2 : nb (bts a.text ++ (bts b.text ++ joinF b l)) = wide (a :: b :: l) := by
              rw [nb_append, hnbV, nb_full _ ha.bytes]; simp [wide]
            have h3 := nb_split (bts a.text ++ (bts b.text ++ joinF b l)) n
            have h4 : 0 < nb ((bts a.text ++ (bts b.text ++ joinF b l)).take n) := by
              have hn := (Lx.step_fill hst).1
              cases hq : bts a.text with
              | nil => exact absurd hq hne
              | cons c r =>
                obtain ⟨i, rfl⟩ : ∃ i, n = i + 1 := ⟨n - 1, by omega⟩
                have hc : Lx.blank c = false := ha.bytes c (by rw [hq]; exact List.mem_cons_self ..)
                rw [List.cons_append, List.take_succ_cons]
                simp [nb, hc]
            omega
          | tok k' n' s' len =>
            rw [Lx.T_tok hst, Lx.Res.pre_good] at hT
            obtain ⟨ts', h5, rfl⟩ := hT
            rw [List.singleton_append, List.map_cons, likes, Bool.and_eq_true] at hlk
            obtain ⟨g1, g2, g3⟩ := (alike_iff _ _).1 hlk.1
            have h6 := tok_len hst a g1 g2 g3
            have h7 := need _ _ _ _ h5 hlk.2
            have h2 : nb (bts a.text ++ (bts b.text ++ joinF b l)) = (bts a.text).length + wide (b :: l) := by
              rw [nb_append, hnbV, nb_full _ ha.bytes]
            rw [nb_split _ len, tok_nb hst] at h2
            have h8 : len = (bts a.text).length := by omega
            subst h8
            exact ⟨k', n', s', hst, g1, g2, g3⟩
        have hA2 : Ahead a (bts b.text) := hA.fits (fun c hc => .inl (by
          cases hq : bts b.text with
          | nil => rw [hq] at hc; cases hc
          | cons d r => rw [hq] at hc; exact hc))
        rw [ahead_apart hA2 hbb] at hab; cases hab
      · rw [less_app _ _ _ (by simp; omega)] at hT
        obtain ⟨i, hi⟩ : ∃ i, j - [(32 : UInt8)].length = i := ⟨_, rfl⟩
        rw [hi] at hT
        have hA : Ahead a ([32] ++ less (bts b.text ++ joinF b l) i) := ha.fits (Lx.Fits.blank _ (by decide) _)
        obtain ⟨ts', h1, h2⟩ := rest _ 0 hA hT
        rw [List.singleton_append, Lx.T_fill (blank_step _), List.drop_one, List.tail_cons] at h1
        have hij : j = i + 1 := by simp at hi; omega
        have hbi : ∃ h : i < (bts b.text ++ joinF b l).length, Lx.blank (bts b.text ++ joinF b l)[i] = true := by
          have e : joinF a (b :: l) = 32 :: (bts b.text ++ joinF b l) := by rw [hJ, hs]; rfl
          subst hij
          simp only [e, List.length_cons, List.getElem_cons_succ] at hjl hbj
          exact ⟨by omega, hbj⟩
        obtain ⟨hi2, hbi2⟩ := hbi
        exact ih b _ i hbb hl2 hi2 hbi2 ts' h1 h2
/-- With a byte less, a blank or not, what Join wrote is cut into other tokens, or not at all. -/
theorem not_back (a : RT) (l : List RT) (ha : Ahead a []) (hl : ∀ t ∈ l, Ahead t []) (x k : Nat) (hk : k < (bts a.text ++ joinF a l).length) (ts : List Lx.Tok) (hT : Lx.T (less (bts a.text ++ joinF a l) k) x = .good ts) : likes (ts.map rt) (a :: l) = false := by
  cases hlk : likes (ts.map rt) (a :: l) with
  | false => rfl
  | true =>
    exfalso
    cases hb : Lx.blank (bts a.text ++ joinF a l)[k] with
    | false => exact less_full hk hb (nb_join l a ha hl) hT hlk
    | true => exact less_blank l a x k ha hl hk hb ts hT hlk
theorem alike_comm (a b : RT) : alikeB a b = alikeB b a := by
  unfold alikeB
  rw [Bool.eq_iff_iff]
  simp only [Bool.and_eq_true, beq_iff_eq]
  constructor <;> rintro ⟨⟨h1, h2⟩, h3⟩ <;> exact ⟨⟨h1.symm, h2.symm⟩, h3.symm⟩
theorem likes_comm : ∀ a b : List RT, likes a b = likes b a
  | [], [] => rfl
  | a :: l, b :: m => by simp only [likes]; rw [alike_comm a b, likes_comm l m]
  | [], _ :: _ => rfl
  | _ :: _, [] => rfl
end Go.Proofs.YtcjdacdggklifaaGreatDoor
