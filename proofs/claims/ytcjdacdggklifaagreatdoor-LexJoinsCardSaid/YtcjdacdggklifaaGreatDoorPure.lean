/- The plain mathematics of the cutting of texts into tokens: lists of bytes, no program. -/
namespace Go.Lx

abbrev Bs := List UInt8

def blank (c : UInt8) : Bool := c == 32 || c == 9 || c == 10 || c == 13
def digit (c : UInt8) : Bool := 48 ≤ c && c ≤ 57
def letter (c : UInt8) : Bool := (97 ≤ c && c ≤ 122) || (65 ≤ c && c ≤ 90)
def symb (c : UInt8) : Bool := [35, 36, 37, 38, 42, 43, 45, 46, 47, 60, 61, 62, 64, 92, 94, 126].contains c
def inw (c : UInt8) : Bool := letter c || digit c || c == 39

def words : List Bs := [
  [97, 99, 99, 101, 112, 116], [97, 110, 121], [98, 101, 104, 97, 118, 105, 111, 117, 114], [99, 104, 111, 105, 99, 101], [101, 110, 100, 108, 105, 98],
  [101, 110, 100, 112, 114, 111, 99], [101, 110, 100, 115, 112, 101, 99], [101, 110, 100, 116, 121, 112, 101], [101, 113, 110, 115], [101, 120, 105, 116],
  [102, 111, 114], [102, 111, 114, 97, 108, 108], [102, 111, 114, 109, 97, 108, 101, 113, 110, 115], [102, 111, 114, 109, 97, 108, 111, 112, 110, 115], [102, 111, 114, 109, 97, 108, 115, 111, 114, 116, 115],
  [104, 105, 100, 101], [105], [105, 110], [105, 115], [108, 101, 116],
  [108, 105, 98, 114, 97, 114, 121], [110, 111, 101, 120, 105, 116], [111, 102], [111, 102, 115, 111, 114, 116], [111, 112, 110, 110, 97, 109, 101, 115],
  [111, 112, 110, 115], [112, 114, 111, 99, 101, 115, 115], [114, 101, 110, 97, 109, 101, 100, 98, 121], [97, 99, 116, 117, 97, 108, 105, 122, 101, 100, 98, 121], [115, 111, 114, 116, 110, 97, 109, 101, 115],
  [115, 111, 114, 116, 115], [115, 112, 101, 99, 105, 102, 105, 99, 97, 116, 105, 111, 110], [115, 116, 111, 112], [116, 121, 112, 101], [117, 115, 105, 110, 103],
  [119, 97, 105, 116], [119, 104, 101, 114, 101]]

def signs : List Bs := [
  [40], [41], [91], [93], [123], [125], [44], [59], [58], [63], [33], [95],
  [91, 93], [91, 62], [124, 91], [93, 124], [124, 124], [124, 124, 124], [58, 61], [61], [45, 62], [61, 62], [62, 62], [46, 46]]

/-- The number of bytes at the head that have a property. -/
def run (p : UInt8 → Bool) (l : Bs) : Nat := (l.takeWhile p).length

def opens (l : Bs) : Bool := l.head? == some 40 && l.tail.head? == some 42
def closes (l : Bs) : Bool := l.head? == some 42 && l.tail.head? == some 41

/-- The bytes up to the end of a comment, at a depth; none: it has no end. -/
def comm (d : Nat) (l : Bs) : Option Nat :=
  match l with
  | [] => none
  | c :: r =>
    match opens (c :: r), closes (c :: r) with
    | true, _ => (comm (d + 1) r.tail).map (· + 2)
    | false, true => if d = 1 then some 2 else (comm (d - 1) r.tail).map (· + 2)
    | false, false => (comm d r).map (· + 1)
termination_by l.length
decreasing_by all_goals (simp; try omega)

theorem opens_iff (l : Bs) : opens l = true ↔ ∃ r, l = 40 :: 42 :: r := by
  cases l with
  | nil => simp [opens]
  | cons c r => cases r with
    | nil => simp [opens]
    | cons d r => simp [opens]
theorem closes_iff (l : Bs) : closes l = true ↔ ∃ r, l = 42 :: 41 :: r := by
  cases l with
  | nil => simp [closes]
  | cons c r => cases r with
    | nil => simp [closes]
    | cons d r => simp [closes]
theorem opens_not_closes {l : Bs} (h : opens l = true) : closes l = false := by obtain ⟨r, rfl⟩ := (opens_iff l).1 h; rfl

theorem comm_nil (d : Nat) : comm d [] = none := by rw [comm]
theorem comm_open (d : Nat) (r : Bs) : comm d (40 :: 42 :: r) = (comm (d + 1) r).map (· + 2) := by
  rw [comm, show opens (40 :: 42 :: r) = true from rfl]; rfl
theorem comm_close1 (r : Bs) : comm 1 (42 :: 41 :: r) = some 2 := by
  rw [comm, show opens (42 :: 41 :: r) = false from rfl, show closes (42 :: 41 :: r) = true from rfl]
  simp
theorem comm_close (d : Nat) (hd : d ≠ 1) (r : Bs) : comm d (42 :: 41 :: r) = (comm (d - 1) r).map (· + 2) := by
  rw [comm, show opens (42 :: 41 :: r) = false from rfl, show closes (42 :: 41 :: r) = true from rfl]
  simp [hd]
theorem comm_other (d : Nat) (c : UInt8) (r : Bs) (h1 : opens (c :: r) = false) (h2 : closes (c :: r) = false) : comm d (c :: r) = (comm d r).map (· + 1) := by
  rw [comm, h1, h2]

/-- The four ways of a comment's bytes. -/
theorem comm_induct {M : Nat → Bs → Prop} (h0 : ∀ d, M d []) (ho : ∀ d r, M (d + 1) r → M d (40 :: 42 :: r)) (h1 : ∀ r, M 1 (42 :: 41 :: r))
    (hc : ∀ d r, d ≠ 1 → M (d - 1) r → M d (42 :: 41 :: r)) (hx : ∀ d c r, opens (c :: r) = false → closes (c :: r) = false → M d r → M d (c :: r)) : ∀ d l, M d l := by
  intro d l
  generalize hm : l.length = m
  induction m using Nat.strongRecOn generalizing d l with
  | _ m ih =>
    cases l with
    | nil => exact h0 d
    | cons c r =>
      simp at hm
      cases h : opens (c :: r) with
      | true =>
        obtain ⟨q, hq⟩ := (opens_iff _).1 h; rw [hq]
        simp at hq; exact ho d q (ih q.length (by rw [hq.2] at hm; simp at hm; omega) _ _ rfl)
      | false =>
        cases h' : closes (c :: r) with
        | true =>
          obtain ⟨q, hq⟩ := (closes_iff _).1 h'; rw [hq]
          simp at hq
          by_cases hd : d = 1
          · subst hd; exact h1 q
          · exact hc d q hd (ih q.length (by rw [hq.2] at hm; simp at hm; omega) _ _ rfl)
        | false => exact hx d c r h h' (ih r.length (by omega) _ _ rfl)

def numF (n : Nat) : Bs → Option Nat
  | [] => some n
  | c :: r => if 10 * n + (c.toNat - 48) > 2147483647 then none else numF (10 * n + (c.toNat - 48)) r

def better (l best s : Bs) : Bs := if best.length < s.length && s.isPrefixOf l then s else best
/-- The longest sign at the head. -/
def sgn (l : Bs) : Bs := signs.foldl (better l) []

inductive Step where
  | bad
  | fill (n : Nat)
  | tok (k : Nat) (n : Nat) (s : Bs) (len : Nat)
  deriving DecidableEq

def word (l : Bs) : Step :=
  if run inw l > 32 then .bad else .tok (if words.contains (l.take (run inw l)) then 2 else 1) 0 (l.take (run inw l)) (run inw l)
def symbol (l : Bs) : Step :=
  if run symb l > 32 then .bad else .tok (if signs.contains (l.take (run symb l)) then 5 else 4) 0 (l.take (run symb l)) (run symb l)
def stops (p : UInt8 → Bool) (l : Bs) : Bool := match l.head? with | some c => p c | none => false
def number (l : Bs) : Step :=
  if stops inw (l.drop (run digit l)) then .bad else
  match numF 0 (l.take (run digit l)) with
  | none => .bad
  | some v => .tok 3 v [] (run digit l)
def sign (l : Bs) : Step := if sgn l = [] then .bad else .tok 5 0 (sgn l) (sgn l).length

inductive Kd where
  | blank | comm | letter | digit | symb | other
  deriving DecidableEq
/-- What begins at the head. -/
def kd (l : Bs) : Kd :=
  match l with
  | [] => .other
  | c :: r => if blank c then .blank else if opens (c :: r) then .comm else if letter c then .letter else if digit c then .digit else if symb c then .symb else .other

/-- What is taken at the head. -/
def step (l : Bs) : Step :=
  match kd l with
  | .blank => .fill 1
  | .comm => (match comm 0 l with | none => .bad | some n => .fill n)
  | .letter => word l
  | .digit => number l
  | .symb => symbol l
  | .other => sign l

theorem kd_blank {c : UInt8} {r : Bs} (h : blank c = true) : kd (c :: r) = .blank := by simp [kd, h]
theorem kd_comm {l : Bs} (h : opens l = true) : kd l = .comm := by
  obtain ⟨r, rfl⟩ := (opens_iff l).1 h; rw [kd, if_neg (by decide), if_pos (by rfl)]

structure Tok where
  k : Nat
  n : Nat
  s : Bs
  at_ : Nat
  fin : Nat
  deriving DecidableEq

inductive Res where
  | bad (at_ : Nat)
  | good (l : List Tok)
  deriving DecidableEq

def Res.pre (ts : List Tok) : Res → Res
  | .bad a => .bad a
  | .good l => .good (ts ++ l)

/-- The tokens of a text whose first byte has the number at_. -/
def T (l : Bs) (at_ : Nat) : Res :=
  match l with
  | [] => .good []
  | c :: r =>
    match step (c :: r) with
    | .bad => .bad at_
    | .fill n => T (r.drop (n - 1)) (at_ + n)
    | .tok k n s len => (T (r.drop (len - 1)) (at_ + len)).pre [⟨k, n, s, at_, at_ + len⟩]
termination_by l.length
decreasing_by all_goals (simp; try omega)

/-- The same, but no more than k tokens are read. -/
def G (k : Nat) (l : Bs) (at_ : Nat) : Res :=
  match k, l with
  | 0, _ => .good []
  | _ + 1, [] => .good []
  | k + 1, c :: r =>
    match step (c :: r) with
    | .bad => .bad at_
    | .fill n => G (k + 1) (r.drop (n - 1)) (at_ + n)
    | .tok kd n s len => (G k (r.drop (len - 1)) (at_ + len)).pre [⟨kd, n, s, at_, at_ + len⟩]
termination_by l.length
decreasing_by all_goals (simp; try omega)

theorem Res.pre_nil (r : Res) : r.pre [] = r := by cases r <;> simp [Res.pre]
theorem Res.pre_pre (a b : List Tok) (r : Res) : (r.pre b).pre a = r.pre (a ++ b) := by cases r <;> simp [Res.pre]

/-! ### runs -/
theorem run_le (p : UInt8 → Bool) (l : Bs) : run p l ≤ l.length := by
  induction l with
  | nil => simp [run]
  | cons c r ih => simp only [run, List.takeWhile_cons] at *; split <;> simp <;> omega
theorem run_cons (p : UInt8 → Bool) (c : UInt8) (r : Bs) : run p (c :: r) = if p c then run p r + 1 else 0 := by
  simp only [run, List.takeWhile_cons]; split <;> simp
theorem run_pos {p : UInt8 → Bool} {c : UInt8} {r : Bs} (h : p c = true) : 0 < run p (c :: r) := by rw [run_cons, h]; simp

/-! ### what a step takes is one byte at least, and no more than there is -/
theorem comm_pos : ∀ (d : Nat) (l : Bs) (n : Nat), comm d l = some n → 0 < n ∧ n ≤ l.length := by
  intro d l
  induction d, l using comm_induct with
  | h0 d => intro n h; rw [comm_nil] at h; cases h
  | ho d r ih =>
    intro n h; rw [comm_open] at h
    cases hk : comm (d + 1) r with
    | none => simp [hk] at h
    | some k => simp [hk] at h; have := ih _ hk; simp; omega
  | h1 r => intro n h; rw [comm_close1] at h; simp at h; subst h; simp
  | hc d r hd ih =>
    intro n h; rw [comm_close d hd] at h
    cases hk : comm (d - 1) r with
    | none => simp [hk] at h
    | some k => simp [hk] at h; have := ih _ hk; simp; omega
  | hx d c r h1 h2 ih =>
    intro n h; rw [comm_other d c r h1 h2] at h
    cases hk : comm d r with
    | none => simp [hk] at h
    | some k => simp [hk] at h; have := ih _ hk; simp; omega

theorem better_prefix (l best s : Bs) (h : best.isPrefixOf l = true) : (better l best s).isPrefixOf l = true := by
  unfold better; split
  · rename_i hc; simp at hc; simp; exact hc.2
  · exact h
theorem foldl_prefix (l : Bs) : ∀ (ss : List Bs) (best : Bs), best.isPrefixOf l = true → (ss.foldl (better l) best).isPrefixOf l = true
  | [], _, h => h
  | s :: ss, best, h => foldl_prefix l ss _ (better_prefix l best s h)
theorem sgn_prefix (l : Bs) : (sgn l).isPrefixOf l = true := foldl_prefix l _ _ (by simp)

theorem word_ne (l : Bs) (n : Nat) : word l ≠ .fill n := by unfold word; split <;> simp
theorem symbol_ne (l : Bs) (n : Nat) : symbol l ≠ .fill n := by unfold symbol; split <;> simp
theorem sign_ne (l : Bs) (n : Nat) : sign l ≠ .fill n := by unfold sign; split <;> simp
theorem number_ne (l : Bs) (n : Nat) : number l ≠ .fill n := by
  unfold number
  split
  · simp
  · cases numF 0 (l.take (run digit l)) <;> simp

/-- The two ways to pass over. -/
theorem step_fill_iff {l : Bs} {n : Nat} : step l = .fill n ↔ (kd l = .blank ∧ n = 1) ∨ (kd l = .comm ∧ comm 0 l = some n) := by
  unfold step
  cases hk : kd l with
  | blank => simp; exact eq_comm
  | comm => cases hc : comm 0 l <;> simp
  | letter => simp [word_ne]
  | digit => simp [number_ne]
  | symb => simp [symbol_ne]
  | other => simp [sign_ne]

theorem kd_nil : kd [] = .other := rfl
theorem sgn_nil : sgn [] = [] := by
  have := sgn_prefix []
  cases h : sgn [] with
  | nil => rfl
  | cons c r => rw [h] at this; cases this
theorem step_nil : step [] = .bad := by
  show sign [] = .bad
  unfold sign; rw [if_pos sgn_nil]
theorem sgn_eq (l : Bs) : sgn l = signs.foldl (better l) [] := rfl
attribute [irreducible] sgn

theorem step_fill {l : Bs} {n : Nat} (h : step l = .fill n) : 0 < n ∧ n ≤ l.length := by
  rcases step_fill_iff.1 h with ⟨hk, rfl⟩ | ⟨_, hc⟩
  · cases l with
    | nil => cases hk
    | cons => simp
  · exact comm_pos _ _ _ hc

theorem kd_inv (c : UInt8) (r : Bs) : (kd (c :: r) = .letter → letter c = true) ∧ (kd (c :: r) = .digit → digit c = true) ∧ (kd (c :: r) = .symb → symb c = true) := by
  unfold kd
  cases h1 : blank c <;> cases h2 : opens (c :: r) <;> cases h3 : letter c <;> cases h4 : digit c <;> cases h5 : symb c <;> simp_all

theorem step_tok_iff {l : Bs} {k n : Nat} {s : Bs} {len : Nat} : step l = .tok k n s len ↔
    (kd l = .letter ∧ word l = .tok k n s len) ∨ (kd l = .digit ∧ number l = .tok k n s len) ∨ (kd l = .symb ∧ symbol l = .tok k n s len) ∨ (kd l = .other ∧ sign l = .tok k n s len) := by
  unfold step
  cases hk : kd l with
  | comm => cases hc : comm 0 l <;> simp
  | _ => simp

theorem word_tok {l : Bs} {k n : Nat} {s : Bs} {len : Nat} : word l = .tok k n s len ↔ run inw l ≤ 32 ∧ k = (if words.contains (l.take (run inw l)) then 2 else 1) ∧ n = 0 ∧ s = l.take len ∧ len = run inw l := by
  unfold word
  by_cases h : run inw l > 32
  · rw [if_pos h]; simp; omega
  · rw [if_neg h]
    simp only [Step.tok.injEq]
    constructor
    · rintro ⟨rfl, rfl, rfl, rfl⟩; exact ⟨by omega, rfl, rfl, rfl, rfl⟩
    · rintro ⟨_, rfl, rfl, rfl, rfl⟩; exact ⟨rfl, rfl, rfl, rfl⟩
theorem symbol_tok {l : Bs} {k n : Nat} {s : Bs} {len : Nat} : symbol l = .tok k n s len ↔ run symb l ≤ 32 ∧ k = (if signs.contains (l.take (run symb l)) then 5 else 4) ∧ n = 0 ∧ s = l.take len ∧ len = run symb l := by
  unfold symbol
  by_cases h : run symb l > 32
  · rw [if_pos h]; simp; omega
  · rw [if_neg h]
    simp only [Step.tok.injEq]
    constructor
    · rintro ⟨rfl, rfl, rfl, rfl⟩; exact ⟨by omega, rfl, rfl, rfl, rfl⟩
    · rintro ⟨_, rfl, rfl, rfl, rfl⟩; exact ⟨rfl, rfl, rfl, rfl⟩
theorem number_tok {l : Bs} {k n : Nat} {s : Bs} {len : Nat} : number l = .tok k n s len ↔ stops inw (l.drop len) = false ∧ numF 0 (l.take len) = some n ∧ k = 3 ∧ s = [] ∧ len = run digit l := by
  unfold number
  by_cases h : stops inw (l.drop (run digit l)) = true
  · rw [if_pos h]; simp; intro h1 _ _ _ h2; rw [h2, h] at h1; cases h1
  · rw [if_neg h]
    simp only [Bool.not_eq_true] at h
    cases hv : numF 0 (l.take (run digit l)) with
    | none => simp; intro _ h1 _ _ h2; rw [h2, hv] at h1; cases h1
    | some v =>
      simp only [Step.tok.injEq]
      constructor
      · rintro ⟨rfl, rfl, rfl, rfl⟩; exact ⟨h, hv, rfl, rfl, rfl⟩
      · rintro ⟨_, h2, rfl, rfl, rfl⟩; rw [hv] at h2; simp at h2; exact ⟨rfl, h2, rfl, rfl⟩
theorem sign_tok {l : Bs} {k n : Nat} {s : Bs} {len : Nat} : sign l = .tok k n s len ↔ sgn l ≠ [] ∧ k = 5 ∧ n = 0 ∧ s = sgn l ∧ len = (sgn l).length := by
  unfold sign
  by_cases h : sgn l = []
  · rw [if_pos h]; simp [h]
  · rw [if_neg h]
    simp only [Step.tok.injEq]
    constructor
    · rintro ⟨rfl, rfl, rfl, rfl⟩; exact ⟨h, rfl, rfl, rfl, rfl⟩
    · rintro ⟨_, rfl, rfl, rfl, rfl⟩; exact ⟨rfl, rfl, rfl, rfl⟩

theorem step_tok {l : Bs} {k n : Nat} {s : Bs} {len : Nat} (h : step l = .tok k n s len) : 0 < len ∧ len ≤ l.length := by
  cases l with
  | nil => rw [step_nil] at h; cases h
  | cons c r =>
    have hi := kd_inv c r
    rcases step_tok_iff.1 h with ⟨hk, ht⟩ | ⟨hk, ht⟩ | ⟨hk, ht⟩ | ⟨hk, ht⟩
    · obtain ⟨-, -, -, -, rfl⟩ := word_tok.1 ht
      exact ⟨run_pos (by simp [inw, hi.1 hk]), run_le _ _⟩
    · obtain ⟨-, -, -, -, rfl⟩ := number_tok.1 ht
      exact ⟨run_pos (hi.2.1 hk), run_le _ _⟩
    · obtain ⟨-, -, -, -, rfl⟩ := symbol_tok.1 ht
      exact ⟨run_pos (hi.2.2 hk), run_le _ _⟩
    · obtain ⟨hne, -, -, -, rfl⟩ := sign_tok.1 ht
      refine ⟨by cases hs : sgn (c :: r) with | nil => exact absurd hs hne | cons => simp, ?_⟩
      exact (List.isPrefixOf_iff_prefix.1 (sgn_prefix (c :: r))).length_le

theorem drop_pred (c : UInt8) (r : Bs) {n : Nat} (h : 0 < n) : r.drop (n - 1) = (c :: r).drop n := by
  obtain ⟨m, rfl⟩ : ∃ m, n = m + 1 := ⟨n - 1, by omega⟩
  simp

theorem T_nil (a : Nat) : T [] a = .good [] := by rw [T]
theorem T_bad {l : Bs} {a : Nat} (hl : l ≠ []) (h : step l = .bad) : T l a = .bad a := by
  cases l with
  | nil => exact absurd rfl hl
  | cons c r => rw [T, h]
theorem T_fill {l : Bs} {a n : Nat} (h : step l = .fill n) : T l a = T (l.drop n) (a + n) := by
  cases l with
  | nil => rw [step_nil] at h; cases h
  | cons c r => rw [T, h]; simp only; rw [drop_pred c r (step_fill h).1]
theorem T_tok {l : Bs} {a k n : Nat} {s : Bs} {len : Nat} (h : step l = .tok k n s len) : T l a = (T (l.drop len) (a + len)).pre [⟨k, n, s, a, a + len⟩] := by
  cases l with
  | nil => rw [step_nil] at h; cases h
  | cons c r => rw [T, h]; simp only; rw [drop_pred c r (step_tok h).1]

theorem G_zero (l : Bs) (a : Nat) : G 0 l a = .good [] := by rw [G]
theorem G_nil (k a : Nat) : G k [] a = .good [] := by cases k <;> rw [G]
theorem G_bad {k : Nat} {l : Bs} {a : Nat} (hl : l ≠ []) (h : step l = .bad) : G (k + 1) l a = .bad a := by
  cases l with
  | nil => exact absurd rfl hl
  | cons c r => rw [G, h]
theorem G_fill {j : Nat} {l : Bs} {a n : Nat} (h : step l = .fill n) : G j l a = G j (l.drop n) (a + n) := by
  cases j with
  | zero => simp [G_zero]
  | succ j =>
    cases l with
    | nil => rw [step_nil] at h; cases h
    | cons c r => rw [G, h]; simp only; rw [drop_pred c r (step_fill h).1]
theorem G_tok {j : Nat} {l : Bs} {a k n : Nat} {s : Bs} {len : Nat} (h : step l = .tok k n s len) : G (j + 1) l a = (G j (l.drop len) (a + len)).pre [⟨k, n, s, a, a + len⟩] := by
  cases l with
  | nil => rw [step_nil] at h; cases h
  | cons c r => rw [G, h]; simp only; rw [drop_pred c r (step_tok h).1]

/-- An induction along the steps of a text. -/
theorem step_induct {M : Bs → Prop} (h0 : M []) (hbad : ∀ l, l ≠ [] → step l = .bad → M l) (hfill : ∀ l n, step l = .fill n → M (l.drop n) → M l)
    (htok : ∀ l k n s len, step l = .tok k n s len → M (l.drop len) → M l) : ∀ l, M l := by
  intro l
  generalize hm : l.length = m
  induction m using Nat.strongRecOn generalizing l with
  | _ m ih =>
    by_cases hl : l = []
    · subst hl; exact h0
    · cases hs : step l with
      | bad => exact hbad l hl hs
      | fill n => have := step_fill hs; exact hfill l n hs (ih _ (by simp; omega) _ rfl)
      | tok k n s len => have := step_tok hs; exact htok l k n s len hs (ih _ (by simp; omega) _ rfl)

/-- With few tokens the two agree. -/
theorem G_few (j : Nat) (l : Bs) : ∀ (a m : Nat) (ts : List Tok), ts.length = m → m < j → (G j l a = .good ts ↔ T l a = .good ts) := by
  induction l using step_induct generalizing j with
  | h0 => intro a m ts _ _; rw [T_nil, G_nil]
  | hbad l hl hs =>
    intro a m ts hm hj
    obtain ⟨j, rfl⟩ : ∃ i, j = i + 1 := ⟨j - 1, by omega⟩
    rw [T_bad hl hs, G_bad hl hs]
  | hfill l n hs ih => intro a m ts hm hj; rw [T_fill hs, G_fill hs]; exact ih j _ m ts hm hj
  | htok l k n s len hs ih =>
    intro a m ts hm hj
    obtain ⟨j, rfl⟩ : ∃ i, j = i + 1 := ⟨j - 1, by omega⟩
    rw [T_tok hs, G_tok hs]
    cases ts with
    | nil => cases T (l.drop len) (a + len) <;> cases G j (l.drop len) (a + len) <;> simp [Res.pre]
    | cons t ts =>
      have := ih j (a + len) ts.length ts rfl (by simp at hm; omega)
      cases hT : T (l.drop len) (a + len) <;> cases hG : G j (l.drop len) (a + len) <;> simp [Res.pre, hT, hG] at this ⊢ <;> intros <;> simp_all

end Go.Lx
namespace Go.Lx


/-- A comment ends where it ends, whatever stands behind. -/
theorem comm_append (d : Nat) (l : Bs) : ∀ (x : Bs) (n : Nat), comm d l = some n → comm d (l ++ x) = some n := by
  induction d, l using comm_induct with
  | h0 d => intro x n h; rw [comm_nil] at h; cases h
  | ho d r ih =>
    intro x n h; rw [comm_open] at h; rw [List.cons_append, List.cons_append, comm_open]
    cases hk : comm (d + 1) r with
    | none => simp [hk] at h
    | some k => rw [ih x k hk]; rw [hk] at h; exact h
  | h1 r => intro x n h; rw [comm_close1] at h; rw [List.cons_append, List.cons_append, comm_close1]; exact h
  | hc d r hd ih =>
    intro x n h; rw [comm_close d hd] at h; rw [List.cons_append, List.cons_append, comm_close d hd]
    cases hk : comm (d - 1) r with
    | none => simp [hk] at h
    | some k => rw [ih x k hk]; rw [hk] at h; exact h
  | hx d c r h1 h2 ih =>
    intro x n h; rw [comm_other d c r h1 h2] at h
    cases r with
    | nil => rw [comm_nil] at h; cases h
    | cons e r =>
      cases hk : comm d (e :: r) with
      | none => simp [hk] at h
      | some k =>
        have := ih x k hk
        simp only [List.cons_append] at this ⊢
        rw [comm_other d c _ (by simpa [opens] using h1) (by simpa [closes] using h2), this]; rw [hk] at h; exact h

/-- .. and what stands behind it is not needed. -/
theorem comm_take (d : Nat) (l : Bs) : ∀ (n : Nat), comm d l = some n → comm d (l.take n) = some n := by
  induction d, l using comm_induct with
  | h0 d => intro n h; rw [comm_nil] at h; cases h
  | ho d r ih =>
    intro n h; rw [comm_open] at h
    cases hk : comm (d + 1) r with
    | none => simp [hk] at h
    | some k =>
      simp [hk] at h; subst h
      rw [List.take_succ_cons, List.take_succ_cons, comm_open, ih k hk]; rfl
  | h1 r => intro n h; rw [comm_close1] at h; simp at h; subst h; rw [List.take_succ_cons, List.take_succ_cons, comm_close1]
  | hc d r hd ih =>
    intro n h; rw [comm_close d hd] at h
    cases hk : comm (d - 1) r with
    | none => simp [hk] at h
    | some k =>
      simp [hk] at h; subst h
      rw [List.take_succ_cons, List.take_succ_cons, comm_close d hd, ih k hk]; rfl
  | hx d c r h1 h2 ih =>
    intro n h; rw [comm_other d c r h1 h2] at h
    cases hk : comm d r with
    | none => simp [hk] at h
    | some k =>
      simp [hk] at h; subst h
      rw [List.take_succ_cons]
      have hp := comm_pos _ _ _ hk
      cases r with
      | nil => simp at hp; omega
      | cons e r =>
        obtain ⟨i, rfl⟩ : ∃ i, k = i + 1 := ⟨k - 1, by omega⟩
        have := ih _ hk
        rw [List.take_succ_cons] at this ⊢
        rw [comm_other d c _ (by simpa [opens] using h1) (by simpa [closes] using h2), this]; rfl

theorem opens_append {l : Bs} (h : opens l = true) (x : Bs) : opens (l ++ x) = true := by
  obtain ⟨r, rfl⟩ := (opens_iff l).1 h; simp [opens]

theorem kd_blank_iff (l : Bs) : kd l = .blank ↔ ∃ c r, l = c :: r ∧ blank c = true := by
  cases l with
  | nil => simp [kd]
  | cons c r =>
    unfold kd
    cases h1 : blank c <;> cases h2 : opens (c :: r) <;> cases h3 : letter c <;> cases h4 : digit c <;> cases h5 : symb c <;> simp_all
theorem kd_comm_iff (l : Bs) : kd l = .comm ↔ opens l = true := by
  constructor
  · intro h
    cases l with
    | nil => cases h
    | cons c r =>
      revert h
      unfold kd
      cases h1 : blank c <;> cases h2 : opens (c :: r) <;> cases h3 : letter c <;> cases h4 : digit c <;> cases h5 : symb c <;> simp_all
  · exact kd_comm

/-- What is passed over is passed over whatever stands behind. -/
theorem step_fill_append {l : Bs} {n : Nat} (h : step l = .fill n) (x : Bs) : step (l ++ x) = .fill n := by
  rw [step_fill_iff] at h ⊢
  rcases h with ⟨hk, hn⟩ | ⟨hk, hc⟩
  · obtain ⟨c, r, rfl, hb⟩ := (kd_blank_iff l).1 hk
    exact .inl ⟨(kd_blank_iff _).2 ⟨c, r ++ x, rfl, hb⟩, hn⟩
  · exact .inr ⟨(kd_comm_iff _).2 (opens_append ((kd_comm_iff l).1 hk) x), comm_append 0 l x n hc⟩

theorem comm0_two {l : Bs} {n : Nat} (ho : opens l = true) (h : comm 0 l = some n) : 2 ≤ n := by
  obtain ⟨r, rfl⟩ := (opens_iff l).1 ho
  rw [comm_open] at h
  cases hk : comm (0 + 1) r with
  | none => simp [hk] at h
  | some k => simp [hk] at h; omega

theorem step_fill_take {l : Bs} {n : Nat} (h : step l = .fill n) : step (l.take n) = .fill n := by
  rw [step_fill_iff] at h ⊢
  rcases h with ⟨hk, hn⟩ | ⟨hk, hc⟩
  · obtain ⟨c, r, rfl, hb⟩ := (kd_blank_iff l).1 hk
    subst hn
    exact .inl ⟨(kd_blank_iff _).2 ⟨c, [], by simp, hb⟩, rfl⟩
  · have ho := (kd_comm_iff l).1 hk
    refine .inr ⟨(kd_comm_iff _).2 ?_, comm_take 0 l n hc⟩
    have h2 := comm0_two ho hc
    obtain ⟨r, rfl⟩ := (opens_iff l).1 ho
    obtain ⟨i, rfl⟩ : ∃ i, n = i + 2 := ⟨n - 2, by omega⟩
    simp [opens]

/-! ### places -/
def Tok.up (k : Nat) (t : Tok) : Tok := { t with at_ := t.at_ + k, fin := t.fin + k }
def Res.up (k : Nat) : Res → Res
  | .bad a => .bad (a + k)
  | .good l => .good (l.map (Tok.up k))
theorem Res.up_pre (k : Nat) (ts : List Tok) (r : Res) : (r.pre ts).up k = (r.up k).pre (ts.map (Tok.up k)) := by cases r <;> simp [Res.up, Res.pre]

theorem T_up (l : Bs) : ∀ a k, T l (a + k) = (T l a).up k := by
  induction l using step_induct with
  | h0 => intro a k; simp [T_nil, Res.up]
  | hbad l hl hs => intro a k; simp [T_bad hl hs, Res.up]
  | hfill l n hs ih => intro a k; rw [T_fill hs, T_fill hs, show a + k + n = a + n + k from by omega, ih]
  | htok l kd n s len hs ih =>
    intro a k
    rw [T_tok hs, T_tok hs, Res.up_pre, show a + k + len = a + len + k from by omega, ih]
    simp [Tok.up]

/-- Blanks and comments ahead of a text. -/
theorem T_filling (f : Bs) : ∀ a, T f a = .good [] → ∀ x, T (f ++ x) a = T x (a + f.length) := by
  induction f using step_induct with
  | h0 => intro a _ x; simp
  | hbad l hl hs => intro a h; rw [T_bad hl hs] at h; cases h
  | hfill l n hs ih =>
    intro a h x
    rw [T_fill hs] at h
    have hn := step_fill hs
    rw [T_fill (step_fill_append hs x), List.drop_append_of_le_length hn.2, ih _ h x]
    congr 1; simp; omega
  | htok l k n s len hs ih =>
    intro a h
    rw [T_tok hs] at h
    cases hT : T (l.drop len) (a + len) <;> simp [hT, Res.pre] at h

theorem filling_up {f : Bs} {a : Nat} (h : T f a = .good []) (b : Nat) : T f b = .good [] := by
  have h1 := T_up f 0 a
  have h2 := T_up f 0 b
  rw [Nat.zero_add] at h1 h2
  rw [h2]
  rw [h1] at h
  cases hT : T f 0 with
  | bad => simp [hT, Res.up] at h
  | good l => simp [hT, Res.up] at h ⊢; exact h

end Go.Lx
namespace Go.Lx

/-! ### the longest sign -/
theorem better_cases (l best s : Bs) : better l best s = best ∨ (better l best s = s ∧ best.length < s.length) := by
  unfold better; split
  · rename_i h; simp at h; exact .inr ⟨rfl, h.1⟩
  · exact .inl rfl
theorem foldl_mem (l : Bs) : ∀ (ss : List Bs) (best : Bs), ss.foldl (better l) best = best ∨ ss.foldl (better l) best ∈ ss
  | [], _ => .inl rfl
  | s :: ss, best => by
    rw [List.foldl_cons]
    rcases foldl_mem l ss (better l best s) with h | h
    · rw [h]
      rcases better_cases l best s with h' | ⟨h', _⟩
      · exact .inl h'
      · rw [h']; simp
    · exact .inr (List.mem_cons_of_mem _ h)
theorem foldl_len (l : Bs) : ∀ (ss : List Bs) (best : Bs), best.length ≤ (ss.foldl (better l) best).length
  | [], _ => Nat.le_refl _
  | s :: ss, best => by
    rw [List.foldl_cons]
    refine Nat.le_trans ?_ (foldl_len l ss _)
    rcases better_cases l best s with h | ⟨h, h'⟩ <;> rw [h]
    · exact Nat.le_refl _
    · exact Nat.le_of_lt h'
theorem foldl_most (l : Bs) : ∀ (ss : List Bs) (best : Bs), ∀ s ∈ ss, s.isPrefixOf l = true → s.length ≤ (ss.foldl (better l) best).length
  | s :: ss, best, x, hx, hp => by
    rw [List.foldl_cons]
    rcases List.mem_cons.1 hx with rfl | hx
    · refine Nat.le_trans ?_ (foldl_len l ss _)
      unfold better
      split
      · exact Nat.le_refl _
      · rename_i h; simp [hp] at h; exact h
    · exact foldl_most l ss _ x hx hp

theorem sgn_mem {l : Bs} (h : sgn l ≠ []) : sgn l ∈ signs := by
  rw [sgn_eq] at *
  exact (foldl_mem l signs []).resolve_left h
theorem sgn_most {l s : Bs} (hs : s ∈ signs) (hp : s <+: l) : s.length ≤ (sgn l).length := by
  rw [sgn_eq]; exact foldl_most l signs [] s hs (List.isPrefixOf_iff_prefix.2 hp)
theorem sgn_pre (l : Bs) : sgn l <+: l := List.isPrefixOf_iff_prefix.1 (sgn_prefix l)
theorem signs_ne {s : Bs} (h : s ∈ signs) : s ≠ [] := by
  intro e; subst e; revert h; decide
/-- What is the longest sign. -/
theorem sgn_unique {l s : Bs} (hs : s ∈ signs) (hp : s <+: l) (hm : ∀ s' ∈ signs, s' <+: l → s'.length ≤ s.length) : sgn l = s := by
  have h1 := sgn_most hs hp
  have hne : sgn l ≠ [] := by
    intro e; rw [e] at h1; have := signs_ne hs; cases s with | nil => exact this rfl | cons => simp at h1
  have h2 := hm _ (sgn_mem hne) (sgn_pre l)
  have e1 := List.prefix_iff_eq_take.1 (sgn_pre l)
  have e2 := List.prefix_iff_eq_take.1 hp
  rw [e1, e2]; congr 1; omega
/-- A sign that is longer than another one goes through the signs between. -/
theorem signs_grow : ∀ w ∈ signs, ∀ s ∈ signs, w <+: s → w.length < s.length → s.take (w.length + 1) ∈ signs := by
  intro w hw s hs hp hl
  have : ∀ w ∈ signs, ∀ s ∈ signs, w.isPrefixOf s = true → w.length < s.length → s.take (w.length + 1) ∈ signs := by decide +kernel
  exact this w hw s hs (List.isPrefixOf_iff_prefix.2 hp) hl
theorem signs_no_blank : ∀ s ∈ signs, ∀ c ∈ s, blank c = false := by decide +kernel
theorem signs_self : ∀ s ∈ signs, sgn s = s := by
  intro s hs
  exact sgn_unique hs (List.prefix_refl s) fun s' _ hp => hp.length_le

/-! ### runs, and what stands behind -/
theorem run_append_all {p : UInt8 → Bool} {w m : Bs} (h : run p w = w.length) : run p (w ++ m) = w.length + run p m := by
  induction w with
  | nil => simp
  | cons c r ih =>
    rw [run_cons] at h
    split at h
    · rename_i hc; rw [List.cons_append, run_cons, if_pos hc, ih (by simpa using h)]; simp; omega
    · simp at h
theorem run_split {p : UInt8 → Bool} {w m : Bs} (h : run p (w ++ m) = w.length) : run p w = w.length ∧ stops p m = false := by
  induction w with
  | nil =>
    refine ⟨rfl, ?_⟩
    cases m with
    | nil => rfl
    | cons c r => rw [List.nil_append, run_cons] at h; split at h <;> simp_all [stops]
  | cons c r ih =>
    rw [List.cons_append, run_cons] at h
    split at h
    · rename_i hc; have := ih (by simpa using h); rw [run_cons, if_pos hc]; simp [this]
    · simp at h
theorem run_stops {p : UInt8 → Bool} {m : Bs} (h : stops p m = false) : run p m = 0 := by
  cases m with
  | nil => rfl
  | cons c r => rw [run_cons, if_neg]; simpa [stops] using h
theorem run_take_all (p : UInt8 → Bool) (l : Bs) : run p (l.take (run p l)) = run p l := by
  induction l with
  | nil => rfl
  | cons c r ih => rw [run_cons]; split <;> simp_all [run_cons]; rfl

/-- What may stand behind in place of m: nothing, a text with the same first byte, a blank. -/
def Fits (m m' : Bs) : Prop := ∀ c, m'.head? = some c → m.head? = some c ∨ blank c = true
theorem Fits.nil (m : Bs) : Fits m [] := by intro c h; cases h
theorem Fits.blank (m : Bs) {c : UInt8} (h : blank c = true) (r : Bs) : Fits m (c :: r) := by intro d hd; simp at hd; subst hd; exact .inr h
theorem Fits.append (m x : Bs) (h : m ≠ []) : Fits m (m ++ x) := by intro d hd; cases m with | nil => exact absurd rfl h | cons c r => exact .inl (by simpa using hd)
theorem Fits.append' (m : Bs) {c : UInt8} (hc : Lx.blank c = true) (x : Bs) : Fits m (m ++ c :: x) := by
  by_cases h : m = []
  · subst h; exact Fits.blank _ hc _
  · exact Fits.append m _ h
theorem Fits.take (m : Bs) (n : Nat) : Fits m (m.take n) := by
  intro d hd; cases m with
  | nil => simp at hd
  | cons c r => cases n with
    | zero => simp at hd
    | succ n => simp at hd; exact .inl (by simpa using hd)
theorem blank_not_inw {c : UInt8} (h : blank c = true) : inw c = false := by
  simp only [blank, Bool.or_eq_true, beq_iff_eq] at h
  rcases h with ((rfl | rfl) | rfl) | rfl <;> rfl
theorem blank_not_symb {c : UInt8} (h : blank c = true) : symb c = false := by
  simp only [blank, Bool.or_eq_true, beq_iff_eq] at h
  rcases h with ((rfl | rfl) | rfl) | rfl <;> rfl
theorem digit_inw {c : UInt8} (h : digit c = true) : inw c = true := by simp [inw, h]
theorem stops_fits {p : UInt8 → Bool} (hp : ∀ c, blank c = true → p c = false) {m m' : Bs} (hf : Fits m m') (h : stops p m = false) : stops p m' = false := by
  unfold stops at *
  cases hm : m'.head? with
  | none => rfl
  | some c =>
    rcases hf c hm with h' | h'
    · rw [h'] at h; exact h
    · exact hp c h'

theorem kd_head {c : UInt8} {r r' : Bs} (h : opens (c :: r) = opens (c :: r')) : kd (c :: r) = kd (c :: r') := by
  show (if blank c = true then Kd.blank else if opens (c :: r) = true then Kd.comm else _) = (if blank c = true then Kd.blank else if opens (c :: r') = true then Kd.comm else _)
  rw [h]
theorem opens_head {c : UInt8} {r : Bs} (h : c ≠ 40) : opens (c :: r) = false := by simp [opens, h]
theorem letter_ne {c : UInt8} (h : letter c = true) : c ≠ 40 := by intro e; subst e; revert h; decide
theorem digit_ne {c : UInt8} (h : digit c = true) : c ≠ 40 := by intro e; subst e; revert h; decide
theorem symb_ne {c : UInt8} (h : symb c = true) : c ≠ 40 := by intro e; subst e; revert h; decide
theorem kd_ne {c : UInt8} (h : c ≠ 40) (r r' : Bs) : kd (c :: r) = kd (c :: r') := kd_head (by rw [opens_head h, opens_head h])
theorem blank42 : blank 42 = false := by decide

/-- THE LEMMA OF ONE BYTE: a token stays what it is while the one byte behind it stays, or is none, or a blank. -/
theorem step_fits {w m m' : Bs} {k n : Nat} {s : Bs} (h : step (w ++ m) = .tok k n s w.length) (hf : Fits m m') : step (w ++ m') = .tok k n s w.length := by
  have hp := step_tok h
  cases w with
  | nil => simp at hp
  | cons c w =>
    simp only [List.cons_append] at h ⊢
    rw [step_tok_iff] at h ⊢
    rcases h with ⟨hk, ht⟩ | ⟨hk, ht⟩ | ⟨hk, ht⟩ | ⟨hk, ht⟩
    · have hl := (kd_inv c (w ++ m)).1 hk
      refine .inl ⟨by rw [kd_ne (letter_ne hl) _ (w ++ m)]; exact hk, ?_⟩
      obtain ⟨h32, hkd, hn, hs, hlen⟩ := word_tok.1 ht
      have hr := run_split (p := inw) (w := c :: w) (m := m) (by simpa using hlen.symm)
      have hr' := run_append_all (m := m') hr.1
      rw [run_stops (stops_fits (fun _ => blank_not_inw) hf hr.2), Nat.add_zero] at hr'
      simp only [List.cons_append] at hr'
      rw [← hlen] at h32 hkd
      refine word_tok.2 ⟨by rw [hr']; exact h32, ?_, hn, ?_, hr'.symm⟩
      · rw [hkd, hr', ← List.cons_append, ← List.cons_append, List.take_left, List.take_left]
      · rw [hs, ← List.cons_append, ← List.cons_append, List.take_left, List.take_left]
    · have hl := (kd_inv c (w ++ m)).2.1 hk
      refine .inr (.inl ⟨by rw [kd_ne (digit_ne hl) _ (w ++ m)]; exact hk, ?_⟩)
      obtain ⟨hst, hv, hkd, hs, hlen⟩ := number_tok.1 ht
      have hr := run_split (p := digit) (w := c :: w) (m := m) (by simpa using hlen.symm)
      rw [← List.cons_append, List.drop_left] at hst
      rw [← List.cons_append, List.take_left] at hv
      have hst' := stops_fits (fun _ => blank_not_inw) hf hst
      have hr' := run_append_all (m := m') hr.1
      rw [run_stops (stops_fits (fun c hc => by cases hd : digit c with | false => rfl | true => have := digit_inw hd; rw [blank_not_inw hc] at this; cases this) hf hr.2), Nat.add_zero] at hr'
      simp only [List.cons_append] at hr'
      refine number_tok.2 ⟨?_, ?_, hkd, hs, hr'.symm⟩
      · rw [← List.cons_append, List.drop_left]; exact hst'
      · rw [← List.cons_append, List.take_left]; exact hv
    · have hl := (kd_inv c (w ++ m)).2.2 hk
      refine .inr (.inr (.inl ⟨by rw [kd_ne (symb_ne hl) _ (w ++ m)]; exact hk, ?_⟩))
      obtain ⟨h32, hkd, hn, hs, hlen⟩ := symbol_tok.1 ht
      have hr := run_split (p := symb) (w := c :: w) (m := m) (by simpa using hlen.symm)
      have hr' := run_append_all (m := m') hr.1
      rw [run_stops (stops_fits (fun _ => blank_not_symb) hf hr.2), Nat.add_zero] at hr'
      simp only [List.cons_append] at hr'
      rw [← hlen] at h32 hkd
      refine symbol_tok.2 ⟨by rw [hr']; exact h32, ?_, hn, ?_, hr'.symm⟩
      · rw [hkd, hr', ← List.cons_append, ← List.cons_append, List.take_left, List.take_left]
      · rw [hs, ← List.cons_append, ← List.cons_append, List.take_left, List.take_left]
    · refine .inr (.inr (.inr ?_))
      obtain ⟨hne, hkd, hn, hs, hlen⟩ := sign_tok.1 ht
      rw [← List.cons_append] at hs hlen hne
      have e1 := List.prefix_iff_eq_take.1 (sgn_pre (c :: w ++ m))
      rw [← hlen, List.take_left] at e1
      have hmem : (c :: w) ∈ signs := e1 ▸ sgn_mem hne
      have hmost : ∀ s' ∈ signs, s' <+: (c :: w) ++ m' → s'.length ≤ (c :: w).length := by
        intro s' hs' hp'
        refine Nat.le_of_not_lt fun hlt => ?_
        have hpw : (c :: w) <+: s' := List.prefix_of_prefix_length_le (List.prefix_append _ _) hp' (Nat.le_of_lt hlt)
        have hg := signs_grow _ hmem s' hs' hpw hlt
        obtain ⟨x, hx⟩ := hpw
        cases x with
        | nil => rw [← hx] at hlt; simp at hlt
        | cons d x =>
          have htake : s'.take ((c :: w).length + 1) = (c :: w) ++ [d] := by rw [← hx]; simp [List.take_append, List.take_of_length_le]
          rw [htake] at hg
          have hd : m'.head? = some d := by
            obtain ⟨y, hy⟩ := hp'
            rw [← hx, List.append_assoc] at hy
            have := List.append_cancel_left hy
            rw [← this]; rfl
          rcases hf d hd with h' | h'
          · obtain ⟨q, rfl⟩ : ∃ q, m = d :: q := by cases m with | nil => cases h' | cons a b => simp at h'; exact ⟨b, by rw [h']⟩
            have := sgn_most hg (l := c :: w ++ d :: q) ⟨q, by simp⟩
            rw [e1] at this; simp at this; omega
          · have := signs_no_blank _ hg d (by simp); rw [h'] at this; cases this
      have hsg : sgn ((c :: w) ++ m') = c :: w := sgn_unique hmem (List.prefix_append _ _) hmost
      refine ⟨?_, ?_⟩
      · by_cases hc : c = 40
        · subst hc
          cases w with
          | nil =>
            rw [← hk]; refine kd_head ?_
            cases ho : opens (40 :: ([] ++ m)) with
            | true => rw [kd_comm ho] at hk; cases hk
            | false =>
              cases ho' : opens (40 :: ([] ++ m')) with
              | false => rfl
              | true =>
                obtain ⟨q, hq⟩ := (opens_iff _).1 ho'
                simp at hq
                rcases hf 42 (by rw [hq]; rfl) with h' | h'
                · obtain ⟨q', rfl⟩ : ∃ q, m = 42 :: q := by cases m with | nil => cases h' | cons a b => simp at h'; exact ⟨b, by rw [h']⟩
                  simp [opens] at ho
                · rw [blank42] at h'; cases h'
          | cons d w => rw [← hk]; refine kd_head ?_; simp [opens]
        · rw [kd_ne hc _ (w ++ m)]; exact hk
      · rw [sign_tok, ← List.cons_append, hsg]
        exact ⟨by simp, hkd, hn, by rw [hs]; exact e1, rfl⟩

/-- A token alone. -/
theorem step_alone {l : Bs} {k n : Nat} {s : Bs} {len : Nat} (h : step l = .tok k n s len) : step (l.take len) = .tok k n s len := by
  have hp := step_tok h
  have e : l.take len ++ l.drop len = l := List.take_append_drop _ _
  have hl : (l.take len).length = len := by simp; omega
  have := step_fits (w := l.take len) (m := l.drop len) (m' := []) (by rw [e, hl]; exact h) (Fits.nil _)
  rw [List.append_nil, hl] at this; exact this

end Go.Lx
namespace Go.Lx

theorem Res.pre_good {ts : List Tok} {r : Res} {l : List Tok} : r.pre ts = .good l ↔ ∃ l', r = .good l' ∧ l = ts ++ l' := by
  cases r <;> simp [Res.pre, eq_comm]
theorem Res.pre_bad {ts : List Tok} {r : Res} {p : Nat} : r.pre ts = .bad p ↔ r = .bad p := by cases r <;> simp [Res.pre]

/-- The head of what stands behind: nothing, or a blank. -/
def Loose (m : Bs) : Prop := ∀ c, m.head? = some c → blank c = true
theorem Loose.fits {m : Bs} (h : Loose m) (x : Bs) : Fits x m := fun c hc => .inr (h c hc)

/-- A text behind another one, with a blank between. -/
theorem T_app (a : Bs) : ∀ (x : Nat) (ts : List Tok), T a x = .good ts → ∀ m, Loose m → T (a ++ m) x = (T m (x + a.length)).pre ts := by
  induction a using step_induct with
  | h0 => intro x ts h m _; rw [T_nil] at h; cases h; simp [Res.pre_nil]
  | hbad l hl hs => intro x ts h; rw [T_bad hl hs] at h; cases h
  | hfill l n hs ih =>
    intro x ts h m hm
    rw [T_fill hs] at h
    have hn := step_fill hs
    rw [T_fill (step_fill_append hs m), List.drop_append_of_le_length hn.2, ih _ _ h m hm]
    congr 2; simp; omega
  | htok l k n s len hs ih =>
    intro x ts h m hm
    rw [T_tok hs] at h
    obtain ⟨l', hT, rfl⟩ := Res.pre_good.1 h
    have hn := step_tok hs
    have e : l.take len ++ l.drop len = l := List.take_append_drop _ _
    have hlen : (l.take len).length = len := by simp; omega
    have hst : step (l ++ m) = .tok k n s len := by
      have := step_fits (w := l.take len) (m := l.drop len) (m' := l.drop len ++ m) (by rw [e, hlen]; exact hs) (by
        by_cases hd : l.drop len = []
        · rw [hd]; exact hm.fits _
        · exact Fits.append _ _ hd)
      rw [← List.append_assoc, e, hlen] at this; exact this
    rw [T_tok hst, List.drop_append_of_le_length hn.2, ih _ _ hT m hm, Res.pre_pre]
    congr 2; simp; omega

/-- Up to the byte of an error a text is cut without it. -/
theorem T_bad_at (a : Bs) : ∀ (x p : Nat), T a x = .bad p → x ≤ p ∧ p < x + a.length ∧ step (a.drop (p - x)) = .bad ∧ ∃ ts, T (a.take (p - x)) x = .good ts := by
  induction a using step_induct with
  | h0 => intro x p h; rw [T_nil] at h; cases h
  | hbad l hl hs =>
    intro x p h; rw [T_bad hl hs] at h; cases h
    have : 0 < l.length := List.length_pos_iff.2 hl
    refine ⟨Nat.le_refl _, by omega, by simpa using hs, [], by simp [T_nil]⟩
  | hfill l n hs ih =>
    intro x p h
    rw [T_fill hs] at h
    have hn := step_fill hs
    obtain ⟨h1, h2, h3, ts, h4⟩ := ih _ _ h
    simp only [List.length_drop] at h2
    refine ⟨by omega, by omega, ?_, ts, ?_⟩
    · rw [List.drop_drop] at h3; rw [← h3]; congr 2; omega
    · have e : l.take (p - x) = l.take n ++ (l.drop n).take (p - (x + n)) := by rw [← List.take_add]; congr 1; omega
      rw [e, T_fill (step_fill_append (step_fill_take hs) _), List.drop_left' (by simp; omega), h4]
  | htok l k n s len hs ih =>
    intro x p h
    rw [T_tok hs, Res.pre_bad] at h
    have hn := step_tok hs
    obtain ⟨h1, h2, h3, ts, h4⟩ := ih _ _ h
    simp only [List.length_drop] at h2
    refine ⟨by omega, by omega, ?_, ⟨k, n, s, x, x + len⟩ :: ts, ?_⟩
    · rw [List.drop_drop] at h3; rw [← h3]; congr 2; omega
    · have e : l.take (p - x) = l.take len ++ (l.drop len).take (p - (x + len)) := by rw [← List.take_add]; congr 1; omega
      have e' : l.take len ++ l.drop len = l := List.take_append_drop _ _
      have hlen : (l.take len).length = len := by simp; omega
      have hst := step_fits (w := l.take len) (m := l.drop len) (m' := (l.drop len).take (p - (x + len))) (by rw [e', hlen]; exact hs) (Fits.take _ _)
      rw [hlen] at hst
      rw [e, T_tok hst, List.drop_left' hlen, h4]; rfl

/-- With a blank behind it an error stays, but for that of a comment. -/
theorem step_bad_append {l : Bs} (hs : step l = .bad) (hl : l ≠ []) (ho : opens l = false) {b : UInt8} (hb : blank b = true) (m : Bs) : step (l ++ b :: m) = .bad := by
  cases l with
  | nil => exact absurd rfl hl
  | cons c r =>
    have hopen : opens (c :: r ++ b :: m) = false := by
      cases h : opens (c :: r ++ b :: m) with
      | false => rfl
      | true =>
        obtain ⟨q, hq⟩ := (opens_iff _).1 h
        cases r with
        | nil => simp at hq; rw [hq.2.1] at hb; rw [blank42] at hb; cases hb
        | cons d r => simp at hq; rw [hq.1, hq.2.1] at ho; simp [opens] at ho
    have hk : kd (c :: r ++ b :: m) = kd (c :: r) := by
      rw [List.cons_append] at hopen ⊢; exact kd_head (by rw [hopen, ho])
    have hinv := kd_inv c r
    have hwb : stops inw (b :: m) = false := by simpa [stops] using blank_not_inw hb
    have hdb : digit b = false := by cases hd : digit b with | false => rfl | true => have := digit_inw hd; rw [blank_not_inw hb] at this; cases this
    unfold step at hs ⊢
    rw [hk]
    -- a run that stops at the blank is the run before it
    have hrun : ∀ p : UInt8 → Bool, p b = false → run p (c :: r ++ b :: m) = run p (c :: r) := by
      intro p hp
      generalize c :: r = l
      induction l with
      | nil => simp [run_cons, hp]; rfl
      | cons d l ih => rw [List.cons_append, run_cons, run_cons, ih]
    cases hkd : kd (c :: r) with
    | blank => rw [hkd] at hs; cases hs
    | comm => rw [(kd_comm_iff _).1 hkd] at ho; cases ho
    | letter =>
      rw [hkd] at hs; simp only at hs ⊢
      unfold word at hs ⊢
      rw [hrun _ (blank_not_inw hb)]
      split at hs
      · rename_i h; rw [if_pos h]
      · cases hs
    | digit =>
      rw [hkd] at hs; simp only at hs ⊢
      unfold number at hs ⊢
      rw [hrun _ hdb, List.take_append_of_le_length (run_le _ _), List.drop_append_of_le_length (run_le _ _)]
      by_cases hst : stops inw ((c :: r).drop (run digit (c :: r))) = true
      · rw [if_pos]
        revert hst
        cases (c :: r).drop (run digit (c :: r)) with
        | nil => intro h; cases h
        | cons => intro h; exact h
      · rw [if_neg hst] at hs
        rw [if_neg]
        · exact hs
        · revert hst
          cases (c :: r).drop (run digit (c :: r)) with
          | nil => intro _; simp only [List.nil_append]; rw [hwb]; simp
          | cons => intro h; exact h
    | symb =>
      rw [hkd] at hs; simp only at hs ⊢
      unfold symbol at hs ⊢
      rw [hrun _ (blank_not_symb hb)]
      split at hs
      · rename_i h; rw [if_pos h]
      · cases hs
    | other =>
      rw [hkd] at hs; simp only at hs ⊢
      unfold sign at hs ⊢
      split at hs
      · rename_i h0
        rw [if_pos]
        cases hsg : sgn (c :: r ++ b :: m) with
        | nil => rfl
        | cons d q =>
          have hmem := sgn_mem (l := c :: r ++ b :: m) (by rw [hsg]; simp)
          have hpre := sgn_pre (c :: r ++ b :: m)
          have hle : (sgn (c :: r ++ b :: m)).length ≤ (c :: r).length := by
            refine Nat.le_of_not_lt fun hlt => ?_
            have : b ∈ sgn (c :: r ++ b :: m) := by
              rw [List.prefix_iff_eq_take.1 hpre]
              obtain ⟨j, hj⟩ : ∃ j, (sgn (c :: r ++ b :: m)).length = (c :: r).length + (j + 1) := ⟨(sgn (c :: r ++ b :: m)).length - (c :: r).length - 1, by omega⟩
              rw [hj, List.take_append, List.take_of_length_le (by omega), Nat.add_sub_cancel_left, List.take_succ_cons]
              simp
            have := signs_no_blank _ hmem b this
            rw [hb] at this; cases this
          have hp2 := List.prefix_of_prefix_length_le hpre (List.prefix_append _ _) hle
          have := sgn_most hmem hp2
          rw [h0, hsg] at this; simp at this
      · cases hs

theorem T_bad_append (a : Bs) : ∀ (x p : Nat), T a x = .bad p → opens (a.drop (p - x)) = false → ∀ (b : UInt8), blank b = true → ∀ m, T (a ++ b :: m) x = .bad p := by
  induction a using step_induct with
  | h0 => intro x p h; rw [T_nil] at h; cases h
  | hbad l hl hs =>
    intro x p h ho b hb m; rw [T_bad hl hs] at h; cases h
    simp only [Nat.sub_self, List.drop_zero] at ho
    exact T_bad (by simp) (step_bad_append hs hl ho hb m)
  | hfill l n hs ih =>
    intro x p h ho b hb m
    rw [T_fill hs] at h
    have hn := step_fill hs
    have hp := (T_bad_at _ _ _ h).1
    rw [T_fill (step_fill_append hs _), List.drop_append_of_le_length hn.2]
    exact ih _ _ h (by rw [List.drop_drop, show n + (p - (x + n)) = p - x from by omega]; exact ho) b hb m
  | htok l k n s len hs ih =>
    intro x p h ho b hb m
    rw [T_tok hs, Res.pre_bad] at h
    have hn := step_tok hs
    have hp := (T_bad_at _ _ _ h).1
    have e' : l.take len ++ l.drop len = l := List.take_append_drop _ _
    have hlen : (l.take len).length = len := by simp; omega
    have hst := step_fits (w := l.take len) (m := l.drop len) (m' := l.drop len ++ b :: m) (by rw [e', hlen]; exact hs) (Fits.append' _ hb _)
    rw [← List.append_assoc, e', hlen] at hst
    rw [T_tok hst, Res.pre_bad, List.drop_append_of_le_length hn.2]
    exact ih _ _ h (by rw [List.drop_drop, show len + (p - (x + len)) = p - x from by omega]; exact ho) b hb m

/-- How the tokens of a text stand in it. -/
def Chain : Bs → Nat → List Tok → Prop
  | l, x, [] => T l x = .good []
  | l, x, t :: ts => ∃ f w r, l = f ++ (w ++ r) ∧ T f x = .good [] ∧ t.at_ = x + f.length ∧ t.fin = t.at_ + w.length ∧ step (w ++ r) = .tok t.k t.n t.s w.length ∧ T r t.fin = .good ts ∧ Chain r t.fin ts

theorem chain (l : Bs) : ∀ (x : Nat) (ts : List Tok), T l x = .good ts → Chain l x ts := by
  induction l using step_induct with
  | h0 => intro x ts h; rw [T_nil] at h; cases h; exact T_nil _
  | hbad l hl hs => intro x ts h; rw [T_bad hl hs] at h; cases h
  | hfill l n hs ih =>
    intro x ts h
    have h0 := h
    rw [T_fill hs] at h
    have hn := step_fill hs
    cases ts with
    | nil => exact h0
    | cons t ts =>
      obtain ⟨f, w, r, hl, hf, ha, hfin, hst, hT, hc⟩ := ih _ _ h
      have hlen : (l.take n).length = n := by simp; omega
      refine ⟨l.take n ++ f, w, r, ?_, ?_, ?_, hfin, hst, hT, hc⟩
      · rw [List.append_assoc, ← hl, List.take_append_drop]
      · have := step_fill_append (step_fill_take hs) f
        rw [T_fill this, List.drop_left' hlen]; exact hf
      · simp; omega
  | htok l k n s len hs ih =>
    intro x ts h
    rw [T_tok hs] at h
    obtain ⟨ts', hT, rfl⟩ := Res.pre_good.1 h
    have hn := step_tok hs
    have hlen : (l.take len).length = len := by simp; omega
    refine ⟨[], l.take len, l.drop len, by simp, T_nil _, by simp, by simp [hlen], ?_, hT, ih _ _ hT⟩
    rw [List.take_append_drop, hlen]; exact hs

/-- What a token is written as in a text. -/
theorem tok_text {w r : Bs} {k n : Nat} {s : Bs} (h : step (w ++ r) = .tok k n s w.length) : (k = 3 ∧ s = []) ∨ (k ≠ 3 ∧ s = w) := by
  rcases step_tok_iff.1 h with ⟨_, ht⟩ | ⟨_, ht⟩ | ⟨_, ht⟩ | ⟨_, ht⟩
  · obtain ⟨_, hk, _, hs, hl⟩ := word_tok.1 ht
    refine .inr ⟨by rw [hk]; split <;> decide, ?_⟩
    rw [hs, List.take_left]
  · obtain ⟨_, _, hk, hs, _⟩ := number_tok.1 ht
    exact .inl ⟨hk, hs⟩
  · obtain ⟨_, hk, _, hs, hl⟩ := symbol_tok.1 ht
    refine .inr ⟨by rw [hk]; split <;> decide, ?_⟩
    rw [hs, List.take_left]
  · obtain ⟨_, hk, _, hs, hl⟩ := sign_tok.1 ht
    refine .inr ⟨by rw [hk]; decide, ?_⟩
    rw [hs]
    have := List.prefix_iff_eq_take.1 (sgn_pre (w ++ r))
    rw [this, ← hl, List.take_left]

/-- The kind of a text as a whole. -/
def kindOf (l : Bs) : Nat := match T l 0 with
  | .good [t] => if t.at_ = 0 ∧ t.fin = l.length then t.k else 0
  | _ => 0

theorem kindOf_tok {w : Bs} {k n : Nat} {s : Bs} (h : step w = .tok k n s w.length) : kindOf w = k := by
  unfold kindOf
  rw [T_tok h, List.drop_length, T_nil]; simp [Res.pre]
theorem step_k_pos {l : Bs} {k n : Nat} {s : Bs} {len : Nat} (h : step l = .tok k n s len) : k ≠ 0 := by
  rcases step_tok_iff.1 h with ⟨_, ht⟩ | ⟨_, ht⟩ | ⟨_, ht⟩ | ⟨_, ht⟩
  · obtain ⟨_, hk, _⟩ := word_tok.1 ht; rw [hk]; split <;> decide
  · obtain ⟨_, _, hk, _⟩ := number_tok.1 ht; rw [hk]; decide
  · obtain ⟨_, hk, _⟩ := symbol_tok.1 ht; rw [hk]; split <;> decide
  · obtain ⟨_, hk, _⟩ := sign_tok.1 ht; rw [hk]; decide
/-- .. is 0, or that of the one token that it is. -/
theorem kindOf_inv (l : Bs) (h : kindOf l ≠ 0) : ∃ n s, step l = .tok (kindOf l) n s l.length := by
  unfold kindOf at h ⊢
  split at h
  · rename_i t hT
    split at h
    · rename_i hc
      obtain ⟨f, w, r, hl, hf, ha, hfin, hst, hT', -⟩ := chain _ _ _ hT
      have hf0 : f = [] := by
        rw [hc.1] at ha; cases f with | nil => rfl | cons => simp at ha
      subst hf0
      have hr0 : r = [] := by
        rw [hl] at hc; simp at hc ha hfin
        cases r with | nil => rfl | cons => simp at hc; omega
      subst hr0
      simp at hl; subst hl
      rw [if_pos hc]
      simp at hst
      exact ⟨_, _, hst⟩
    · exact absurd rfl h
  · exact absurd rfl h

/-- No token is followed by a byte with which it would be a longer one of the same kind. -/
theorem longest {w r : Bs} {c : UInt8} {k n : Nat} {s : Bs} (h : step (w ++ c :: r) = .tok k n s w.length) : kindOf (w ++ [c]) = 0 := by
  have h1 := step_fits (m' := [c]) h (fun d hd => .inl (by simpa using hd))
  refine Decidable.byContradiction fun hne => ?_
  obtain ⟨n', s', h2⟩ := kindOf_inv _ hne
  rw [h1] at h2; simp at h2

/-- A filling between. -/
theorem T_blanks (x : Nat) {f : Bs} {a : Nat} (hf : T f a = .good []) (m : Bs) : T (32 :: (f ++ 32 :: m)) x = T m (x + (f.length + 2)) := by
  have b32 : blank 32 = true := by decide
  have e1 : step (32 :: (f ++ 32 :: m)) = .fill 1 := by unfold step; rw [kd_blank b32]
  have e2 : step (32 :: m) = .fill 1 := by unfold step; rw [kd_blank b32]
  rw [T_fill e1]; simp only [List.drop_succ_cons, List.drop_zero]
  rw [T_filling f _ (filling_up hf _), T_fill e2]; simp only [List.drop_succ_cons, List.drop_zero]
  congr 1; omega

end Go.Lx
