/- Merged: Chg2, Chg3, Chg4, Chg5, Chg6, Chg7, Chg8, Ed1. -/
import Derived.Test.YtcjdacdggklifaaGreatDoorToks
import Derived.Test.YtcjdacdggklifaaGreatDoorChg1
import Derived.Test.YtcjdacdggklifaaGreatDoorLike
import Derived.Laws.StructEq
import Derived.Test.YtcjdacdggklifaaGreatDoorGen
import Derived.Test.YtcjdacdggklifaaGreatDoorBoth0

/- Edits: what the cutting of the changed text comes to. -/
namespace Go.Proofs.YtcjdacdggklifaaGreatDoor
open Go.RowKit

theorem cnt_split (q : Nat → Bool) : ∀ (n : Nat), (∀ a b, a ≤ b → b < n → q a = true → q b = true) →
    (List.range n).countP (fun i => !q i) ≤ n ∧ (∀ i, i < (List.range n).countP (fun i => !q i) → q i = false) ∧ (∀ i, (List.range n).countP (fun i => !q i) ≤ i → i < n → q i = true)
  | 0, _ => ⟨by simp, fun i h => by simp at h, fun i _ h => by omega⟩
  | n + 1, hm => by
    obtain ⟨h1, h2, h3⟩ := cnt_split q n fun a b hab hb => hm a b hab (by omega)
    rw [List.range_succ, List.countP_append]
    cases hq : q n with
    | true =>
      simp only [List.countP_cons, List.countP_nil, hq, Bool.not_true, Bool.false_eq_true, if_false, Nat.add_zero]
      refine ⟨by omega, h2, fun i hi hi2 => ?_⟩
      by_cases e : i = n
      · rw [e]; exact hq
      · exact h3 i hi (by omega)
    | false =>
      have hall : ∀ i, i < n → q i = false := fun i hi => by
        cases h : q i with
        | false => rfl
        | true => have := hm i n (by omega) (by omega) h; rw [hq] at this; cases this
      have hk : (List.range n).countP (fun i => !q i) = n := by
        refine Nat.le_antisymm h1 (Nat.le_of_not_lt fun hlt => ?_)
        have := h3 _ (Nat.le_refl _) hlt
        rw [hall _ hlt] at this; cases this
      rw [hk]
      simp only [List.countP_cons, List.countP_nil, hq, Bool.not_false, if_true, Nat.zero_add]
      refine ⟨Nat.le_refl _, fun i hi => ?_, fun i hi hi2 => by omega⟩
      by_cases e : i = n
      · rw [e]; exact hq
      · exact hall i (by omega)

def tok0 : Lx.Tok := ⟨0, 0, [], 0, 0⟩
/-- How many tokens end ahead of a byte; how many begin ahead of one. -/
def endsQ (old : List Lx.Tok) (p : Nat) (i : Nat) : Bool := decide (p ≤ (old.getD i tok0).fin)
def begsQ (old : List Lx.Tok) (y : Nat) (i : Nat) : Bool := decide (y ≤ (old.getD i tok0).at_)
def keptN (old : List Lx.Tok) (p : Nat) : Nat := (List.range old.length).countP (fun i => !endsQ old p i)
def nextN (old : List Lx.Tok) (y : Nat) : Nat := (List.range old.length).countP (fun i => !begsQ old y i)
theorem getD_lt (old : List Lx.Tok) (i : Nat) (h : i < old.length) : old.getD i tok0 = old[i] := by rw [List.getD_eq_getElem?_getD, List.getElem?_eq_getElem h]; rfl
theorem ends_mono {l : Lx.Bs} {old : List Lx.Tok} (hc : Lx.Chain l 0 old) (p : Nat) : ∀ a b, a ≤ b → b < old.length → endsQ old p a = true → endsQ old p b = true := by
  intro a b hab hb h
  unfold endsQ at *
  rw [getD_lt old a (by omega)] at h
  rw [getD_lt old b hb]
  simp only [decide_eq_true_eq] at *
  by_cases e : a = b
  · subst e; exact h
  · have := (Lx.chain_ends old l 0 hc a b (by omega) hb).1; omega
theorem begs_mono {l : Lx.Bs} {old : List Lx.Tok} (hc : Lx.Chain l 0 old) (y : Nat) : ∀ a b, a ≤ b → b < old.length → begsQ old y a = true → begsQ old y b = true := by
  intro a b hab hb h
  unfold begsQ at *
  rw [getD_lt old a (by omega)] at h
  rw [getD_lt old b hb]
  simp only [decide_eq_true_eq] at *
  by_cases e : a = b
  · subst e; exact h
  · have h1 := (Lx.chain_ends old l 0 hc a b (by omega) hb).2
    have h2 := (Lx.chain_tok old l 0 hc a (by omega)).2.1
    omega

/-- A token behind the edit, moved on. -/
def movedT (c s : Nat) (t : Lx.Tok) : Lx.Tok := { t with at_ := t.at_ + s - c, fin := t.fin + s - c }
/-- What 'resume' does with a state. -/
def dRes (n : Nat) (old : List Lx.Tok) (p c s : Nat) (st : St) : Bool × St :=
  if st.at_ < p + s then (false, st) else
  if nextN old (st.at_ + c - s) = old.length ∨ (old.getD (nextN old (st.at_ + c - s)) tok0).at_ ≠ st.at_ + c - s then (false, st) else
  (true, ⟨n, st.ts ++ (old.drop (nextN old (st.at_ + c - s))).map (movedT c s), st.cs⟩)
theorem dRes_same (n : Nat) (old : List Lx.Tok) (p c s : Nat) (st : St) (h : (dRes n old p c s st).1 = false) : (dRes n old p c s st).2 = st := by
  unfold dRes at *
  split
  · rfl
  · rename_i h1
    rw [if_neg h1] at h
    split
    · rfl
    · rename_i h2
      rw [if_neg h2] at h; cases h

/-- The changed text. -/
def edited (a : Lx.Bs) (p c : Nat) (S : Lx.Bs) : Lx.Bs := a.take p ++ S ++ a.drop (p + c)
theorem edited_drop (a : Lx.Bs) (p c : Nat) (S : Lx.Bs) (hp : p + c ≤ a.length) (x : Nat) (hx : p + S.length ≤ x) : (edited a p c S).drop x = a.drop (x + c - S.length) := by
  unfold edited
  have hl : (a.take p ++ S).length = p + S.length := by simp; omega
  rw [show x = (a.take p ++ S).length + (x - (p + S.length)) from by omega, ← List.drop_drop, List.drop_left, List.drop_drop]
  congr 1; omega
theorem edited_take (a : Lx.Bs) (p c : Nat) (S : Lx.Bs) (hp : p + c ≤ a.length) (x : Nat) (hx : x ≤ p) : (edited a p c S).take x = a.take x := by
  unfold edited
  rw [List.append_assoc, List.take_append_of_le_length (by simp; omega), List.take_take]
  congr 1; omega
theorem edited_len (a : Lx.Bs) (p c : Nat) (S : Lx.Bs) (hp : p + c ≤ a.length) : (edited a p c S).length = a.length + S.length - c := by
  unfold edited; simp; omega

theorem dRes_true {a : Lx.Bs} {old : List Lx.Tok} (hT : Lx.T a 0 = .good old) (p c : Nat) (S : Lx.Bs) (hp : p + c ≤ a.length) (n : Nat) (st : St) (h : (dRes n old p c S.length st).1 = true) :
    ∃ new, Lx.T ((edited a p c S).drop st.at_) st.at_ = .good new ∧ (dRes n old p c S.length st).2.ts = st.ts ++ new := by
  have hc := Lx.chain _ _ _ hT
  unfold dRes at *
  by_cases h1 : st.at_ < p + S.length
  · rw [if_pos h1] at h; cases h
  · rw [if_neg h1] at h ⊢
    generalize hy : st.at_ + c - S.length = y at *
    generalize hN : nextN old y = N at *
    by_cases h2 : N = old.length ∨ (old.getD N tok0).at_ ≠ y
    · rw [if_pos h2] at h; cases h
    · rw [if_neg h2] at h ⊢
      have hN2 : N < old.length := by
        have := (cnt_split (begsQ old y) old.length (begs_mono hc y)).1
        have h3 : nextN old y ≤ old.length := this
        omega
      have hat : (old[N]).at_ = y := by
        have : ¬ (old.getD N tok0).at_ ≠ y := fun e => h2 (.inr e)
        rw [getD_lt old N hN2] at this; omega
      have hTa := Lx.T_at old a 0 hc hT N hN2
      rw [hat, Nat.sub_zero] at hTa
      obtain ⟨u, hu, hz⟩ := Lx.T_shift hTa st.at_
      refine ⟨u.map (Lx.Tok.up st.at_), ?_, ?_⟩
      · rw [edited_drop a p c S hp st.at_ (by omega), hy]; exact hz
      · show st.ts ++ (old.drop N).map (movedT c S.length) = _
        rw [hu, List.map_map]
        congr 1
        refine List.map_congr_left fun t _ => ?_
        simp only [Function.comp, movedT, Lx.Tok.up, Lx.Tok.mk.injEq, true_and]
        omega

theorem runs_done {b : Lx.Bs} {D : St → Bool × St} (hD : ∀ st, (D st).1 = true → ∃ new, Lx.T (b.drop st.at_) st.at_ = .good new ∧ (D st).2.ts = st.ts ++ new) {st : St} {r : Sum Nat St} (h : Runs b D st r) :
    Comes st.ts (Lx.T (b.drop st.at_) st.at_) r := by
  induction h with
  | over st h => exact ⟨[], by rw [List.drop_eq_nil_of_le h, Lx.T_nil], by simp⟩
  | done st h hd => exact hD st hd
  | bad st h hd hn => exact (next_none h hn).1
  | step st st' r h hd hn hr ih =>
    obtain ⟨new, h1, _, h2, _⟩ := next_some hn
    cases r with
    | inl a => show _ = _; rw [h2, Lx.Res.pre_bad]; exact ih
    | inr s =>
      obtain ⟨new', h3, h4⟩ := ih
      exact ⟨new ++ new', by rw [h2, h3]; rfl, by rw [h4, h1, List.append_assoc]⟩

/-- The state from which the changed text is cut. -/
def stKept (old : List Lx.Tok) (p : Nat) : St := ⟨Lx.endOf 0 (old.take (keptN old p)), old.take (keptN old p), []⟩
theorem kept_facts {a : Lx.Bs} {old : List Lx.Tok} (hT : Lx.T a 0 = .good old) (p c : Nat) (S : Lx.Bs) (hp : p + c ≤ a.length) :
    keptN old p ≤ old.length ∧ Good (edited a p c S) (stKept old p) ∧
    Lx.T (edited a p c S) 0 = (Lx.T ((edited a p c S).drop (stKept old p).at_) (stKept old p).at_).pre (stKept old p).ts := by
  have hc := Lx.chain _ _ _ hT
  obtain ⟨h1, h2, h3⟩ := cnt_split (endsQ old p) old.length (ends_mono hc p)
  have h1 : keptN old p ≤ old.length := h1
  have h2 : ∀ i, i < keptN old p → endsQ old p i = false := h2
  have hE : keptN old p ≠ 0 → Lx.endOf 0 (old.take (keptN old p)) < p := fun hne => by
    obtain ⟨m, hm⟩ : ∃ m, keptN old p = m + 1 := ⟨keptN old p - 1, by omega⟩
    have hml : m < old.length := by omega
    have := h2 m (by omega)
    unfold endsQ at this
    rw [getD_lt old m hml] at this
    rw [hm, Lx.endOf_take 0 old m hml]
    simpa using this
  have hcnt := Lx.chain_count (old.take (keptN old p)) (old.drop (keptN old p)) a 0 (by rw [List.take_append_drop]; exact hc)
  have hel := edited_len a p c S hp
  refine ⟨h1, ⟨?_, ?_, Nat.zero_le _⟩, ?_⟩
  · show Lx.endOf 0 (old.take (keptN old p)) ≤ _
    by_cases h0 : keptN old p = 0
    · rw [h0]; simp [Lx.endOf]
    · have := hE h0; omega
  · show (old.take (keptN old p)).length ≤ Lx.endOf 0 (old.take (keptN old p))
    omega
  · have := Lx.T_keep (old.take (keptN old p)) (old.drop (keptN old p)) a (edited a p c S) 0 (by rw [List.take_append_drop]; exact hc) (fun hne => by
      have h0 : keptN old p ≠ 0 := fun e => hne (by rw [e]; rfl)
      have := hE h0
      rw [edited_take a p c S hp _ (by omega)])
    rw [Nat.sub_zero] at this
    exact this
theorem changed_comes {a : Lx.Bs} {old : List Lx.Tok} (hT : Lx.T a 0 = .good old) (p c : Nat) (S : Lx.Bs) (hp : p + c ≤ a.length) (n : Nat) {r : Sum Nat St} (h : Runs (edited a p c S) (dRes n old p c S.length) (stKept old p) r) :
    Comes [] (Lx.T (edited a p c S) 0) r := by
  have hk := (kept_facts hT p c S hp).2.2
  have hr := runs_done (fun st hd => dRes_true hT p c S hp n st hd) h
  rw [hk]
  cases r with
  | inl x => show _ = _; rw [Lx.Res.pre_bad]; exact hr
  | inr s =>
    obtain ⟨new, h3, h4⟩ := hr
    exact ⟨(stKept old p).ts ++ new, by rw [h3]; rfl, by rw [h4]; rfl⟩
end Go.Proofs.YtcjdacdggklifaaGreatDoor

/- Edits: the closures that are asked by a search, and tokens that are compared. -/
namespace Go.Proofs.YtcjdacdggklifaaGreatDoor
open Go.RowKit Go.Lib

theorem recut1_any (bo be g off n cap i : Nat) (p fin : Int) (w : World) (hi : i < n)
    (c0 : w.cell? ⟨bo, 0, none⟩ = some (.slice (some ⟨g, off, none⟩) n cap)) (c1 : w.cell? ⟨be, 0, none⟩ = some (.int .i64 p)) (c2 : w.cell? ⟨g, off + (i * 5 + 4), none⟩ = some (.int .i64 fin)) :
    Calls Tryz.prog 80 (#[.int .i64 i] ++ #[.pointer (some ⟨bo, 0, none⟩), .pointer (some ⟨be, 0, none⟩)]) w fun e w' => e = .returned (.bool (decide (p ≤ fin))) ∧ ∃ q, w' = w.drewN q := by
  rw [← Nat.add_assoc] at c2
  have hn : (i : Int) < (n : Int) := by omega
  go_enter Tryz.func80, Tryz.ntmps80
  go_wp2_with fail
  go_quiet (fail)
  go_wp2_with fail
  go_ret
  exact ⟨rfl, nq, rfl⟩
theorem resume1_any (bo be g off n cap i : Nat) (y at_ : Int) (w : World) (hi : i < n)
    (c0 : w.cell? ⟨bo, 0, none⟩ = some (.slice (some ⟨g, off, none⟩) n cap)) (c1 : w.cell? ⟨be, 0, none⟩ = some (.int .i64 y)) (c2 : w.cell? ⟨g, off + (i * 5 + 3), none⟩ = some (.int .i64 at_)) :
    Calls Tryz.prog 102 (#[.int .i64 i] ++ #[.pointer (some ⟨bo, 0, none⟩), .pointer (some ⟨be, 0, none⟩)]) w fun e w' => e = .returned (.bool (decide (y ≤ at_))) ∧ ∃ q, w' = w.drewN q := by
  rw [← Nat.add_assoc] at c2
  have hn : (i : Int) < (n : Int) := by omega
  go_enter Tryz.func102, Tryz.ntmps102
  go_wp2_with fail
  go_quiet (fail)
  go_wp2_with fail
  go_ret
  exact ⟨rfl, nq, rfl⟩

/-- Tokens that are compared whole. -/
def eqRT (x y : RT) : Bool := x.k == y.k && (x.n == y.n && (x.s.toList == y.s.toList && (x.a == y.a && x.f == y.f)))
theorem eqRT_iff (x y : RT) : eqRT x y = true ↔ x = y := by
  obtain ⟨a, b, c, d, e⟩ := x
  obtain ⟨a', b', c', d', e'⟩ := y
  simp only [eqRT, Bool.and_eq_true, beq_iff_eq, RT.mk.injEq]
  have : c.toList = c'.toList ↔ c = c' := by
    constructor
    · intro h
      rw [ByteArray.toList_eq, ByteArray.toList_eq] at h
      have : bts c = bts c' := h
      rw [← ofB_bts c, this, ofB_bts]
    · intro h; rw [h]
  rw [this]
theorem tok_neq (x y : RT) (w : World) : (binOp .neq 35 x.v y.v).run Tryz.prog w = .ok (.bool (!eqRT x y)) w := by
  have u3 := Tryz.underlying3
  have u9 := Tryz.underlying9
  have hS : Tryz.prog.underlying 35 = some (.struct (Tryz.prog.fieldsOf 35)) := by kernel_rfl
  have hp : Tryz.prog.stoodInHeld 35 = false := by kernel_rfl
  simp only [RT.v]
  rw [run_neq_struct, show (10000 : Nat) = 9999 + 1 from rfl, run_equalIn_agg w 9999 35 _ _ hS hp]
  simp only [Program.fieldsOf, Tryz.underlying35]
  go_simp
  by_cases h1 : x.k = y.k <;> by_cases h2 : x.n = y.n <;> by_cases h3 : x.s.toList = y.s.toList <;> by_cases h4 : x.a = y.a <;> by_cases h5 : x.f = y.f <;> simp [eqRT, h1, h2, h3, h4, h5]
end Go.Proofs.YtcjdacdggklifaaGreatDoor

/- Edits: rows of tokens that are compared: the reference's Same, slices.Equal. -/
namespace Go.Proofs.YtcjdacdggklifaaGreatDoor
open Go.RowKit

/-- Rows of tokens that are equal. -/
def eqs : List RT → List RT → Bool
  | [], [] => true
  | a :: l, b :: m => eqRT a b && eqs l m
  | _, _ => false
theorem eqs_iff : ∀ a b : List RT, eqs a b = true ↔ a = b
  | [], [] => by simp [eqs]
  | a :: l, b :: m => by simp [eqs, eqRT_iff, eqs_iff l m]
  | [], _ :: _ => by simp [eqs]
  | _ :: _, [] => by simp [eqs]
theorem eqs_step (a b : List RT) (k : Nat) (ha : k < a.length) (hb : k < b.length) : eqs (a.drop k) (b.drop k) = (eqRT a[k] b[k] && eqs (a.drop (k + 1)) (b.drop (k + 1))) := by
  rw [List.drop_eq_getElem_cons ha, List.drop_eq_getElem_cons hb]; rfl

set_option maxRecDepth 100000 in
set_option maxHeartbeats 1000000 in
theorem sameG_any (a b : List RT) (oa ob : Option Addr) (ca cb na nb : Nat) (w : World) (hna : a.length = na) (hnb : b.length = nb) (ha : TokV w oa a) (hb : TokV w ob b) (hn : na ≤ 100000) :
    Calls Tryz.prog 20 #[.slice oa na ca, .slice ob nb cb] w fun e w' => e = .returned (.bool (eqs a b)) ∧ w.grownBy w' none := by
  obtain ⟨res, hres⟩ : ∃ r, r = eqs a b := ⟨_, rfl⟩
  rw [← hres]
  have H := Lib.hid (And.intro hres (And.intro hna (And.intro hnb (And.intro ha hb))))
  by_cases hlen : na = nb
  · subst hlen
    clear hres hna hnb ha hb
    go_enter Tryz.func20, Tryz.ntmps20
    go_wp2_with fail
    go_loopw [5] (fun v wr => ∃ k : Nat, k ≤ na ∧ v = .int .i64 k ∧ w.grownBy wr none ∧ res = eqs (a.drop k) (b.drop k)) (fun v _ => na - (intOf v).toNat)
    case atStart => exact ⟨0, by omega, rfl, grownZ _ _, H.out.1⟩
    case round =>
      obtain ⟨k, hk, rfl, hg, hr⟩ := hrel
      have HG := Lib.hid hg
      have HRK := Lib.hid hr
      clear hr
      by_cases hlt : k < na
      · have hka : k < a.length := by have := H.out.2.1; omega
        have hkb : k < b.length := by have := H.out.2.2.1; omega
        obtain ⟨ga, fa, rfl, hla, hca⟩ := H.out.2.2.2.1 (by omega)
        obtain ⟨gb, fb, rfl, hlb, hcb⟩ := H.out.2.2.2.2 (by omega)
        have e1 : ∀ j, j < 5 → wr.cell? ⟨ga, fa + (k * 5 + j), none⟩ = (a[k]).cells[j]? := fun j hj => (World.cell?_of_block (w := w) (a := ⟨ga, fa + (k * 5 + j), none⟩) (hg.block ga hla (by simp))).trans (hca k hka j hj)
        have e2 : ∀ j, j < 5 → wr.cell? ⟨gb, fb + (k * 5 + j), none⟩ = (b[k]).cells[j]? := fun j hj => (World.cell?_of_block (w := w) (a := ⟨gb, fb + (k * 5 + j), none⟩) (hg.block gb hlb (by simp))).trans (hcb k hkb j hj)
        have hst := eqs_step a b k hka hkb
        have HST := Lib.hid hst
        clear hst hg hca hcb
        generalize a[k] = x at *
        generalize b[k] = y at *
        have hneq := fun w => tok_neq x y w
        simp only [RT.v] at hneq
        have a0 := e1 0 (by omega)
        have a1 := e1 1 (by omega)
        have a2 := e1 2 (by omega)
        have a3 := e1 3 (by omega)
        have a4 := e1 4 (by omega)
        have b0 := e2 0 (by omega)
        have b1 := e2 1 (by omega)
        have b2 := e2 2 (by omega)
        have b3 := e2 3 (by omega)
        have b4 := e2 4 (by omega)
        simp only [RT.cells, List.getElem?_cons_zero, List.getElem?_cons_succ, Nat.add_zero, ← Nat.add_assoc] at a0 a1 a2 a3 a4 b0 b1 b2 b3 b4
        clear e1 e2 hka hkb
        cases hal : eqRT x y
        · rw [hal] at hneq
          go_wp2_with fail
          go_quiet (fail)
          go_wp2_with fail
          go_ret
          exact ⟨ret_bool (by rw [HRK.out, HST.out, hal]; rfl), grownN _ HG.out⟩
        · rw [hal] at hneq
          go_wp2_with fail
          go_quiet (fail)
          go_wp2_with fail
          go_roundw
          case rel => exact ⟨k + 1, by omega, by go_num, grownN _ HG.out, by rw [HRK.out, HST.out, hal]; rfl⟩
          case measure => simp [intOf]; omega
      · have hkn : na = k := by omega
        subst hkn
        go_wp2_with fail
        go_ret
        exact ⟨ret_bool (by rw [HRK.out, List.drop_eq_nil_of_le (by have := H.out.2.1; omega), List.drop_eq_nil_of_le (by have := H.out.2.2.1; omega)]; rfl), HG.out⟩
  · have hl2 : ((na : Int) == (nb : Int)) = false := by rw [beq_eq_false_iff_ne]; omega
    have hr : false = res := by
      rw [hres]
      cases hk : eqs a b with
      | false => rfl
      | true => have := (eqs_iff a b).1 hk; rw [this] at hna; omega
    have HFR := Lib.hid hr
    clear hres hna hnb ha hb hr
    go_enter Tryz.func20, Tryz.ntmps20
    go_wp2_with fail
    go_ret
    exact ⟨ret_bool HFR.out, grownZ _ _⟩
set_option maxRecDepth 100000 in
set_option maxHeartbeats 1000000 in
theorem equal_any (a b : List RT) (oa ob : Option Addr) (ca cb na nb : Nat) (w : World) (hna : a.length = na) (hnb : b.length = nb) (ha : TokV w oa a) (hb : TokV w ob b) (hn : na ≤ 100000) :
    Calls Tryz.prog 50 #[.slice oa na ca, .slice ob nb cb] w fun e w' => e = .returned (.bool (eqs a b)) ∧ w.grownBy w' none := by
  obtain ⟨res, hres⟩ : ∃ r, r = eqs a b := ⟨_, rfl⟩
  rw [← hres]
  have H := Lib.hid (And.intro hres (And.intro hna (And.intro hnb (And.intro ha hb))))
  by_cases hlen : na = nb
  · subst hlen
    clear hres hna hnb ha hb
    go_enter Tryz.func50, Tryz.ntmps50
    go_wp2_with fail
    go_loopw [13] (fun v wr => ∃ k : Nat, k ≤ na ∧ v = .int .i64 k ∧ w.grownBy wr none ∧ res = eqs (a.drop k) (b.drop k)) (fun v _ => na - (intOf v).toNat)
    case atStart => exact ⟨0, by omega, rfl, grownZ _ _, H.out.1⟩
    case round =>
      obtain ⟨k, hk, rfl, hg, hr⟩ := hrel
      have HG := Lib.hid hg
      have HRK := Lib.hid hr
      clear hr
      by_cases hlt : k < na
      · have hka : k < a.length := by have := H.out.2.1; omega
        have hkb : k < b.length := by have := H.out.2.2.1; omega
        obtain ⟨ga, fa, rfl, hla, hca⟩ := H.out.2.2.2.1 (by omega)
        obtain ⟨gb, fb, rfl, hlb, hcb⟩ := H.out.2.2.2.2 (by omega)
        have e1 : ∀ j, j < 5 → wr.cell? ⟨ga, fa + (k * 5 + j), none⟩ = (a[k]).cells[j]? := fun j hj => (World.cell?_of_block (w := w) (a := ⟨ga, fa + (k * 5 + j), none⟩) (hg.block ga hla (by simp))).trans (hca k hka j hj)
        have e2 : ∀ j, j < 5 → wr.cell? ⟨gb, fb + (k * 5 + j), none⟩ = (b[k]).cells[j]? := fun j hj => (World.cell?_of_block (w := w) (a := ⟨gb, fb + (k * 5 + j), none⟩) (hg.block gb hlb (by simp))).trans (hcb k hkb j hj)
        have hst := eqs_step a b k hka hkb
        have HST := Lib.hid hst
        clear hst hg hca hcb
        generalize a[k] = x at *
        generalize b[k] = y at *
        have hneq := fun w => tok_neq x y w
        simp only [RT.v] at hneq
        have a0 := e1 0 (by omega)
        have a1 := e1 1 (by omega)
        have a2 := e1 2 (by omega)
        have a3 := e1 3 (by omega)
        have a4 := e1 4 (by omega)
        have b0 := e2 0 (by omega)
        have b1 := e2 1 (by omega)
        have b2 := e2 2 (by omega)
        have b3 := e2 3 (by omega)
        have b4 := e2 4 (by omega)
        simp only [RT.cells, List.getElem?_cons_zero, List.getElem?_cons_succ, Nat.add_zero, ← Nat.add_assoc] at a0 a1 a2 a3 a4 b0 b1 b2 b3 b4
        clear e1 e2 hka hkb
        cases hal : eqRT x y
        · rw [hal] at hneq
          go_wp2_with fail
          go_quiet (fail)
          go_wp2_with fail
          go_ret
          exact ⟨ret_bool (by rw [HRK.out, HST.out, hal]; rfl), grownN _ HG.out⟩
        · rw [hal] at hneq
          go_wp2_with fail
          go_quiet (fail)
          go_wp2_with fail
          go_roundw
          case rel => exact ⟨k + 1, by omega, by go_num, grownN _ HG.out, by rw [HRK.out, HST.out, hal]; rfl⟩
          case measure => simp [intOf]; omega
      · have hkn : na = k := by omega
        subst hkn
        go_wp2_with fail
        go_ret
        exact ⟨ret_bool (by rw [HRK.out, List.drop_eq_nil_of_le (by have := H.out.2.1; omega), List.drop_eq_nil_of_le (by have := H.out.2.2.1; omega)]; rfl), HG.out⟩
  · have hl2 : ((na : Int) == (nb : Int)) = false := by rw [beq_eq_false_iff_ne]; omega
    have hr : false = res := by
      rw [hres]
      cases hk : eqs a b with
      | false => rfl
      | true => have := (eqs_iff a b).1 hk; rw [this] at hna; omega
    have HFR := Lib.hid hr
    clear hres hna hnb ha hb hr
    go_enter Tryz.func50, Tryz.ntmps50
    go_wp2_with fail
    go_ret
    exact ⟨ret_bool HFR.out, grownZ _ _⟩
end Go.Proofs.YtcjdacdggklifaaGreatDoor

/- Edits: fits, and the searches. -/
namespace Go.Proofs.YtcjdacdggklifaaGreatDoor
open Go.RowKit

theorem fits_any (p c n : Int) (S : ByteArray) (hp : -9223372036854775808 ≤ p ∧ p ≤ 9223372036854775807) (hc : -9223372036854775808 ≤ c ∧ c ≤ 9223372036854775807) (hn : 0 ≤ n ∧ n ≤ 1000000) (w : World) :
    Calls Tryz.prog 51 #[.agg #[.int .i64 p, .int .i64 c, .string S], .int .i64 n] w fun e w' => e = .returned (.bool (decide (0 ≤ p ∧ 0 ≤ c ∧ p ≤ n ∧ c ≤ n - p))) ∧ w.grownBy w' none := by
  go_enter Tryz.func51, Tryz.ntmps51
  go_wp2
  all_goals go_ret
  all_goals exact ⟨ret_bool (Bool.eq_iff_iff.2 (by simp <;> omega)), World.grownBy_alloc _ _ _⟩

theorem grown_grow (w : World) (q : Nat) (os : Array Obj) : w.grownBy (Go.Sort.grow (w.drewN q) os) none :=
  ⟨rfl, rfl, rfl, by simp [Go.Sort.grow], fun i hi _ => by
    show ((w.drewN q).heap ++ os)[i]? = _
    rw [Array.getElem?_append_left (by show i < w.heap.size; omega)]; rfl⟩
theorem cell_in_grow {w : World} {a : Addr} {v : Value} (h : w.cell? a = some v) (q : Nat) (os : Array Obj) : (Go.Sort.grow (w.drewN q) os).cell? a = some v :=
  (World.cell?_of_block (w := w) ((grown_grow w q os).block a.block (World.block_lt_of_cell? _ _ h) (by simp))).trans h

theorem search_ends (old : List Lx.Tok) {l : Lx.Bs} (hch : Lx.Chain l 0 old) (hn : old.length ≤ 100000) (oa : Option Addr) (cap bo be p : Nat) (w : World) (htok : TokV w oa (old.map rt))
    (c0 : w.cell? ⟨bo, 0, none⟩ = some (.slice oa old.length cap)) (c1 : w.cell? ⟨be, 0, none⟩ = some (.int .i64 p)) :
    Calls Tryz.prog 79 #[.int .i64 old.length, .func (.func 80) #[] #[.pointer (some ⟨bo, 0, none⟩), .pointer (some ⟨be, 0, none⟩)]] w fun e w' => e = .returned (.int .i64 (keptN old p : Nat)) ∧ w.grownBy w' none := by
  have eg : ∀ (args : Array Value) (w : World), (callFunc 80 args).run Tryz.prog w = .ok (.enter 80 args) w := fun _ _ => by go_simp
  have hS := Any.sort_Search Tryz.laysSearch 80 #[.pointer (some ⟨bo, 0, none⟩), .pointer (some ⟨be, 0, none⟩)] old.length (endsQ old p) w eg (by omega) (fun m os i hi => by
    obtain ⟨g, off, rfl, hg, hce⟩ := htok (by rw [List.length_map]; omega)
    have h4 := hce i (by rw [List.length_map]; exact hi) 4 (by omega)
    rw [List.getElem_map] at h4
    refine (recut1_any bo be g off old.length cap i p (old[i]).fin _ hi (cell_in_grow c0 m os) (cell_in_grow c1 m os) (cell_in_grow h4 m os)).mono ?_
    rintro e w' ⟨he, q, hq⟩
    refine ⟨?_, q, #[], by rw [hq, Go.Sort.grow_empty]⟩
    rw [he, endsQ, getD_lt old i hi]
    exact ret_bool (by rw [decide_eq_decide]; omega)) (ends_mono hch p)
  refine Calls.mono hS ?_
  rintro e w' ⟨he, q, os, rfl⟩
  exact ⟨he, grown_grow w q os⟩
theorem search_begs (old : List Lx.Tok) {l : Lx.Bs} (hch : Lx.Chain l 0 old) (hn : old.length ≤ 100000) (oa : Option Addr) (cap bo be y : Nat) (w : World) (htok : TokV w oa (old.map rt))
    (c0 : w.cell? ⟨bo, 0, none⟩ = some (.slice oa old.length cap)) (c1 : w.cell? ⟨be, 0, none⟩ = some (.int .i64 y)) :
    Calls Tryz.prog 79 #[.int .i64 old.length, .func (.func 102) #[] #[.pointer (some ⟨bo, 0, none⟩), .pointer (some ⟨be, 0, none⟩)]] w fun e w' => e = .returned (.int .i64 (nextN old y : Nat)) ∧ w.grownBy w' none := by
  have eg : ∀ (args : Array Value) (w : World), (callFunc 102 args).run Tryz.prog w = .ok (.enter 102 args) w := fun _ _ => by go_simp
  have hS := Any.sort_Search Tryz.laysSearch 102 #[.pointer (some ⟨bo, 0, none⟩), .pointer (some ⟨be, 0, none⟩)] old.length (begsQ old y) w eg (by omega) (fun m os i hi => by
    obtain ⟨g, off, rfl, hg, hce⟩ := htok (by rw [List.length_map]; omega)
    have h4 := hce i (by rw [List.length_map]; exact hi) 3 (by omega)
    rw [List.getElem_map] at h4
    refine (resume1_any bo be g off old.length cap i y (old[i]).at_ _ hi (cell_in_grow c0 m os) (cell_in_grow c1 m os) (cell_in_grow h4 m os)).mono ?_
    rintro e w' ⟨he, q, hq⟩
    refine ⟨?_, q, #[], by rw [hq, Go.Sort.grow_empty]⟩
    rw [he, begsQ, getD_lt old i hi]
    exact ret_bool (by rw [decide_eq_decide]; omega)) (begs_mono hch y)
  refine Calls.mono hS ?_
  rintro e w' ⟨he, q, os, rfl⟩
  exact ⟨he, grown_grow w q os⟩

set_option maxRecDepth 100000 in
theorem clone_any (old : List Lx.Tok) (k : Nat) (hk : k ≤ old.length) (hk0 : 0 < k) (hn : old.length ≤ 100000) (oa : Option Addr) (cap : Nat) (w : World) (htok : TokV w oa (old.map rt)) :
    Calls Tryz.prog 81 #[.slice oa k cap] w fun e w' => ∃ v, e = .returned v ∧ w'.ownsRow w.heap.size 35 5 v k (tokCs (old.take k)) ∧ Below w.heap.size w w' := by
  obtain ⟨i0, hi0, hz0, hz1, hz2⟩ := info_parts info31
  obtain ⟨g, off, rfl, hg, hce⟩ := htok (by rw [List.length_map]; omega)
  have hl : (tokCs (old.take k)).length = k * 5 := by
    have : ∀ ts : List Lx.Tok, (tokCs ts).length = ts.length * 5 := fun ts => by
      induction ts with
      | nil => rfl
      | cons t ts ih => simp only [tokCs, List.flatMap_cons, List.length_append] at ih ⊢; rw [ih]; simp [tokC]; omega
    rw [this, List.length_take]; congr 1; omega
  have hS := AnyE.slices_Clone Tryz.laysClone i0 _ 5 48 hi0 hz0 hz1 hz2 rfl (by omega) Tryz.sizeOf35 g off k cap (tokCs (old.take k)) w hl (by unfold maxLen; omega) (by omega)
    (fun j u hj => by
      have hjl : j < k * 5 := by
        rcases Nat.lt_or_ge j (k * 5) with h | h
        · exact h
        · rw [List.getElem?_eq_none (by rw [hl]; exact h)] at hj; cases hj
      have h5 := hce (j / 5) (by rw [List.length_map]; omega) (j % 5) (by omega)
      rw [show j / 5 * 5 + j % 5 = j from by omega] at h5
      rw [h5, ← hj, tokCs_flat, List.map_take]
      have hm : j / 5 < ((old.map rt).take k).length := by rw [List.length_take, List.length_map]; omega
      have hf := flat_get ((old.map rt).take k) (j / 5) hm (j % 5) (by omega)
      rw [show j / 5 * 5 + j % 5 = j from by omega, List.getElem_take] at hf
      exact hf.symm)
    (fun u hu => by
      simp only [tokCs, List.mem_flatMap] at hu
      obtain ⟨t, _, ht⟩ := hu
      simp only [tokC, List.mem_cons, List.not_mem_nil, or_false] at ht
      rcases ht with rfl | rfl | rfl | rfl | rfl <;> rfl)
  refine Calls.mono hS ?_
  rintro e w' ⟨v, he, ho, _, hb⟩
  exact ⟨v, he, ho, hb⟩
end Go.Proofs.YtcjdacdggklifaaGreatDoor

/- Edits: resume. -/
namespace Go.Proofs.YtcjdacdggklifaaGreatDoor
open Go.RowKit

section
variable {B p sg fm sm : Nat} {text : ByteArray} {st : St} {tv cv : Value} {w : World}
/-- A state whose tokens have been turned, the place as it was. -/
theorem Sc.turnT (h : Sc B p sg fm sm text st tv cv w) {w1 : World} {o o2 : Obj} (hgrow : ((w.alloc o).alloc o2).drew.grownBy w1 tv.ownBlock) {gg n cap : Nat} {ts : List Lx.Tok}
    (hown1 : w1.ownsRow B 35 5 (.slice (some ⟨gg, 0, none⟩) n cap) ts.length (tokCs ts)) (hat : tv.ownBlock = some gg ∨ gg = w.heap.size + 1 + 1) :
    Sc B p sg fm sm text { st with ts := ts } (.slice (some ⟨gg, 0, none⟩) n cap) cv (w1.setCell ⟨p, 2, none⟩ (.slice (some ⟨gg, 0, none⟩) n cap)) ∧
    Moved p tv cv w (.slice (some ⟨gg, 0, none⟩) n cap) cv (w1.setCell ⟨p, 2, none⟩ (.slice (some ⟨gg, 0, none⟩) n cap)) := by
  have hn := h.ne
  have hpB := h.pB
  have hBW := h.BW
  have hsz : w.heap.size + 2 ≤ w1.heap.size := by have := hgrow.size; simpa using this
  have hap := h.apart
  have old : ∀ b, b < w.heap.size → some b ≠ tv.ownBlock → w1.heap[b]? = w.heap[b]? := fun b hb hne =>
    ((hgrow.block b (by simp; omega) hne).trans (heap_alloc_old _ _ (by simp; omega))).trans (heap_alloc_old w _ hb)
  have lo : ∀ b, b < B → some b ≠ tv.ownBlock := fun b hb e => by have := owns_ge h.toks b e.symm; omega
  have hself : w1.heap[p]? = some (.cells (scn text st.at_ tv cv sg fm sm) 79) := (old p (by omega) (lo p hpB)).trans h.self
  have s1 := setCell_at w1 ⟨p, 2, none⟩ (.slice (some ⟨gg, 0, none⟩) n cap) _ _ hself rfl
  have far : ∀ b, b ≠ p → (w1.setCell ⟨p, 2, none⟩ (.slice (some ⟨gg, 0, none⟩) n cap)).heap[b]? = w1.heap[b]? := fun b hb => Below.heap_setCell _ _ _ _ hb
  have hs : (w1.setCell ⟨p, 2, none⟩ (.slice (some ⟨gg, 0, none⟩) n cap)).heap.size = w1.heap.size := by simp [World.setCell]
  have hgB : B ≤ gg := (owns_ge hown1 gg rfl).1
  refine ⟨⟨s1, ?_, ?_, ?_, ?_, ?_, hpB, h.sgB, h.fmB, h.smB, by rw [hs]; omega, hn, ?_⟩, ⟨hgrow.os, hgrow.tape, hgrow.output, by rw [hs]; omega, fun k hk hp ht _ => (far k hp).trans (old k hk ht), ?_, .inl rfl⟩⟩
  · rw [far sg (Ne.symm hn.1), old sg (by have := h.sgB; omega) (lo sg h.sgB)]; exact h.signs
  · exact h.fixed.of_block ((far fm (Ne.symm hn.2.1)).trans (old fm (by have := h.fmB; omega) (lo fm h.fmB)))
  · rw [far sm (Ne.symm hn.2.2), old sm (by have := h.smB; omega) (lo sm h.smB)]; exact h.steps
  · exact owns_of_block hown1 fun g hg => by simp [Value.ownBlock] at hg; subst hg; exact far gg (by omega)
  · refine owns_of_block h.coms fun g hg => ?_
    have hg' := owns_ge h.coms g hg
    refine (far g (by omega)).trans (old g hg'.2 fun e => ?_)
    rcases hap with e' | e'
    · rw [← e] at e'; cases e'
    · exact e' (by rw [hg]; exact e.symm)
  · refine .inr ?_
    intro e
    rcases hat with e' | e'
    · rcases hap with e2 | e2
      · rw [e'] at e2; cases e2
      · exact e2 (e'.trans e)
    · have := owns_ge h.coms gg e.symm; omega
  · rcases hat with e' | e'
    · exact .inl (by rw [e']; rfl)
    · refine .inr fun k hk => ?_
      simp [Value.ownBlock] at hk; omega
/-- The old tokens lie apart from a scanner and what it owns. -/
def Away (p : Nat) (tv cv : Value) (w : World) (oa : Option Addr) : Prop := ∀ a, oa = some a → a.block < w.heap.size ∧ a.block ≠ p ∧ some a.block ≠ tv.ownBlock ∧ some a.block ≠ cv.ownBlock
theorem TokV.moved {tv' cv' : Value} {w' : World} {oa : Option Addr} {rs : List RT} (h : TokV w oa rs) (ha : Away p tv cv w oa) (hm : Moved p tv cv w tv' cv' w') : TokV w' oa rs := fun hn => by
  obtain ⟨g, off, rfl, hl, hc⟩ := h hn
  obtain ⟨h1, h2, h3, h4⟩ := ha _ rfl
  exact ⟨g, off, rfl, Nat.lt_of_lt_of_le hl hm.size, fun i hi j hj => (World.cell?_of_block (w := w) (a := ⟨g, off + (i * 5 + j), none⟩) (hm.block g hl h2 h3 h4)).trans (hc i hi j hj)⟩

theorem sc_grown {tv0 cv0 : Value} {w0 w' : World} (h : Sc B p sg fm sm text st tv cv w) (hm : Moved p tv0 cv0 w0 tv cv w) (hg : w.grownBy w' none) : Sc B p sg fm sm text st tv cv w' ∧ Moved p tv0 cv0 w0 tv cv w' := by
  have hk : ∀ b, b < B → w'.heap[b]? = w.heap[b]? := fun b hb => hg.block b (Nat.lt_of_lt_of_le hb h.BW) (by simp)
  exact ⟨⟨(hk p h.pB).trans h.self, (hk sg h.sgB).trans h.signs, h.fixed.of_block (hk fm h.fmB), (hk sm h.smB).trans h.steps,
    owns_of_block h.toks fun b hb => hg.block b (owns_ge h.toks b hb).2 (by simp), owns_of_block h.coms fun b hb => hg.block b (owns_ge h.coms b hb).2 (by simp), h.pB, h.sgB, h.fmB, h.smB, Nat.le_trans h.BW hg.size, h.ne, h.apart⟩,
    ⟨hg.os.trans hm.os, hg.tape.trans hm.tape, hg.output.trans hm.output, Nat.le_trans hm.size hg.size, fun k hk hp ht hc => (hg.block k (Nat.lt_of_lt_of_le hk hm.size) (by simp)).trans (hm.block k hk hp ht hc), hm.tvR, hm.cvR⟩⟩

set_option maxRecDepth 100000 in
set_option maxHeartbeats 2000000 in
theorem resume_any (h : Sc B p sg fm sm text st tv cv w) (old : List Lx.Tok) {l : Lx.Bs} (hch : Lx.Chain l 0 old) (n : Nat) (hn : old.length = n) (hn2 : n ≤ 20000) (oa : Option Addr) (cap : Nat) (hcap : n ≤ cap) (htok : TokV w oa (old.map rt)) (haw : Away p tv cv w oa)
    (pe c : Nat) (S : ByteArray) (hat : st.at_ ≤ text.size) (hs : text.size ≤ 100000) (hpe : pe ≤ 100000) (hc : c ≤ 100000) (hS : S.size ≤ 100000) (hl : l.length ≤ 100000) (hts : st.ts.length ≤ 100000) :
    Calls Tryz.prog 83 #[.pointer (some ⟨p, 0, none⟩), .slice oa n cap, .agg #[.int .i64 pe, .int .i64 c, .string S]] w fun e w' =>
      e = .returned (.bool (dRes text.size old pe c S.size st).1) ∧ ∃ tv' cv', Sc B p sg fm sm text (dRes text.size old pe c S.size st).2 tv' cv' w' ∧ Moved p tv cv w tv' cv' w' := by
  obtain ⟨i0, hi0, hz0, hz1, hz2⟩ := info_parts info31
  have c0 := h.c0
  have c1 := h.c1
  have H := Lib.hid (And.intro h (And.intro hch (And.intro hn (And.intro htok haw))))
  have hpw := h.pw
  clear h hch hn htok haw
  have hS1 := H.out.1.allocD (w1 := w.alloc (.cells #[.slice oa n cap] 22)) _ rfl rfl rfl rfl
  have hS2 := hS1.1.allocD (w1 := (w.alloc (.cells #[.slice oa n cap] 22)).alloc (.cells #[.int .i64 pe, .int .i64 c, .string S] 38)) _ rfl rfl rfl rfl
  have hM2 := hS1.2.trans hS2.2
  obtain ⟨W2, hW2⟩ : ∃ W, W = (w.alloc (.cells #[.slice oa n cap] 22)).alloc (.cells #[.int .i64 pe, .int .i64 c, .string S] 38) := ⟨_, rfl⟩
  rw [← hW2] at hS2 hM2
  have hbo : W2.heap[w.heap.size]? = some (.cells #[.slice oa n cap] 22) := by subst hW2; rw [alloc_miss _ _ _ (by simp), alloc_hit _ _ _ rfl]
  have hbe : W2.heap[w.heap.size + 1]? = some (.cells #[.int .i64 pe, .int .i64 c, .string S] 38) := by subst hW2; rw [alloc_hit _ _ _ (by simp)]
  have hz2 : W2.heap.size = w.heap.size + 2 := by subst hW2; simp
  have HS2 := Lib.hid (And.intro hS2.1 hM2)
  have HBX := Lib.hid (And.intro hbo (And.intro hbe hz2))
  have HW2 := Lib.hid hW2
  clear hW2 hS1 hS2 hM2 hbo hbe hz2 c0 c1
  have c0 := HS2.out.1.c0
  have c1 := HS2.out.1.c1
  have o0 : W2.cell? ⟨w.heap.size, 0, none⟩ = some (.slice oa n cap) := by rw [(cells_of HBX.out.1 0).1]; rfl
  have d0 : W2.cell? ⟨w.heap.size + 1, 0, none⟩ = some (.int .i64 pe) := by rw [(cells_of HBX.out.2.1 0).1]; rfl
  have d1 : W2.cell? ⟨w.heap.size + 1, 1, none⟩ = some (.int .i64 c) := by rw [(cells_of HBX.out.2.1 1).1]; rfl
  have d2 : W2.cell? ⟨w.heap.size + 1, 2, none⟩ = some (.string S) := by rw [(cells_of HBX.out.2.1 2).1]; rfl
  by_cases hlt : st.at_ < pe + S.size
  · have hl1 : (st.at_ : Int) < (pe : Int) + (S.size : Int) := by omega
    have hd : dRes text.size old pe c S.size st = (false, st) := by unfold dRes; rw [if_pos hlt]
    rw [hd]
    clear hd
    go_enter Tryz.func83, Tryz.ntmps83
    go_wp2_with fail
    rw [← HW2.out]
    go_quiet (fail)
    go_wp2_with fail
    go_ret
    exact ⟨rfl, tv, cv, HS2.out.1.drewN _, HS2.out.2.trans (Moved.drewN _)⟩
  · have hl1 : ¬ (st.at_ : Int) < (pe : Int) + (S.size : Int) := by omega
    obtain ⟨y, hy⟩ : ∃ y, st.at_ + c - S.size = y := ⟨_, rfl⟩
    have hy1 : (st.at_ : Int) - ((S.size : Int) - (c : Int)) = (y : Int) := by omega
    have HY := Lib.hid hy
    clear hy
    go_enter Tryz.func83, Tryz.ntmps83
    go_wp2_with fail
    rw [← HW2.out]
    go_quiet (fail)
    obtain ⟨W3, hW3⟩ : ∃ W, W = W2.drewN nq := ⟨_, rfl⟩
    rw [← hW3]
    have hS3 : Sc B p sg fm sm text st tv cv W3 ∧ Moved p tv cv w tv cv W3 := by subst hW3; exact ⟨HS2.out.1.drewN _, HS2.out.2.trans (Moved.drewN _)⟩
    have hh3 : ∀ b : Nat, W3.heap[b]? = W2.heap[b]? := by subst hW3; exact fun b => rfl
    have hz3 : W3.heap.size = w.heap.size + 2 := by subst hW3; exact HBX.out.2.2
    have HS3 := Lib.hid hS3
    have HB3 := Lib.hid (And.intro ((hh3 _).trans HBX.out.1) (And.intro ((hh3 _).trans HBX.out.2.1) hz3))
    clear hS3 hh3 hz3 hW3 c0 c1 o0 d0 d1 d2
    have c0 := HS3.out.1.c0
    have c1 := HS3.out.1.c1
    have o0 : W3.cell? ⟨w.heap.size, 0, none⟩ = some (.slice oa n cap) := by rw [(cells_of HB3.out.1 0).1]; rfl
    have d0 : W3.cell? ⟨w.heap.size + 1, 0, none⟩ = some (.int .i64 pe) := by rw [(cells_of HB3.out.2.1 0).1]; rfl
    have d1 : W3.cell? ⟨w.heap.size + 1, 1, none⟩ = some (.int .i64 c) := by rw [(cells_of HB3.out.2.1 1).1]; rfl
    have d2 : W3.cell? ⟨w.heap.size + 1, 2, none⟩ = some (.string S) := by rw [(cells_of HB3.out.2.1 2).1]; rfl
    have o0' : ∀ o, (W3.alloc o).cell? ⟨w.heap.size, 0, none⟩ = some (.slice oa n cap) := fun o => by rw [World.cell?_of_block (w := W3) (a := ⟨w.heap.size, 0, none⟩) (heap_alloc_old W3 o (by have := HB3.out.2.2; show w.heap.size < _; omega))]; exact o0
    go_wp2_with fail
    have hW4 := HS3.out.1.allocD (w1 := W3.alloc (.cells #[.int .i64 y] 3)) _ rfl rfl rfl rfl
    have hM4 := HS3.out.2.trans hW4.2
    have hb4 : (W3.alloc (.cells #[.int .i64 y] 3)).heap[W3.heap.size]? = some (.cells #[.int .i64 y] 3) := heap_alloc_new W3 _
    have ho4 := o0' (.cells #[.int .i64 y] 3)
    have hbe4 : (W3.alloc (.cells #[.int .i64 y] 3)).heap[w.heap.size + 1]? = some (.cells #[.int .i64 pe, .int .i64 c, .string S] 38) := (heap_alloc_old W3 _ (by have := HB3.out.2.2; omega)).trans HB3.out.2.1
    have hlt4 : W3.heap.size < (W3.alloc (.cells #[.int .i64 y] 3)).heap.size := by simp
    have hz4 : w.heap.size + 2 = W3.heap.size := HB3.out.2.2.symm
    generalize (W3.alloc (.cells #[.int .i64 y] 3)) = W4 at *
    have hsb := search_begs old H.out.2.1 (by have := H.out.2.2.1; omega) oa cap w.heap.size W3.heap.size y W4 (H.out.2.2.2.1.moved H.out.2.2.2.2 hM4) (by rw [H.out.2.2.1]; exact ho4) (by rw [(cells_of hb4 0).1]; rfl)
    rw [H.out.2.2.1] at hsb
    refine hsb.mono ?_
    rintro e W5 ⟨rfl, hg5⟩
    have hS5 : Sc B p sg fm sm text st tv cv W5 ∧ Moved p tv cv w tv cv W5 := sc_grown hW4.1 hM4 hg5
    have hb5 : W5.heap[W3.heap.size]? = some (.cells #[.int .i64 y] 3) := (hg5.block _ hlt4 (by simp)).trans hb4
    have hbe5 : W5.heap[w.heap.size + 1]? = some (.cells #[.int .i64 pe, .int .i64 c, .string S] 38) := (hg5.block _ (by omega) (by simp)).trans hbe4
    have ho5 : W5.cell? ⟨w.heap.size, 0, none⟩ = some (.slice oa n cap) := (World.cell?_of_block (w := W4) (a := ⟨w.heap.size, 0, none⟩) (hg5.block w.heap.size (by omega) (by simp))).trans ho4
    have hy5 : W5.cell? ⟨W3.heap.size, 0, none⟩ = some (.int .i64 y) := by rw [(cells_of hb5 0).1]; rfl
    have hsp := cnt_split (begsQ old y) old.length (begs_mono H.out.2.1 y)
    have hN : nextN old y ≤ n := by have h1 : nextN old y ≤ old.length := hsp.1; have := H.out.2.2.1; omega
    have hdr : dRes text.size old pe c S.size st = if nextN old y = n ∨ (old.getD (nextN old y) tok0).at_ ≠ y then (false, st) else (true, ⟨text.size, st.ts ++ (old.drop (nextN old y)).map (movedT c S.size), st.cs⟩) := by
      unfold dRes; rw [if_neg hlt, HY.out, H.out.2.2.1]
    have HS5 := Lib.hid hS5
    have HDR := Lib.hid hdr
    have HBE5 := Lib.hid hbe5
    clear hW4 hM4 hb4 ho4 hbe4 hsb hS5 hg5 hb5 hbe5 hsp hdr c0 c1 o0 d0 d1 d2 o0' hlt4
    generalize nextN old y = N at *
    generalize W3.heap.size = gy at *
    by_cases hNn : N = n
    · have hN1 : ((N : Int) == (n : Int)) = true := by rw [beq_iff_eq]; omega
      have hd : dRes text.size old pe c S.size st = (false, st) := by rw [HDR.out, if_pos (.inl hNn)]
      have HD := Lib.hid hd
      clear hd
      have HNn := Lib.hid hNn
      clear hNn
      go_wp2_with fail
      go_quiet (fail)
      go_wp2_with fail
      go_ret
      rw [HD.out]
      exact ⟨rfl, tv, cv, HS5.out.1.drewN _, HS5.out.2.trans (Moved.drewN _)⟩
    · have hN1 : ((N : Int) == (n : Int)) = false := by rw [beq_eq_false_iff_ne]; omega
      have hNl : N < old.length := by have := H.out.2.2.1; omega
      have hNm : N < (old.map rt).length := by rw [List.length_map]; exact hNl
      have htk5 := H.out.2.2.2.1.moved H.out.2.2.2.2 HS5.out.2
      obtain ⟨g, off, hoa, hg5, hce⟩ := htk5 (by rw [List.length_map]; omega)
      have haw := H.out.2.2.2.2
      subst hoa
      obtain ⟨aw1, aw2, aw3, aw4⟩ := haw _ rfl
      have hc3 : W5.cell? ⟨g, off + (N * 5 + 3), none⟩ = some (.int .i64 (old[N]).at_) := by
        have := hce N hNm 3 (by omega)
        rw [List.getElem_map] at this; exact this
      rw [← Nat.add_assoc] at hc3
      rw [getD_lt old N hNl] at HDR
      have HCE := Lib.hid (And.intro hce (And.intro aw1 (And.intro aw2 (And.intro aw3 aw4))))
      have hNi : (N : Int) < (n : Int) := by omega
      clear hce aw1 aw2 aw3 aw4 hNm
      generalize hat_ : (old[N]).at_ = at_ at *
      have HAT := Lib.hid hat_
      clear hat_
      by_cases hay : at_ = y
      · have ha1 : ((at_ : Int) == (y : Int)) = true := by rw [beq_iff_eq]; omega
        have ha2 : ((at_ : Int) != (y : Int)) = false := by rw [bne, ha1]; rfl
        have hd : dRes text.size old pe c S.size st = (true, ⟨text.size, st.ts ++ (old.drop N).map (movedT c S.size), st.cs⟩) := by rw [HDR.out, if_neg (fun h => h.elim hNn (fun h => h hay))]
        have HD := Lib.hid hd
        have HAY := Lib.hid hay
        clear hd hay
        go_wp2_with fail
        go_quiet (fail)
        obtain ⟨W6, hW6⟩ : ∃ W, W = W5.drewN nq := ⟨_, rfl⟩
        rw [← hW6]
        have hS6 : Sc B p sg fm sm text st tv cv W6 ∧ Moved p tv cv w tv cv W6 := by subst hW6; exact ⟨HS5.out.1.drewN _, HS5.out.2.trans (Moved.drewN _)⟩
        have hh6 : ∀ b : Nat, W6.heap[b]? = W5.heap[b]? := by subst hW6; exact fun b => rfl
        have o6 : W6.cell? ⟨w.heap.size, 0, none⟩ = some (.slice (some ⟨g, off, none⟩) n cap) := by subst hW6; exact ho5
        have HS6 := Lib.hid hS6
        have HH6 := Lib.hid (And.intro hh6 o6)
        clear hS6 hh6 hW6 ho5 hy5 hc3 ha1 ha2
        obtain ⟨M, hM⟩ : ∃ M, n - N = M := ⟨_, rfl⟩
        have hM1 : (n : Int) - (N : Int) = (M : Int) := by omega
        have hM2 : N + M = n := by omega
        have HM := Lib.hid hM2
        clear hM
        go_wp2_with fail
        go_loopw [56] (fun v wr => ∃ (k : Nat) (tv' : Value), k ≤ M ∧ v = .int .i64 k ∧ Sc B p sg fm sm text ⟨st.at_, st.ts ++ ((old.drop N).take k).map (movedT c S.size), st.cs⟩ tv' cv wr ∧ Moved p tv cv w tv' cv wr) (fun v _ => M - (intOf v).toNat)
        case atStart => exact ⟨0, tv, by omega, rfl, by rw [List.take_zero, List.map_nil, List.append_nil]; exact HS6.out.1, HS6.out.2⟩
        case round =>
          obtain ⟨k, tv', hk, rfl, hsc, hmv⟩ := hrel
          have HSC := Lib.hid (And.intro hsc hmv)
          by_cases hkM : k < M
          · have hkl : N + k < old.length := by have := H.out.2.2.1; omega
            have hkm : N + k < (old.map rt).length := by rw [List.length_map]; exact hkl
            have htkr := H.out.2.2.2.1.moved H.out.2.2.2.2 hmv
            obtain ⟨g', off', hoa', hgr, hcr⟩ := htkr (by rw [List.length_map]; omega)
            simp only [Option.some.injEq, Addr.mk.injEq, and_true] at hoa'
            obtain ⟨rfl, rfl⟩ := hoa'
            have e1 : ∀ j, j < 5 → wr.cell? ⟨g, off + N * 5 + k * 5 + j, none⟩ = (rt (old[N + k])).cells[j]? := fun j hj => by
              have h1 := hcr (N + k) hkm j hj
              rw [List.getElem_map] at h1
              rw [show off + N * 5 + k * 5 + j = off + ((N + k) * 5 + j) from by omega]; exact h1
            have hge : y ≤ (old[N + k]).at_ := by
              by_cases hk0 : k = 0
              · subst hk0; have h1 := HAT.out; have h2 := HAY.out; simp only [Nat.add_zero]; omega
              · have h1 := (Lx.chain_ends old l 0 H.out.2.1 N (N + k) (by omega) hkl).2
                have h3 := (Lx.chain_tok old l 0 H.out.2.1 N hNl).2.1
                have h1' := HAT.out; have h2 := HAY.out; omega
            have hlt5 := Lx.chain_tok old l 0 H.out.2.1 (N + k) hkl
            have hnext : ((old.drop N).take (k + 1)).map (movedT c S.size) = ((old.drop N).take k).map (movedT c S.size) ++ [movedT c S.size (old[N + k])] := by
              rw [List.take_succ_eq_append_getElem (by rw [List.length_drop]; omega), List.map_append, List.getElem_drop]; rfl
            have HNX := Lib.hid hnext
            generalize old[N + k] = t at *
            obtain ⟨tk, tn, tst, ta, tf⟩ := t
            simp only at hge hlt5
            have a0 := e1 0 (by omega)
            have a1 := e1 1 (by omega)
            have a2 := e1 2 (by omega)
            have a3 := e1 3 (by omega)
            have a4 := e1 4 (by omega)
            simp only [rt, RT.cells, List.getElem?_cons_zero, List.getElem?_cons_succ, Nat.add_zero] at a0 a1 a2 a3 a4
            obtain ⟨na, hna⟩ : ∃ na, ta + S.size - c = na := ⟨_, rfl⟩
            obtain ⟨nf, hnf⟩ : ∃ nf, tf + S.size - c = nf := ⟨_, rfl⟩
            have hyc : c ≤ y := by have := HY.out; omega
            have hna1 : (ta : Int) + ((S.size : Int) - (c : Int)) = (na : Int) := by omega
            have hnf1 : (tf : Int) + ((S.size : Int) - (c : Int)) = (nf : Int) := by omega
            have HNA := Lib.hid (And.intro hna hnf)
            have hkMi : (k : Int) < (M : Int) := by omega
            have hnal : na ≤ 200000 ∧ nf ≤ 200000 := by omega
            clear e1 hcr htkr hkm hnext hna hnf hsc hmv hge hlt5
            go_wp2_with fail
            obtain ⟨TS, hTS⟩ : ∃ TS, TS = st.ts ++ ((old.drop N).take k).map (movedT c S.size) := ⟨_, rfl⟩
            have hTl : TS.length ≤ 120000 := by rw [hTS]; simp only [List.length_append, List.length_map, List.length_take]; omega
            have hsc := HSC.out.1
            have hmv := HSC.out.2
            rw [← hTS] at hsc
            have hpr := hsc.pw
            generalize hW : World.alloc wr (.cells #[.int .i64 tk, .int .i64 tn, .string (ofB tst), .int .i64 na, .int .i64 nf] 35) = W1
            have hbx : W1.heap[wr.heap.size]? = some (.cells #[.int .i64 tk, .int .i64 tn, .string (ofB tst), .int .i64 na, .int .i64 nf] 35) := by subst hW; exact heap_alloc_new wr _
            have hold : ∀ b, b < wr.heap.size → W1.heap[b]? = wr.heap[b]? := by subst hW; exact fun b hb => heap_alloc_old wr _ hb
            have hsz : W1.heap.size = wr.heap.size + 1 := by subst hW; simp
            have hself : W1.heap[p]? = some (.cells (scn text st.at_ tv' cv sg fm sm) 79) := (hold p hpr).trans hsc.self
            have hown : W1.ownsRow B 35 5 tv' TS.length (tokCs TS) := owns_of_block hsc.toks fun g hg => hold g (owns_ge hsc.toks g hg).2
            have d1 : W1.cell? ⟨p, 2, none⟩ = some tv' := by rw [(cells_of hself 2).1]; rfl
            have b0 : W1.cell? ⟨wr.heap.size, 0, none⟩ = some (.int .i64 tk) := by rw [(cells_of hbx 0).1]; rfl
            have b1 : W1.cell? ⟨wr.heap.size, 1, none⟩ = some (.int .i64 tn) := by rw [(cells_of hbx 1).1]; rfl
            have b2 : W1.cell? ⟨wr.heap.size, 2, none⟩ = some (.string (ofB tst)) := by rw [(cells_of hbx 2).1]; rfl
            have b3 : W1.cell? ⟨wr.heap.size, 3, none⟩ = some (.int .i64 na) := by rw [(cells_of hbx 3).1]; rfl
            have b4 : W1.cell? ⟨wr.heap.size, 4, none⟩ = some (.int .i64 nf) := by rw [(cells_of hbx 4).1]; rfl
            have hpB := hsc.pB
            have hBW := hsc.BW
            have hav : tv'.ownBlock ≠ some p := fun e => by have := owns_ge hsc.toks p e; omega
            have HO := Lib.hid hown
            have HA := Lib.hid hav
            have HSF := Lib.hid hself
            have HSS := Lib.hid (And.intro hsc (And.intro hmv hTS))
            have hlt1 : p < W1.heap.size := by omega
            have hB1 : B ≤ W1.heap.size := by omega
            have HZ := Lib.hid hsz
            clear hbx hold hself hown hav hsz hsc hmv a0 a1 a2 a3 a4 hTS hna1 hnf1
            have d2 : ∀ o, (W1.alloc o).cell? ⟨p, 2, none⟩ = some tv' := fun o => by rw [World.cell?_of_block (w := W1) (a := ⟨p, 2, none⟩) (heap_alloc_old W1 o hlt1)]; exact d1
            go_region_law (first
              | (refine step_append_lies _ (by rfl) _ _ _ (by rfl) B 35 i0 _ 5 48 Tryz.underlying22 hi0 hz0 hz1 hz2 rfl (by omega) tv' TS.length (tokCs TS) (by rfl) ((HO.out.alloc _).drew)
                  ⟨W1.heap.size, 0, none⟩ 1 1 [.int .i64 tk, .int .i64 tn, .string (ofB tst), .int .i64 na, .int .i64 nf] (by rfl) (by rfl) (World.news_of_block (cs := #[.int .i64 tk, .int .i64 tn, .string (ofB tst), .int .i64 na, .int .i64 nf]) (t := 35) (fr := (0, 0)) (heap_alloc_new W1 _)) (by simp [Value.oneCell'])
                  (by omega) (by unfold maxLen; omega) (by omega) (by simp; omega) (W1.heap.size + 1) (by simp) ?_; intro gg cap w1 hown1 hgrow hat hlt; have f2 : w1.frozen? ⟨p, 2, none⟩ = false := (by rw [World.frozen?_of_block (w := W1) ((hgrow.block p (by simp; omega) (fun e => HA.out e.symm)).trans (heap_alloc_old W1 _ hlt1))]; exact (cells_of HSF.out 2).2); have g2 : w1.cell? ⟨p, 2, none⟩ = some tv' := (by rw [World.cell?_of_block (w := W1) ((hgrow.block p (by simp; omega) (fun e => HA.out e.symm)).trans (heap_alloc_old W1 _ hlt1))]; exact d1)))
            all_goals
              have HG := Lib.hid hgrow
              have HO1 := Lib.hid hown1
              have HATT := Lib.hid hat
              clear hgrow hown1 hat
              go_wp2_with fail
              subst hW
              have ht := HSS.out.1.turnT HG.out (ts := TS ++ [⟨tk, tn, tst, na, nf⟩]) (by rw [tokCs_snoc, List.length_append]; exact HO1.out) (by have := HATT.out; simpa using this)
              go_roundw
              case rel =>
                refine ⟨k + 1, _, by omega, by go_num, ?_, HSS.out.2.1.trans ht.2⟩
                rw [HNX.out, ← List.append_assoc, ← HSS.out.2.2]
                simp only [movedT, HNA.out.1, HNA.out.2]
                exact ht.1
              case measure => simp [intOf]; omega
          · have hkn : M = k := by omega
            subst hkn
            have hfull : (old.drop N).take M = old.drop N := List.take_of_length_le (by rw [List.length_drop]; have := H.out.2.2.1; have := HM.out; omega)
            have hsc := HSC.out.1
            rw [hfull] at hsc
            have q0 := hsc.c0
            have q1 := hsc.c1
            have qf := hsc.fz 1
            have HSX := Lib.hid (And.intro hsc HSC.out.2)
            clear hsc hmv hfull
            go_wp2_with fail
            go_ret
            rw [HD.out]
            have hm := HSX.out.1.moveTo text.size
            exact ⟨rfl, _, cv, hm.1, HSX.out.2.trans hm.2⟩
      · have ha1 : ((at_ : Int) == (y : Int)) = false := by rw [beq_eq_false_iff_ne]; omega
        have ha2 : ((at_ : Int) != (y : Int)) = true := by rw [bne, ha1]; rfl
        have hd : dRes text.size old pe c S.size st = (false, st) := by rw [HDR.out, if_pos (.inr hay)]
        have HD := Lib.hid hd
        clear hd
        go_wp2_with fail
        go_quiet (fail)
        go_wp2_with fail
        go_ret
        rw [HD.out]
        exact ⟨rfl, tv, cv, HS5.out.1.drewN _, HS5.out.2.trans (Moved.drewN _)⟩
end
end Go.Proofs.YtcjdacdggklifaaGreatDoor

/- Edits: the test of the loop, recut. -/
namespace Go.Proofs.YtcjdacdggklifaaGreatDoor
open Go.RowKit

section
variable {B p sg fm sm : Nat} {text : ByteArray} {st : St} {tv cv : Value} {w : World}
theorem Away.moved {tv' cv' : Value} {w' : World} {oa : Option Addr} (ha : Away p tv cv w oa) (hm : Moved p tv cv w tv' cv' w') : Away p tv' cv' w' oa := fun a he => by
  obtain ⟨h1, h2, h3, h4⟩ := ha a he
  refine ⟨Nat.lt_of_lt_of_le h1 hm.size, h2, fun e => ?_, fun e => ?_⟩
  · rcases hm.tvR with h | h
    · exact h3 (e.trans h)
    · have := h _ e.symm; omega
  · rcases hm.cvR with h | h
    · exact h4 (e.trans h)
    · have := h _ e.symm; omega
theorem cell_moved {tv' cv' : Value} {w' : World} {b k : Nat} {v : Value} (h : w.cell? ⟨b, k, none⟩ = some v) (hp : b ≠ p) (ht : some b ≠ tv.ownBlock) (hc : some b ≠ cv.ownBlock) (hm : Moved p tv cv w tv' cv' w') : w'.cell? ⟨b, k, none⟩ = some v :=
  (World.cell?_of_block (w := w) (a := ⟨b, k, none⟩) (hm.block b (World.block_lt_of_cell? _ _ h) hp ht hc)).trans h

/-- What the loop of an edit asks. -/
theorem asks_resume (old : List Lx.Tok) {l : Lx.Bs} (hch : Lx.Chain l 0 old) (n : Nat) (hn : old.length = n) (hn2 : n ≤ 20000) (oa : Option Addr) (cap : Nat) (hcap : n ≤ cap) (htok : TokV w oa (old.map rt)) (haw : Away p tv cv w oa)
    (pe c : Nat) (S : ByteArray) (hs : text.size ≤ 100000) (hpe : pe ≤ 100000) (hc : c ≤ 100000) (hS : S.size ≤ 100000) (hl : l.length ≤ 100000) (bs bo be : Nat)
    (cs : w.cell? ⟨bs, 0, none⟩ = some (.pointer (some ⟨p, 0, none⟩))) (co : w.cell? ⟨bo, 0, none⟩ = some (.slice oa n cap))
    (c0 : w.cell? ⟨be, 0, none⟩ = some (.int .i64 pe)) (c1 : w.cell? ⟨be, 1, none⟩ = some (.int .i64 c)) (c2 : w.cell? ⟨be, 2, none⟩ = some (.string S))
    (hbs : bs ≠ p ∧ some bs ≠ tv.ownBlock ∧ some bs ≠ cv.ownBlock) (hbo : bo ≠ p ∧ some bo ≠ tv.ownBlock ∧ some bo ≠ cv.ownBlock) (hbe : be ≠ p ∧ some be ≠ tv.ownBlock ∧ some be ≠ cv.ownBlock) :
    Asks B p sg fm sm text (dRes text.size old pe c S.size) 82 #[.pointer (some ⟨bs, 0, none⟩), .pointer (some ⟨bo, 0, none⟩), .pointer (some ⟨be, 0, none⟩)] tv cv w := by
  refine ⟨fun _ _ => by go_simp, fun st tv' cv' W hsc hm hgd hlt => ?_⟩
  have d := cell_moved cs hbs.1 hbs.2.1 hbs.2.2 hm
  have d' := cell_moved co hbo.1 hbo.2.1 hbo.2.2 hm
  have d0 := cell_moved c0 hbe.1 hbe.2.1 hbe.2.2 hm
  have d1 := cell_moved c1 hbe.1 hbe.2.1 hbe.2.2 hm
  have d2 := cell_moved c2 hbe.1 hbe.2.1 hbe.2.2 hm
  have hg1 := hgd.1
  have hg2 := hgd.2.1
  rw [bts_length] at hg1
  have hr := fun W' (h1 : W.grownBy W' none) => resume_any (sc_grown hsc (Moved.refl p tv' cv' W) h1).1 old hch n hn hn2 oa cap hcap (htok.moved haw (hm.trans (sc_grown hsc (Moved.refl p tv' cv' W) h1).2)) ((haw.moved hm).moved (sc_grown hsc (Moved.refl p tv' cv' W) h1).2) pe c S hg1 hs hpe hc hS hl (by omega)
  have HR := Lib.hid hr
  have HSC := Lib.hid hsc
  generalize dRes text.size old pe c S.size st = res at *
  clear hr hsc cs co c0 c1 c2 htok haw hm hgd
  go_enter Tryz.func82, Tryz.ntmps82
  go_wp2_with fail
  refine (HR.out W (grownZ _ _)).mono ?_
  rintro e w2 ⟨rfl, tv2, cv2, hsc2, hm2⟩
  have H2 := Lib.hid (And.intro hsc2 hm2)
  clear hsc2 hm2
  go_wp2_with fail
  go_ret
  exact ⟨rfl, tv2, cv2, H2.out.1, H2.out.2⟩
/-- Tokens put in the place of none. -/
theorem Sc.retoks (h : Sc B p sg fm sm text ⟨0, [], []⟩ (.slice none 0 0) (.slice none 0 0) w) {w1 : World} (hb : Below w.heap.size w w1) {v : Value} {ts : List Lx.Tok} (hown : w1.ownsRow w.heap.size 35 5 v ts.length (tokCs ts)) (fin : Nat) :
    Sc B p sg fm sm text ⟨fin, ts, []⟩ v (.slice none 0 0) ((w1.setCell ⟨p, 2, none⟩ v).setCell ⟨p, 1, none⟩ (.int .i64 fin)) ∧ ∀ i, i < w.heap.size → i ≠ p → ((w1.setCell ⟨p, 2, none⟩ v).setCell ⟨p, 1, none⟩ (.int .i64 fin)).heap[i]? = w.heap[i]? := by
  have hn := h.ne
  have hpw := h.pw
  have hBW := h.BW
  have hself := (hb.block p hpw).trans h.self
  have s1 := setCell_at w1 ⟨p, 2, none⟩ v _ _ hself rfl
  have s2 := setCell_at (w1.setCell ⟨p, 2, none⟩ v) ⟨p, 1, none⟩ (.int .i64 fin) _ _ s1 rfl
  have far : ∀ b, b ≠ p → ((w1.setCell ⟨p, 2, none⟩ v).setCell ⟨p, 1, none⟩ (.int .i64 fin)).heap[b]? = w1.heap[b]? := fun b hb => (Below.heap_setCell _ _ _ _ hb).trans (Below.heap_setCell _ _ _ _ hb)
  have hs : ((w1.setCell ⟨p, 2, none⟩ v).setCell ⟨p, 1, none⟩ (.int .i64 fin)).heap.size = w1.heap.size := by simp [World.setCell]
  have old : ∀ i, i < w.heap.size → i ≠ p → ((w1.setCell ⟨p, 2, none⟩ v).setCell ⟨p, 1, none⟩ (.int .i64 fin)).heap[i]? = w.heap[i]? := fun i hi hp => (far i hp).trans (hb.block i hi)
  have hsz := hb.size
  refine ⟨⟨s2, ?_, ?_, ?_, ?_, World.ownsRow_nil _ _ _ _, h.pB, h.sgB, h.fmB, h.smB, by rw [hs]; omega, hn, ?_⟩, old⟩
  · rw [old sg (by have := h.sgB; omega) (Ne.symm hn.1)]; exact h.signs
  · exact h.fixed.of_block (old fm (by have := h.fmB; omega) (Ne.symm hn.2.1))
  · rw [old sm (by have := h.smB; omega) (Ne.symm hn.2.2)]; exact h.steps
  · exact owns_mono (owns_of_block hown fun g hg => far g (by have := (owns_ge hown g hg).1; omega)) (by omega)
  · cases hv : v.ownBlock with
    | none => exact .inl rfl
    | some k => exact .inr (by simp [Value.ownBlock])
end

theorem fins_changed {B p sg fm sm : Nat} {ch : ByteArray} {a : Lx.Bs} {old : List Lx.Tok} {pe c : Nat} {S : Lx.Bs} {tv : Value} {w w1 w2 : World} {e : Ending} (hT : Lx.T a 0 = .good old) (hpc : pe + c ≤ a.length) (hch : bts ch = edited a pe c S)
    (hb : Below w.heap.size w w1) (hp : w.heap.size ≤ p) (hB : w.heap.size ≤ B) (htv : ∀ k, tv.ownBlock = some k → w.heap.size ≤ k)
    (h : Fins B p sg fm sm ch (stKept old pe) (dRes ch.size old pe c S.length) tv (.slice none 0 0) w1 e w2) : TokR ch w e w2 := by
  rcases h with ⟨h1, rfl, rfl⟩ | ⟨h1, r, hr, st', tv', cv', hsc, hmv, hc⟩
  · exact ⟨hb, .inl ⟨h1, rfl⟩⟩
  · refine ⟨hb.trans ⟨hmv.os, hmv.tape, hmv.output, hmv.size, fun k hk => hmv.block k (Nat.lt_of_lt_of_le hk hb.size) (by omega) (fun e => by have := htv k e.symm; omega) (by simp [Value.ownBlock])⟩, .inr ⟨h1, ?_⟩⟩
    rw [hch] at hr ⊢
    have hcm := changed_comes hT pe c S hpc ch.size hr
    rcases hc with ⟨x, rfl, rfl⟩ | ⟨rfl, hn, rfl⟩ | ⟨rfl, hn, rfl⟩
    · rw [show Lx.T (edited a pe c S) 0 = .bad x from hcm]
    · obtain ⟨new, hx, hy⟩ := hcm
      rw [hx]
      have hy : st'.ts = new := hy
      rw [hy] at hn
      show (if 20000 < new.length then _ else _)
      rw [if_pos hn]
    · obtain ⟨new, hx, hy⟩ := hcm
      rw [hx]
      have hy : st'.ts = new := hy
      rw [hy] at hn
      show (if 20000 < new.length then _ else _)
      rw [if_neg (by omega)]
      have ho := hsc.toks
      rw [hy] at ho
      exact ⟨tv', rfl, owns_mono ho hB⟩

set_option maxRecDepth 100000 in
set_option maxHeartbeats 2000000 in
theorem recut_any (a : Lx.Bs) (old : List Lx.Tok) (hT : Lx.T a 0 = .good old) (n : Nat) (hn : old.length = n) (hn2 : n ≤ 20000) (oa : Option Addr) (cap : Nat) (hcap : n ≤ cap) (ch : ByteArray) (pe c : Nat) (S : ByteArray) (hpc : pe + c ≤ a.length)
    (hch : bts ch = edited a pe c (bts S)) (haS : a.length + S.size ≤ 100000) (w : World) (htok : TokV w oa (old.map rt)) (haw : ∀ x, oa = some x → x.block < w.heap.size) :
    Calls Tryz.prog 52 #[.string ch, .slice oa n cap, .agg #[.int .i64 pe, .int .i64 c, .string S]] w (TokR ch w) := by
  have hc := Lx.chain _ _ _ hT
  have ha : a.length ≤ 100000 := by omega
  have hS : S.size ≤ 100000 := by omega
  have H := Lib.hid (And.intro hT (And.intro hn (And.intro htok (And.intro haw (And.intro hch hc)))))
  clear hT hn htok haw hch hc
  go_enter Tryz.func52, Tryz.ntmps52
  go_wp2_with fail
  have hW1b : (((w.alloc (.cells #[.slice oa n cap] 22)).alloc (.cells #[.int .i64 pe, .int .i64 c, .string S] 38))).heap[w.heap.size]? = some (.cells #[.slice oa n cap] 22) := by rw [alloc_miss _ _ _ (by simp), alloc_hit _ _ _ rfl]
  have hW1c : (((w.alloc (.cells #[.slice oa n cap] 22)).alloc (.cells #[.int .i64 pe, .int .i64 c, .string S] 38))).heap[w.heap.size + 1]? = some (.cells #[.int .i64 pe, .int .i64 c, .string S] 38) := by rw [alloc_hit _ _ _ (by simp)]
  have hW1z : (((w.alloc (.cells #[.slice oa n cap] 22)).alloc (.cells #[.int .i64 pe, .int .i64 c, .string S] 38))).heap.size = w.heap.size + 2 := by simp
  have hW1d : Below w.heap.size w ((w.alloc (.cells #[.slice oa n cap] 22)).alloc (.cells #[.int .i64 pe, .int .i64 c, .string S] 38)) := ((Below.refl _ _).alloc (Nat.le_refl _) _).alloc (by simp) _
  generalize ((w.alloc (.cells #[.slice oa n cap] 22)).alloc (.cells #[.int .i64 pe, .int .i64 c, .string S] 38)) = W1 at *
  refine (new_any ch W1).mono ?_
  rintro e w2 ⟨rfl, hnew⟩
  have hsc2 := new_sc hnew
  have hb2 := hnew.below
  have H2 := Lib.hid (And.intro hsc2 (And.intro (below_le hW1d hb2 (by omega)) (And.intro ((hb2.block w.heap.size (by omega)).trans hW1b) (And.intro ((hb2.block (w.heap.size + 1) (by omega)).trans hW1c) (And.intro hW1z hnew.size)))))
  clear hW1b hW1c hW1d hsc2 hb2 hnew
  generalize hp : W1.heap.size + 3 = p at *
  have o2 : ∀ o, (w2.alloc o).cell? ⟨w.heap.size, 0, none⟩ = some (.slice oa n cap) := fun o => by
    rw [World.cell?_of_block (w := w2) (a := ⟨w.heap.size, 0, none⟩) (heap_alloc_old w2 o (by have := H2.out.2.2.2.2.1; have := H2.out.2.2.2.2.2; show w.heap.size < _; omega)), (cells_of H2.out.2.2.1 0).1]; rfl
  go_wp2_with fail
  have hz := H2.out.2.2.2.2.1
  have hz2 := H2.out.2.2.2.2.2
  have hSC3 := H2.out.1.allocD (w1 := w2.alloc (.cells #[.pointer (some ⟨p, 0, none⟩)] 57)) _ rfl rfl rfl rfl
  have hb3 : Below w.heap.size w (w2.alloc (.cells #[.pointer (some ⟨p, 0, none⟩)] 57)) := H2.out.2.1.alloc H2.out.2.1.size _
  have hs3 : (w2.alloc (.cells #[.pointer (some ⟨p, 0, none⟩)] 57)).heap[w2.heap.size]? = some (.cells #[.pointer (some ⟨p, 0, none⟩)] 57) := heap_alloc_new w2 _
  have ho3 := o2 (.cells #[.pointer (some ⟨p, 0, none⟩)] 57)
  have he3 : (w2.alloc (.cells #[.pointer (some ⟨p, 0, none⟩)] 57)).heap[w.heap.size + 1]? = some (.cells #[.int .i64 pe, .int .i64 c, .string S] 38) := (heap_alloc_old w2 _ (by omega)).trans H2.out.2.2.2.1
  have hz3 : (w2.alloc (.cells #[.pointer (some ⟨p, 0, none⟩)] 57)).heap.size = w2.heap.size + 1 := by simp
  generalize (w2.alloc (.cells #[.pointer (some ⟨p, 0, none⟩)] 57)) = W3 at *
  have htk3 : TokV W3 oa (old.map rt) := H.out.2.2.1.below hb3
  have hse := search_ends old H.out.2.2.2.2.2 (by have := H.out.2.1; omega) oa cap w.heap.size (w.heap.size + 1) pe W3 htk3 (by rw [H.out.2.1]; exact ho3) (by rw [(cells_of he3 0).1]; rfl)
  rw [H.out.2.1] at hse
  refine hse.mono ?_
  rintro e W4 ⟨rfl, hg4⟩
  have hSC4 := sc_grown hSC3.1 (Moved.refl p (.slice none 0 0) (.slice none 0 0) W3) hg4
  have hb4 := below_grown hb3 hg4
  have hs4 := (hg4.block w2.heap.size (by omega) (by simp)).trans hs3
  have he4 := (hg4.block (w.heap.size + 1) (by omega) (by simp)).trans he3
  have ho4 : W4.cell? ⟨w.heap.size, 0, none⟩ = some (.slice oa n cap) := (World.cell?_of_block (w := W3) (a := ⟨w.heap.size, 0, none⟩) (hg4.block w.heap.size (by omega) (by simp))).trans ho3
  have hz4 := hg4.size
  have hkf := kept_facts H.out.1 pe c (bts S) hpc
  have hkn : keptN old pe ≤ n := by have := hkf.1; have := H.out.2.1; omega
  have hst : stKept old pe = ⟨Lx.endOf 0 (old.take (keptN old pe)), old.take (keptN old pe), []⟩ := rfl
  obtain ⟨K, hK⟩ : ∃ K, keptN old pe = K := ⟨_, rfl⟩
  rw [hK] at hkn hst ⊢
  have H4 := Lib.hid (And.intro hSC4.1 (And.intro hb4 (And.intro hs4 (And.intro he4 (And.intro ho4 (And.intro hkf hst))))))
  have HZ := Lib.hid (And.intro hz (And.intro hz2 (And.intro hz3 hz4)))
  have c0 : W4.cell? ⟨w2.heap.size, 0, none⟩ = some (.pointer (some ⟨p, 0, none⟩)) := by rw [(cells_of hs4 0).1]; rfl
  have HK := Lib.hid hK
  clear hz hz2 hz3 hz4 hSC3 hb3 hs3 ho3 he3 htk3 hse hSC4 hb4 hs4 he4 hkf hst o2 hK hg4
  have hed : (edited a pe c (bts S)).length = a.length + S.size - c := by rw [edited_len a pe c (bts S) hpc, bts_length]
  have hchs : ch.size = a.length + S.size - c := by rw [← hed, ← H.out.2.2.2.2.1, bts_length]
  have hbig : ¬ 100000 < ch.size := by omega
  by_cases h0 : K = 0
  · subst h0
    have hasks := asks_resume (w := W4) (text := ch) (B := W1.heap.size + 5) (p := p) (sg := W1.heap.size) (fm := W1.heap.size + 1) (sm := W1.heap.size + 2) (tv := .slice none 0 0) (cv := .slice none 0 0) old H.out.2.2.2.2.2 n H.out.2.1 hn2 oa cap hcap (H.out.2.2.1.below H4.out.2.1)
      (fun x hx => ⟨Nat.lt_of_lt_of_le (H.out.2.2.2.1 x hx) H4.out.2.1.size, by have := H.out.2.2.2.1 x hx; have := HZ.out.1; omega, by simp [Value.ownBlock], by simp [Value.ownBlock]⟩) pe c S (by omega) (by omega) (by omega) hS ha w2.heap.size w.heap.size (w.heap.size + 1) c0 H4.out.2.2.2.2.1
      (by rw [(cells_of H4.out.2.2.2.1 0).1]; rfl) (by rw [(cells_of H4.out.2.2.2.1 1).1]; rfl) (by rw [(cells_of H4.out.2.2.2.1 2).1]; rfl)
      ⟨by have := HZ.out.2.1; omega, by simp [Value.ownBlock], by simp [Value.ownBlock]⟩ ⟨by have := HZ.out.1; omega, by simp [Value.ownBlock], by simp [Value.ownBlock]⟩ ⟨by have := HZ.out.1; omega, by simp [Value.ownBlock], by simp [Value.ownBlock]⟩
    have hfin := finish_any H4.out.1 ⟨Nat.zero_le _, Nat.le_refl _, Nat.le_refl _⟩ (dRes ch.size old pe c S.size) (fun st h => dRes_same _ _ _ _ _ st h) 82 _ hasks
    have HF := Lib.hid hfin
    clear hasks hfin
    go_wp2_with fail
    refine HF.out.mono ?_
    intro e w5 hfs
    have hft : TokR ch w e w5 := fins_changed (S := bts S) (B := W1.heap.size + 5) (p := p) (sg := W1.heap.size) (fm := W1.heap.size + 1) (sm := W1.heap.size + 2) (tv := .slice none 0 0) H.out.1 hpc H.out.2.2.2.2.1 H4.out.2.1 (by have := HZ.out.1; omega) (by have := HZ.out.1; omega) (by simp [Value.ownBlock]) (by rw [bts_length, H4.out.2.2.2.2.2.2]; exact hfs)
    obtain ⟨v, x, er, rfl⟩ := tokR_three hft
    have HFT := Lib.hid hft
    clear hfs hft
    unfold three
    go_wp2_with fail
    go_ret3
    exact HFT.out
  · have h01 : (0 : Int) < (K : Int) := by omega
    have hKi : (K : Int) ≤ (n : Int) := by omega
    have o4 := H4.out.2.2.2.2.1
    have hKc : (K : Int) ≤ (cap : Int) := by omega
    have hKc2 : K ≤ cap := by omega
    have hK0 : (0 : Int) ≤ (K : Int) := by omega
    go_wp2_with fail
    have hcl := clone_any old K (by have := H.out.2.1; omega) (by omega) (by have := H.out.2.1; omega) oa cap W4.drew ((H.out.2.2.1.below H4.out.2.1).kept (grownD (grownZ _ _)))
    have HCL := Lib.hid hcl
    clear hcl
    refine wp_region_held_drew (S := fun W => W.cell? ⟨w2.heap.size, 0, none⟩ = some (.pointer (some ⟨p, 0, none⟩)) ∧ W.cell? ⟨w.heap.size, 0, none⟩ = some (.slice oa n cap)) (by kernel_rfl) ?_ (fun hHeld => ?_)
    · exact ⟨c0, o4⟩
    refine wpAnyH_take (i := 0) (v := ?_) rfl (by kernel_rfl) (by kernel_rfl) (by kernel_rfl) (fun _ _ _ h => h) (Or.inl ⟨rfl, ?_⟩) (by assumption) ?_
    rotate_left
    · (intro w hSw; (try dsimp only at hSw); go_simp; try with_reducible rfl)
    simp only [Act.put, List.setIfInBounds_toArray, List.set_cons_zero, List.set_cons_succ, List.getElem_toArray, List.getElem_cons_zero]
    refine wpAnyH_take (i := 1) (v := ?_) rfl (by kernel_rfl) (by kernel_rfl) (by kernel_rfl) (fun _ _ _ h => h) (Or.inl ⟨rfl, ?_⟩) (by assumption) ?_
    rotate_left
    · (intro w hSw; (try dsimp only at hSw); go_simp; try with_reducible rfl)
    simp only [Act.put, List.setIfInBounds_toArray, List.set_cons_zero, List.set_cons_succ, List.getElem_toArray, List.getElem_cons_zero, List.getElem_cons_succ]
    refine wpAnyH_take (i := 2) (v := ?_) rfl (by kernel_rfl) (by kernel_rfl) (by kernel_rfl) (fun _ _ _ h => h) (Or.inl ⟨rfl, ?_⟩) (by assumption) ?_
    rotate_left
    · (intro w hSw; (try dsimp only at hSw); go_simp; try with_reducible rfl)
    simp only [Act.put, List.setIfInBounds_toArray, List.set_cons_zero, List.set_cons_succ, List.getElem_toArray, List.getElem_cons_zero, List.getElem_cons_succ]
    refine wpAnyH_take (i := 3) (v := ?_) rfl (by kernel_rfl) (by kernel_rfl) (by kernel_rfl) (fun _ _ _ h => h) (Or.inl ⟨rfl, ?_⟩) (by assumption) ?_
    rotate_left
    · (intro w hSw; (try dsimp only at hSw); go_simp; try with_reducible rfl)
    simp only [Act.put, List.setIfInBounds_toArray, List.set_cons_zero, List.set_cons_succ, List.getElem_toArray, List.getElem_cons_zero, List.getElem_cons_succ]
    refine wpAnyH_ready (rs := [4]) (by kernel_rfl) (by simp) ?_
    refine AllReadyH.cons rfl (fun K hK => ?_) AllReadyH.nil
    go_simp
    go_at_call 81
    refine HCL.out.mono ?_
    rintro e w5 ⟨v, rfl, hown5, hb5d⟩
    have hb5 : Below W4.heap.size W4 w5 := ⟨hb5d.os, hb5d.tape, hb5d.output, hb5d.size, hb5d.block⟩
    clear hb5d
    obtain ⟨va, vc, rfl, hvc⟩ := owns_form hown5
    have q0 : w5.cell? ⟨w2.heap.size, 0, none⟩ = some (.pointer (some ⟨p, 0, none⟩)) := (World.cell?_of_block (w := W4) (a := ⟨w2.heap.size, 0, none⟩) (hb5.block w2.heap.size (by have := HZ.out.2.2; show _ < W4.heap.size; omega))).trans c0
    have q1 : w5.cell? ⟨w.heap.size, 0, none⟩ = some (.slice oa n cap) := (World.cell?_of_block (w := W4) (a := ⟨w.heap.size, 0, none⟩) (hb5.block w.heap.size (by have := HZ.out.2.2; have := HZ.out.1; have := HZ.out.2.1; show _ < W4.heap.size; omega))).trans o4
    have hsf5 : w5.heap[p]? = some (.cells (scn ch 0 (.slice none 0 0) (.slice none 0 0) W1.heap.size (W1.heap.size + 1) (W1.heap.size + 2)) 79) := (hb5.block p (by have := H4.out.1.pw; show _ < W4.heap.size; omega)).trans H4.out.1.self
    have g2 : w5.cell? ⟨p, 2, none⟩ = some (.slice none 0 0) := by rw [(cells_of hsf5 2).1]; rfl
    have f2 : w5.frozen? ⟨p, 2, none⟩ = false := (cells_of hsf5 2).2
    go_wp2_with fail
    refine hK.out _ _ ?_ (fun hHeld => ?_)
    · exact ⟨q0, q1⟩
    clear hK K
    try simp only [Act.put, List.setIfInBounds_toArray, List.set_cons_zero, List.set_cons_succ, List.getElem_toArray, List.getElem_cons_zero, List.getElem_cons_succ]
    refine wpAnyH_take (i := 5) (v := ?_) rfl (by kernel_rfl) (by kernel_rfl) (by kernel_rfl) (fun _ _ _ h => h) (Or.inl ⟨rfl, ?_⟩) (by assumption) ?_
    rotate_left
    · (intro w hSw; (try dsimp only at hSw); go_simp; try with_reducible rfl)
    simp only [Act.put, List.setIfInBounds_toArray, List.set_cons_zero, List.set_cons_succ, List.getElem_toArray, List.getElem_cons_zero, List.getElem_cons_succ]
    refine wpAnyH_take (i := 6) (v := ?_) rfl (by kernel_rfl) (by kernel_rfl) (by kernel_rfl) (fun _ _ _ h => h) (Or.inl ⟨rfl, ?_⟩) (by assumption) ?_
    rotate_left
    · (intro w hSw; (try dsimp only at hSw); go_simp; try with_reducible rfl)
    simp only [Act.put, List.setIfInBounds_toArray, List.set_cons_zero, List.set_cons_succ, List.getElem_toArray, List.getElem_cons_zero, List.getElem_cons_succ]
    refine wpAnyH_ready (rs := [7]) (by kernel_rfl) (by simp) ?_
    refine AllReadyH.cons rfl (fun K hK => ?_) AllReadyH.nil
    go_simp
    refine hK.out _ _ ?_ (fun hHeld => ?_)
    · exact ⟨(World.cell?_of_block (w := w5) (a := ⟨w2.heap.size, 0, none⟩) (Below.heap_setCell _ _ _ _ (by have := HZ.out.2.1; show w2.heap.size ≠ p; omega))).trans q0, (World.cell?_of_block (w := w5) (a := ⟨w.heap.size, 0, none⟩) (Below.heap_setCell _ _ _ _ (by have := HZ.out.1; show w.heap.size ≠ p; omega))).trans q1⟩
    clear hK K
    try simp only [Act.put, List.setIfInBounds_toArray, List.set_cons_zero, List.set_cons_succ, List.getElem_toArray, List.getElem_cons_zero, List.getElem_cons_succ]
    refine wpAnyH_done (by kernel_rfl) ?_ _
    obtain ⟨g, off, hoa, hgl, hce⟩ := (H.out.2.2.1.below H4.out.2.1) (by rw [List.length_map]; have := H.out.2.1; omega)
    subst hoa
    obtain ⟨K1, hK1⟩ : ∃ K1, K = K1 + 1 := ⟨K - 1, by omega⟩
    have hK2 : (K : Int) - 1 = (K1 : Int) := by omega
    have HK1 := Lib.hid hK1
    have hwK : IntKind.i64.wrap (K1 : Int) = (K1 : Int) := IntWalk.i64_in _ (by omega)
    have hKl : K1 < old.length := by have := H.out.2.1; omega
    have hfin4 := hce K1 (by rw [List.length_map]; exact hKl) 4 (by omega)
    rw [List.getElem_map, ← Nat.add_assoc] at hfin4
    have hend : (old[K1]).fin = Lx.endOf 0 (old.take K) := by rw [hK1]; exact (Lx.endOf_take 0 old K1 hKl).symm
    have hgb := H.out.2.2.2.1 _ rfl
    have HEND := Lib.hid hend
    have hf4 : W4.cell? ⟨g, off + K1 * 5 + 4, none⟩ = some (.int .i64 (old[K1]).fin) := hfin4
    rw [hend] at hf4
    have hret := H4.out.1.retoks (w1 := w5) (by exact hb5) (v := .slice va K vc) (ts := old.take K) (by rw [List.length_take, Nat.min_eq_left (by have := H.out.2.1; omega)]; exact hown5) (Lx.endOf 0 (old.take K))
    have hK1i : (K1 : Int) < (n : Int) := by omega
    have hfar : ∀ b : Nat, b < W4.heap.size → b ≠ p → (w5.setCell ⟨p, 2, none⟩ (.slice va K vc)).heap[b]? = W4.heap[b]? := fun b hb hp => (Below.heap_setCell _ _ _ _ hp).trans (hb5.block b (by exact hb))
    have hself6 := setCell_at w5 ⟨p, 2, none⟩ (.slice va K vc) _ _ hsf5 rfl
    have hsz5 := hb5.size
    have hz6 : (w5.setCell ⟨p, 2, none⟩ (.slice va K vc)).heap.size = w5.heap.size := by simp [World.setCell]
    have hb6 : Below w.heap.size w (w5.setCell ⟨p, 2, none⟩ (.slice va K vc)) := ⟨hb5.os.trans H4.out.2.1.os, hb5.tape.trans H4.out.2.1.tape, hb5.output.trans H4.out.2.1.output, by rw [hz6]; exact Nat.le_trans H4.out.2.1.size hsz5, fun i hi => (hfar i (Nat.lt_of_lt_of_le hi H4.out.2.1.size) (by have := HZ.out.1; omega)).trans (H4.out.2.1.block i hi)⟩
    have HR := Lib.hid (And.intro hret.1 (And.intro hret.2 hb6))
    have hv6 : (Value.slice va K vc).ownBlock = none ∨ ∃ k, (Value.slice va K vc).ownBlock = some k ∧ W4.heap.size ≤ k := by
      cases hvo : (Value.slice va K vc).ownBlock with
      | none => exact .inl rfl
      | some k => exact .inr ⟨k, rfl, (owns_ge hown5 k hvo).1⟩
    have HV6 := Lib.hid hv6
    generalize hW6 : (w5.setCell ⟨p, 2, none⟩ (.slice va K vc)) = W6 at *
    have e0 : W6.cell? ⟨w2.heap.size, 0, none⟩ = some (.pointer (some ⟨p, 0, none⟩)) := (World.cell?_of_block (w := W4) (a := ⟨w2.heap.size, 0, none⟩) (hfar w2.heap.size (by have := HZ.out.2.2; omega) (by have := HZ.out.2.1; omega))).trans c0
    have e1 : W6.cell? ⟨w.heap.size, 0, none⟩ = some (.slice (some ⟨g, off, none⟩) n cap) := (World.cell?_of_block (w := W4) (a := ⟨w.heap.size, 0, none⟩) (hfar w.heap.size (by have := HZ.out.2.2; have := HZ.out.2.1; have := HZ.out.1; omega) (by have := HZ.out.1; omega))).trans o4
    have e2 : W6.cell? ⟨g, off + K1 * 5 + 4, none⟩ = some (.int .i64 (Lx.endOf 0 (old.take K))) := (World.cell?_of_block (w := W4) (a := ⟨g, off + K1 * 5 + 4, none⟩) (hfar g hgl (by have := HZ.out.1; simp only at hgb; omega))).trans hf4
    have e3 : W6.cell? ⟨p, 1, none⟩ = some (.int .i64 0) := by rw [(cells_of hself6 1).1]; rfl
    have e4 : W6.frozen? ⟨p, 1, none⟩ = false := (cells_of hself6 1).2
    clear hK1 hret hfar hself6 hsz5 hz6 hb6 hv6 hsf5 g2 f2 q0 q1 hown5 hb5 hce hfin4 hf4 hend c0 o4
    generalize Lx.endOf 0 (old.take K) = E at *
    go_wp2_with fail
    go_still_tail 9, (by kernel_rfl)
    change wpList _ _ _ _ _ W6.drew
    have e3d : W6.drew.cell? ⟨p, 1, none⟩ = some (.int .i64 0) := e3
    have e4d : W6.drew.frozen? ⟨p, 1, none⟩ = false := e4
    go_wp2_with fail
    have hS7 := HR.out.1.drew
    have hold7 : ∀ i : Nat, i < W4.heap.size → i ≠ p → (W6.setCell ⟨p, 1, none⟩ (.int .i64 E)).drew.heap[i]? = W4.heap[i]? := HR.out.2.1
    have hz7 : (W6.setCell ⟨p, 1, none⟩ (.int .i64 E)).drew.heap.size = W6.heap.size := by show (W6.setCell ⟨p, 1, none⟩ (.int .i64 E)).heap.size = _; simp [World.setCell]
    have hb7 : Below w.heap.size w (W6.setCell ⟨p, 1, none⟩ (.int .i64 E)).drew := ⟨HR.out.2.2.os, HR.out.2.2.tape, HR.out.2.2.output, by rw [hz7]; exact HR.out.2.2.size, fun i hi => (hold7 i (Nat.lt_of_lt_of_le hi H4.out.2.1.size) (by have := HZ.out.1; omega)).trans (H4.out.2.1.block i hi)⟩
    have hz0 := HZ.out.1
    have hz20 := HZ.out.2.1
    have hz30 := HZ.out.2.2
    have hc7 : ∀ (b k : Nat) v, W4.cell? ⟨b, k, none⟩ = some v → b ≠ p → (W6.setCell ⟨p, 1, none⟩ (.int .i64 E)).drew.cell? ⟨b, k, none⟩ = some v := fun b k v h hp => (World.cell?_of_block (w := W4) (a := ⟨b, k, none⟩) (hold7 b (World.block_lt_of_cell? _ _ h) hp)).trans h
    have hnv : ∀ b, b < W4.heap.size → some b ≠ (Value.slice va K vc).ownBlock := fun b hb e => by
      rcases HV6.out with h | ⟨k, h, hk⟩
      · rw [h] at e; cases e
      · rw [h] at e; cases e; omega
    have b0 : W4.cell? ⟨w2.heap.size, 0, none⟩ = some (.pointer (some ⟨p, 0, none⟩)) := by rw [(cells_of H4.out.2.2.1 0).1]; rfl
    have hasks := asks_resume (w := (W6.setCell ⟨p, 1, none⟩ (.int .i64 E)).drew) (text := ch) (B := W1.heap.size + 5) (p := p) (sg := W1.heap.size) (fm := W1.heap.size + 1) (sm := W1.heap.size + 2) (tv := .slice va K vc) (cv := .slice none 0 0) old H.out.2.2.2.2.2 n H.out.2.1 hn2 (some ⟨g, off, none⟩) cap hcap (H.out.2.2.1.below hb7)
      (fun x hx => by
        have hgx := H.out.2.2.2.1 x hx
        exact ⟨Nat.lt_of_lt_of_le hgx hb7.size, by omega, hnv _ (Nat.lt_of_lt_of_le hgx H4.out.2.1.size), by simp [Value.ownBlock]⟩) pe c S (by omega) (by omega) (by omega) hS ha w2.heap.size w.heap.size (w.heap.size + 1) (hc7 _ _ _ b0 (by omega)) (hc7 _ _ _ H4.out.2.2.2.2.1 (by omega))
      (hc7 _ _ _ (by rw [(cells_of H4.out.2.2.2.1 0).1]; rfl) (by omega)) (hc7 _ _ _ (by rw [(cells_of H4.out.2.2.2.1 1).1]; rfl) (by omega)) (hc7 _ _ _ (by rw [(cells_of H4.out.2.2.2.1 2).1]; rfl) (by omega))
      ⟨by omega, hnv _ (by omega), by simp [Value.ownBlock]⟩ ⟨by omega, hnv _ (by omega), by simp [Value.ownBlock]⟩ ⟨by omega, hnv _ (by omega), by simp [Value.ownBlock]⟩
    have hgood : Good (bts ch) ⟨E, old.take K, []⟩ := by rw [← H4.out.2.2.2.2.2.2, H.out.2.2.2.2.1]; exact H4.out.2.2.2.2.2.1.2.1
    have hfin := finish_any hS7 hgood (dRes ch.size old pe c S.size) (fun st h => dRes_same _ _ _ _ _ st h) 82 _ hasks
    refine hfin.mono ?_
    intro e w9 hfs
    have hft : TokR ch w e w9 := fins_changed (S := bts S) (B := W1.heap.size + 5) (p := p) (sg := W1.heap.size) (fm := W1.heap.size + 1) (sm := W1.heap.size + 2) (tv := .slice va K vc) H.out.1 hpc H.out.2.2.2.2.1 hb7 (by omega) (by omega)
      (fun k hk => by
        rcases HV6.out with h | ⟨k', h, hk'⟩
        · rw [h] at hk; cases hk
        · rw [h] at hk; cases hk; omega) (by rw [bts_length, H4.out.2.2.2.2.2.2]; exact hfs)
    obtain ⟨v, x, er, rfl⟩ := tokR_three hft
    have HFT := Lib.hid hft
    clear hfs hft hfin hasks hgood hc7 hnv hold7 hS7 hb7
    unfold three
    go_wp2_with fail
    go_ret3
    exact HFT.out
end Go.Proofs.YtcjdacdggklifaaGreatDoor

/- Edits: Change. -/
namespace Go.Proofs.YtcjdacdggklifaaGreatDoor
open Go.RowKit

def four (s : ByteArray) (v : Value) (a e : Int) : Ending := .returned (.tuple #[.string s, v, .int .i64 a, .int .i64 e])
/-- The text, its tokens and the edit fit together. -/
def ChOk (text : ByteArray) (rs : List RT) (pe c : Int) : Prop := ∃ known pn cn, Lx.T (bts text) 0 = .good known ∧ known.length ≤ 20000 ∧ rs = known.map rt ∧ pe = ((pn : Nat) : Int) ∧ c = ((cn : Nat) : Int) ∧ pn + cn ≤ text.size
/-- The text that an edit makes. -/
def chT (text : ByteArray) (pe c : Int) (S : ByteArray) : ByteArray := ofB (edited (bts text) pe.toNat c.toNat (bts S))
/-- What Change hands back. -/
def ChR (text : ByteArray) (rs : List RT) (pe c : Int) (S : ByteArray) (w : World) (e : Ending) (w' : World) : Prop :=
  Below w.heap.size w w' ∧ ((¬ ChOk text rs pe c ∧ e = four ⟨#[]⟩ (.slice none 0 0) 0 1) ∨ (ChOk text rs pe c ∧ ∃ v a er, e = four (chT text pe c S) v a er ∧ TokR (chT text pe c S) w (three v a er) w'))
theorem chT_is {text S ch : ByteArray} {pn cn : Nat} (h : bts ch = edited (bts text) pn cn (bts S)) : chT text pn cn S = ch := by
  unfold chT; rw [Int.toNat_natCast, Int.toNat_natCast, ← h, ofB_bts]

theorem belowN3 {B : Nat} {w W : World} (n : Nat) (h : Below B w W) : Below B w (W.drewN n) := ⟨h.os, h.tape, h.output, h.size, h.block⟩
theorem tokR_le {text : ByteArray} {w w1 w2 : World} {e : Ending} (h : TokR text w1 e w2) (hb : Below w.heap.size w w1) : TokR text w e w2 := by
  refine ⟨below_le hb h.1 hb.size, ?_⟩
  rcases h.2 with h2 | ⟨h1, h2⟩
  · exact .inl h2
  · refine .inr ⟨h1, ?_⟩
    cases hT : Lx.T (bts text) 0 with
    | bad a => rw [hT] at h2; exact h2
    | good l =>
      rw [hT] at h2
      simp only at h2 ⊢
      by_cases hn : 20000 < l.length
      · rw [if_pos hn] at h2 ⊢; exact h2
      · rw [if_neg hn] at h2 ⊢
        obtain ⟨v, he, ho⟩ := h2
        exact ⟨v, he, owns_mono ho hb.size⟩
theorem results_four {fn : Func} {t u v x : Tmp} (h : fn.results = #[.tmp t, .tmp u, .tmp v, .tmp x]) (tmps : Array Value) (P : Program) (w : World) :
    (results fn tmps).run P w = .ok (.tuple #[tmps.getD t undef, tmps.getD u undef, tmps.getD v undef, tmps.getD x undef]) w := by
  simp [results, h]

set_option maxRecDepth 100000 in
set_option maxHeartbeats 2000000 in
theorem Change_any (text : ByteArray) (rs : List RT) (n : Nat) (hn : rs.length = n) (hn2 : n ≤ 20000) (oa : Option Addr) (cap : Nat) (hcap : n ≤ cap) (pe c : Int) (S : ByteArray) (hs : text.size + S.size ≤ 100000)
    (hpe : -9223372036854775808 ≤ pe ∧ pe ≤ 9223372036854775807) (hc : -9223372036854775808 ≤ c ∧ c ≤ 9223372036854775807) (w : World) (htok : TokV w oa rs) (haw : ∀ x, oa = some x → x.block < w.heap.size) :
    Calls Tryz.prog 18 #[.string text, .slice oa n cap, .agg #[.int .i64 pe, .int .i64 c, .string S]] w (ChR text rs pe c S w) := by
  obtain ⟨P, hP⟩ : ∃ P, P = ChR text rs pe c S w := ⟨_, rfl⟩
  rw [← hP]
  have H := Lib.hid (And.intro hP (And.intro hn (And.intro htok haw)))
  clear hP hn htok haw
  go_enter Tryz.func18, Tryz.ntmps18
  go_wp2_with fail
  have hbx : (w.alloc (.cells #[.int .i64 pe, .int .i64 c, .string S] 38)).heap[w.heap.size]? = some (.cells #[.int .i64 pe, .int .i64 c, .string S] 38) := heap_alloc_new w _
  have hb1 : Below w.heap.size w (w.alloc (.cells #[.int .i64 pe, .int .i64 c, .string S] 38)) := (Below.refl _ _).alloc (Nat.le_refl _) _
  have hz1 : (w.alloc (.cells #[.int .i64 pe, .int .i64 c, .string S] 38)).heap.size = w.heap.size + 1 := by simp
  generalize (w.alloc (.cells #[.int .i64 pe, .int .i64 c, .string S] 38)) = w1 at *
  refine (Tokens_any text w1).mono ?_
  rintro e w2 ⟨hb2, hcs⟩
  have hbw2 := below_le hb1 hb2 (by omega)
  have hbx2 := (hb2.block w.heap.size (by omega)).trans hbx
  have HB2 := Lib.hid (And.intro hbw2 (And.intro hbx2 (And.intro hb2.size hz1)))
  clear hbx hb1 hbw2 hbx2
  rcases hcs with ⟨hbig, _⟩ | ⟨_, hcs⟩
  · omega
  cases hT : Lx.T (bts text) 0 with
  | bad x =>
    rw [hT] at hcs
    simp only at hcs
    subst hcs
    have hno : P (four ⟨#[]⟩ (.slice none 0 0) 0 1) w2 := by
      rw [H.out.1]
      refine ⟨HB2.out.1, .inl ⟨?_, rfl⟩⟩
      rintro ⟨k, _, _, h, _⟩
      rw [hT] at h; cases h
    have HNO := Lib.hid hno
    clear hT hno hb2 hz1
    unfold three
    go_wp2_with fail
    (try simp only [Exit.inBlock, Exit.then]); refine bodyPost_ret (results_four rfl _ _ _) rfl ?_
    exact HNO.out
  | good known =>
    rw [hT] at hcs
    simp only at hcs
    by_cases hkn : 20000 < known.length
    · rw [if_pos hkn] at hcs
      subst hcs
      have hno : P (four ⟨#[]⟩ (.slice none 0 0) 0 1) w2 := by
        rw [H.out.1]
        refine ⟨HB2.out.1, .inl ⟨?_, rfl⟩⟩
        rintro ⟨k, _, _, h, h2, _⟩
        rw [hT] at h; cases h; omega
      have HNO := Lib.hid hno
      clear hT hno hb2 hz1 hkn
      unfold three
      go_wp2_with fail
      (try simp only [Exit.inBlock, Exit.then]); refine bodyPost_ret (results_four rfl _ _ _) rfl ?_
      exact HNO.out
    · rw [if_neg hkn] at hcs
      obtain ⟨v, rfl, hown⟩ := hcs
      obtain ⟨ka, kc, rfl, hkc⟩ := owns_form hown
      have hkt : TokV w2 ka (known.map rt) := tokV_owned hown
      have hrt : TokV w2 oa rs := H.out.2.2.1.below HB2.out.1
      obtain ⟨m, hm⟩ : ∃ m, known.length = m := ⟨_, rfl⟩
      rw [hm] at hkc hkn ⊢
      have HEQ := Lib.hid (equal_any (known.map rt) rs ka oa kc cap m n w2 (by rw [List.length_map]; exact hm) H.out.2.1 hkt hrt (by omega))
      have HKN := Lib.hid (And.intro hT hm)
      clear hown hkt hrt hT hm hb2 hz1
      unfold three
      go_wp2_with fail
      refine HEQ.out.mono ?_
      rintro e w3 ⟨rfl, hg3⟩
      have hbw3 := below_grown HB2.out.1 hg3
      have hbx3 := (hg3.block w.heap.size (by have := HB2.out.2.2; omega) (by simp)).trans HB2.out.2.1
      have HB3 := Lib.hid (And.intro hbw3 hbx3)
      have c0 : w3.cell? ⟨w.heap.size, 0, none⟩ = some (.int .i64 pe) := by rw [(cells_of hbx3 0).1]; rfl
      have c1 : w3.cell? ⟨w.heap.size, 1, none⟩ = some (.int .i64 c) := by rw [(cells_of hbx3 1).1]; rfl
      have c2 : w3.cell? ⟨w.heap.size, 2, none⟩ = some (.string S) := by rw [(cells_of hbx3 2).1]; rfl
      clear hg3 hbw3 hbx3 HEQ
      cases hq : eqs (known.map rt) rs
      · have hno : P (four ⟨#[]⟩ (.slice none 0 0) 0 1) w3 := by
          rw [H.out.1]
          refine ⟨HB3.out.1, .inl ⟨?_, rfl⟩⟩
          rintro ⟨k, _, _, h, _, h3, _⟩
          rw [HKN.out.1] at h; cases h
          rw [(eqs_iff _ _).2 h3.symm] at hq; cases hq
        have HNO := Lib.hid hno
        clear hno hq
        go_wp2_with fail
        (try simp only [Exit.inBlock, Exit.then]); refine bodyPost_ret (results_four rfl _ _ _) rfl ?_
        exact HNO.out
      · have heq := (eqs_iff _ _).1 hq
        have HEQ := Lib.hid heq
        have hft := fun w => fits_any pe c text.size S hpe hc (by omega) w
        by_cases hfit : 0 ≤ pe ∧ 0 ≤ c ∧ pe ≤ (text.size : Int) ∧ c ≤ (text.size : Int) - pe
        · rw [decide_eq_true hfit] at hft
          have HFT := Lib.hid hft
          clear heq hft hq
          obtain ⟨pn, rfl⟩ : ∃ pn : Nat, pe = pn := ⟨pe.toNat, by omega⟩
          obtain ⟨cn, rfl⟩ : ∃ cn : Nat, c = cn := ⟨c.toNat, by omega⟩
          obtain ⟨q, hqq⟩ : ∃ q, pn + cn = q := ⟨_, rfl⟩
          have i1 : (pn : Int) + (cn : Int) = (q : Int) := by omega
          have i2 : (q : Int) ≤ (text.size : Int) := by omega
          have i3 : (0 : Int) ≤ (q : Int) := by omega
          have i4 : (0 : Int) ≤ (pn : Int) := by omega
          have i5 : (pn : Int) ≤ (text.size : Int) := by omega
          have i6 : IntKind.i64.wrap (q : Int) = (q : Int) := IntWalk.i64_in _ (by omega)
          have hz1 : (text.extract 0 pn).size = pn := by simp; omega
          have hz2 : (text.extract q text.size).size = text.size - q := by simp
          have hch : bts (text.extract 0 pn ++ S ++ text.extract q text.size) = edited (bts text) pn cn (bts S) := by
            unfold edited
            rw [bts_append, bts_append, bts_extract, bts_extract, hqq, List.drop_zero, Nat.sub_zero, List.take_of_length_le (l := (bts text).drop q) (by rw [List.length_drop, bts_length]; omega)]
          have i7 : ¬ 9223372036854775807 < (text.extract 0 pn).size + S.size := by omega
          have i8 : ¬ 9223372036854775807 < (text.extract 0 pn).size + S.size + (text.extract q text.size).size := by omega
          have HCH := Lib.hid hch
          have hok : ChOk text rs pn cn := ⟨known, pn, cn, HKN.out.1, by have := HKN.out.2; omega, HEQ.out.symm, rfl, rfl, by omega⟩
          have HOK := Lib.hid hok
          clear hch hok hqq hfit hz1 hz2
          go_wp2_with fail
          refine (HFT.out _).mono ?_
          rintro e w4 ⟨rfl, hg4⟩
          have hbw4 := below_grown HB3.out.1 hg4
          have hbx4 := (hg4.block w.heap.size (by have := HB3.out.1.size; have := HB2.out.2.2; have := (Array.getElem?_eq_some_iff.1 HB3.out.2).1; omega) (by simp)).trans HB3.out.2
          have HB4 := Lib.hid (And.intro hbw4 hbx4)
          clear c0 c1 c2 hg4 hbw4 hbx4
          have c0 : w4.cell? ⟨w.heap.size, 0, none⟩ = some (.int .i64 pn) := by rw [(cells_of HB4.out.2 0).1]; rfl
          have c1 : w4.cell? ⟨w.heap.size, 1, none⟩ = some (.int .i64 cn) := by rw [(cells_of HB4.out.2 1).1]; rfl
          have c2 : w4.cell? ⟨w.heap.size, 2, none⟩ = some (.string S) := by rw [(cells_of HB4.out.2 2).1]; rfl
          go_wp2_with fail
          go_quiet (fail)
          obtain ⟨W5, hW5⟩ : ∃ W, W = w4.drewN nq := ⟨_, rfl⟩
          rw [← hW5]
          have hb5 : Below w.heap.size w W5 := by subst hW5; exact belowN3 _ HB4.out.1
          have d0 : W5.cell? ⟨w.heap.size, 0, none⟩ = some (.int .i64 pn) := by subst hW5; exact c0
          have d1 : W5.cell? ⟨w.heap.size, 1, none⟩ = some (.int .i64 cn) := by subst hW5; exact c1
          have d2 : W5.cell? ⟨w.heap.size, 2, none⟩ = some (.string S) := by subst hW5; exact c2
          have hkl : known.length = n := by have h1 := H.out.2.1; rw [← HEQ.out, List.length_map] at h1; exact h1
          have hrc := recut_any (bts text) known HKN.out.1 n hkl hn2 oa cap hcap (text.extract 0 pn ++ S ++ text.extract q text.size) pn cn S (by rw [bts_length]; omega) HCH.out (by rw [bts_length]; exact hs) W5 (by rw [HEQ.out]; exact H.out.2.2.1.below hb5) (fun x hx => Nat.lt_of_lt_of_le (H.out.2.2.2 x hx) hb5.size)
          have hct : chT text pn cn S = text.extract 0 pn ++ S ++ text.extract q text.size := chT_is HCH.out
          have hfinal : ∀ e w', TokR (text.extract 0 pn ++ S ++ text.extract q text.size) W5 e w' → ∃ v a er, e = three v a er ∧ P (four (text.extract 0 pn ++ S ++ text.extract q text.size) v a er) w' := by
            intro e w' ht
            obtain ⟨v, a, er, rfl⟩ := tokR_three ht
            refine ⟨v, a, er, rfl, ?_⟩
            rw [H.out.1]
            refine ⟨below_le hb5 ht.1 hb5.size, .inr ⟨HOK.out, v, a, er, by rw [hct], ?_⟩⟩
            rw [hct]
            exact tokR_le ht hb5
          have HRC := Lib.hid (And.intro hrc hfinal)
          clear hW5 c0 c1 c2 hrc hfinal hct hb5
          generalize (text.extract 0 pn ++ S ++ text.extract q text.size) = ch at *
          go_wp2_with fail
          refine HRC.out.1.mono ?_
          intro e w6 ht
          obtain ⟨v, a, er, rfl, hp⟩ := HRC.out.2 e w6 ht
          have HPP := Lib.hid hp
          clear ht hp
          unfold three
          go_wp2_with fail
          (try simp only [Exit.inBlock, Exit.then])
          refine bodyPost_ret (results_four rfl _ _ _) rfl ?_
          exact HPP.out
        · rw [decide_eq_false hfit] at hft
          have hno : ∀ w4, w3.grownBy w4 none → P (four ⟨#[]⟩ (.slice none 0 0) 0 1) w4 := by
            intro w4 hg
            rw [H.out.1]
            refine ⟨below_grown HB3.out.1 hg, .inl ⟨?_, rfl⟩⟩
            rintro ⟨k, pn, cn, _, _, _, h1, h2, h3⟩
            exact hfit (by omega)
          have HFT := Lib.hid hft
          have HNO := Lib.hid hno
          clear heq hft hq hno hfit
          go_wp2_with fail
          refine (HFT.out _).mono ?_
          rintro e w4 ⟨rfl, hg4⟩
          have HN4 := Lib.hid (HNO.out w4 hg4)
          clear hg4
          go_wp2_with fail
          (try simp only [Exit.inBlock, Exit.then]); refine bodyPost_ret (results_four rfl _ _ _) rfl ?_
          exact HN4.out
end Go.Proofs.YtcjdacdggklifaaGreatDoor

/- Edits of short texts: what the law of two edits calls. -/
namespace Go.Proofs.YtcjdacdggklifaaGreatDoor
open Go.RowKit

theorem belowD2 {B : Nat} {w W : World} (h : Below B w W) : Below B w W.drew := ⟨h.os, h.tape, h.output, h.size, h.block⟩
theorem edited_back (a : Lx.Bs) (p c : Nat) (S : Lx.Bs) (h : p + c ≤ a.length) : edited (edited a p c S) p S.length ((a.drop p).take c) = a := by
  have h1 := edited_take a p c S h p (Nat.le_refl _)
  have h2 := edited_drop a p c S h (p + S.length) (Nat.le_refl _)
  rw [show p + S.length + c - S.length = p + c from by omega] at h2
  rw [edited, h1, h2, List.append_assoc, ← List.drop_drop, List.take_append_drop, List.take_append_drop]
theorem edited_two (a : Lx.Bs) (p c : Nat) (S : Lx.Bs) (q d : Nat) (F : Lx.Bs) (h1 : p + c ≤ q) (h2 : q + d ≤ a.length) : edited (edited a p c S) (q - c + S.length) d F = edited (edited a q d F) p c S := by
  have e1 := edited_drop a p c S (by omega) (q - c + S.length + d) (by omega)
  rw [show q - c + S.length + d + c - S.length = q + d from by omega] at e1
  have e2 := edited_take a q d F h2 p (by omega)
  have e3 : (edited a p c S).take (q - c + S.length) = a.take p ++ S ++ (a.drop (p + c)).take (q - c - p) := by
    unfold edited
    have hl : (a.take p ++ S).length = p + S.length := by simp; omega
    rw [show q - c + S.length = (a.take p ++ S).length + (q - c - p) from by omega, List.take_length_add_append]
  have e4 : (edited a q d F).drop (p + c) = (a.drop (p + c)).take (q - c - p) ++ F ++ a.drop (q + d) := by
    unfold edited
    rw [List.append_assoc, List.drop_append_of_le_length (by simp; omega), List.drop_take, List.append_assoc]
    congr 2; omega
  rw [edited, e1, e3]
  conv => rhs; rw [edited, e2, e4]
  simp only [List.append_assoc]

/-- The edit is within the text. -/
def Fit (text : ByteArray) (pe c : Int) : Prop := ∃ pn cn : Nat, pe = pn ∧ c = cn ∧ pn + cn ≤ text.size
/-- What a short text's tokens are, or that it has none. -/
def ChG (ch : ByteArray) (e : Ending) (w' : World) : Prop :=
  (∃ a, Lx.T (bts ch) 0 = .bad a ∧ e = four ch (.slice none 0 0) a 10) ∨
  (∃ l' m0 n' mcap, Lx.T (bts ch) 0 = .good l' ∧ l'.length = n' ∧ n' ≤ ch.size ∧ e = four ch (.slice m0 n' mcap) 0 0 ∧ n' ≤ mcap ∧ TokV w' m0 (l'.map rt) ∧ ∀ x, m0 = some x → x.block < w'.heap.size)

theorem owned_lt {w : World} {B n cap : Nat} {t : TypeId} {k : Nat} {xs : List Value} {a : Option Addr} (h : w.ownsRow B t k (.slice a n cap) n xs) : ∀ x, a = some x → x.block < w.heap.size := by
  intro x hx
  rcases h.2 with ⟨h1, _⟩ | ⟨g, c, cur, h1, _, h2, _⟩
  · cases h1; cases hx
  · cases h1; cases hx
    exact (Array.getElem?_eq_some_iff.1 h2).1
theorem chT_size (text : ByteArray) (pn cn : Nat) (S : ByteArray) (h : pn + cn ≤ text.size) : (chT text pn cn S).size = text.size + S.size - cn := by
  unfold chT
  rw [ofB_size, Int.toNat_natCast, Int.toNat_natCast, edited_len _ _ _ _ (by rw [bts_length]; omega), bts_length, bts_length]
theorem chT_bts (text : ByteArray) (pn cn : Nat) (S : ByteArray) : bts (chT text pn cn S) = edited (bts text) pn cn (bts S) := by
  unfold chT; rw [bts_ofB, Int.toNat_natCast, Int.toNat_natCast]
theorem below_two {a w w' : World} (h : Below a.heap.size a w) (k : Below w.heap.size w w') : Below a.heap.size a w' := below_le h k h.size
theorem bts_inj {a b : ByteArray} (h : bts a = bts b) : a = b := by rw [← ofB_bts a, ← ofB_bts b, h]

theorem change_g (text : ByteArray) (l : List Lx.Tok) (hT : Lx.T (bts text) 0 = .good l) (n : Nat) (hn : l.length = n) (hn2 : n ≤ 20000) (oa : Option Addr) (cap : Nat) (hcap : n ≤ cap) (pe c : Int) (S : ByteArray) (hs : text.size + S.size ≤ 100000) (hch : ∀ pn cn : Nat, pe = pn → c = cn → pn + cn ≤ text.size → (chT text pe c S).size ≤ 20000)
    (hpe : -9223372036854775808 ≤ pe ∧ pe ≤ 9223372036854775807) (hc : -9223372036854775808 ≤ c ∧ c ≤ 9223372036854775807) (w : World) (htok : TokV w oa (l.map rt)) (haw : ∀ x, oa = some x → x.block < w.heap.size) :
    Calls Tryz.prog 18 #[.string text, .slice oa n cap, .agg #[.int .i64 pe, .int .i64 c, .string S]] w fun e w' =>
      Below w.heap.size w w' ∧ ((¬ Fit text pe c ∧ e = four ⟨#[]⟩ (.slice none 0 0) 0 1) ∨ (Fit text pe c ∧ ChG (chT text pe c S) e w')) := by
  refine (Change_any text (l.map rt) n (by rw [List.length_map]; exact hn) hn2 oa cap hcap pe c S hs hpe hc w htok haw).mono fun e w' ⟨hb, h⟩ => ⟨hb, ?_⟩
  rcases h with ⟨h1, he⟩ | ⟨h1, v, a, er, rfl, hb2, h⟩
  · refine .inl ⟨fun ⟨pn, cn, h2, h3, h4⟩ => h1 ⟨l, pn, cn, hT, by omega, rfl, h2, h3, h4⟩, he⟩
  · obtain ⟨_, pn, cn, _, _, _, h2, h3, h4⟩ := h1
    refine .inr ⟨⟨pn, cn, h2, h3, h4⟩, ?_⟩
    have hz := hch pn cn h2 h3 h4
    generalize chT text pe c S = ch at *
    rcases h with ⟨h5, _⟩ | ⟨_, h5⟩
    · omega
    cases hT2 : Lx.T (bts ch) 0 with
    | bad x =>
      rw [hT2] at h5
      simp only [three, Ending.returned.injEq, Value.tuple.injEq, Array.mk.injEq, List.cons.injEq, and_true, Value.int.injEq, true_and] at h5
      obtain ⟨rfl, h6, h7⟩ := h5
      exact .inl ⟨x, hT2, by rw [h6, h7]⟩
    | good l' =>
      rw [hT2] at h5
      have hcn := T_count _ _ _ hT2
      rw [bts_length] at hcn
      simp only at h5
      rw [if_neg (by omega)] at h5
      obtain ⟨v', he, ho⟩ := h5
      obtain ⟨m0, mcap, rfl, hmc⟩ := owns_form ho
      simp only [three, Ending.returned.injEq, Value.tuple.injEq, Array.mk.injEq, List.cons.injEq, and_true, Value.int.injEq, true_and] at he
      obtain ⟨rfl, h6, h7⟩ := he
      exact .inr ⟨l', m0, l'.length, mcap, hT2, rfl, hcn, by rw [h6, h7], hmc, tokV_owned ho, owned_lt ho⟩

/-- The fixed part of what a short text gives. -/
theorem chG_form (ch : ByteArray) : ∃ (rs : List RT) (n p er : Nat), rs.length = n ∧ ∀ e w', ChG ch e w' → n ≤ ch.size ∧ ∃ o cap, e = four ch (.slice o n cap) p er ∧ n ≤ cap ∧ TokV w' o rs := by
  cases hT : Lx.T (bts ch) 0 with
  | bad x =>
    refine ⟨[], 0, x, 10, rfl, fun e w' h => ?_⟩
    rcases h with ⟨a, h1, rfl⟩ | ⟨l', m0, n', mcap, h1, _⟩
    · rw [hT] at h1; cases h1
      exact ⟨Nat.zero_le _, none, 0, rfl, Nat.le_refl _, fun h => absurd rfl h⟩
    · rw [hT] at h1; cases h1
  | good l =>
    refine ⟨l.map rt, l.length, 0, 0, List.length_map .., fun e w' h => ?_⟩
    rcases h with ⟨a, h1, rfl⟩ | ⟨l', m0, n', mcap, h1, h2, h3, rfl, h4, h5, _⟩
    · rw [hT] at h1; cases h1
    · rw [hT] at h1; cases h1
      subst h2
      exact ⟨h3, m0, mcap, rfl, h4, h5⟩

/-- An edit taken back. -/
theorem change_back (a : ByteArray) (l : List Lx.Tok) (hT : Lx.T (bts a) 0 = .good l) (n : Nat) (hn : l.length = n) (pn cn q : Nat) (hq : pn + cn = q) (hqa : q ≤ a.size) (S : ByteArray) (hs : a.size + S.size ≤ 20000)
    (m : List Lx.Tok) (hTm : Lx.T (bts (chT a pn cn S)) 0 = .good m) (nm : Nat) (hnm : m.length = nm) (hnm2 : nm ≤ 20000) (m0 : Option Addr) (mcap : Nat) (hmc : nm ≤ mcap) (w : World) (htm : TokV w m0 (m.map rt)) (ham : ∀ x, m0 = some x → x.block < w.heap.size) :
    Calls Tryz.prog 18 #[.string (chT a pn cn S), .slice m0 nm mcap, .agg #[.int .i64 pn, .int .i64 S.size, .string (a.extract pn q)]] w fun e w' =>
      Below w.heap.size w w' ∧ ∃ k0 kcap, e = four a (.slice k0 n kcap) 0 0 ∧ n ≤ kcap ∧ TokV w' k0 (l.map rt) := by
  have hsz := chT_size a pn cn S (by omega)
  have hez : (a.extract pn q).size = cn := by simp; omega
  have hback : chT (chT a pn cn S) pn S.size (a.extract pn q) = a := by
    apply bts_inj
    rw [chT_bts, chT_bts, bts_extract, ← hq, show pn + cn - pn = cn from by omega, ← bts_length S]
    exact edited_back _ _ _ _ (by rw [bts_length]; omega)
  refine (change_g (chT a pn cn S) m hTm nm hnm hnm2 m0 mcap hmc pn S.size (a.extract pn q) (by omega) (fun _ _ _ _ _ => by rw [hback]; omega) (by omega) (by omega) w htm ham).mono fun e w' ⟨hb, h⟩ => ⟨hb, ?_⟩
  rcases h with ⟨h1, _⟩ | ⟨_, h⟩
  · exact absurd ⟨pn, S.size, rfl, rfl, by omega⟩ h1
  · rw [hback] at h
    rcases h with ⟨x, h1, _⟩ | ⟨l', k0, n', kcap, h1, h2, h3, rfl, h4, h5, _⟩
    · rw [hT] at h1; cases h1
    · rw [hT] at h1; cases h1
      rw [hn] at h2; subst h2
      exact ⟨k0, kcap, rfl, h4, h5⟩

/-- An edit that is known to fit. -/
theorem change_fit (text : ByteArray) (l : List Lx.Tok) (hT : Lx.T (bts text) 0 = .good l) (n : Nat) (hn : l.length = n) (hn2 : n ≤ 20000) (oa : Option Addr) (cap : Nat) (hcap : n ≤ cap) (pn cn : Nat) (hpc : pn + cn ≤ text.size) (S : ByteArray) (hs : text.size ≤ 20000) (hs2 : S.size ≤ 20000) (hch : text.size + S.size - cn ≤ 20000)
    (w : World) (htok : TokV w oa (l.map rt)) (haw : ∀ x, oa = some x → x.block < w.heap.size) :
    Calls Tryz.prog 18 #[.string text, .slice oa n cap, .agg #[.int .i64 pn, .int .i64 cn, .string S]] w fun e w' => Below w.heap.size w w' ∧ ChG (chT text pn cn S) e w' :=
  (change_g text l hT n hn hn2 oa cap hcap pn cn S (by omega) (fun _ _ _ _ _ => by rw [chT_size text pn cn S hpc]; exact hch) (by omega) (by omega) w htok haw).mono fun e w' ⟨hb, h⟩ => ⟨hb, by
    rcases h with ⟨h1, _⟩ | ⟨_, h⟩
    · exact absurd ⟨pn, cn, rfl, rfl, hpc⟩ h1
    · exact h⟩
theorem two_same (a : ByteArray) (pn cn fn dn x : Nat) (S F : ByteArray) (h1 : pn + cn ≤ fn) (h2 : fn + dn ≤ a.size) (hx : x = fn - cn + S.size) : chT (chT a pn cn S) x dn F = chT (chT a fn dn F) pn cn S := by
  apply bts_inj
  subst hx
  rw [chT_bts, chT_bts, chT_bts, chT_bts, ← bts_length S]
  exact edited_two _ _ _ _ _ _ _ h1 (by rw [bts_length]; omega)
end Go.Proofs.YtcjdacdggklifaaGreatDoor
