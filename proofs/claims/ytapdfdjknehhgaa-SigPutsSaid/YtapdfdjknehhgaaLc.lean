/- What the laws' walks share: contracts with the result's cells told. -/
import Derived.Test.YtapdfdjknehhgaaSane
import Derived.Test.YtapdfdjknehhgaaFew
import Derived.Test.YtapdfdjknehhgaaRow
import Derived.Test.YtapdfdjknehhgaaRIa
import Derived.Test.YtapdfdjknehhgaaShift
namespace Go.Proofs.Ytapdfdjknehhgaa
open Go.RowKit Go.Tr

theorem node_w {w : World} {P : Nat → Prop} {k n : Int} {l : List Tm} {v : Value} (h : TrV w P (.node k n l) v) : ∃ s, v = .agg #[.int .i64 k, .int .i64 n, s] := by
  obtain ⟨s, rfl, -⟩ := trV_iff.1 h
  exact ⟨s, rfl⟩
theorem rsame_q {t t' : Tm} {q : Bool} (hc : eqT t t' = q) (v v' : Value) (w : World) (h : TrV w (· < w.heap.size) t v) (h' : TrV w (· < w.heap.size) t' v') : Calls Try.prog 18 #[v, v'] w fun e w' => e = .returned (.bool q) ∧ Below w.heap.size w w' := by
  have h := RSame_any t t' v v' w h h'
  rw [hc] at h; exact h
/-- Subst, where it puts in: the tree's three cells told. -/
theorem subst_ok {t x : Tm} {l : List Tm} (hc : substE t l = 0) (hx : substT l t = x) (v s : Value) (w : World) (hv : TrV w (· < w.heap.size) t v) (hs : TrS w (· < w.heap.size) l s) :
    Calls Try.prog 30 #[v, s] w fun e w' => ∃ o c, e = .returned (.tuple #[.agg #[.int .i64 x.k, .int .i64 x.n, .slice o x.l.length c], .int .i64 0]) ∧ TrV w' (Nw w w') x (.agg #[.int .i64 x.k, .int .i64 x.n, .slice o x.l.length c]) ∧ Below w.heap.size w w' := by
  refine (Subst_any t l v s w hv hs).mono ?_
  rintro e w' ⟨v', rfl, h1, -, h3⟩
  have h4 := h1 hc
  rw [hx] at h4
  rw [hc]
  obtain ⟨s, rfl, -, -, hs⟩ := trV_iff.1 h4
  obtain ⟨o, c, b, o', rfl, -, -, -, -⟩ := trS_at hs
  exact ⟨o, c, rfl, h4, h3⟩
/-- Subst, where it does not. -/
theorem subst_no {t : Tm} {l : List Tm} {n : Int} (hc : substE t l = n) (hn : n ≠ 0) (v s : Value) (w : World) (hv : TrV w (· < w.heap.size) t v) (hs : TrS w (· < w.heap.size) l s) :
    Calls Try.prog 30 #[v, s] w fun e w' => e = .returned (.tuple #[.agg #[.int .i64 0, .int .i64 0, .slice none 0 0], .int .i64 n]) ∧ Below w.heap.size w w' := by
  refine (Subst_any t l v s w hv hs).mono ?_
  rintro e w' ⟨v', rfl, -, h2, h3⟩
  rw [h2 (by rw [hc]; exact hn), hc]
  exact ⟨rfl, h3⟩
theorem substE_is (t : Tm) (l : List Tm) : substE t l = 0 ∨ substE t l = 1 ∨ substE t l = 2 ∨ substE t l = 4 := by
  unfold substE; (repeat' split) <;> simp
/-- What Subst returns: the tree, or none. -/
def substZ (t : Tm) (l : List Tm) : Tm := if substE t l = 0 then substT l t else zeroT
theorem subst_z {t x : Tm} {l : List Tm} {n : Int} (hc : substE t l = n) (hx : substZ t l = x) (v s : Value) (w : World) (hv : TrV w (· < w.heap.size) t v) (hs : TrS w (· < w.heap.size) l s) :
    Calls Try.prog 30 #[v, s] w fun e w' => ∃ o c, e = .returned (.tuple #[.agg #[.int .i64 x.k, .int .i64 x.n, .slice o x.l.length c], .int .i64 n]) ∧ TrV w' (Nw w w') x (.agg #[.int .i64 x.k, .int .i64 x.n, .slice o x.l.length c]) ∧ Below w.heap.size w w' := by
  by_cases h : substE t l = 0
  · refine (subst_ok h rfl v s w hv hs).mono ?_
    rintro e w' ⟨o, c, rfl, h1, h2⟩
    have hx' : substT l t = x := by rw [← hx]; unfold substZ; rw [if_pos h]
    rw [← hx', ← hc, h]
    exact ⟨o, c, rfl, h1, h2⟩
  · refine (subst_no hc (by rw [← hc]; exact h) v s w hv hs).mono ?_
    rintro e w' ⟨rfl, h2⟩
    have hx' : zeroT = x := by rw [← hx]; unfold substZ; rw [if_neg h]
    rw [← hx']
    exact ⟨none, 0, rfl, trV_iff.2 ⟨_, rfl, by unfold inI; decide, by unfold inI; decide, none, 0, 0, 0, rfl, Nat.le_refl _, by decide, fun h => absurd rfl h, trivial⟩, h2⟩
theorem substZ_eq {t t' : Tm} {l l' : List Tm} (he : substE t l = substE t' l') (ht : substT l t = substT l' t') : substZ t l = substZ t' l' := by unfold substZ; rw [he, ht]
theorem ownT_made0 {w : World} {B : Nat} (hB : B ≤ w.heap.size) : OwnT (w.alloc (.cells #[] 24)) B (.slice (some ⟨w.heap.size, 0, none⟩) 0 0) [] :=
  ⟨[], ⟨rfl, .inr ⟨w.heap.size, 0, #[], rfl, hB, heap_alloc_new w _, Nat.le_refl _, Nat.zero_le _, rfl, rfl⟩⟩, elP_nil _ _⟩
theorem trS_single {w : World} {P : Nat → Prop} {b : Nat} {t : Tm} {s : Value} (h : Has w b (.cells #[.int .i64 t.k, .int .i64 t.n, s] 24)) (hb : P b) (ht : TrV w P t (.agg #[.int .i64 t.k, .int .i64 t.n, s])) : TrS w P [t] (.slice (some ⟨b, 0, none⟩) 1 1) := by
  refine ⟨_, 1, b, 0, rfl, Nat.le_refl _, by decide, fun _ => ⟨rfl, hb⟩, trC_iff.2 fun i hi => ?_⟩
  obtain rfl : i = 0 := by simpa using hi
  exact ⟨s, by simpa using (cells_of h 0).1, by simpa using (cells_of h 1).1, by simpa using (cells_of h 2).1, ht⟩
theorem ownT_far {w : World} {B : Nat} {v : Value} {l : List Tm} (h : OwnT w B v l) {b : Nat} (hb : w.heap.size ≤ b) : v.ownBlock ≠ some b := by
  obtain ⟨xs, h1, -⟩ := h
  intro e
  have := (owns_lt3 h1 e).1
  omega
theorem trV_occ {w : World} {P : Nat → Prop} (t : Tm) : ∀ {v : Value}, TrV w P t v → ∀ n, occ n t = true → inI n := by
  induction t using Tm.ind with
  | h k q l ih =>
    intro v h n ho
    obtain ⟨s, rfl, -, hn, hs⟩ := trV_iff.1 h
    obtain ⟨oa, cap, b, o, rfl, -, -, -, hel⟩ := trS_at hs
    have ho' : ((k == 1 && q == n) || occL n l) = true := ho
    rw [Bool.or_eq_true] at ho'
    rcases ho' with h1 | h1
    · simp only [Bool.and_eq_true, beq_iff_eq] at h1
      rw [← h1.2]; exact hn
    · obtain ⟨x, hx, hox⟩ := (occL_iff n l).1 h1
      obtain ⟨i, hi, rfl⟩ := List.mem_iff_getElem.1 hx
      obtain ⟨oa', cap', -, -, -, hv⟩ := hel i hi
      exact ih _ (List.getElem_mem hi) hv n hox
theorem trS_occ {w : World} {P : Nat → Prop} {l : List Tm} {s : Value} (h : TrS w P l s) : ∀ n ∈ vars l, inI n := by
  intro n hn
  obtain ⟨x, hx, hox⟩ := (occL_iff n l).1 ((vars_mem l n).1 hn)
  obtain ⟨oa, cap, b, o, rfl, -, -, -, hel⟩ := trS_at h
  obtain ⟨i, hi, rfl⟩ := List.mem_iff_getElem.1 hx
  obtain ⟨oa', cap', -, -, -, hv⟩ := hel i hi
  exact trV_occ _ hv n hox
/-- Shift, where it shifts: the tree's three cells told. -/
theorem shift_y {t x : Tm} {f b : Int} (hc : shiftE t f b = 0) (hx : shiftT f b t = x) (v : Value) (hf : inI f) (hb : inI b) (w : World) (hv : TrV w (· < w.heap.size) t v) :
    Calls Try.prog 44 #[v, .int .i64 f, .int .i64 b] w fun e w' => ∃ o c, e = .returned (.tuple #[.agg #[.int .i64 x.k, .int .i64 x.n, .slice o x.l.length c], .int .i64 0]) ∧ TrV w' (Nw w w') x (.agg #[.int .i64 x.k, .int .i64 x.n, .slice o x.l.length c]) ∧ Below w.heap.size w w' := by
  refine (Shift_any t v f b hf hb w hv).mono ?_
  rintro e w' ⟨v', rfl, h1, -, h3⟩
  have h4 := h1 hc
  rw [hx] at h4
  rw [hc]
  obtain ⟨s, rfl, -, -, hs⟩ := trV_iff.1 h4
  obtain ⟨o, c, b, o', rfl, -, -, -, -⟩ := trS_at hs
  exact ⟨o, c, rfl, h4, h3⟩
/-- Shift, where it does not. -/
theorem shift_n {t : Tm} {f b n : Int} (hc : shiftE t f b = n) (hn : n ≠ 0) (v : Value) (hf : inI f) (hb : inI b) (w : World) (hv : TrV w (· < w.heap.size) t v) :
    Calls Try.prog 44 #[v, .int .i64 f, .int .i64 b] w fun e w' => e = .returned (.tuple #[.agg #[.int .i64 0, .int .i64 0, .slice none 0 0], .int .i64 n]) ∧ Below w.heap.size w w' := by
  refine (Shift_any t v f b hf hb w hv).mono ?_
  rintro e w' ⟨v', rfl, -, h2, h3⟩
  rw [h2 (by rw [hc]; exact hn), hc]
  exact ⟨rfl, h3⟩
/-- A slice that is nil, or points somewhere. -/
def NilS (s : Value) : Prop := s = .slice none 0 0 ∨ ∃ ad n c, s = .slice (some ad) n c
end Go.Proofs.Ytapdfdjknehhgaa
