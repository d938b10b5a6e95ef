/- Unify's contract, with what it means. -/
import Derived.Test.YtapdfdjknehhgaaLc
import Derived.Test.YtapdfdjknehhgaaSeP
import Derived.Test.YtapdfdjknehhgaaRVars
import Derived.Test.YtapdfdjknehhgaaUnf
namespace Go.Proofs.Ytapdfdjknehhgaa
open Go.RowKit Go.Tr

/-- What a unifier's list is. -/
structure UniR (p t : Tm) (r : List Tm) : Prop where
  len : r.length = (most (vars [p, t]) + 1).toNat
  good : r.all good = true
  eq : repT (rho r) p = repT (rho r) t
  idem : ∀ x ∈ r, substE x r = 0 ∧ substT r x = x ∧ ∀ m, occ m x = true → m < (r.length : Int)
  mgu : ∀ σ : Int → Tm, repT σ p = repT σ t → ∀ n : Int, 0 ≤ n → n < (r.length : Int) → repT σ (atL r n) = σ n
def UniM (p t : Tm) (w : World) (e : Ending) (w' : World) : Prop :=
  Below w.heap.size w w' ∧ (e = .returned (.tuple #[.slice none 0 0, .bool false, .int .i64 2]) ∨
    ∃ o c r q, e = .returned (.tuple #[.slice o r.length c, .bool q, .int .i64 0]) ∧ TrS w' (· < w'.heap.size) r (.slice o r.length c) ∧ (q = true → UniR p t r) ∧ (q = false → r = []) ∧ (q = true ↔ ∃ σ : Int → Tm, repT σ p = repT σ t))
theorem unify_m {p t : Tm} (hp : good p = true) (ht : good t = true) (hm : most (vars [p, t]) ≤ 4000) (vp vt : Value) (w : World) (hvp : TrV w (· < w.heap.size) p vp) (hvt : TrV w (· < w.heap.size) t vt) :
    Calls Try.prog 29 #[vp, vt] w (UniM p t w) := by
  refine (Unify_any p t vp vt w hvp hvt).mono ?_
  rintro e w' ⟨hb, h⟩
  refine ⟨hb, ?_⟩
  rcases h with ⟨h1, -⟩ | ⟨-, ⟨h1, -⟩ | ⟨-, h⟩⟩
  · rw [hp, ht] at h1; cases h1
  · omega
  · rcases h with ⟨h1, rfl⟩ | ⟨h1, h2, rfl⟩ | ⟨h1, r, hr, hlen, h⟩
    · refine .inr ⟨none, 0, [], false, rfl, ⟨none, 0, 0, 0, rfl, Nat.le_refl _, by decide, fun h => absurd rfl h, trivial⟩, fun h => (by cases h), fun _ => rfl, ⟨fun h => (by cases h), ?_⟩⟩
      rintro ⟨σ, hσ⟩
      exact absurd h1 (uni_yes hp ht hσ)
    · rcases lookT_code 20001 [] 0 p t with h3 | h3 | h3
      · exact absurd h3 h2
      · left
        have h3' : (lookU p t).2.2 = 2 := h3
        rw [h3']
      · exact absurd h3 h1
    · rcases h with ⟨h2, v, rfl, hv⟩ | ⟨-, rfl⟩
      · obtain ⟨r1, r2⟩ := r
        simp only at h2 hv hlen
        subst h2
        obtain ⟨o, c, b, q, rfl, -⟩ := id hv
        have hf := uni_facts hp ht (N := uniN p t) rfl (b := (lookU p t).1) (c := (lookU p t).2.1) (by
          show lookU p t = _
          rw [← h1]) hr
        refine .inr ⟨o, c, r1, true, rfl, hv, fun _ => ⟨hf.1, hf.2.1, hf.2.2.1, fun x hx => ?_, fun σ hσ n n0 n1 => hf.2.2.2.2 σ hσ n n0 (by rw [← hf.1]; exact n1)⟩, fun h => (by cases h), ⟨fun _ => ⟨_, hf.2.2.1⟩, fun _ => rfl⟩⟩
        have := hf.2.2.2.1 x hx
        exact ⟨this.1, this.2.1, fun m hm => by rw [hf.1]; exact this.2.2 m hm⟩
      · exact .inl rfl
theorem most_twice (a : Tm) : most (vars [a, a]) = most (vars [a]) := by
  have h1 : ∀ n, n ∈ vars [a, a] ↔ n ∈ vars [a] := fun n => by rw [vars_mem, vars_mem]; simp [occL]
  have g1 := most_ge (vars [a, a])
  have g2 := most_ge (vars [a])
  rcases most_in (vars [a, a]) with h | h
  · rcases most_in (vars [a]) with h' | h'
    · omega
    · have := most_mem ((h1 _).2 h'); omega
  · have h2 := most_mem ((h1 _).1 h)
    rcases most_in (vars [a]) with h' | h'
    · omega
    · have := most_mem ((h1 _).2 h'); omega
/-- A tree and itself. -/
theorem unify_self {a : Tm} (ha : good a = true) (hm : most (vars [a]) ≤ 4000) (v v' : Value) (w : World) (hv : TrV w (· < w.heap.size) a v) (hv' : TrV w (· < w.heap.size) a v') :
    Calls Try.prog 29 #[v, v'] w fun e w' => Below w.heap.size w w' ∧ ∃ o c r, e = .returned (.tuple #[.slice o r.length c, .bool true, .int .i64 0]) ∧ TrS w' (· < w'.heap.size) r (.slice o r.length c) ∧ (r.length : Int) = most (vars [a]) + 1 ∧ ∀ i (h : i < r.length), r[i] = var i := by
  obtain ⟨c0, h0⟩ := uni_self ha
  refine (Unify_any a a v v' w hv hv').mono ?_
  rintro e w' ⟨hb, h⟩
  refine ⟨hb, ?_⟩
  have hge := most_ge (vars [a])
  have h0' : lookU a a = ([], c0, 0) := h0
  rcases h with ⟨h1, -⟩ | ⟨-, ⟨h1, -⟩ | ⟨-, h⟩⟩
  · rw [ha] at h1; cases h1
  · rw [most_twice] at h1; omega
  · rw [h0'] at h
    rcases h with ⟨h1, -⟩ | ⟨-, h2, -⟩ | ⟨-, r, hr, hlen, h⟩
    · cases h1
    · exact absurd rfl h2
    · have h2 := sets_nil hr
      rcases h with ⟨-, v, rfl, hv⟩ | ⟨h3, -⟩
      · obtain ⟨r1, r2⟩ := r
        simp only at h2 hv hlen
        subst h2
        obtain ⟨h4, h5⟩ := self_at hr
        obtain ⟨o, c, b, q, rfl, -⟩ := id hv
        refine ⟨o, c, r1, rfl, hv, ?_, h5⟩
        rw [h4]
        unfold uniN
        rw [most_twice]
        omega
      · rw [h2] at h3; cases h3
end Go.Proofs.Ytapdfdjknehhgaa
