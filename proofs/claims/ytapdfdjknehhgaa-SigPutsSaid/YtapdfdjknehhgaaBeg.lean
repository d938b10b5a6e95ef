/- What SigPuts needs: begins, and Paths, At and Put where they succeed. -/
import Derived.Test.YtapdfdjknehhgaaPut
import Derived.Test.YtapdfdjknehhgaaRInts
namespace Go.Proofs.Ytapdfdjknehhgaa
open Go.RowKit Go.Tr

theorem node_good : ∀ (p : List Int) (t x : Tm), nodeT t p = some x → good t = true → good x = true
  | [], t, x, h, hg => by rw [nodeT] at h; cases h; exact hg
  | i :: r, .node k n l, x, h, hg => by
    obtain ⟨h0, h1, h2, h3⟩ := nodeT_i h
    refine node_good r _ x h2 ?_
    obtain ⟨g1, g2, g3⟩ := (good_iff _).1 hg
    have hm : l[i.toNat] ∈ l := List.getElem_mem h1
    refine (good_iff _).2 ⟨?_, ?_, ?_⟩
    · have := sz_mem hm
      have := sz_l (.node k n l)
      simp only [Tm.l] at this
      omega
    · have := dp_mem hm
      simp only [dp] at g2
      omega
    · rw [allN_t] at g3
      simp only [Bool.and_eq_true, Tm.l] at g3
      exact (allNL_iff _ _).1 g3.2 _ hm
theorem node_ints : ∀ (p : List Int) (t x : Tm), nodeT t p = some x → ∀ n ∈ p, 0 ≤ n ∧ n < sz t
  | [], t, x, h, n, hn => by simp at hn
  | i :: r, .node k n' l, x, h, n, hn => by
    obtain ⟨h0, h1, h2, h3⟩ := nodeT_i h
    have hl := len_szL l
    have hz := sz_l (.node k n' l)
    simp only [Tm.l] at hz
    rcases List.mem_cons.1 hn with rfl | hn
    · omega
    · have h4 := node_ints r _ x h2 n hn
      have h5 := sz_mem (List.getElem_mem h1)
      omega
theorem node_inI {p : List Int} {t x : Tm} (h : nodeT t p = some x) (hg : good t = true) : ∀ n ∈ p, inI n := fun n hn => by
  have h1 := node_ints p t x h n hn
  have h2 := ((good_iff t).1 hg).1
  unfold inI
  omega
set_option maxRecDepth 100000 in
/-- Whether a path begins with another one. -/
theorem begins_any (l m : List Int) (s s' : Value) (w : World) (h : IntS w (· < w.heap.size) l s) (h' : IntS w (· < w.heap.size) m s') :
    Calls Try.prog 36 #[s, s'] w fun e w' => e = .returned (.bool (decide (l = m.take l.length))) ∧ Below w.heap.size w w' := by
  have h2 := h'
  have hs := h
  obtain ⟨oa, cap, b, o, rfl, hlc, hcm, hoa, hel⟩ := h
  obtain ⟨oa', cap', b', o', rfl, hlc', hcm', hoa', hel'⟩ := h'
  have j0 : (0 : Int) ≤ (l.length : Int) := Int.natCast_nonneg _
  have j1 : (0 : Int) ≤ (m.length : Int) := Int.natCast_nonneg _
  by_cases hle : l.length ≤ m.length
  · have hle' : (l.length : Int) ≤ (m.length : Int) := by omega
    have hle2 : (l.length : Int) ≤ (cap' : Int) := by omega
    have hpre : IntS w (· < w.heap.size) (m.take l.length) (.slice oa' l.length cap') := by
      have hlen : (m.take l.length).length = l.length := by rw [List.length_take]; omega
      refine ⟨oa', cap', b', o', by rw [hlen], by rw [hlen]; omega, hcm', fun h => hoa' (by rw [hlen] at h; omega), fun i hi => ?_⟩
      rw [hlen] at hi
      rw [List.getElem_take]
      exact hel' i (by omega)
    have HH := Lib.hid (And.intro hs hpre)
    clear hoa hel hoa' hel' hs h2 hpre
    go_enter Try.func36, Try.ntmps36
    go_wp2_with fail
    refine (RSameInts_any l (m.take l.length) _ _ _ HH.out.1 HH.out.2).mono ?_
    rintro e w2 ⟨rfl, hb2⟩
    go_wp2_with fail
    go_ret
    exact ⟨rfl, hb2⟩
  · have hle' : ¬ (l.length : Int) ≤ (m.length : Int) := by omega
    have hne : decide (l = m.take l.length) = false := by
      apply decide_eq_false
      intro he
      have := congrArg List.length he
      rw [List.length_take] at this
      omega
    rw [hne]
    clear hoa hel hoa' hel' hs h2 hne
    go_enter Try.func36, Try.ntmps36
    go_wp2_with fail
    go_ret
    exact ⟨rfl, bZ w⟩
theorem begins_q {l m : List Int} {q : Bool} (hc : decide (l = m.take l.length) = q) (s s' : Value) (w : World) (h : IntS w (· < w.heap.size) l s) (h' : IntS w (· < w.heap.size) m s') :
    Calls Try.prog 36 #[s, s'] w fun e w' => e = .returned (.bool q) ∧ Below w.heap.size w w' := by
  have h := begins_any l m s s' w h h'
  rw [hc] at h
  exact h
/-- The paths of a tree, in memory. -/
def PthR (w : World) (b : Nat) (ps : List (List Int)) : Prop := b < w.heap.size ∧ ∀ i (h : i < ps.length), ∃ s, w.cell? ⟨b, i, none⟩ = some s ∧ IntS w (· < w.heap.size) ps[i] s
theorem pthR_up {w w' : World} {b : Nat} {ps : List (List Int)} (hb : Below w.heap.size w w') (h : PthR w b ps) : PthR w' b ps :=
  ⟨Nat.lt_of_lt_of_le h.1 hb.size, fun i hi => by
    obtain ⟨s, h1, h2⟩ := h.2 i hi
    exact ⟨s, (World.cell?_of_block (a := ⟨b, i, none⟩) (hb.block b h.1)).trans h1, intS_mono (fun x (hx : x < w.heap.size) => Nat.lt_of_lt_of_le hx hb.size) (fun x hx => hb.block x hx) h2⟩⟩
theorem paths_q {t : Tm} (hg : good t = true) (v : Value) (w : World) (hv : TrV w (· < w.heap.size) t v) :
    Calls Try.prog 33 #[v] w fun e w' => ∃ b cap, e = .returned (.tuple #[.slice (some ⟨b, 0, none⟩) (sz t : Nat) cap, .int .i64 0]) ∧ PthR w' b (pathsT t []) ∧ Below w.heap.size w w' := by
  refine (Paths_any t v w hv).mono ?_
  rintro e w' ⟨hb, ⟨h, -⟩ | ⟨-, r, rfl, oa, cap, b, rfl, hlc, hoa, hel⟩⟩
  · rw [hg] at h; cases h
  · have hl := pathsT_len t []
    have hp := sz_pos t
    obtain ⟨rfl, hlt⟩ := hoa (by omega)
    rw [hl]
    exact ⟨b, cap, rfl, ⟨hlt, hel⟩, hb⟩
theorem at_q {t x : Tm} {p : List Int} (hg : good t = true) (hn : nodeT t p = some x) (v s : Value) (w : World) (hv : TrV w (· < w.heap.size) t v) (hs : IntS w (· < w.heap.size) p s) :
    Calls Try.prog 34 #[v, s] w fun e w' => ∃ oc cc, e = .returned (.tuple #[.agg #[.int .i64 x.k, .int .i64 x.n, .slice oc x.l.length cc], .int .i64 0]) ∧ TrV w' (· < w'.heap.size) x (.agg #[.int .i64 x.k, .int .i64 x.n, .slice oc x.l.length cc]) ∧ Below w.heap.size w w' := by
  refine (At_any t p v s w hv hs (node_inI hn hg)).mono ?_
  rintro e w' ⟨hb, ⟨h, -⟩ | ⟨-, ⟨h, -⟩ | ⟨y, h, v', rfl, hv'⟩⟩⟩
  · rw [hg] at h; cases h
  · rw [hn] at h; cases h
  · rw [hn] at h
    cases h
    have hv2 : TrV w' (· < w'.heap.size) x v' := trV_mono (fun b (hb : Nw w w' b) => hb.2) (fun _ _ => rfl) _ hv'
    obtain ⟨sl, rfl, -, -, hs'⟩ := trV_iff.1 hv2
    obtain ⟨oa, cap, b', o', rfl, -, -, -, -⟩ := trS_at hs'
    exact ⟨oa, cap, rfl, hv2, hb⟩
theorem put_q {t u x : Tm} {p : List Int} (hg : good t = true) (hu : good u = true) (hn : nodeT t p = some x) (v s vu : Value) (w : World) (hv : TrV w (· < w.heap.size) t v) (hs : IntS w (· < w.heap.size) p s) (hvu : TrV w (· < w.heap.size) u vu) :
    Calls Try.prog 35 #[v, s, vu] w fun e w' => Below w.heap.size w w' ∧ ((good (putT t p u) = false ∧ e = .returned (.tuple #[.agg #[.int .i64 0, .int .i64 0, .slice none 0 0], .int .i64 2])) ∨ (good (putT t p u) = true ∧ ∃ oc cc, e = .returned (.tuple #[.agg #[.int .i64 (putT t p u).k, .int .i64 (putT t p u).n, .slice oc (putT t p u).l.length cc], .int .i64 0]) ∧ TrV w' (· < w'.heap.size) (putT t p u) (.agg #[.int .i64 (putT t p u).k, .int .i64 (putT t p u).n, .slice oc (putT t p u).l.length cc]))) := by
  refine (Put_any t p u v s vu w hv hs (node_inI hn hg) hvu).mono ?_
  rintro e w' ⟨hb, ⟨h, -⟩ | ⟨-, ⟨h, -⟩ | ⟨y, h, ⟨h1, rfl⟩ | ⟨h1, v', rfl, hv'⟩⟩⟩⟩
  · rw [hg, hu] at h; cases h
  · rw [hn] at h; cases h
  · exact ⟨hb, .inl ⟨h1, rfl⟩⟩
  · have hv2 : TrV w' (· < w'.heap.size) (putT t p u) v' := trV_mono (fun b (hb : Nw w w' b) => hb.2) (fun _ _ => rfl) _ hv'
    obtain ⟨sl, rfl, -, -, hs'⟩ := trV_iff.1 hv2
    obtain ⟨oa, cap, b', o', rfl, -, -, -, -⟩ := trS_at hs'
    exact ⟨hb, .inr ⟨h1, oa, cap, rfl, hv2⟩⟩
end Go.Proofs.Ytapdfdjknehhgaa
