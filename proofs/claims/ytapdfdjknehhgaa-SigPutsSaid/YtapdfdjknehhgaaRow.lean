/- Rows of trees that the function owns: they grow by append. -/
import Derived.Test.YtapdfdjknehhgaaRowP
import Derived.Test.YtapdfdjknehhgaaSn
import Derived.Maps.AppendAt
import Derived.Laws.AppendOwnNone
namespace Go.Proofs.Ytapdfdjknehhgaa
open Go.RowKit Go.Tr

/-- The values are the cells of the trees, one tree behind the other. -/
def ElP (w : World) (P : Nat → Prop) (l : List Tm) (xs : List Value) : Prop :=
  xs.length = l.length * 3 ∧ ∀ i (h : i < l.length), ∃ s, xs[i * 3]? = some (.int .i64 l[i].k) ∧ xs[i * 3 + 1]? = some (.int .i64 l[i].n) ∧ xs[i * 3 + 2]? = some s ∧ TrV w P l[i] (.agg #[.int .i64 l[i].k, .int .i64 l[i].n, s])
theorem elP_nil (w : World) (P : Nat → Prop) : ElP w P [] [] := ⟨rfl, fun i h => absurd h (by simp)⟩
theorem elP_one {w : World} {P : Nat → Prop} {t : Tm} {k n s : Value} (h : TrV w P t (.agg #[k, n, s])) : ElP w P [t] [k, n, s] := by
  obtain ⟨s', e, -, -, -⟩ := trV_iff.1 h
  simp only [Value.agg.injEq, Array.mk.injEq, List.cons.injEq, and_true] at e
  obtain ⟨rfl, rfl, rfl⟩ := e
  refine ⟨rfl, fun i hi => ?_⟩
  obtain rfl : i = 0 := by simpa using hi
  exact ⟨s, rfl, rfl, rfl, h⟩
theorem elP_append {w : World} {P : Nat → Prop} {l m : List Tm} {xs ys : List Value} (h : ElP w P l xs) (h' : ElP w P m ys) : ElP w P (l ++ m) (xs ++ ys) := by
  refine ⟨by rw [List.length_append, List.length_append, h.1, h'.1]; omega, fun i hi => ?_⟩
  rcases Nat.lt_or_ge i l.length with hl | hl
  · obtain ⟨s, a0, a1, a2, a3⟩ := h.2 i hl
    have hx := h.1
    rw [List.getElem_append_left hl]
    exact ⟨s, by rw [List.getElem?_append_left (by omega)]; exact a0, by rw [List.getElem?_append_left (by omega)]; exact a1, by rw [List.getElem?_append_left (by omega)]; exact a2, a3⟩
  · have hi' : i - l.length < m.length := by rw [List.length_append] at hi; omega
    obtain ⟨s, a0, a1, a2, a3⟩ := h'.2 (i - l.length) hi'
    have hx := h.1
    rw [List.getElem_append_right hl]
    have e0 : i * 3 - xs.length = (i - l.length) * 3 := by omega
    have e1 : i * 3 + 1 - xs.length = (i - l.length) * 3 + 1 := by omega
    have e2 : i * 3 + 2 - xs.length = (i - l.length) * 3 + 2 := by omega
    exact ⟨s, by rw [List.getElem?_append_right (by omega), e0]; exact a0, by rw [List.getElem?_append_right (by omega), e1]; exact a1, by rw [List.getElem?_append_right (by omega), e2]; exact a2, a3⟩
theorem elP_mono {w w' : World} {P Q : Nat → Prop} (hPQ : ∀ b, P b → Q b) (hw : ∀ b, P b → w'.heap[b]? = w.heap[b]?) {l : List Tm} {xs : List Value} (h : ElP w P l xs) : ElP w' Q l xs :=
  ⟨h.1, fun i hi => by
    obtain ⟨s, a0, a1, a2, a3⟩ := h.2 i hi
    exact ⟨s, a0, a1, a2, trV_mono hPQ hw _ a3⟩⟩
theorem elP_at {w : World} {P : Nat → Prop} {l : List Tm} {xs : List Value} (h : ElP w P l xs) {j : Nat} {u : Value} (hj : xs[j]? = some u) : ∃ i, ∃ h : i < l.length, ∃ s, (j = i * 3 ∧ u = .int .i64 l[i].k ∨ j = i * 3 + 1 ∧ u = .int .i64 l[i].n ∨ j = i * 3 + 2 ∧ u = s) ∧ xs[i * 3 + 2]? = some s ∧ TrV w P l[i] (.agg #[.int .i64 l[i].k, .int .i64 l[i].n, s]) := by
  have hlt : j < xs.length := (List.getElem?_eq_some_iff.1 hj).1
  have hx := h.1
  have hi : j / 3 < l.length := by omega
  obtain ⟨s, a0, a1, a2, a3⟩ := h.2 (j / 3) hi
  refine ⟨j / 3, hi, s, ?_, a2, a3⟩
  have h3 : j = j / 3 * 3 ∨ j = j / 3 * 3 + 1 ∨ j = j / 3 * 3 + 2 := by omega
  rcases h3 with h3 | h3 | h3
  · left; rw [← h3, hj] at a0; exact ⟨h3, Option.some.inj a0⟩
  · right; left; rw [← h3, hj] at a1; exact ⟨h3, Option.some.inj a1⟩
  · right; right; rw [← h3, hj] at a2; exact ⟨h3, Option.some.inj a2⟩
theorem elP_cell {w : World} {P : Nat → Prop} {l : List Tm} {xs : List Value} (h : ElP w P l xs) : ∀ u ∈ xs, u.oneCell' = true := by
  intro u hu
  obtain ⟨j, hj, rfl⟩ := List.mem_iff_getElem.1 hu
  obtain ⟨i, hi, s, hc, -, hv⟩ := elP_at h (List.getElem?_eq_getElem hj)
  obtain ⟨s', e, -, -, oa, cap, b, o, rfl, -⟩ := trV_iff.1 hv
  simp only [Value.agg.injEq, Array.mk.injEq, List.cons.injEq, and_true] at e
  obtain ⟨-, -, rfl⟩ := e
  rcases hc with ⟨-, e⟩ | ⟨-, e⟩ | ⟨-, e⟩ <;> rw [e] <;> rfl
/-- The cells of a slice of trees. -/
theorem elP_of {w : World} {P : Nat → Prop} {l : List Tm} {ad : Addr} {n c : Nat} (h : TrS w P l (.slice (some ad) n c)) : n = l.length ∧ ∃ news, ElP w P l news ∧ ∀ j u, news[j]? = some u → w.cell? (ad.add j) = some u := by
  obtain ⟨oa, cap, b, o, e, h1, h2, h3, h4⟩ := trS_at h
  simp only [Value.slice.injEq] at e
  obtain ⟨rfl, rfl, rfl⟩ := e
  refine ⟨rfl, ?_⟩
  by_cases hl : l = []
  · subst hl
    exact ⟨[], elP_nil w P, fun j u hu => by simp at hu⟩
  · obtain ⟨e, hP⟩ := h3 (List.length_pos_iff.2 hl)
    obtain rfl := Option.some.inj e
    have all : ∀ i, i < l.length * 3 → ∃ u, w.cell? ⟨b, o + i, none⟩ = some u := by
      intro i hi
      obtain ⟨oa', cap', c0, c1, c2, -⟩ := h4 (i / 3) (by omega)
      have h3 : i = i / 3 * 3 ∨ i = i / 3 * 3 + 1 ∨ i = i / 3 * 3 + 2 := by omega
      rcases h3 with h3 | h3 | h3
      · exact ⟨_, by rw [h3]; exact c0⟩
      · exact ⟨_, by rw [h3, ← Nat.add_assoc]; exact c1⟩
      · exact ⟨_, by rw [h3, ← Nat.add_assoc]; exact c2⟩
    have get : ∀ j, j < l.length * 3 → ((List.range (l.length * 3)).map fun i => (w.cell? ⟨b, o + i, none⟩).getD default)[j]? = w.cell? ⟨b, o + j, none⟩ := by
      intro j hj
      obtain ⟨u, hu⟩ := all j hj
      rw [List.getElem?_map, List.getElem?_range hj, hu]
      simp [hu]
    refine ⟨(List.range (l.length * 3)).map fun i => (w.cell? ⟨b, o + i, none⟩).getD default, ⟨by simp, fun i hi => ?_⟩, fun j u hu => ?_⟩
    · obtain ⟨oa', cap', c0, c1, c2, hv⟩ := h4 i hi
      exact ⟨_, by rw [get _ (by omega)]; exact c0, by rw [get _ (by omega), ← Nat.add_assoc]; exact c1, by rw [get _ (by omega), ← Nat.add_assoc]; exact c2, hv⟩
    · have hj : j < l.length * 3 := by have := (List.getElem?_eq_some_iff.1 hu).1; simpa using this
      rw [get j hj] at hu
      have e : (⟨b, o, none⟩ : Addr).add j = ⟨b, o + j, none⟩ := by
        unfold Addr.add
        by_cases h0 : j = 0
        · subst h0; rfl
        · rw [if_neg h0]
      rw [e]; exact hu

/-- A row of trees in memory of the function's own, behind B; the trees lie elsewhere. -/
def OwnT (w : World) (B : Nat) (v : Value) (l : List Tm) : Prop :=
  ∃ xs, w.ownsRow B 24 3 v l.length xs ∧ ElP w (fun b => b < w.heap.size ∧ v.ownBlock ≠ some b) l xs
theorem ownT_nil (w : World) (B : Nat) : OwnT w B (.slice none 0 0) [] := ⟨[], World.ownsRow_nil w B _ 3, elP_nil _ _⟩
theorem owns_lt3 {w : World} {base n : Nat} {e : TypeId} {v : Value} {xs : List Value} (h : w.ownsRow base e 3 v n xs) {g : Nat} (hg : v.ownBlock = some g) : g < w.heap.size ∧ base ≤ g := by
  rcases h.2 with ⟨h1, h2⟩ | ⟨g', cap, cur, hv, hb, hh, -⟩
  · rw [h1] at hg; cases hg
  · rw [hv] at hg
    have : g' = g := Option.some.inj hg
    subst this
    exact ⟨block_lt hh, hb⟩
theorem ownT_up {w w' : World} {B : Nat} {v : Value} {l : List Tm} (hb : Below w.heap.size w w') (h : OwnT w B v l) : OwnT w' B v l := by
  obtain ⟨xs, h1, h2⟩ := h
  refine ⟨xs, ⟨h1.1, ?_⟩, elP_mono (fun b hb' => ⟨Nat.lt_of_lt_of_le hb'.1 hb.size, hb'.2⟩) (fun b hb' => hb.block b hb'.1) h2⟩
  rcases h1.2 with hn | ⟨g, cap, cur, hv, hbb, hh, r⟩
  · exact .inl hn
  · exact .inr ⟨g, cap, cur, hv, hbb, (hb.block g (block_lt hh)).trans hh, r⟩
theorem ownT_one {w : World} {B : Nat} {t : Tm} {k n s : Value} (hB : B ≤ w.heap.size) (h : TrV w (· < w.heap.size) t (.agg #[k, n, s])) : OwnT (w.alloc (.cells #[k, n, s] 24)) B (.slice (some ⟨w.heap.size, 0, none⟩) 1 1) [t] := by
  refine ⟨[k, n, s], ⟨rfl, .inr ⟨w.heap.size, 1, #[k, n, s], rfl, hB, heap_alloc_new w _, Nat.le_refl _, by unfold maxLen; omega, rfl, rfl⟩⟩, ?_⟩
  refine elP_one (trV_mono (fun b hb => ⟨by rw [alloc_size]; omega, fun e => ?_⟩) (fun b hb => (below_alloc w _).block b hb) t h)
  have : w.heap.size = b := Option.some.inj e
  omega
theorem ownT_trS {w : World} {B : Nat} {v : Value} {l : List Tm} (h : OwnT w B v l) : TrS w (· < w.heap.size) l v := by
  obtain ⟨xs, h1, h2⟩ := h
  rcases h1.2 with ⟨rfl, h0⟩ | ⟨g, cap, cur, rfl, hbb, hh, hn, hm, hs, ht⟩
  · obtain rfl := List.eq_nil_of_length_eq_zero h0
    exact ⟨none, 0, 0, 0, rfl, Nat.le_refl _, by decide, fun h => absurd rfl h, trivial⟩
  · refine ⟨some ⟨g, 0, none⟩, cap, g, 0, rfl, hn, by unfold maxLen at hm; omega, fun _ => ⟨rfl, block_lt hh⟩, trC_iff.2 fun i hi => ?_⟩
    obtain ⟨s, a0, a1, a2, a3⟩ := h2.2 i hi
    have at_ : ∀ j u, xs[j]? = some u → w.cell? ⟨g, j, none⟩ = some u := by
      intro j u hu
      have hlt := (List.getElem?_eq_some_iff.1 hu).1
      rw [(cells_of hh j).1]
      rw [← ht] at hu
      rw [List.getElem?_take] at hu
      split at hu
      · simpa using hu
      · cases hu
    exact ⟨s, by rw [Nat.zero_add]; exact at_ _ _ a0, by rw [Nat.zero_add]; exact at_ _ _ a1, by rw [Nat.zero_add]; exact at_ _ _ a2, trV_mono (fun b hb => hb.1) (fun _ _ => rfl) _ a3⟩
theorem below_grown {B : Nat} {w0 w w' : World} {row : Option Nat} (h : Below B w0 w) (hB : B ≤ w0.heap.size) (hg : w.grownBy w' row) (hr : ∀ g, row = some g → B ≤ g) : Below B w0 w' :=
  ⟨hg.os.trans h.os, hg.tape.trans h.tape, hg.output.trans h.output, Nat.le_trans h.size hg.size, fun k hk => (hg.block k (Nat.lt_of_lt_of_le hk (Nat.le_trans hB h.size)) (fun e => by have := hr k e.symm; omega)).trans (h.block k hk)⟩
theorem ownT_base {w : World} {B : Nat} {v : Value} {l : List Tm} (h : OwnT w B v l) : ∀ g, v.ownBlock = some g → B ≤ g := by
  obtain ⟨xs, h1, -⟩ := h
  exact fun g hg => (owns_lt3 h1 hg).2
theorem ownT_len {w : World} {B : Nat} {v : Value} {l : List Tm} (h : OwnT w B v l) : ∃ oa cap, v = .slice oa l.length cap := by
  obtain ⟨oa, cap, b, o, e, -⟩ := ownT_trS h
  exact ⟨oa, cap, e⟩
/-- append(row, list...), where the trees of the list lie neither in the row nor behind the heap's end. -/
theorem app_trees {ops : Array Oper} {rest : List Oper} {o : Oper} {a : Act} {Q : Exit → Act → World → Prop} {w : World} (hgd : o.guard = none) (s x : Operand)
    (ho : o.op = .call { callee := .builtin .append, args := #[s, x], argTypes := #[22, 22] }) {B : Nat} {l m : List Tm} {v sv : Value} {P : Nat → Prop}
    (hs : a.eval s = v) (hx : a.eval x = sv) (hown : OwnT w B v l) (hB : B ≤ w.heap.size) (hS : TrS w P m sv) (hP : ∀ b, P b → b < w.heap.size ∧ v.ownBlock ≠ some b) (hnil : sv = .slice none 0 0 ∨ ∃ ad n c, sv = .slice (some ad) n c) (hb : l.length + m.length ≤ 1000000000)
    (h : ∀ v' w', OwnT w' B v' (l ++ m) → w.grownBy w' v.ownBlock → wpList Try.prog ops Q rest (a.put o.dst v') w') : wpList Try.prog ops Q (o :: rest) a w := by
  have hi := infoTm
  cases hinf : Try.prog.info? 24 with
  | none => rw [hinf] at hi; simp at hi
  | some i =>
    rw [hinf] at hi
    simp only [Option.map_some, Option.some.injEq, Prod.mk.injEq] at hi
    obtain ⟨hz, hsize, hby⟩ := hi
    obtain ⟨xs, h1, h2⟩ := hown
    rcases hnil with rfl | ⟨ad, n, c, rfl⟩
    · have hm : m = [] := by
        obtain ⟨oa, cap, b, o', e, -⟩ := hS
        simp only [Value.slice.injEq] at e
        exact List.eq_nil_of_length_eq_zero e.2.1.symm
      subst hm
      refine wpList_append_own_none hgd s x 22 ho B 24 i 3 Try.underlying22 hinf v l.length xs hs h1 hx (h v w ?_ ⟨rfl, rfl, rfl, Nat.le_refl _, fun _ _ _ => rfl⟩)
      rw [List.append_nil]
      exact ⟨xs, h1, h2⟩
    · obtain ⟨rfl, news, he, hc⟩ := elP_of hS
      refine wpList_append_own_at w hgd s x 22 ho B 24 i (.agg #[.int .i64 0, .int .i64 0, .slice none 0 0]) 3 40 Try.underlying22 hinf hz hsize hby rfl (by decide) v l.length xs hs h1 ad m.length c news hx he.1 hc (elP_cell he) (by unfold maxLen; omega) (by omega) hB ?_
      intro v' w' g1 g2 _ g4
      refine h v' w' ⟨xs ++ news, by rw [List.length_append]; exact g1, ?_⟩ g2
      have hfar : ∀ b, b < w.heap.size → v.ownBlock ≠ some b → b < w'.heap.size ∧ v'.ownBlock ≠ some b := by
        intro b hb hne
        refine ⟨Nat.lt_of_lt_of_le hb g2.size, ?_⟩
        rcases g4 with g4 | g4 <;> rw [g4]
        · exact hne
        · intro e; have : w.heap.size = b := Option.some.inj e; omega
      exact elP_append (elP_mono (fun b hb => hfar b hb.1 hb.2) (fun b hb => g2.block b hb.1 (fun e => hb.2 e.symm)) h2) (elP_mono (fun b hb => hfar b (hP b hb).1 (hP b hb).2) (fun b hb => g2.block b (hP b hb).1 (fun e => (hP b hb).2 e.symm)) he)
end Go.Proofs.Ytapdfdjknehhgaa
