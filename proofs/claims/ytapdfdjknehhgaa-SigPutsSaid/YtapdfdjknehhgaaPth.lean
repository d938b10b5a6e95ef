/- Merged: Pth1, Pth2, Pth3. -/
import Derived.Test.YtapdfdjknehhgaaSgB
import Derived.Deep.RegionLawGrows
import Derived.Deep.AppendLies
import Derived.Test.YtapdfdjknehhgaaTx

/- The closure of Paths. -/
namespace Go.Proofs.Ytapdfdjknehhgaa
open Go.RowKit Go.Tr

theorem infoSl : (Try.prog.info? 32).map (fun i => (i.zero, i.size, i.bytes)) = some (some (.slice none 0 0), 1, 24) := by kernel_rfl
theorem pathsL_cons (t : Tm) (r : List Tm) (p : List Int) (i : Nat) : pathsL (t :: r) p i = pathsT t (p ++ [(i : Int)]) ++ pathsL r p (i + 1) := rfl
/-- The rows of a list of places. -/
def RowsP (w : World) (P : Nat → Prop) (acc : List (List Int)) (vs : List Value) : Prop := vs.length = acc.length ∧ ∀ i (h : i < acc.length), ∃ s, vs[i]? = some s ∧ IntS w P acc[i] s
theorem rowsP_mono {w w' : World} {P Q : Nat → Prop} (hPQ : ∀ b, P b → Q b) (hw : ∀ b, P b → w'.heap[b]? = w.heap[b]?) {acc : List (List Int)} {vs : List Value} (h : RowsP w P acc vs) : RowsP w' Q acc vs := by
  refine ⟨h.1, fun i hi => ?_⟩
  obtain ⟨s, h1, h2⟩ := h.2 i hi
  exact ⟨s, h1, intS_mono hPQ hw h2⟩
theorem rowsP_snoc {w : World} {P : Nat → Prop} {acc : List (List Int)} {vs : List Value} (h : RowsP w P acc vs) {p : List Int} {s : Value} (hp : IntS w P p s) : RowsP w P (acc ++ [p]) (vs ++ [s]) := by
  refine ⟨by simp [h.1], fun i hi => ?_⟩
  by_cases hlt : i < acc.length
  · obtain ⟨s', h1, h2⟩ := h.2 i hlt
    refine ⟨s', by rw [List.getElem?_append_left (by rw [h.1]; exact hlt)]; exact h1, ?_⟩
    rw [List.getElem_append_left hlt]; exact h2
  · have he : i = acc.length := by simp at hi; omega
    subst he
    exact ⟨s, by rw [← h.1]; simp, by simpa using hp⟩
/-- What the closure of Paths has in memory. -/
structure PthI (pa pv : Nat) (acc : List (List Int)) (w : World) (Q : Nat → Prop) : Prop where
  hf : w.heap[pv]? = some (.cells #[.func (.func 74) #[] #[.pointer (some ⟨pa, 0, none⟩), .pointer (some ⟨pv, 0, none⟩)]] 102)
  hv : ∃ (v : Value) (vs : List Value), w.heap[pa]? = some (.cells #[v] 45) ∧ w.ownsRow 0 32 1 v acc.length vs ∧ (∀ g, v.ownBlock = some g → ¬ Q g ∧ g ≠ pa ∧ g ≠ pv) ∧ RowsP w (fun b => b < w.heap.size ∧ b ≠ pa ∧ v.ownBlock ≠ some b) acc vs
  d : pa ≠ pv
  na : ¬ Q pa
  lt : ∀ b, Q b → b < w.heap.size
theorem pthI_grow {pa pv : Nat} {acc : List (List Int)} {w w' : World} {Q Q' : Nat → Prop} (h : PthI pa pv acc w Q) (hb : Below w.heap.size w w') (hq : ∀ b, Q' b → Q b ∨ (w.heap.size ≤ b ∧ b < w'.heap.size)) : PthI pa pv acc w' Q' := by
  obtain ⟨v, vs, v1, v2, v3, v4⟩ := h.hv
  have no : ∀ b, b < w.heap.size → ¬ Q b → ¬ Q' b := fun b l n h' => by
    rcases hq b h' with h1 | h1
    · exact n h1
    · omega
  refine ⟨(hb.block pv (block_lt h.hf)).trans h.hf, ⟨v, vs, (hb.block pa (block_lt v1)).trans v1, owns_block v2 (fun g hg => hb.block g (owns_lt v2 hg)), fun g hg => ⟨no g (owns_lt v2 hg) (v3 g hg).1, (v3 g hg).2⟩, rowsP_mono (fun b hb' => ⟨Nat.lt_of_lt_of_le hb'.1 hb.size, hb'.2⟩) (fun b hb' => hb.block b hb'.1) v4⟩, h.d, no _ (block_lt v1) h.na, fun b hb' => ?_⟩
  rcases hq b hb' with h1 | h1
  · have := h.lt b h1; have := hb.size; omega
  · exact h1.2
theorem pthI_weak {pa pv : Nat} {acc : List (List Int)} {w : World} {Q Q' : Nat → Prop} (h : PthI pa pv acc w Q) (hq : ∀ b, Q' b → Q b) : PthI pa pv acc w Q' := by
  obtain ⟨v, vs, v1, v2, v3, v4⟩ := h.hv
  exact ⟨h.hf, ⟨v, vs, v1, v2, fun g hg => ⟨fun h' => (v3 g hg).1 (hq g h'), (v3 g hg).2⟩, v4⟩, h.d, fun h' => h.na (hq _ h'), fun b hb => h.lt b (hq b hb)⟩
def PthP (pa pv : Nat) (acc : List (List Int)) (w : World) (Q : Nat → Prop) (e : Ending) (w' : World) : Prop := e = .returned (.tuple #[]) ∧ PthI pa pv acc w' Q ∧ Kp Q w w'
theorem paths1_push {pa pv : Nat} {acc : List (List Int)} {p : List Int} {w : World} {Q : Nat → Prop} {v vat : Value} {vs : List Value} {g cap : Nat} {w1 w2 : World}
    (h : PthI pa pv acc w Q) (hp : IntS w Q p vat) (v1 : w.heap[pa]? = some (.cells #[v] 45)) (_ : w.ownsRow 0 32 1 v acc.length vs) (v3 : ∀ g, v.ownBlock = some g → ¬ Q g ∧ g ≠ pa ∧ g ≠ pv) (v4 : RowsP w (fun b => b < w.heap.size ∧ b ≠ pa ∧ v.ownBlock ≠ some b) acc vs)
    (hb : Below w.heap.size w w1) (hown : w2.ownsRow 0 32 1 (.slice (some ⟨g, 0, none⟩) (acc.length + 1) cap) (acc.length + 1) (vs ++ [vat])) (hgr : w1.grownBy w2 v.ownBlock) (hat : v.ownBlock = some g ∨ w.heap.size ≤ g) (_ : g < w2.heap.size) :
    PthI pa pv (acc ++ [p]) (w2.setCell ⟨pa, 0, none⟩ (.slice (some ⟨g, 0, none⟩) (acc.length + 1) cap)) Q ∧ Kp Q w (w2.setCell ⟨pa, 0, none⟩ (.slice (some ⟨g, 0, none⟩) (acc.length + 1) cap)) := by
  have lpa := block_lt v1
  have lpv := block_lt h.hf
  have npa : v.ownBlock ≠ some pa := fun e => (v3 _ e).2.1 rfl
  have npv : v.ownBlock ≠ some pv := fun e => (v3 _ e).2.2 rfl
  have hgpa : g ≠ pa := by rcases hat with h' | h'; exact (v3 _ h').2.1; omega
  have hgpv : g ≠ pv := by rcases hat with h' | h'; exact (v3 _ h').2.2; omega
  have hgq : ¬ Q g := by
    rcases hat with h' | h'
    · exact (v3 _ h').1
    · intro hq; have := h.lt g hq; omega
  have stepB : ∀ b, b < w.heap.size → v.ownBlock ≠ some b → b ≠ pa → (w2.setCell ⟨pa, 0, none⟩ (.slice (some ⟨g, 0, none⟩) (acc.length + 1) cap)).heap[b]? = w.heap[b]? := by
    intro b h1 h2 h3
    rw [Below.heap_setCell _ _ _ _ h3, hgr.block b (Nat.lt_of_lt_of_le h1 hb.size) (fun e => h2 e.symm), hb.block b h1]
  have hsz : w.heap.size ≤ (w2.setCell ⟨pa, 0, none⟩ (.slice (some ⟨g, 0, none⟩) (acc.length + 1) cap)).heap.size := by
    have := hb.size; have := hgr.size; simp [World.setCell]; omega
  have hob : (Value.slice (some ⟨g, 0, none⟩) (acc.length + 1) cap).ownBlock = some g := rfl
  have keep : ∀ b, b < w.heap.size ∧ b ≠ pa ∧ v.ownBlock ≠ some b → b < (w2.setCell ⟨pa, 0, none⟩ (.slice (some ⟨g, 0, none⟩) (acc.length + 1) cap)).heap.size ∧ b ≠ pa ∧ (Value.slice (some ⟨g, 0, none⟩) (acc.length + 1) cap).ownBlock ≠ some b := by
    intro b hb'
    refine ⟨Nat.lt_of_lt_of_le hb'.1 hsz, hb'.2.1, fun e => ?_⟩
    rw [hob] at e
    have e' := Option.some.inj e
    rcases hat with h' | h'
    · rw [e'] at h'; exact hb'.2.2 h'
    · omega
  refine ⟨⟨?_, ⟨.slice (some ⟨g, 0, none⟩) (acc.length + 1) cap, vs ++ [vat], ?_, ?_, ?_, ?_⟩, h.d, h.na, fun b hq => Nat.lt_of_lt_of_le (h.lt b hq) hsz⟩, ?_⟩
  · rw [stepB pv lpv npv (fun e => h.d e.symm)]; exact h.hf
  · have h1 : w2.heap[pa]? = some (.cells #[v] 45) := (hgr.block pa (Nat.lt_of_lt_of_le lpa hb.size) (fun e => npa e.symm)).trans ((hb.block pa lpa).trans v1)
    exact one_setCell h1
  · rw [List.length_append, List.length_singleton]
    exact owns_block hown (fun g' hg' => by
      have : g' = g := by rw [hob] at hg'; exact (Option.some.inj hg').symm
      rw [this]; exact Below.heap_setCell _ _ _ _ hgpa)
  · intro g' hg'
    have : g' = g := by rw [hob] at hg'; exact (Option.some.inj hg').symm
    rw [this]; exact ⟨hgq, hgpa, hgpv⟩
  · refine rowsP_snoc (rowsP_mono keep (fun b hb' => stepB b hb'.1 hb'.2.2 hb'.2.1) v4) (intS_mono (fun b hq => keep b ⟨h.lt b hq, fun e => h.na (e ▸ hq), fun e => (v3 b e).1 hq⟩) (fun b hq => stepB b (h.lt b hq) (fun e => (v3 b e).1 hq) (fun e => h.na (e ▸ hq))) hp)
  · exact ⟨hgr.os.trans hb.os, hgr.tape.trans hb.tape, hgr.output.trans hb.output, hsz, fun b hq => stepB b (h.lt b hq) (fun e => (v3 b e).1 hq) (fun e => h.na (e ▸ hq))⟩
end Go.Proofs.Ytapdfdjknehhgaa

/- The closure of Paths: the walk. -/
namespace Go.Proofs.Ytapdfdjknehhgaa
open Go.RowKit Go.Tr

theorem intS_cells {w : World} {P : Nat → Prop} {l : List Int} {oa : Option Addr} {n c : Nat} (h : IntS w P l (.slice oa n c)) : ∀ b, oa = some b → ∀ j u, (l.map (Value.int .i64))[j]? = some u → w.cell? (b.add j) = some u := by
  intro b hb j u hu
  rw [List.getElem?_map] at hu
  obtain ⟨y, hy, rfl⟩ := Option.map_eq_some_iff.1 hu
  obtain ⟨hj, hy⟩ := List.getElem?_eq_some_iff.1 hy
  obtain ⟨-, b', o', he, -, hc⟩ := intS_at h hj
  rw [hb] at he
  obtain rfl := Option.some.inj he
  rw [add_at rfl, hc, hy]
theorem pathsL_len_of : ∀ (l : List Tm), (∀ x ∈ l, ∀ p, (pathsT x p).length = sz x) → ∀ p i, (pathsL l p i).length = szL l
  | [], _, _, _ => rfl
  | t :: r, h, p, i => by
    rw [pathsL_cons, List.length_append, h t (by simp), pathsL_len_of r (fun x hx => h x (by simp [hx]))]; rfl
theorem pathsT_len (t : Tm) : ∀ p, (pathsT t p).length = sz t := by
  induction t using Tm.ind with
  | h k n l ih =>
    intro p
    rw [pathsT_t, List.length_cons, sz]
    show (pathsL l p 0).length + 1 = 1 + szL l
    rw [pathsL_len_of l ih]; omega
theorem ownsRow_some {w : World} {base size n : Nat} {e : TypeId} {v : Value} {xs : List Value} (h : w.ownsRow base e size v n xs) (hn : 0 < n) : ∃ g cap, v = .slice (some ⟨g, 0, none⟩) n cap := by
  rcases h.2 with ⟨_, h0⟩ | ⟨g, cap, _, hv, _⟩
  · omega
  · exact ⟨g, cap, hv⟩
theorem ownsRow_base {w : World} {base n size : Nat} {e : TypeId} {v : Value} {xs : List Value} (h : w.ownsRow base e size v n xs) : w.ownsRow 0 e size v n xs ∧ ∀ g, v.ownBlock = some g → base ≤ g := by
  refine ⟨⟨h.1, h.2.imp id (fun ⟨g, cap, cur, a, _, c⟩ => ⟨g, cap, cur, a, Nat.zero_le _, c⟩)⟩, fun g hg => ?_⟩
  rcases h.2 with ⟨h1, h2⟩ | ⟨g', cap, cur, hv, hb, -⟩
  · rw [h1] at hg; cases hg
  · rw [hv] at hg
    have : g' = g := Option.some.inj hg
    omega
set_option maxRecDepth 100000 in
set_option maxHeartbeats 800000 in
theorem paths1_n (pa pv : Nat) (N : Nat) : ∀ t, sz t ≤ N → ∀ p vt vat w Q acc, TrV w Q t vt → IntS w Q p vat → PthI pa pv acc w Q → acc.length + sz t ≤ 1000000000 → p.length + dp t ≤ 1000000000 → (vat = .slice none 0 0 ∨ ∃ a n c, vat = .slice (some a) n c) →
    Calls Try.prog 74 #[vt, vat, .pointer (some ⟨pa, 0, none⟩), .pointer (some ⟨pv, 0, none⟩)] w fun e w' => PthP pa pv (acc ++ pathsT t p) w Q e w' := by
  induction N with
  | zero => intro t ht; have := sz_pos t; omega
  | succ N ih =>
    intro t ht p vt vat w Q acc hvt hp hI hal hpl hform
    obtain ⟨sl, rfl, hk1, hk2, hsl⟩ := trV_iff.1 hvt
    obtain ⟨oc, cc, bc, pc, rfl, hlc, hmc, htl, htel⟩ := trS_at hsl
    obtain ⟨od, cd, bd, pd, rfl, hld, hmd, hvl, hvel⟩ := id hp
    have hnone : od = none → p.length = 0 ∧ cd = 0 := by
      intro h
      rcases hform with h1 | ⟨a, n, c, h1⟩
      · simp only [Value.slice.injEq] at h1; exact ⟨h1.2.1, h1.2.2⟩
      · simp only [Value.slice.injEq] at h1; rw [h1.1] at h; cases h
    have HN := Lib.hid hnone
    clear hnone hform
    obtain ⟨i0, hi0, hz0, hz1, hz2⟩ := info_parts infoSl
    obtain ⟨i3, hi3, hy0, hy1, hy2⟩ := info_parts infoInt
    have hb1 := below_alloc w (.cells #[.int .i64 t.k, .int .i64 t.n, .slice oc t.l.length cc] 24)
    have hq1 := heap_alloc_new w (.cells #[.int .i64 t.k, .int .i64 t.n, .slice oc t.l.length cc] 24)
    have hI1 : PthI pa pv acc (w.alloc (.cells #[.int .i64 t.k, .int .i64 t.n, .slice oc t.l.length cc] 24)) (fun b => Q b ∨ b = w.heap.size) := pthI_grow hI hb1 (fun b hb => by rcases hb with h | h; exact .inl h; right; simp; omega)
    have hp1 : IntS (w.alloc (.cells #[.int .i64 t.k, .int .i64 t.n, .slice oc t.l.length cc] 24)) (fun b => Q b ∨ b = w.heap.size) p (.slice od p.length cd) := intS_mono (fun b hb => .inl hb) (fun b hb => hb1.block b (hI.lt b hb)) hp
    obtain ⟨v, vs, v1, v2, v3, v4⟩ := hI1.hv
    obtain ⟨va, vc, rfl⟩ := owns_slice v2
    have lpa := block_lt v1
    have cv : (w.alloc (.cells #[.int .i64 t.k, .int .i64 t.n, .slice oc t.l.length cc] 24)).cell? ⟨pa, 0, none⟩ = some (.slice va acc.length vc) := cell_of_one v1
    have lpw : pa < w.heap.size := by have h := hI.hv; obtain ⟨v', vs', h1, -⟩ := h; exact block_lt h1
    have HH := Lib.hid (And.intro hI (And.intro hp (And.intro v1 (And.intro v2 (And.intro v3 (And.intro v4 (And.intro hb1 (And.intro hq1 (And.intro htl (And.intro htel (And.intro hvt (And.intro ih (And.intro ht (And.intro hI1 hp1))))))))))))))
    have hbnd : acc.length + 1 ≤ 1000000000 := by have := sz_pos t; omega
    have HB := Lib.hid (And.intro hal hpl)
    clear hI hp v1 v2 v3 v4 hb1 hq1 htl htel hvt ih ht hsl hvl hvel hal hpl hI1 hp1
    go_enter Try.func74, Try.ntmps74
    go_wp2_with (at_builtin; refine wpList_append_lies _ rfl _ _ 45 rfl 0 32 i0 (.slice none 0 0) 1 24 Try.underlying45 hi0 hz0 hz1 hz2 rfl (by decide) _ _ vs rfl (HH.out.2.2.2.1.alloc _) ⟨w.heap.size + 1, 0, none⟩ 1 1 [.slice od p.length cd] rfl rfl (World.news_of_block (cs := #[.slice od p.length cd]) (t := 32) (fr := (0, 0)) (by (simp only [heap_alloc, alloc_size]; repeat (first | rw [if_pos trivial] | rw [if_pos (by omega)] | rw [if_neg (by omega)])))) (by intro u hu; rw [List.mem_singleton.1 hu]; rfl) (by omega) (by unfold maxLen; omega) (by omega) (by omega) (w.heap.size + 1 + 1) (by simp) ?_)
    intro g cap' w3 hown3 hgrow hat hlt3
    have hpush := paths1_push HH.out.2.2.2.2.2.2.2.2.2.2.2.2.2.1 HH.out.2.2.2.2.2.2.2.2.2.2.2.2.2.2 HH.out.2.2.1 HH.out.2.2.2.1 HH.out.2.2.2.2.1 HH.out.2.2.2.2.2.1 (below_alloc _ (.cells #[.slice od p.length cd] 32)) hown3 hgrow (by rcases hat with h | h; exact .inl h; right; simp; omega) hlt3
    have hpa3 : w3.heap[pa]? = some (.cells #[.slice va acc.length vc] 45) := (hgrow.block pa (by simp; omega) (fun e => (HH.out.2.2.2.2.1 pa e.symm).2.1 rfl)).trans (((below_alloc _ _).block pa lpa).trans HH.out.2.2.1)
    have c3 := cell_of_one hpa3
    have f3 := free_of_one hpa3
    have hkp : Kp Q w (w3.setCell ⟨pa, 0, none⟩ (.slice (some ⟨g, 0, none⟩) (acc.length + 1) cap')) := (kp_alloc HH.out.1.lt _).trans (hpush.2.mono (fun b hb => .inl hb))
    have hbox : (w3.setCell ⟨pa, 0, none⟩ (.slice (some ⟨g, 0, none⟩) (acc.length + 1) cap')).heap[w.heap.size]? = some (.cells #[.int .i64 t.k, .int .i64 t.n, .slice oc t.l.length cc] 24) := (hpush.2.block _ (.inr rfl)).trans HH.out.2.2.2.2.2.2.2.1
    have d2 := (cells_of hbox 2).1
    simp only [List.getElem?_toArray, List.getElem?_cons_zero, List.getElem?_cons_succ] at d2
    have HP := Lib.hid (And.intro hpush.1 (And.intro hkp hbox))
    clear hpush hpa3 hkp hbox hown3 hgrow hat hlt3
    go_wp2_with fail
    generalize hw4 : w3.setCell ⟨pa, 0, none⟩ (.slice (some ⟨g, 0, none⟩) (acc.length + 1) cap') = w4 at *
    clear hw4
    go_loopw [15] (fun i wr => ∃ (j : Nat) (ac : List (List Int)), j ≤ t.l.length ∧ i = .int .i64 j ∧ Hid (acc ++ pathsT t p = ac ++ pathsL (t.l.drop j) p j ∧ ac.length + szL (t.l.drop j) ≤ 1000000000 ∧ PthI pa pv ac wr (fun b => Q b ∨ b = w.heap.size) ∧ Kp Q w wr ∧ wr.heap[w.heap.size]? = some (.cells #[.int .i64 t.k, .int .i64 t.n, .slice oc t.l.length cc] 24))) (fun i _ => t.l.length - (intOf i).toNat)
    case atStart => exact ⟨0, acc ++ [p], by omega, rfl, by rw [pathsT_t, List.append_assoc]; rfl, by have := HB.out.1; rw [sz_l] at this; simp; omega, HP.out⟩
    case round =>
      obtain ⟨j, ac, hj, rfl, HI⟩ := hrel
      by_cases hlt : j < t.l.length
      · obtain ⟨rfl, hQb⟩ := HH.out.2.2.2.2.2.2.2.2.1 (by omega)
        obtain ⟨oa2, cap2, e0, e1, e2, e3⟩ := HH.out.2.2.2.2.2.2.2.2.2.1 j hlt
        have hbl := HI.out.2.2.2.1.block bc hQb
        have d0 := (World.cell?_of_block (w := w) (a := ⟨bc, pc + j * 3, none⟩) hbl).trans e0
        have d1 := (World.cell?_of_block (w := w) (a := ⟨bc, pc + j * 3 + 1, none⟩) hbl).trans e1
        have d2 := (World.cell?_of_block (w := w) (a := ⟨bc, pc + j * 3 + 2, none⟩) hbl).trans e2
        have i0' : (0 : Int) ≤ (j : Int) := Int.natCast_nonneg _
        have i1 : (j : Int) < (t.l.length : Int) := by omega
        have hdr : acc ++ pathsT t p = (ac ++ pathsT t.l[j] (p ++ [(j : Int)])) ++ pathsL (t.l.drop (j + 1)) p (j + 1) := by
          rw [HI.out.1, List.drop_eq_getElem_cons hlt, pathsL_cons, List.append_assoc]
        have hszd : ac.length + sz t.l[j] + szL (t.l.drop (j + 1)) ≤ 1000000000 := by
          have h := HI.out.2.1
          rw [List.drop_eq_getElem_cons hlt] at h
          simp only [szL] at h
          omega
        have hkd := sz_mem (List.getElem_mem hlt)
        have hdp := dp_mem (List.getElem_mem hlt)
        have hkl := dp_l t
        have hks := sz_l t
        have hwr : w.heap.size < wr.heap.size := block_lt HI.out.2.2.2.2
        have hfv := HI.out.2.2.1.hf
        have hpvl := block_lt hfv
        have cf : wr.cell? ⟨pv, 0, none⟩ = _ := cell_of_one hfv
        have hpl8 : p.length + 1 ≤ 1000000000 := by have := HB.out.2; have := dp_pos t; omega
        have HD := Lib.hid (And.intro hdr (And.intro hszd (And.intro hkd (And.intro hdp (And.intro hkl (And.intro hks (And.intro e3 hfv)))))))
        clear hdr hszd hkd hdp hkl hks e0 e1 e2 e3 hbl hfv
        obtain ⟨oo, hoo⟩ : ∃ o : Obj, o = .cells #[.int .i64 t.l[j].k, .int .i64 t.l[j].n, .slice oa2 t.l[j].l.length cap2] 24 := ⟨_, rfl⟩
        have hI2 : PthI pa pv ac (wr.alloc oo) (fun b => (Q b ∨ b = w.heap.size) ∨ b = wr.heap.size) := pthI_grow HI.out.2.2.1 (below_alloc wr oo) (fun b hb => by rcases hb with h | h; exact .inl h; right; simp; omega)
        have hkw : Kp (fun b => Q b ∨ b = w.heap.size) wr (wr.alloc oo) := kp_alloc HI.out.2.2.1.lt oo
        have hq2 := heap_alloc_new wr oo
        have hpw : ∀ W, Below (wr.alloc oo).heap.size (wr.alloc oo) W → IntS W (fun b => Q b) p (.slice od p.length cd) := by
          intro W hW
          refine intS_mono (fun _ h => h) (fun b hb => ?_) HH.out.2.1
          rw [hW.block b (by have := HI.out.2.2.1.lt b (.inl hb); simp; omega), (below_alloc wr oo).block b (HI.out.2.2.1.lt b (.inl hb)), HI.out.2.2.2.1.block b hb]
        have hS : ∀ W, Below (wr.alloc oo).heap.size (wr.alloc oo) W → W.cell? ⟨pv, 0, none⟩ = some (.func (.func 74) #[] #[.pointer (some ⟨pa, 0, none⟩), .pointer (some ⟨pv, 0, none⟩)]) ∧ W.cell? ⟨wr.heap.size, 0, none⟩ = some (.int .i64 t.l[j].k) ∧ W.cell? ⟨wr.heap.size, 1, none⟩ = some (.int .i64 t.l[j].n) ∧ W.cell? ⟨wr.heap.size, 2, none⟩ = some (.slice oa2 t.l[j].l.length cap2) := by
          intro W hW
          have r1 := (hW.block _ (block_lt hI2.hf)).trans hI2.hf
          have r2 := (hW.block _ (block_lt hq2)).trans hq2
          rw [hoo] at r2
          exact ⟨(cells_of r1 0).1, (cells_of r2 0).1, (cells_of r2 1).1, (cells_of r2 2).1⟩
        have hcall : ∀ (W : World) (base g7 c7 : Nat), Below (wr.alloc oo).heap.size (wr.alloc oo) W → (wr.alloc oo).heap.size ≤ base → W.ownsRow base 3 1 (.slice (some ⟨g7, 0, none⟩) (p.length + 1) c7) (p.length + 1) (p.map (Value.int .i64) ++ [.int .i64 j]) →
            Calls Try.prog 74 #[.agg #[.int .i64 t.l[j].k, .int .i64 t.l[j].n, .slice oa2 t.l[j].l.length cap2], .slice (some ⟨g7, 0, none⟩) (p.length + 1) c7, .pointer (some ⟨pa, 0, none⟩), .pointer (some ⟨pv, 0, none⟩)] W fun e w' => e = .returned (.tuple #[]) ∧
              (PthI pa pv (ac ++ pathsT t.l[j] (p ++ [(j : Int)])) w' (fun b => Q b ∨ b = w.heap.size) ∧ Kp Q w w' ∧ w'.heap[w.heap.size]? = some (.cells #[.int .i64 t.k, .int .i64 t.n, .slice (some ⟨bc, pc, none⟩) t.l.length cc] 24)) ∧
              (w'.cell? ⟨pv, 0, none⟩ = some (.func (.func 74) #[] #[.pointer (some ⟨pa, 0, none⟩), .pointer (some ⟨pv, 0, none⟩)]) ∧ w'.cell? ⟨wr.heap.size, 0, none⟩ = some (.int .i64 t.l[j].k) ∧ w'.cell? ⟨wr.heap.size, 1, none⟩ = some (.int .i64 t.l[j].n) ∧ w'.cell? ⟨wr.heap.size, 2, none⟩ = some (.slice oa2 t.l[j].l.length cap2)) := by
          intro W base g7 c7 hW hbase hown
          obtain ⟨hown0, hob⟩ := ownsRow_base hown
          have hI3 : PthI pa pv ac W (fun b => ((Q b ∨ b = w.heap.size) ∨ b = wr.heap.size) ∨ b = g7) := pthI_grow hI2 hW (fun b hb => by
            rcases hb with h | rfl
            · exact .inl h
            · right; exact ⟨Nat.le_trans hbase (hob _ rfl), owns_lt hown0 rfl⟩)
          have hp7 : IntS W (fun b => ((Q b ∨ b = w.heap.size) ∨ b = wr.heap.size) ∨ b = g7) (p ++ [(j : Int)]) (.slice (some ⟨g7, 0, none⟩) (p.length + 1) c7) := intS_of_owns (by rw [List.length_append, List.length_singleton, List.map_append]; exact hown0) (fun g hg => .inr (Option.some.inj hg).symm)
          have ht7 : TrV W (fun b => ((Q b ∨ b = w.heap.size) ∨ b = wr.heap.size) ∨ b = g7) t.l[j] (.agg #[.int .i64 t.l[j].k, .int .i64 t.l[j].n, .slice oa2 t.l[j].l.length cap2]) := trV_mono (fun b hb => .inl (.inl (.inl hb))) (fun b hb => by
            rw [hW.block b (by have := HI.out.2.2.1.lt b (.inl hb); simp; omega), (below_alloc wr oo).block b (HI.out.2.2.1.lt b (.inl hb)), HI.out.2.2.2.1.block b hb]) _ HD.out.2.2.2.2.2.2.1
          refine (HH.out.2.2.2.2.2.2.2.2.2.2.2.1 t.l[j] (by have := HH.out.2.2.2.2.2.2.2.2.2.2.2.2.1; have := HD.out.2.2.1; have := HD.out.2.2.2.2.2.1; omega) (p ++ [(j : Int)]) _ _ W _ ac ht7 hp7 hI3 (by have := HD.out.2.1; omega) (by have := HB.out.2; have := HD.out.2.2.2.1; have := HD.out.2.2.2.2.1; simp; omega) (.inr ⟨_, _, _, rfl⟩)).mono ?_
          rintro e w' ⟨rfl, hI8, hk8⟩
          have r2 := (hk8.block wr.heap.size (.inl (.inr rfl))).trans ((hW.block _ (block_lt hq2)).trans hq2)
          rw [hoo] at r2
          refine ⟨rfl, ⟨pthI_weak hI8 (fun b hb => .inl (.inl hb)), ?_, ?_⟩, cell_of_one hI8.hf, (cells_of r2 0).1, (cells_of r2 1).1, (cells_of r2 2).1⟩
          · refine HI.out.2.2.2.1.trans ((hkw.mono (fun b hb => .inl hb)).trans (Kp.trans (below_kp hW (fun b hb => by have := HI.out.2.2.1.lt b (.inl hb); simp; omega)) (hk8.mono (fun b hb => .inl (.inl (.inl hb))))))
          · rw [hk8.block _ (.inl (.inl (.inr rfl))), hW.block _ (by simp; omega), (below_alloc wr oo).block _ hwr]
            exact HI.out.2.2.2.2
        have HX := Lib.hid (And.intro hI2 (And.intro hkw (And.intro hq2 (And.intro hpw (And.intro hS hcall)))))
        clear hI2 hkw hq2 hpw hS cf hQb hcall
        have hen : ∀ (args : Array Value) (w : World), (callFunc 74 args).run Try.prog w = .ok (.enter 74 args) w := fun _ _ => by go_simp
        have u1 : (0 : Int) ≤ (p.length : Int) := Int.natCast_nonneg _
        have u2 : (p.length : Int) ≤ (cd : Int) := by omega
        subst hoo
        go_wp2_with fail
        generalize hx0 : wr.alloc _ = w0 at *
        go_region_held3 (fun W => W.cell? ⟨pv, 0, none⟩ = some (.func (.func 74) #[] #[.pointer (some ⟨pa, 0, none⟩), .pointer (some ⟨pv, 0, none⟩)]) ∧ W.cell? ⟨wr.heap.size, 0, none⟩ = some (.int .i64 t.l[j].k) ∧ W.cell? ⟨wr.heap.size, 1, none⟩ = some (.int .i64 t.l[j].n) ∧ W.cell? ⟨wr.heap.size, 2, none⟩ = some (.slice oa2 t.l[j].l.length cap2))
          (first | (refine HX.out.2.2.2.2.1 _ ?_; (repeat (first | with_reducible assumption | with_reducible exact bZ _ | with_reducible apply bA | with_reducible apply bD)); done) | exact hs8)
          (first
            | (refine step_append_grows rfl (.tmp 27) (.tmp 29) 32 rfl 3 i3 (.int .i64 0) 1 8 Try.underlying32 hi3 hy0 hy1 hy2 rfl (by decide) od p.length p.length (p.map (Value.int .i64)) rfl (fun h => ⟨(HN.out h).1, (HN.out h).1⟩) (by simp) (intS_cells (HX.out.2.2.2.1 _ (by (repeat (first | with_reducible assumption | with_reducible exact bZ _ | with_reducible apply bA | with_reducible apply bD))))) ⟨w0.heap.size, 0, none⟩ 1 1 [.int .i64 j] rfl rfl (World.news_of_block (cs := #[.int .i64 j]) (t := 3) (fr := (0, 0)) (heap_alloc_new w0 _)) (by intro u hu; rw [List.mem_singleton.1 hu]; rfl) (by omega) (by unfold maxLen; omega) (by omega) ?_
               intro v7 w7 hown7 hgr7
               obtain ⟨g7, c7, rfl⟩ := ownsRow_some hown7 (by omega)
               have hb7 : Below w0.heap.size w0 w7 := Below.grown (show Below w0.heap.size w0 _ from by (repeat (first | with_reducible assumption | with_reducible exact bZ _ | with_reducible apply bA | with_reducible apply bD))) hgr7 (by simp) (fun k hk => by cases hk))
            | (go_at_call 74; (with_reducible refine (HX.out.2.2.2.2.2 _ _ _ _ ?_ ?_ hown7).mono ?_); (focus (first | exact hb7 | exact bD hb7)); (focus simp); rintro e w8 ⟨rfl, hr8, hs8⟩))
        all_goals
          have hszd := HD.out.2.1
          have hdr := HD.out.1
          have HR := Lib.hid (And.intro hdr (And.intro hszd hr8))
          clear hdr hszd hr8 hs8 hown7 hgr7 hb7
          go_wp2_with fail
          go_roundw
          case rel => exact ⟨j + 1, _, by omega, by go_num, HR.out.1, by rw [List.length_append, pathsT_len]; exact HR.out.2.1, HR.out.2.2⟩
          case measure => simp [intOf]; omega
      · have hfin : acc ++ pathsT t p = ac := by rw [HI.out.1, List.drop_eq_nil_of_le (by omega)]; simp [pathsL]
        have HF := Lib.hid hfin
        clear hfin
        go_wp2_with fail
        rw [HF.out]
        refine bodyPost_ret (v := .tuple #[]) (by simp [results, Try.results74, go_sem]) rfl ?_
        exact ⟨rfl, pthI_weak HI.out.2.2.1 (fun b hb => .inl hb), HI.out.2.2.2.1⟩
end Go.Proofs.Ytapdfdjknehhgaa

/- Paths. -/
namespace Go.Proofs.Ytapdfdjknehhgaa
open Go.RowKit Go.Tr

/-- The slice reads as the list of places. -/
def PthS (w : World) (P : Nat → Prop) (ll : List (List Int)) (v : Value) : Prop :=
  ∃ oa cap b, v = .slice oa ll.length cap ∧ ll.length ≤ cap ∧ (0 < ll.length → oa = some ⟨b, 0, none⟩ ∧ P b) ∧ ∀ i (h : i < ll.length), ∃ s, w.cell? ⟨b, i, none⟩ = some s ∧ IntS w P ll[i] s
theorem pthS_of {w : World} {P : Nat → Prop} {ll : List (List Int)} {v : Value} {vs : List Value} (h : w.ownsRow 0 32 1 v ll.length vs) (hP : ∀ g, v.ownBlock = some g → P g) (hr : RowsP w P ll vs) : PthS w P ll v := by
  obtain ⟨h1, h2⟩ := h
  rcases h2 with ⟨rfl, h3⟩ | ⟨g, cap, cur, rfl, -, hh, hc, hm, hs, ht⟩
  · exact ⟨none, 0, 0, by rw [h3], by omega, fun h => by omega, fun i hi => by omega⟩
  · refine ⟨_, cap, g, rfl, hc, fun _ => ⟨rfl, hP g rfl⟩, fun i hi => ?_⟩
    obtain ⟨s, hs1, hs2⟩ := hr.2 i hi
    refine ⟨s, ?_, hs2⟩
    rw [(cells_of hh i).1]
    have e : (cur.toList.take (ll.length * 1))[i]? = vs[i]? := by rw [ht]
    rw [List.getElem?_take_of_lt (by omega), hs1] at e
    simpa using e
/-- What Paths hands back. -/
def PathsP (t : Tm) (w : World) (e : Ending) (w' : World) : Prop :=
  Below w.heap.size w w' ∧ ((good t = false ∧ e = .returned (.tuple #[.slice none 0 0, .int .i64 4])) ∨ (good t = true ∧ ∃ r, e = .returned (.tuple #[r, .int .i64 0]) ∧ PthS w' (· < w'.heap.size) (pathsT t []) r))
set_option maxRecDepth 100000 in
set_option maxHeartbeats 400000 in
theorem Paths_any (t : Tm) (v : Value) (w : World) (hv : TrV w (· < w.heap.size) t v) :
    Calls Try.prog 33 #[v] w fun e w' => PathsP t w e w' := by
  obtain ⟨sl, rfl, hk1, hk2, hsl⟩ := trV_iff.1 hv
  obtain ⟨oc, cc, bc, pc, rfl, hlc, hmc, -, -⟩ := trS_at hsl
  have hb1 := below_alloc w (.cells #[.int .i64 t.k, .int .i64 t.n, .slice oc t.l.length cc] 24)
  have hq1 := heap_alloc_new w (.cells #[.int .i64 t.k, .int .i64 t.n, .slice oc t.l.length cc] 24)
  have hT := Tree_any t _ _ (trV_up hb1 hv)
  have HH := Lib.hid (And.intro hb1 (And.intro hq1 (And.intro hT hv)))
  clear hb1 hq1 hT hv hsl
  go_enter Try.func33, Try.ntmps33
  go_wp2_with fail
  refine HH.out.2.2.1.mono ?_
  rintro e w2 ⟨rfl, hb2⟩
  have hbw := below_next HH.out.1 hb2
  have hq2 := (hb2.block _ (block_lt HH.out.2.1)).trans HH.out.2.1
  have a0 := (cells_of hq2 0).1
  have a1 := (cells_of hq2 1).1
  have a2 := (cells_of hq2 2).1
  simp only [List.getElem?_toArray, List.getElem?_cons_zero, List.getElem?_cons_succ] at a0 a1 a2
  have hlt := block_lt hq2
  have H2 := Lib.hid (And.intro hbw hq2)
  clear hbw hq2 hb2
  cases hg : good t with
  | false =>
    unfold errT
    go_wp2_with fail
    go_ret2
    unfold PathsP
    exact ⟨H2.out.1, .inl ⟨hg, rfl⟩⟩
  | true =>
    have hgi := (good_iff t).1 hg
    have hsz : sz t ≤ 2000 := hgi.1
    have hdp : dp t ≤ 200 := hgi.2.1
    obtain ⟨pa, hpa⟩ : ∃ pa, pa = w2.heap.size := ⟨_, rfl⟩
    obtain ⟨w5, hw5⟩ : ∃ w5 : World, w5 = (w2.alloc (.cells #[.slice none 0 0] 45)).alloc (.cells #[.func (.func 74) #[] #[.pointer (some ⟨w2.heap.size, 0, none⟩), .pointer (some ⟨w2.heap.size + 1, 0, none⟩)]] 102) := ⟨_, rfl⟩
    have hb5 : Below w2.heap.size w2 w5 := by rw [hw5]; exact bA (bA (bZ w2) _) _
    have hI : PthI w2.heap.size (w2.heap.size + 1) [] w5 (· < w2.heap.size) := by
      rw [hw5]
      exact ⟨by (simp only [heap_alloc, alloc_size]; repeat (first | rw [if_pos trivial] | rw [if_pos (by omega)] | rw [if_neg (by omega)])), ⟨.slice none 0 0, [], by (simp only [heap_alloc, alloc_size]; repeat (first | rw [if_pos trivial] | rw [if_pos (by omega)] | rw [if_neg (by omega)])), ⟨rfl, .inl ⟨rfl, rfl⟩⟩, (fun g hg => by cases hg), ⟨rfl, fun i hi => by simp at hi⟩⟩, by omega, by omega, fun b hb => by simp; omega⟩
    have hcall := paths1_n w2.heap.size (w2.heap.size + 1) (sz t) t (Nat.le_refl _) [] (.agg #[.int .i64 t.k, .int .i64 t.n, .slice oc t.l.length cc]) (.slice none 0 0) w5 (· < w2.heap.size) []
      (trV_mono (fun b (hb : b < w.heap.size) => Nat.lt_of_lt_of_le hb H2.out.1.size) (fun b hb => (below_next H2.out.1 hb5).block b hb) _ HH.out.2.2.2) ⟨none, 0, 0, 0, rfl, Nat.le_refl _, by decide, (fun h => by simp at h), (fun i h => by simp at h)⟩ hI (by simp; omega) (by simp; omega) (.inl rfl)
    unfold PthP at hcall
    rw [List.nil_append] at hcall
    have HC := Lib.hid (And.intro hcall hb5)
    clear hcall hb5 hI hgi
    have hmf : ∀ (fn : Fn) (first cap : Array Value) (w : World), (Instr.makeFunc fn first cap).run Try.prog w = .ok (.func fn first cap) w := fun _ _ _ _ => rfl
    have hen : ∀ (args : Array Value) (w : World), (callFunc 74 args).run Try.prog w = .ok (.enter 74 args) w := fun _ _ => by go_simp
    unfold errT
    go_wp2_with fail
    rw [← hw5]
    refine HC.out.1.mono ?_
    rintro e w6 ⟨rfl, hI6, hk6⟩
    obtain ⟨v, vs, v1, v2, v3, v4⟩ := hI6.hv
    obtain ⟨va, vc, rfl⟩ := owns_slice v2
    have hres := pthS_of (P := (· < w6.heap.size)) v2 (fun g hg => owns_lt v2 hg) (rowsP_mono (fun b hb => hb.1) (fun _ _ => rfl) v4)
    have cv := cell_of_one v1
    have hb6 : Below w.heap.size w w6 := (below_next H2.out.1 HC.out.2).trans (hk6.mono (fun b (hb : b < w.heap.size) => Nat.lt_of_lt_of_le hb H2.out.1.size)).below
    have HF := Lib.hid (And.intro hres hb6)
    clear hres hb6 v1 v2 v3 v4 hI6 hk6 hw5
    go_wp2_with fail
    go_ret2
    unfold PathsP
    exact ⟨HF.out.2, .inr ⟨hg, _, rfl, HF.out.1⟩⟩
end Go.Proofs.Ytapdfdjknehhgaa
