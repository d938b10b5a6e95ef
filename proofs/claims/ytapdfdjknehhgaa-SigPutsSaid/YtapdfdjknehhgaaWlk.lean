/- Merged: Walk, WalkD. -/
import Derived.Test.YtapdfdjknehhgaaTr

/- Going through a tree with a closure. -/
namespace Go.Proofs.Ytapdfdjknehhgaa
open Go.RowKit Go.Tr

/-- A closure that is told of each node: what it does to a state that lies in memory, beside whatever has the property Q. -/
structure Sees {σ : Type} (F : Nat) (caps : Array Value) (f : σ → Tm → Int → σ × Bool) (ok : σ → Nat → Prop) (I : σ → World → (Nat → Prop) → Prop) (nd : Tm → Bool) : Prop where
  next : ∀ s t d m, ok s (m + 1) → (f s t d).2 = true → ok (f s t d).1 m
  enters : ∀ (args : Array Value) (w : World), (callFunc F args).run Try.prog w = .ok (.enter F args) w
  lt : ∀ s w Q, I s w Q → ∀ b, Q b → b < w.heap.size
  grow : ∀ s w w' Q Q', I s w Q → Below w.heap.size w w' → (∀ b, Q' b → Q b ∨ (w.heap.size ≤ b ∧ b < w'.heap.size)) → I s w' Q'
  step : ∀ s w Q t d v m, -9000000000000000000 ≤ d → ok s (m + 1) → nd t = true → I s w Q → TrV w Q t v → Calls Try.prog F (#[v, .int .i64 d] ++ caps) w fun e w' => e = .returned (.bool (f s t d).2) ∧ I (f s t d).1 w' Q ∧ Kp Q w w'

set_option maxRecDepth 100000 in
theorem walk_any {σ : Type} {F : Nat} {caps : Array Value} {f : σ → Tm → Int → σ × Bool} {ok : σ → Nat → Prop} {I : σ → World → (Nat → Prop) → Prop} {nd : Tm → Bool} (S : Hid (Sees F caps f ok I nd)) (N : Nat) : ∀ (t : Tm), sz t ≤ N → ∀ (v : Value) (d : Int) (s : σ) (w : World) (Q : Nat → Prop) (m : Nat), TrV w Q t v → ok s (sz t + m) → allN nd t = true → I s w Q → -9000000000000000000 ≤ d → ((∀ s t d, (f s t d).2 = true → d ≤ 9000000000000000000) ∨ d + dp t ≤ 9000000000000000000) →
    Calls Try.prog 51 #[v, .int .i64 d, .func (.func F) #[] caps] w fun e w' => e = .returned (.bool (wk f t d s).2) ∧ I (wk f t d s).1 w' Q ∧ Kp Q w w' := by
  induction N with
  | zero => intro t ht; have := sz_pos t; omega
  | succ N ih =>
    intro t ht v d s w Q m hv hok hnd hs hd0 hd
    rw [allN_t, Bool.and_eq_true] at hnd
    obtain ⟨hnd, hch⟩ := hnd
    have HCH := Lib.hid ((allNL_iff _ _).1 hch)
    clear hch
    have IH := Lib.hid ih
    clear ih
    obtain ⟨sl, rfl, -, -, hsl⟩ := trV_iff.1 hv
    obtain ⟨oa, cap, b, o, rfl, hlc, hcm, hoa, hel⟩ := trS_at hsl
    have HT := Lib.hid (And.intro hv (And.intro hs hsl))
    have HEL := Lib.hid (And.intro hoa hel)
    have hw := wk_t f t d s
    have hw' := Lib.hid hw
    clear hw hv hs hsl hoa hel
    have hok' : ok s (szL t.l + m + 1) := by
      have e : szL t.l + m + 1 = sz t + m := by have := sz_l t; omega
      rw [e]; exact hok
    have hI1 : I s (w.alloc (.cells #[.int .i64 t.k, .int .i64 t.n, .slice oa t.l.length cap] 24)) (fun b => Q b ∨ b = w.heap.size) := S.out.grow s w _ Q _ HT.out.2.1 ((Below.refl _ w).alloc (Nat.le_refl _) _) (fun b hb => hb.imp id (fun h => ⟨by omega, by simp; omega⟩))
    have hlt := S.out.lt s w Q HT.out.2.1
    have hv1 : TrV (w.alloc (.cells #[.int .i64 t.k, .int .i64 t.n, .slice oa t.l.length cap] 24)) (fun b => Q b ∨ b = w.heap.size) t (.agg #[.int .i64 t.k, .int .i64 t.n, .slice oa t.l.length cap]) := trV_mono (fun b h => .inl h) (fun b h => Below.heap_alloc w _ b (hlt b h)) t HT.out.1
    have hst := S.out.step s _ _ t d _ (szL t.l + m) hd0 hok' hnd hI1 hv1
    have HST := Lib.hid hst
    clear hnd
    clear hI1 hlt hv1 hst
    have e1 := S.out.enters
    cases hf : (f s t d).2 with
    | false =>
      have hw : wk f t d s = ((f s t d).1, false) := by have := hw'.out; rw [hf] at this; simpa using this
      rw [hw]
      have HF := Lib.hid hf
      clear hf hw hd hw'
      go_enter Try.func51, Try.ntmps51
      go_wp2_with fail
      refine HST.out.mono ?_
      rintro e w2 ⟨rfl, hI2, hk2⟩
      rw [HF.out]
      have hQ2 : Kp Q w w2 := (below_kp ((Below.refl _ w).alloc (Nat.le_refl _) _) (S.out.lt s w Q HT.out.2.1)).trans (hk2.mono fun b h => .inl h)
      have hI2' := S.out.grow _ w2 w2 _ Q hI2 (Below.refl _ _) (fun b h => .inl (.inl h))
      have HQ := Lib.hid (And.intro hQ2 hI2')
      clear hQ2 hI2' hk2 hI2 HST
      go_wp2_with fail
      go_ret
      exact ⟨rfl, HQ.out.2, HQ.out.1⟩
    | true =>
      have hw : wk f t d s = wkL f t.l (d + 1) (f s t d).1 := by have := hw'.out; rw [hf] at this; simpa using this
      have hdl : d ≤ 9000000000000000000 := by
        rcases hd with h | h
        · exact h _ _ _ hf
        · have := dp_pos t; omega
      have hd2 : (∀ s t d, (f s t d).2 = true → d ≤ 9000000000000000000) ∨ ∀ x ∈ t.l, d + 1 + dp x ≤ 9000000000000000000 := hd.imp id (fun h x hx => by have := dp_mem hx; have := dp_l t; omega)
      rw [hw]
      have hok1 := S.out.next s t d (szL t.l + m) hok' hf
      have HD2 := Lib.hid hd2
      have HF := Lib.hid hf
      clear hf hw hd hd2 hw'
      unfold Hid at HST
      generalize hs1 : (f s t d).1 = s1 at *
      have HST := Lib.hid HST
      have HOK := Lib.hid hok1
      clear hs1 hok1 hok hok'
      go_enter Try.func51, Try.ntmps51
      go_wp2_with fail
      refine HST.out.mono ?_
      rintro e w2 ⟨rfl, hI2, hk2⟩
      rw [HF.out]
      have hQ2 : Kp Q w w2 := (below_kp ((Below.refl _ w).alloc (Nat.le_refl _) _) (S.out.lt s w Q HT.out.2.1)).trans (hk2.mono fun b h => .inl h)
      have hI2' := S.out.grow _ w2 w2 _ Q hI2 (Below.refl _ _) (fun b h => .inl (.inl h))
      have c0 : w2.cell? ⟨w.heap.size, 0, none⟩ = some (.int .i64 t.k) ∧ w2.cell? ⟨w.heap.size, 0 + 1, none⟩ = some (.int .i64 t.n) ∧ w2.cell? ⟨w.heap.size, 0 + 2, none⟩ = some (.slice oa t.l.length cap) := by
        have hb := (hk2.block w.heap.size (.inr rfl)).trans (heap_alloc_new w _)
        exact ⟨(cells_of hb 0).1, (cells_of hb 1).1, (cells_of hb 2).1⟩
      obtain ⟨c0, c1, c2⟩ := c0
      simp only [Nat.zero_add] at c1 c2
      have HQ := Lib.hid (And.intro hQ2 hI2')
      clear hQ2 hI2' hk2 hI2 HST HF
      go_wp2_with fail
      go_loopw [17] (fun i wr => ∃ (k : Nat) (sk : σ), k ≤ t.l.length ∧ i = .int .i64 k ∧ Hid (wkL f t.l (d + 1) s1 = wkL f (t.l.drop k) (d + 1) sk) ∧ Hid (I sk wr Q ∧ Kp Q w wr ∧ ok sk (szL (t.l.drop k) + m))) (fun i _ => t.l.length - (intOf i).toNat)
      case atStart => exact ⟨0, s1, by omega, rfl, rfl, HQ.out.2, HQ.out.1, HOK.out⟩
      case round =>
        obtain ⟨k, sk, hk, rfl, HR, HI⟩ := hrel
        by_cases hlt : k < t.l.length
        · obtain ⟨rfl, hQb⟩ := HEL.out.1 (by omega)
          obtain ⟨oa2, cap2, e0, e1', e2, e3⟩ := HEL.out.2 k hlt
          have d0 : wr.cell? ⟨b, o + k * 3, none⟩ = some (.int .i64 t.l[k].k) := by rw [World.cell?_of_block (w := w) (HI.out.2.1.block b hQb)]; exact e0
          have d1 : wr.cell? ⟨b, o + k * 3 + 1, none⟩ = some (.int .i64 t.l[k].n) := by rw [World.cell?_of_block (w := w) (HI.out.2.1.block b hQb)]; exact e1'
          have d2 : wr.cell? ⟨b, o + k * 3 + 2, none⟩ = some (.slice oa2 t.l[k].l.length cap2) := by rw [World.cell?_of_block (w := w) (HI.out.2.1.block b hQb)]; exact e2
          have HE := Lib.hid e3
          clear e0 e1' e2 e3
          have hI1 := HI.out.1
          have hvx : TrV wr Q t.l[k] _ := trV_kp HI.out.2.1 HE.out
          have hlq := S.out.lt _ _ _ hI1
          have hgr : Below wr.heap.size wr (wr.alloc (.cells #[.int .i64 t.l[k].k, .int .i64 t.l[k].n, .slice oa2 t.l[k].l.length cap2] 24)) := (Below.refl _ wr).alloc (Nat.le_refl _) _
          have hI3 := S.out.grow _ _ _ Q Q hI1 hgr (fun b h => .inl h)
          have hkq := below_kp hgr hlq
          have hokk : ok sk (sz t.l[k] + (szL (t.l.drop (k + 1)) + m)) := by
            have h := HI.out.2.2
            rw [List.drop_eq_getElem_cons hlt] at h
            simpa [szL, Nat.add_assoc] using h
          have HOKK := Lib.hid hokk
          have hcall := IH.out t.l[k] (by have := sz_l t; have := sz_mem (List.getElem_mem hlt); omega) _ (d + 1) sk _ Q (szL (t.l.drop (k + 1)) + m) (trV_kp hkq hvx) hokk (HCH.out _ (List.getElem_mem hlt)) hI3 (by omega) (HD2.out.imp id (fun h => h _ (List.getElem_mem hlt)))
          have HC := Lib.hid hcall
          have HK := Lib.hid (HI.out.2.1.trans hkq)
          clear hI1 hvx hlq hgr hI3 hkq hcall hokk
          have hdr : t.l.drop k = t.l[k] :: t.l.drop (k + 1) := List.drop_eq_getElem_cons hlt
          cases hb : (wk f t.l[k] (d + 1) sk).2 with
          | false =>
            have hw : wkL f t.l (d + 1) s1 = ((wk f t.l[k] (d + 1) sk).1, false) := by rw [HR.out, hdr]; simp only [wkL]; rw [hb]; rfl
            have HW := Lib.hid hw
            have HB := Lib.hid hb
            clear hw hb hdr
            go_wp2_with fail
            refine HC.out.mono ?_
            rintro e w3 ⟨rfl, hI3, hk3⟩
            rw [HB.out]
            have HF := Lib.hid (And.intro hI3 (HK.out.trans hk3))
            clear hI3 hk3
            go_wp2_with fail
            go_ret
            rw [HW.out]
            exact ⟨rfl, HF.out.1, HF.out.2⟩
          | true =>
            have hw : wkL f t.l (d + 1) s1 = wkL f (t.l.drop (k + 1)) (d + 1) (wk f t.l[k] (d + 1) sk).1 := by rw [HR.out, hdr]; simp only [wkL]; rw [hb]; rfl
            have HW := Lib.hid hw
            have hok2 := wk_ok f S.out.next t.l[k] (d + 1) sk _ HOKK.out hb
            have HB := Lib.hid hb
            have HO2 := Lib.hid hok2
            clear hw hb hdr hok2
            go_wp2_with fail
            refine HC.out.mono ?_
            rintro e w3 ⟨rfl, hI3, hk3⟩
            rw [HB.out]
            have HF := Lib.hid (And.intro hI3 (And.intro (HK.out.trans hk3) HO2.out))
            clear hI3 hk3
            go_wp2_with fail
            go_roundw
            case rel => exact ⟨k + 1, _, by omega, by go_num, HW.out, HF.out⟩
            case measure => simp [intOf]; omega
        · have hk' : k = t.l.length := by omega
          have hw : wkL f t.l (d + 1) s1 = (sk, true) := by rw [HR.out, hk', List.drop_length]; rfl
          have HW := Lib.hid hw
          clear hw
          go_wp2_with fail
          go_ret
          rw [HW.out]
          exact ⟨rfl, HI.out.1, HI.out.2.1⟩
end Go.Proofs.Ytapdfdjknehhgaa

/- Going through a tree with a closure that is told of depths up to a bound. -/
namespace Go.Proofs.Ytapdfdjknehhgaa
open Go.RowKit Go.Tr

/-- A closure that is told of each node: what it does to a state that lies in memory, beside whatever has the property Q. -/
structure SeesD {σ : Type} (D : Int) (F : Nat) (caps : Array Value) (f : σ → Tm → Int → σ × Bool) (ok : σ → Nat → Prop) (I : σ → World → (Nat → Prop) → Prop) (nd : Tm → Bool) : Prop where
  next : ∀ s t d m, ok s (m + 1) → (f s t d).2 = true → ok (f s t d).1 m
  enters : ∀ (args : Array Value) (w : World), (callFunc F args).run Try.prog w = .ok (.enter F args) w
  lt : ∀ s w Q, I s w Q → ∀ b, Q b → b < w.heap.size
  grow : ∀ s w w' Q Q', I s w Q → Below w.heap.size w w' → (∀ b, Q' b → Q b ∨ (w.heap.size ≤ b ∧ b < w'.heap.size)) → I s w' Q'
  step : ∀ s w Q t d v m, -9000000000000000000 ≤ d → d ≤ D → ok s (m + 1) → nd t = true → I s w Q → TrV w Q t v → Calls Try.prog F (#[v, .int .i64 d] ++ caps) w fun e w' => e = .returned (.bool (f s t d).2) ∧ I (f s t d).1 w' Q ∧ Kp Q w w'

set_option maxRecDepth 100000 in
theorem walkD_any {σ : Type} {D : Int} (hD9 : D ≤ 9000000000000000000) {F : Nat} {caps : Array Value} {f : σ → Tm → Int → σ × Bool} {ok : σ → Nat → Prop} {I : σ → World → (Nat → Prop) → Prop} {nd : Tm → Bool} (S : Hid (SeesD D F caps f ok I nd)) (N : Nat) : ∀ (t : Tm), sz t ≤ N → ∀ (v : Value) (d : Int) (s : σ) (w : World) (Q : Nat → Prop) (m : Nat), TrV w Q t v → ok s (sz t + m) → allN nd t = true → I s w Q → -9000000000000000000 ≤ d → d + dp t ≤ D →
    Calls Try.prog 51 #[v, .int .i64 d, .func (.func F) #[] caps] w fun e w' => e = .returned (.bool (wk f t d s).2) ∧ I (wk f t d s).1 w' Q ∧ Kp Q w w' := by
  induction N with
  | zero => intro t ht; have := sz_pos t; omega
  | succ N ih =>
    intro t ht v d s w Q m hv hok hnd hs hd0 hd
    rw [allN_t, Bool.and_eq_true] at hnd
    obtain ⟨hnd, hch⟩ := hnd
    have HCH := Lib.hid ((allNL_iff _ _).1 hch)
    clear hch
    have IH := Lib.hid ih
    clear ih
    obtain ⟨sl, rfl, -, -, hsl⟩ := trV_iff.1 hv
    obtain ⟨oa, cap, b, o, rfl, hlc, hcm, hoa, hel⟩ := trS_at hsl
    have HT := Lib.hid (And.intro hv (And.intro hs hsl))
    have HEL := Lib.hid (And.intro hoa hel)
    have hw := wk_t f t d s
    have hw' := Lib.hid hw
    clear hw hv hs hsl hoa hel
    have hok' : ok s (szL t.l + m + 1) := by
      have e : szL t.l + m + 1 = sz t + m := by have := sz_l t; omega
      rw [e]; exact hok
    have hI1 : I s (w.alloc (.cells #[.int .i64 t.k, .int .i64 t.n, .slice oa t.l.length cap] 24)) (fun b => Q b ∨ b = w.heap.size) := S.out.grow s w _ Q _ HT.out.2.1 ((Below.refl _ w).alloc (Nat.le_refl _) _) (fun b hb => hb.imp id (fun h => ⟨by omega, by simp; omega⟩))
    have hlt := S.out.lt s w Q HT.out.2.1
    have hv1 : TrV (w.alloc (.cells #[.int .i64 t.k, .int .i64 t.n, .slice oa t.l.length cap] 24)) (fun b => Q b ∨ b = w.heap.size) t (.agg #[.int .i64 t.k, .int .i64 t.n, .slice oa t.l.length cap]) := trV_mono (fun b h => .inl h) (fun b h => Below.heap_alloc w _ b (hlt b h)) t HT.out.1
    have hst := S.out.step s _ _ t d _ (szL t.l + m) hd0 (by have := dp_pos t; omega) hok' hnd hI1 hv1
    have HST := Lib.hid hst
    clear hnd
    clear hI1 hlt hv1 hst
    have e1 := S.out.enters
    cases hf : (f s t d).2 with
    | false =>
      have hw : wk f t d s = ((f s t d).1, false) := by have := hw'.out; rw [hf] at this; simpa using this
      rw [hw]
      have HF := Lib.hid hf
      clear hf hw hd hw'
      go_enter Try.func51, Try.ntmps51
      go_wp2_with fail
      refine HST.out.mono ?_
      rintro e w2 ⟨rfl, hI2, hk2⟩
      rw [HF.out]
      have hQ2 : Kp Q w w2 := (below_kp ((Below.refl _ w).alloc (Nat.le_refl _) _) (S.out.lt s w Q HT.out.2.1)).trans (hk2.mono fun b h => .inl h)
      have hI2' := S.out.grow _ w2 w2 _ Q hI2 (Below.refl _ _) (fun b h => .inl (.inl h))
      have HQ := Lib.hid (And.intro hQ2 hI2')
      clear hQ2 hI2' hk2 hI2 HST
      go_wp2_with fail
      go_ret
      exact ⟨rfl, HQ.out.2, HQ.out.1⟩
    | true =>
      have hw : wk f t d s = wkL f t.l (d + 1) (f s t d).1 := by have := hw'.out; rw [hf] at this; simpa using this
      have hdl : d ≤ 9000000000000000000 := by have := dp_pos t; omega
      have hd2 : ∀ x ∈ t.l, d + 1 + dp x ≤ D := fun x hx => by have := dp_mem hx; have := dp_l t; omega
      rw [hw]
      have hok1 := S.out.next s t d (szL t.l + m) hok' hf
      have HD2 := Lib.hid hd2
      have HF := Lib.hid hf
      clear hf hw hd hd2 hw'
      unfold Hid at HST
      generalize hs1 : (f s t d).1 = s1 at *
      have HST := Lib.hid HST
      have HOK := Lib.hid hok1
      clear hs1 hok1 hok hok'
      go_enter Try.func51, Try.ntmps51
      go_wp2_with fail
      refine HST.out.mono ?_
      rintro e w2 ⟨rfl, hI2, hk2⟩
      rw [HF.out]
      have hQ2 : Kp Q w w2 := (below_kp ((Below.refl _ w).alloc (Nat.le_refl _) _) (S.out.lt s w Q HT.out.2.1)).trans (hk2.mono fun b h => .inl h)
      have hI2' := S.out.grow _ w2 w2 _ Q hI2 (Below.refl _ _) (fun b h => .inl (.inl h))
      have c0 : w2.cell? ⟨w.heap.size, 0, none⟩ = some (.int .i64 t.k) ∧ w2.cell? ⟨w.heap.size, 0 + 1, none⟩ = some (.int .i64 t.n) ∧ w2.cell? ⟨w.heap.size, 0 + 2, none⟩ = some (.slice oa t.l.length cap) := by
        have hb := (hk2.block w.heap.size (.inr rfl)).trans (heap_alloc_new w _)
        exact ⟨(cells_of hb 0).1, (cells_of hb 1).1, (cells_of hb 2).1⟩
      obtain ⟨c0, c1, c2⟩ := c0
      simp only [Nat.zero_add] at c1 c2
      have HQ := Lib.hid (And.intro hQ2 hI2')
      clear hQ2 hI2' hk2 hI2 HST HF
      go_wp2_with fail
      go_loopw [17] (fun i wr => ∃ (k : Nat) (sk : σ), k ≤ t.l.length ∧ i = .int .i64 k ∧ Hid (wkL f t.l (d + 1) s1 = wkL f (t.l.drop k) (d + 1) sk) ∧ Hid (I sk wr Q ∧ Kp Q w wr ∧ ok sk (szL (t.l.drop k) + m))) (fun i _ => t.l.length - (intOf i).toNat)
      case atStart => exact ⟨0, s1, by omega, rfl, rfl, HQ.out.2, HQ.out.1, HOK.out⟩
      case round =>
        obtain ⟨k, sk, hk, rfl, HR, HI⟩ := hrel
        by_cases hlt : k < t.l.length
        · obtain ⟨rfl, hQb⟩ := HEL.out.1 (by omega)
          obtain ⟨oa2, cap2, e0, e1', e2, e3⟩ := HEL.out.2 k hlt
          have d0 : wr.cell? ⟨b, o + k * 3, none⟩ = some (.int .i64 t.l[k].k) := by rw [World.cell?_of_block (w := w) (HI.out.2.1.block b hQb)]; exact e0
          have d1 : wr.cell? ⟨b, o + k * 3 + 1, none⟩ = some (.int .i64 t.l[k].n) := by rw [World.cell?_of_block (w := w) (HI.out.2.1.block b hQb)]; exact e1'
          have d2 : wr.cell? ⟨b, o + k * 3 + 2, none⟩ = some (.slice oa2 t.l[k].l.length cap2) := by rw [World.cell?_of_block (w := w) (HI.out.2.1.block b hQb)]; exact e2
          have HE := Lib.hid e3
          clear e0 e1' e2 e3
          have hI1 := HI.out.1
          have hvx : TrV wr Q t.l[k] _ := trV_kp HI.out.2.1 HE.out
          have hlq := S.out.lt _ _ _ hI1
          have hgr : Below wr.heap.size wr (wr.alloc (.cells #[.int .i64 t.l[k].k, .int .i64 t.l[k].n, .slice oa2 t.l[k].l.length cap2] 24)) := (Below.refl _ wr).alloc (Nat.le_refl _) _
          have hI3 := S.out.grow _ _ _ Q Q hI1 hgr (fun b h => .inl h)
          have hkq := below_kp hgr hlq
          have hokk : ok sk (sz t.l[k] + (szL (t.l.drop (k + 1)) + m)) := by
            have h := HI.out.2.2
            rw [List.drop_eq_getElem_cons hlt] at h
            simpa [szL, Nat.add_assoc] using h
          have HOKK := Lib.hid hokk
          have hcall := IH.out t.l[k] (by have := sz_l t; have := sz_mem (List.getElem_mem hlt); omega) _ (d + 1) sk _ Q (szL (t.l.drop (k + 1)) + m) (trV_kp hkq hvx) hokk (HCH.out _ (List.getElem_mem hlt)) hI3 (by omega) (HD2.out _ (List.getElem_mem hlt))
          have HC := Lib.hid hcall
          have HK := Lib.hid (HI.out.2.1.trans hkq)
          clear hI1 hvx hlq hgr hI3 hkq hcall hokk
          have hdr : t.l.drop k = t.l[k] :: t.l.drop (k + 1) := List.drop_eq_getElem_cons hlt
          cases hb : (wk f t.l[k] (d + 1) sk).2 with
          | false =>
            have hw : wkL f t.l (d + 1) s1 = ((wk f t.l[k] (d + 1) sk).1, false) := by rw [HR.out, hdr]; simp only [wkL]; rw [hb]; rfl
            have HW := Lib.hid hw
            have HB := Lib.hid hb
            clear hw hb hdr
            go_wp2_with fail
            refine HC.out.mono ?_
            rintro e w3 ⟨rfl, hI3, hk3⟩
            rw [HB.out]
            have HF := Lib.hid (And.intro hI3 (HK.out.trans hk3))
            clear hI3 hk3
            go_wp2_with fail
            go_ret
            rw [HW.out]
            exact ⟨rfl, HF.out.1, HF.out.2⟩
          | true =>
            have hw : wkL f t.l (d + 1) s1 = wkL f (t.l.drop (k + 1)) (d + 1) (wk f t.l[k] (d + 1) sk).1 := by rw [HR.out, hdr]; simp only [wkL]; rw [hb]; rfl
            have HW := Lib.hid hw
            have hok2 := wk_ok f S.out.next t.l[k] (d + 1) sk _ HOKK.out hb
            have HB := Lib.hid hb
            have HO2 := Lib.hid hok2
            clear hw hb hdr hok2
            go_wp2_with fail
            refine HC.out.mono ?_
            rintro e w3 ⟨rfl, hI3, hk3⟩
            rw [HB.out]
            have HF := Lib.hid (And.intro hI3 (And.intro (HK.out.trans hk3) HO2.out))
            clear hI3 hk3
            go_wp2_with fail
            go_roundw
            case rel => exact ⟨k + 1, _, by omega, by go_num, HW.out, HF.out⟩
            case measure => simp [intOf]; omega
        · have hk' : k = t.l.length := by omega
          have hw : wkL f t.l (d + 1) s1 = (sk, true) := by rw [HR.out, hk', List.drop_length]; rfl
          have HW := Lib.hid hw
          clear hw
          go_wp2_with fail
          go_ret
          rw [HW.out]
          exact ⟨rfl, HI.out.1, HI.out.2.1⟩
end Go.Proofs.Ytapdfdjknehhgaa
