/- The reference's vars and Vars, and the law's greatest. -/
import Derived.Test.YtapdfdjknehhgaaRIa
import Derived.Test.YtapdfdjknehhgaaRIn
import Derived.Test.YtapdfdjknehhgaaNorP
import Derived.Test.YtapdfdjknehhgaaRow
import Derived.Maps.AppendAt
import Derived.Deep.AppendLies
namespace Go.Proofs.Ytapdfdjknehhgaa
open Go.RowKit Go.Tr

/-- append(row, n), where the row of ints is the function's own. -/
theorem app_int {ops : Array Oper} {rest : List Oper} {o : Oper} {a : Act} {Q : Exit → Act → World → Prop} {w : World} (hgd : o.guard = none) (s x : Operand)
    (ho : o.op = .call { callee := .builtin .append, args := #[s, x], argTypes := #[32, 32] }) {vs : List Int} {n : Int} {v : Value} {g : Nat}
    (hs : a.eval s = v) (hx : a.eval x = .slice (some ⟨g, 0, none⟩) 1 1) (hown : w.ownsRow 0 3 1 v vs.length (vs.map (Value.int .i64))) (hg : w.heap[g]? = some (.cells #[.int .i64 n] 3)) (hb : vs.length + 1 ≤ 1000000000)
    (h : ∀ v' w', w'.ownsRow 0 3 1 v' (vs ++ [n]).length ((vs ++ [n]).map (Value.int .i64)) → w.grownBy w' v.ownBlock → (v'.ownBlock = v.ownBlock ∨ v'.ownBlock = some w.heap.size) → wpList Try.prog ops Q rest (a.put o.dst v') w') : wpList Try.prog ops Q (o :: rest) a w := by
  obtain ⟨i, hinf, hz, hsize, hby⟩ := info_parts infoInt
  refine wpList_append_own_at w hgd s x 32 ho 0 3 i (.int .i64 0) 1 8 Try.underlying32 hinf hz hsize hby rfl (by decide) v vs.length _ hs hown ⟨g, 0, none⟩ 1 1 [.int .i64 n] hx rfl (World.news_of_block (cs := #[.int .i64 n]) hg) (by intro u hu; rw [List.mem_singleton.1 hu]; rfl) (by unfold maxLen; omega) (by omega) (Nat.zero_le _) ?_
  intro v' w' g1 g2 _ g4
  exact h v' w' (by rw [List.length_append, List.map_append]; exact g1) g2 g4
theorem leaf_ok {n : Int} {c : List Tm} (h : allN okN (.node 1 n c) = true) : 0 ≤ n ∧ c = [] := leaf_of (kids_ok h).1
/-- What vars leaves. -/
def RVp (us : List Int) (vo : Value) (w : World) (e : Ending) (w' : World) : Prop :=
  ∃ v', e = .returned v' ∧ w'.ownsRow 0 3 1 v' us.length (us.map (Value.int .i64)) ∧ w.grownBy w' vo.ownBlock ∧ ∀ g, v'.ownBlock = some g → vo.ownBlock = some g ∨ w.heap.size ≤ g
theorem own_up {w w' : World} {e : TypeId} {v : Value} {n : Nat} {xs : List Value} (h : w.ownsRow 0 e 1 v n xs) (hb : Below w.heap.size w w') : w'.ownsRow 0 e 1 v n xs := by
  refine ⟨h.1, ?_⟩
  rcases h.2 with hn | ⟨g, cap, cur, hv, hbb, hh, r⟩
  · exact .inl hn
  · exact .inr ⟨g, cap, cur, hv, hbb, (hb.block g (block_lt hh)).trans hh, r⟩
theorem own_lt {w : World} {e : TypeId} {v : Value} {n : Nat} {xs : List Value} (h : w.ownsRow 0 e 1 v n xs) {g : Nat} (hg : v.ownBlock = some g) : g < w.heap.size := by
  rcases h.2 with ⟨h1, h2⟩ | ⟨g', cap, cur, hv, hb, hh, -⟩
  · rw [h1] at hg; cases hg
  · rw [hv] at hg
    have : g' = g := Option.some.inj hg
    subst this
    exact block_lt hh
theorem grown_below {w w' : World} {r : Option Nat} (h : Below w.heap.size w w') : w.grownBy w' r := ⟨h.os, h.tape, h.output, h.size, fun k hk _ => h.block k hk⟩
theorem grown_trans {w w1 w2 : World} {r r1 : Option Nat} (h : w.grownBy w1 r) (h1 : w1.grownBy w2 r1) (hr : ∀ g, r1 = some g → r = some g ∨ w.heap.size ≤ g) : w.grownBy w2 r :=
  ⟨h1.os.trans h.os, h1.tape.trans h.tape, h1.output.trans h.output, Nat.le_trans h.size h1.size, fun k hk hne => (h1.block k (Nat.lt_of_lt_of_le hk h.size) (fun e => by
    rcases hr k e.symm with h2 | h2
    · exact hne h2.symm
    · omega)).trans (h.block k hk hne)⟩
theorem owns_sl {w : World} {e : TypeId} {v : Value} {n : Nat} {xs : List Value} (h : w.ownsRow 0 e 1 v n xs) : ∃ oa c, v = .slice oa n c := by
  rcases h.2 with ⟨h1, h2⟩ | ⟨g', cap, cur, hv, -⟩
  · exact ⟨none, 0, by rw [h1, h2]⟩
  · exact ⟨_, _, hv⟩
set_option maxRecDepth 100000 in
set_option maxHeartbeats 1000000 in
theorem rvars_n (N : Nat) : ∀ t, sz t ≤ N → allN okN t = true → ∀ (d : Int) (vs : List Int) (vt vo : Value) (w : World) (Q : Nat → Prop), TrV w Q t vt → (∀ b, Q b → b < w.heap.size ∧ vo.ownBlock ≠ some b) → w.ownsRow 0 3 1 vo vs.length (vs.map (Value.int .i64)) → vs.length + sz t ≤ 1000000000 →
    Calls Try.prog 61 #[vt, vo] w (RVp (wk stepV t d vs).1 vo w) := by
  induction N with
  | zero => intro t h; have := sz_pos t; omega
  | succ N ih =>
    intro t hN hok d vs vt vo w Q hv hQ hown hlen
    have IH := Lib.hid ih
    obtain ⟨sl, rfl, hk1, hk2, hsl⟩ := trV_iff.1 hv
    obtain ⟨oa, cap, b, o, rfl, hlc, hcm, hoa, hel⟩ := trS_at hsl
    have hfar : vo.ownBlock ≠ some w.heap.size := fun e => by have := own_lt hown e; omega
    have hS : ∀ W, w.grownBy W vo.ownBlock → ∀ b, Q b → W.heap[b]? = w.heap[b]? := fun W hW b hb => hW.block b (hQ b hb).1 (fun e => (hQ b hb).2 e.symm)
    have H0 := Lib.hid (And.intro hown (And.intro hQ (And.intro hfar (And.intro hlen (And.intro hS hok)))))
    have HEL := Lib.hid (And.intro hoa hel)
    clear ih hv hsl hown hQ hfar hlen hS hoa hel
    by_cases hk : t.k = 1
    · have hlf : t.l = [] := by
        obtain ⟨k, n, l⟩ := t
        simp only [Tm.k] at hk
        subst hk
        exact (leaf_ok hok).2
      have hwk : (wk stepV t d vs).1 = if t.n ∈ vs then vs else vs ++ [t.n] := by
        rw [wk_t]
        have e : (stepV vs t d).2 = true := rfl
        rw [e, if_pos rfl, hlf]
        show (stepV vs t d).1 = _
        unfold stepV
        rw [hk]
        by_cases hm : t.n ∈ vs <;> simp [hm]
      rw [hwk]
      have hown1 : (w.alloc (.cells #[.int .i64 t.k, .int .i64 t.n, .slice oa t.l.length cap] 24)).ownsRow 0 3 1 vo vs.length (vs.map (Value.int .i64)) := own_up H0.out.1 (bA (bZ w) _)
      have hin := RIn_any vs t.n vo _ (intS_of_owns (P := fun _ => True) hown1 (fun _ _ => trivial))
      have HI := Lib.hid (And.intro hin hown1)
      clear hin hown1 hwk hok hN hlf
      rw [hk] at HI ⊢
      by_cases hm : t.n ∈ vs
      · rw [if_pos hm]
        have HM := Lib.hid hm
        clear hm
        go_enter Try.func61, Try.ntmps61
        go_wp2_with fail
        refine HI.out.1.mono ?_
        rintro e w' ⟨rfl, rfl⟩
        rw [decide_eq_true HM.out]
        go_wp2_with fail
        go_ret
        exact ⟨vo, rfl, HI.out.2, grown_below (bA (bZ w) _), fun g hg => .inl hg⟩
      · rw [if_neg hm]
        have HM := Lib.hid hm
        clear hm
        go_enter Try.func61, Try.ntmps61
        go_wp2_with fail
        refine HI.out.1.mono ?_
        rintro e w' ⟨rfl, rfl⟩
        rw [decide_eq_false HM.out]
        go_wp2_with (at_builtin; refine app_int rfl _ _ rfl rfl rfl (own_up HI.out.2 (bA (bZ _) _)) (n := t.n) (by (simp only [heap_alloc, alloc_size]; repeat (first | rw [if_pos trivial] | rw [if_pos (by omega)] | rw [if_neg (by omega)]))) (by have := H0.out.2.2.2.1; have := sz_pos t; omega) ?_)
        intro v' w' g1 g2 g3
        have HG := Lib.hid (And.intro g1 (And.intro g2 g3))
        clear g1 g2 g3
        go_wp2_with fail
        go_ret
        refine ⟨v', rfl, by rw [List.length_append, List.map_append]; exact HG.out.1, grown_trans (grown_below (bA (bA (bZ w) _) _)) HG.out.2.1 (fun g hg => .inl hg), fun g hg => ?_⟩
        rcases HG.out.2.2 with h | h
        · exact .inl (by rw [← h]; exact hg)
        · right
          rw [h] at hg
          have := Option.some.inj hg
          try simp only [alloc_size] at this
          omega
    · have hwk : (wk stepV t d vs).1 = (wkL stepV t.l (d + 1) vs).1 := by
        rw [wk_t]
        have e : (stepV vs t d).2 = true := rfl
        have e2 : (stepV vs t d).1 = vs := by
          unfold stepV
          rw [show (t.k == 1) = false from by simpa using hk]
          rfl
        rw [e, if_pos rfl, e2]
      have hkid : ∀ x ∈ t.l, allN okN x = true := by
        rw [allN_t, Bool.and_eq_true, allNL_iff] at hok
        exact hok.2
      rw [hwk]
      have hsz := sz_l t
      have HK := Lib.hid (And.intro hkid (And.intro hsz hN))
      have hkb : (t.k == 1) = false := by simpa using hk
      clear hwk hok hkid hsz hN hk
      go_enter Try.func61, Try.ntmps61
      go_wp2_with fail
      have hbox := heap_alloc_new w (.cells #[.int .i64 t.k, .int .i64 t.n, .slice oa t.l.length cap] 24)
      have HB := Lib.hid (And.intro hbox (own_up H0.out.1 (bA (bZ w) (.cells #[.int .i64 t.k, .int .i64 t.n, .slice oa t.l.length cap] 24))))
      clear hbox
      go_loopw [1, 5] (fun ov i wr => ∃ (j : Nat) (us : List Int), j ≤ t.l.length ∧ i = .int .i64 j ∧ Hid ((wkL stepV t.l (d + 1) vs).1 = (wkL stepV (t.l.drop j) (d + 1) us).1 ∧ us.length + szL (t.l.drop j) ≤ 1000000000 ∧ wr.ownsRow 0 3 1 ov us.length (us.map (Value.int .i64)) ∧ w.grownBy wr vo.ownBlock ∧ (∀ g, ov.ownBlock = some g → vo.ownBlock = some g ∨ (w.heap.size ≤ g ∧ g ≠ w.heap.size)) ∧ wr.heap[w.heap.size]? = some (.cells #[.int .i64 t.k, .int .i64 t.n, .slice oa t.l.length cap] 24))) (fun _ i _ => t.l.length - (intOf i).toNat)
      case atStart =>
        refine ⟨0, vs, by omega, rfl, rfl, ?_, HB.out.2, grown_below (bA (bZ w) _), fun g hg => .inl hg, HB.out.1⟩
        have := H0.out.2.2.2.1
        rw [HK.out.2.1] at this
        show vs.length + szL t.l ≤ _
        omega
      case round =>
        obtain ⟨j, us, hj, rfl, HR⟩ := hrel
        have c2 := (cells_of HR.out.2.2.2.2.2 2).1
        simp only [List.getElem?_toArray, List.getElem?_cons_zero, List.getElem?_cons_succ] at c2
        by_cases hlt : j < t.l.length
        · obtain ⟨rfl, hQb⟩ := HEL.out.1 (by omega)
          obtain ⟨oa2, cap2, e0, e1, e2, e3⟩ := HEL.out.2 j hlt
          have hbl := H0.out.2.2.2.2.1 wr HR.out.2.2.2.1 b hQb
          have d0 := (World.cell?_of_block (w := w) (a := ⟨b, o + j * 3, none⟩) hbl).trans e0
          have d1 := (World.cell?_of_block (w := w) (a := ⟨b, o + j * 3 + 1, none⟩) hbl).trans e1
          have d2 := (World.cell?_of_block (w := w) (a := ⟨b, o + j * 3 + 2, none⟩) hbl).trans e2
          have hdr : t.l.drop j = t.l[j] :: t.l.drop (j + 1) := List.drop_eq_getElem_cons hlt
          have hl1 : us.length + sz t.l[j] + szL (t.l.drop (j + 1)) ≤ 1000000000 := by
            have := HR.out.2.1
            rw [hdr] at this
            simp only [szL] at this
            omega
          have hQ2 : ∀ b, Q b → b < wr.heap.size ∧ u1.ownBlock ≠ some b := fun b hb => by
            have h1 := H0.out.2.1 b hb
            refine ⟨Nat.lt_of_lt_of_le h1.1 HR.out.2.2.2.1.size, fun e => ?_⟩
            rcases HR.out.2.2.2.2.1 b e with h2 | h2
            · exact h1.2 h2
            · omega
          have hcall := IH.out t.l[j] (by have := HK.out.2.1; have := HK.out.2.2; have := sz_mem (List.getElem_mem hlt); omega) (HK.out.1 _ (List.getElem_mem hlt)) (d + 1) us _ u1 wr Q (trV_mono (fun _ h => h) (fun b h => H0.out.2.2.2.2.1 wr HR.out.2.2.2.1 b h) _ e3) hQ2 HR.out.2.2.1 (by omega)
          have hw : (wkL stepV t.l (d + 1) vs).1 = (wkL stepV (t.l.drop (j + 1)) (d + 1) (wk stepV t.l[j] (d + 1) us).1).1 := by
            rw [HR.out.1, hdr]
            simp only [wkL, wk_stepV, if_true]
          have hln := wk_len t.l[j] (d + 1) us
          have HC := Lib.hid (And.intro hcall (And.intro hw (And.intro hl1 hln)))
          clear e0 e1 e2 e3 hbl hdr hl1 hQ2 hcall hw hln
          have i0 : (0 : Int) ≤ (j : Int) := Int.natCast_nonneg _
          have i1 : (j : Int) < (t.l.length : Int) := by omega
          go_wp2_with fail
          refine HC.out.1.mono ?_
          rintro e w5 ⟨v5, rfl, g1, g2, g3⟩
          have hx : w.grownBy w5 vo.ownBlock := grown_trans HR.out.2.2.2.1 g2 (fun g hg => by
            rcases HR.out.2.2.2.2.1 g hg with h | h
            · exact .inl h
            · exact .inr h.1)
          have hwb : w.heap.size < wr.heap.size := block_lt HR.out.2.2.2.2.2
          have hx2 : ∀ g, v5.ownBlock = some g → vo.ownBlock = some g ∨ (w.heap.size ≤ g ∧ g ≠ w.heap.size) := fun g hg => by
            rcases g3 g hg with h | h
            · exact HR.out.2.2.2.2.1 g h
            · right; omega
          have hx3 := (g2.block w.heap.size hwb (fun e => by
            rcases HR.out.2.2.2.2.1 _ e.symm with h | h
            · exact H0.out.2.2.1 h
            · exact h.2 rfl)).trans HR.out.2.2.2.2.2
          have HF := Lib.hid (And.intro g1 (And.intro hx (And.intro hx2 hx3)))
          clear g1 g2 g3 hx hwb hx2 hx3
          go_wp2_with fail
          go_roundw
          case rel => exact ⟨j + 1, _, by omega, by go_num, HC.out.2.1, by have := HC.out.2.2.1; have := HC.out.2.2.2; omega, HF.out⟩
          case measure => simp [intOf]; omega
        · have hres : (wkL stepV t.l (d + 1) vs).1 = us := by rw [HR.out.1, List.drop_eq_nil_of_le (by omega)]; rfl
          have HS := Lib.hid hres
          clear hres
          go_wp2_with fail
          go_ret
          rw [HS.out]
          exact ⟨_, rfl, HR.out.2.2.1, HR.out.2.2.2.1, fun g hg => by
            rcases HR.out.2.2.2.2.1 g hg with h | h
            · exact .inl h
            · exact .inr h.1⟩
theorem own_made0 (w : World) : (w.alloc (.cells #[] 3)).ownsRow 0 3 1 (.slice (some ⟨w.heap.size, 0, none⟩) 0 0) 0 [] :=
  ⟨rfl, .inr ⟨w.heap.size, 0, #[], rfl, Nat.zero_le _, heap_alloc_new w _, Nat.le_refl _, Nat.zero_le _, rfl, rfl⟩⟩
set_option maxRecDepth 100000 in
set_option maxHeartbeats 1000000 in
theorem RVars_any (l : List Tm) (s : Value) (w : World) (hs : TrS w (· < w.heap.size) l s) (hsz : szL l ≤ 1000000000) :
    Calls Try.prog 23 #[s] w fun e w' => ∃ v, e = .returned v ∧ IntS w' (· < w'.heap.size) (if l.all good then vars l else []) v ∧ Below w.heap.size w w' := by
  obtain ⟨oa, cap, b, o, rfl, hlc, hcm, hoa, hel⟩ := trS_at hs
  have H0 := Lib.hid (And.intro hs hsz)
  have HEL := Lib.hid (And.intro hoa hel)
  clear hs hsz hoa hel
  obtain ⟨q, hq⟩ : ∃ q, l.all good = q := ⟨_, rfl⟩
  have hall := RAll_any l _ (w.alloc (.cells #[] 3)) (trS_up (bA (bZ w) _) H0.out.1)
  rw [hq] at hall ⊢
  have HA := Lib.hid (And.intro hall hq)
  clear hall hq
  cases q
  · go_enter Try.func23, Try.ntmps23
    go_wp2_with fail
    refine HA.out.1.mono ?_
    rintro e w2 ⟨rfl, hb2⟩
    have HB := Lib.hid (And.intro (own_up (own_made0 w) hb2) (below_next (bA (bZ w) _) hb2))
    clear hb2
    go_wp2_with fail
    go_ret
    exact ⟨_, rfl, intS_of_owns HB.out.1 (fun g hg => own_lt HB.out.1 hg), HB.out.2⟩
  · have hok := all_ok HA.out.2
    have HK := Lib.hid hok
    clear hok
    go_enter Try.func23, Try.ntmps23
    go_wp2_with fail
    refine HA.out.1.mono ?_
    rintro e w2 ⟨rfl, hb2⟩
    have HB := Lib.hid (And.intro (own_up (own_made0 w) hb2) (below_next (bA (bZ w) _) hb2))
    clear hb2
    go_wp2_with fail
    go_loopw [3, 4] (fun ov i wr => ∃ (j : Nat) (us : List Int), j ≤ l.length ∧ i = .int .i64 j ∧ Hid ((wkL stepV l 1 []).1 = (wkL stepV (l.drop j) 1 us).1 ∧ us.length + szL (l.drop j) ≤ 1000000000 ∧ wr.ownsRow 0 3 1 ov us.length (us.map (Value.int .i64)) ∧ Below w.heap.size w wr ∧ (∀ g, ov.ownBlock = some g → w.heap.size ≤ g))) (fun _ i _ => l.length - (intOf i).toNat)
    case atStart => exact ⟨0, [], by omega, rfl, rfl, by have := H0.out.2; show 0 + szL l ≤ _; omega, HB.out.1, HB.out.2, fun g hg => by have : w.heap.size = g := Option.some.inj hg; omega⟩
    case round =>
      obtain ⟨j, us, hj, rfl, HR⟩ := hrel
      by_cases hlt : j < l.length
      · obtain ⟨rfl, hQb⟩ := HEL.out.1 (by omega)
        obtain ⟨oa2, cap2, e0, e1, e2, e3⟩ := HEL.out.2 j hlt
        have hbl := HR.out.2.2.2.1.block b hQb
        have d0 := (World.cell?_of_block (w := w) (a := ⟨b, o + j * 3, none⟩) hbl).trans e0
        have d1 := (World.cell?_of_block (w := w) (a := ⟨b, o + j * 3 + 1, none⟩) hbl).trans e1
        have d2 := (World.cell?_of_block (w := w) (a := ⟨b, o + j * 3 + 2, none⟩) hbl).trans e2
        have hdr : l.drop j = l[j] :: l.drop (j + 1) := List.drop_eq_getElem_cons hlt
        have hl1 : us.length + sz l[j] + szL (l.drop (j + 1)) ≤ 1000000000 := by
          have := HR.out.2.1
          rw [hdr] at this
          simp only [szL] at this
          omega
        have hcall := rvars_n (sz l[j]) l[j] (Nat.le_refl _) (HK.out _ (List.getElem_mem hlt)) 1 us _ u3 wr (· < w.heap.size) (trV_below HR.out.2.2.2.1 e3) (fun b hb => ⟨Nat.lt_of_lt_of_le hb HR.out.2.2.2.1.size, fun e => by have := HR.out.2.2.2.2 b e; omega⟩) HR.out.2.2.1 (by omega)
        have hw : (wkL stepV l 1 []).1 = (wkL stepV (l.drop (j + 1)) 1 (wk stepV l[j] 1 us).1).1 := by
          rw [HR.out.1, hdr]
          simp only [wkL, wk_stepV, if_true]
        have hln := wk_len l[j] 1 us
        have HC := Lib.hid (And.intro hcall (And.intro hw (And.intro hl1 hln)))
        clear e0 e1 e2 e3 hbl hdr hl1 hcall hw hln
        have i0 : (0 : Int) ≤ (j : Int) := Int.natCast_nonneg _
        have i1 : (j : Int) < (l.length : Int) := by omega
        go_wp2_with fail
        refine HC.out.1.mono ?_
        rintro e w5 ⟨v5, rfl, g1, g2, g3⟩
        have hx : Below w.heap.size w w5 := below_grown HR.out.2.2.2.1 (Nat.le_refl _) g2 HR.out.2.2.2.2
        have hx2 : ∀ g, v5.ownBlock = some g → w.heap.size ≤ g := fun g hg => by
          rcases g3 g hg with h | h
          · exact HR.out.2.2.2.2 g h
          · have := HR.out.2.2.2.1.size; omega
        have HF := Lib.hid (And.intro g1 (And.intro hx hx2))
        clear g1 g2 g3 hx hx2
        go_wp2_with fail
        go_roundw
        case rel => exact ⟨j + 1, _, by omega, by go_num, HC.out.2.1, by have := HC.out.2.2.1; have := HC.out.2.2.2; omega, HF.out⟩
        case measure => simp [intOf]; omega
      · have hres : vars l = us := by
          show (wkL stepV l 1 []).1 = us
          rw [HR.out.1, List.drop_eq_nil_of_le (by omega)]; rfl
        have HS := Lib.hid hres
        clear hres
        go_wp2_with fail
        go_ret
        rw [HS.out]
        exact ⟨_, rfl, intS_of_owns HR.out.2.2.1 (fun g hg => own_lt HR.out.2.2.1 hg), HR.out.2.2.2.1⟩
/-- The variables of trees; none, if some are no trees. -/
def varsG (l : List Tm) : List Int := if l.all good then vars l else []
set_option maxRecDepth 100000 in
theorem greatest_l (l : List Tm) (s : Value) (w : World) (hs : TrS w (· < w.heap.size) l s) (hsz : szL l ≤ 1000000000) :
    Calls Try.prog 28 #[s] w fun e w' => e = .returned (.int .i64 (most (varsG l))) ∧ Below w.heap.size w w' := by
  have h := RVars_any l s w hs hsz
  obtain ⟨n, hn⟩ : ∃ n, varsG l = n := ⟨_, rfl⟩
  have hn2 : (if l.all good then vars l else []) = n := hn
  rw [hn2] at h
  rw [hn]
  obtain ⟨oa, cap, b, o, rfl, -⟩ := trS_at hs
  have HH := Lib.hid h
  clear h hs hn hn2
  go_enter Try.func28, Try.ntmps28
  go_wp2_with fail
  refine HH.out.mono ?_
  rintro e w2 ⟨v, rfl, h1, h2⟩
  have HM := Lib.hid (And.intro (RMost_any _ _ _ h1) h2)
  clear h1 h2
  go_wp2_with fail
  refine HM.out.1.mono ?_
  rintro e w3 ⟨rfl, rfl⟩
  go_wp2_with fail
  go_ret
  exact ⟨rfl, HM.out.2⟩
end Go.Proofs.Ytapdfdjknehhgaa
