/- LexEdited: the walk. -/
import Derived.Test.YtkghbecfjeldcaaDoorEd1
namespace Go.Proofs.YtkghbecfjeldcaaDoor
open Go.RowKit

set_option maxRecDepth 100000 in
set_option maxHeartbeats 2000000 in
theorem LexEdited_any (a : ByteArray) (pe c : Int) (S : ByteArray) (fe d : Int) (F : ByteArray) (ha : a.size ≤ 140737488355328) (hS : S.size ≤ 140737488355328) (hF : F.size ≤ 140737488355328)
    (hpe : -9223372036854775808 ≤ pe ∧ pe ≤ 9223372036854775807) (hc : -9223372036854775808 ≤ c ∧ c ≤ 9223372036854775807) (hfe : -9223372036854775808 ≤ fe ∧ fe ≤ 9223372036854775807) (hd : -9223372036854775808 ≤ d ∧ d ≤ 9223372036854775807) (w : World) :
    Calls Tryd.prog 8 #[.string a, .agg #[.int .i64 pe, .int .i64 c, .string S], .agg #[.int .i64 fe, .int .i64 d, .string F]] w fun e w' => e = .returned (.bool true) ∧ Below w.heap.size w w' := by
  go_enter Tryd.func8, Tryd.ntmps8
  go_wp2_with fail
  obtain ⟨W0, hW0⟩ : ∃ W0, W0 = ((w.alloc (.cells #[.int .i64 pe, .int .i64 c, .string S] 38)).alloc (.cells #[.int .i64 fe, .int .i64 d, .string F] 38)) := ⟨_, rfl⟩
  rw [← hW0]
  have hB0 : Below w.heap.size w W0 := by subst hW0; exact ((Below.refl _ _).alloc (Nat.le_refl _) _).alloc (by simp) _
  have hx0 : W0.heap[w.heap.size]? = some (.cells #[.int .i64 pe, .int .i64 c, .string S] 38) := by
    subst hW0
    rw [show w.heap.size = w.heap.size from rfl]
    exact ((((Below.refl (w.alloc (.cells #[.int .i64 pe, .int .i64 c, .string S] 38)).heap.size (w.alloc (.cells #[.int .i64 pe, .int .i64 c, .string S] 38))).alloc (Nat.le_refl _) _).block w.heap.size (by simp))).trans (heap_alloc_new w _)
  have hx1 : W0.heap[w.heap.size + 1]? = some (.cells #[.int .i64 fe, .int .i64 d, .string F] 38) := by
    subst hW0
    have h := heap_alloc_new (w.alloc (.cells #[.int .i64 pe, .int .i64 c, .string S] 38)) (.cells #[.int .i64 fe, .int .i64 d, .string F] 38)
    rw [show (w.alloc (.cells #[.int .i64 pe, .int .i64 c, .string S] 38)).heap.size = w.heap.size + 1 from by simp] at h
    exact h
  have hz0 : W0.heap.size = w.heap.size + 2 := by subst hW0; simp
  have hcs : ∀ W, Below W0.heap.size W0 W → (W.cell? ⟨w.heap.size, 0, none⟩ = some (.int .i64 pe) ∧ W.cell? ⟨w.heap.size, 1, none⟩ = some (.int .i64 c) ∧ W.cell? ⟨w.heap.size, 2, none⟩ = some (.string S)) ∧
      (W.cell? ⟨w.heap.size + 1, 0, none⟩ = some (.int .i64 fe) ∧ W.cell? ⟨w.heap.size + 1, 1, none⟩ = some (.int .i64 d) ∧ W.cell? ⟨w.heap.size + 1, 2, none⟩ = some (.string F)) := fun W hb => by
    have h0 := (hb.block w.heap.size (by omega)).trans hx0
    have h1 := (hb.block (w.heap.size + 1) (by omega)).trans hx1
    exact ⟨⟨by rw [(cells_of h0 0).1]; rfl, by rw [(cells_of h0 1).1]; rfl, by rw [(cells_of h0 2).1]; rfl⟩, by rw [(cells_of h1 0).1]; rfl, by rw [(cells_of h1 1).1]; rfl, by rw [(cells_of h1 2).1]; rfl⟩
  have HC := Lib.hid hcs
  have HW := Lib.hid (And.intro hB0 hz0)
  clear hW0 hB0 hx0 hx1 hz0 hcs
  generalize hbz : w.heap.size = bz at *
  have hend : ∀ W, Below W0.heap.size W0 W → Below w.heap.size w W := fun W h => by rw [hbz]; exact below_le HW.out.1 h (by have := HW.out.2; omega)
  have HE := Lib.hid hend
  clear hend hbz
  refine (sane_any _).mono ?_
  rintro e w1 ⟨rfl, hb1⟩
  have HB1 := Lib.hid hb1
  have e2 := (HC.out w1 hb1).1.2.2
  have f2 := (HC.out w1 hb1).2.2.2
  have hsh := short_any [a, S, F] 3 rfl (by omega) (by intro s hs; simp only [List.mem_cons, List.not_mem_nil, or_false] at hs; rcases hs with rfl | rfl | rfl <;> assumption) w1.heap.size 3 9 (w1.alloc (.cells #[.string a, .string S, .string F] 9)) (heap_alloc_new w1 _)
  have hb2 : Below W0.heap.size W0 (w1.alloc (.cells #[.string a, .string S, .string F] 9)) := hb1.alloc hb1.size _
  have HSH := Lib.hid hsh
  have HB2 := Lib.hid hb2
  have HI := Lib.hid (And.intro (And.intro hpe hc) (And.intro hfe hd))
  clear hb1 hsh hb2 ha hS hF hpe hc hfe hd
  go_wp2_with fail
  refine HSH.out.mono ?_
  rintro e w' ⟨rfl, rfl⟩
  clear e2 f2
  generalize (w1.alloc (.cells #[.string a, .string S, .string F] 9)) = w2 at *
  clear HSH
  by_cases hdd : total [a, S, F] ≤ 20000
  · rw [show decide (total [a, S, F] ≤ 20000) = true from by simpa using hdd]
    have hsz : a.size + S.size + F.size ≤ 20000 := by simp [total] at hdd; omega
    clear hdd
    have HTK := Lib.hid (tokens_s a (by omega) w2)
    go_wp2_with fail
    refine HTK.out.mono ?_
    rintro e w3 ⟨hb3, h⟩
    have HB3 := Lib.hid (below_le HB2.out hb3 HB2.out.size)
    clear hb3 HTK
    rcases h with ⟨p, hT, rfl⟩ | ⟨l, hT, hl, v, rfl, hown⟩
    · clear hT
      unfold three
      go_wp2_with fail
      go_ret
      exact ⟨rfl, HE.out _ HB3.out⟩
    · obtain ⟨a0, cap0, rfl, hcap⟩ := owns_form hown
      have haw := owned_lt hown
      have htv := tokV_owned hown
      obtain ⟨n, hn⟩ : ∃ n, l.length = n := ⟨_, rfl⟩
      rw [hn] at hl hcap ⊢
      have HT := Lib.hid (And.intro hT (And.intro hn (And.intro htv haw)))
      have HCH := Lib.hid (change_g a l hT n hn (by omega) a0 cap0 hcap pe c S (by omega) (by
        intro pn cn h1 h2 h3
        subst h1 h2
        rw [chT_size a pn cn S h3]; omega) HI.out.1.1 HI.out.1.2 w3 htv haw)
      clear hT hown htv haw hn
      unfold three
      have e0 := (HC.out w3 HB3.out).1.1
      have e1 := (HC.out w3 HB3.out).1.2.1
      have e2 := (HC.out w3 HB3.out).1.2.2
      go_wp2_with fail
      refine HCH.out.mono ?_
      rintro e w4 ⟨hb4, h⟩
      have HB4 := Lib.hid (And.intro (below_le HB3.out hb4 HB3.out.size) hb4)
      clear hb4 HCH e0 e1 e2
      rcases h with ⟨_, rfl⟩ | ⟨hfit, ⟨x, hx, rfl⟩ | ⟨m, m0, nm, mcap, hTm, hnm, hnm2, rfl, hmc, htm, ham⟩⟩
      · unfold four
        go_wp2_with fail
        go_ret
        exact ⟨rfl, HE.out _ HB4.out.1⟩
      · clear hx hfit
        unfold four
        generalize chT a pe c S = s1 at *
        go_wp2_with fail
        go_ret
        exact ⟨rfl, HE.out _ HB4.out.1⟩
      · obtain ⟨pn, cn, rfl, rfl, hpc⟩ := hfit
        obtain ⟨q, hq⟩ : ∃ q, pn + cn = q := ⟨_, rfl⟩
        obtain ⟨r, hr⟩ : ∃ r, a.size - pn = r := ⟨_, rfl⟩
        have hs1 := chT_size a pn cn S hpc
        have HBK := Lib.hid (fun W (hb : Below w4.heap.size w4 W) => change_back a l HT.out.1 n HT.out.2.1 pn cn q hq (by omega) S (by omega) m hTm nm hnm (by omega) m0 mcap hmc W (htm.below hb) (fun x hx => Nat.lt_of_lt_of_le (ham x hx) hb.size))
        have HM := Lib.hid (And.intro hTm (And.intro hnm (And.intro htm (And.intro ham (And.intro hs1 hnm2)))))
        obtain ⟨s1, hs1e⟩ : ∃ s1, s1 = chT a pn cn S := ⟨_, rfl⟩
        rw [← hs1e] at HBK HM ⊢
        have HS1 := Lib.hid hs1e
        have e0 := (HC.out w4 HB4.out.1).1.1
        have e1 := (HC.out w4 HB4.out.1).1.2.1
        have e2 := (HC.out w4 HB4.out.1).1.2.2
        have i1 : (pn : Int) + (cn : Int) = (q : Int) := by omega
        have i2 : (q : Int) ≤ (a.size : Int) := by omega
        have i3 : (0 : Int) ≤ (q : Int) := by omega
        have i4 : (0 : Int) ≤ (pn : Int) := by omega
        have i5 : (pn : Int) ≤ (a.size : Int) := by omega
        have i6 : IntKind.i64.wrap (q : Int) = (q : Int) := IntWalk.i64_in _ (by omega)
        have i7 : (a.size : Int) - (pn : Int) = (r : Int) := by omega
        have i8 : IntKind.i64.wrap (r : Int) = (r : Int) := IntWalk.i64_in _ (by omega)
        have i9 : ¬ ((r : Int) < (cn : Int)) := by omega
        have i10 : ¬ ((pn : Int) < 0) := by omega
        have i11 : ¬ ((cn : Int) < 0) := by omega
        have i12 : ¬ ((a.size : Int) < (pn : Int)) := by omega
        have i13 : (pn : Int) ≤ (q : Int) := by omega
        have HQ := Lib.hid hq
        clear hTm hnm htm ham hs1 hs1e hnm2 hq hr
        unfold four
        go_wp2_with fail
        clear e0 e1 e2
        go_region_held3 (fun W => W.cell? ⟨bz, 0, none⟩ = some (.int .i64 pn) ∧ W.cell? ⟨bz, 1, none⟩ = some (.int .i64 cn) ∧ W.cell? ⟨bz, 2, none⟩ = some (.string S))
          (first | (with_reducible refine (HC.out _ ?_).1; (repeat (first | with_reducible exact HB4.out.1 | with_reducible apply belowD2)); done) | (with_reducible refine (HC.out _ (below_two ?_ hb')).1; (repeat (first | with_reducible exact HB4.out.1 | with_reducible apply belowD2)); done))
          (first | (go_at_call 20; with_reducible refine (HBK.out _ (by repeat (first | with_reducible exact Below.refl _ _ | with_reducible apply belowD2))).mono ?_; rintro e w' ⟨hb', k0, kcap, rfl, hkc, hkt⟩; unfold four))
        have h50 : Below W0.heap.size W0 w' := below_two (by repeat (first | with_reducible exact HB4.out.1 | with_reducible apply belowD2)) hb'
        have h53 : Below w3.heap.size w3 w' := below_two (by repeat (first | with_reducible exact HB4.out.2 | with_reducible apply belowD2)) hb'
        have h54 : Below w4.heap.size w4 w' := below_two (by repeat (first | with_reducible exact Below.refl _ _ | with_reducible apply belowD2)) hb'
        have HB5 := Lib.hid (And.intro h50 (And.intro h53 h54))
        have hsm := fun W (hb : Below w'.heap.size w' W) => sameG_any (l.map rt) (l.map rt) k0 a0 kcap cap0 n n W (by rw [List.length_map]; exact HT.out.2.1) (by rw [List.length_map]; exact HT.out.2.1) (hkt.below hb) (HT.out.2.2.1.below (below_two h53 hb)) (by omega)
        rw [(eqs_iff _ _).2 rfl] at hsm
        have HSM := Lib.hid hsm
        clear h50 h53 h54 hsm hb' hkt hkc HBK
        generalize w' = w5 at *
        go_wp2_with fail
        refine (HSM.out _ (Below.refl _ _)).mono ?_
        rintro e w6 ⟨rfl, hg6⟩
        have HB6 := Lib.hid (And.intro (below_grown HB5.out.1 hg6) (And.intro (below_grown HB5.out.2.1 hg6) (below_grown HB5.out.2.2 hg6)))
        clear hg6 HSM
        have e0 := (HC.out w6 HB6.out.1).1.1
        have e1 := (HC.out w6 HB6.out.1).1.2.1
        have e2 := (HC.out w6 HB6.out.1).1.2.2
        have f0 := (HC.out w6 HB6.out.1).2.1
        have f1 := (HC.out w6 HB6.out.1).2.2.1
        have f2 := (HC.out w6 HB6.out.1).2.2.2
        by_cases g1 : fe < (q : Int)
        · go_wp2_with fail
          go_ret
          exact ⟨rfl, HE.out _ HB6.out.1⟩
        · obtain ⟨fn, rfl⟩ : ∃ fn : Nat, fe = fn := ⟨fe.toNat, by omega⟩
          have g0 : ¬ ((fn : Int) < 0) := by omega
          by_cases g2 : d < 0
          · go_wp2_with fail
            go_ret
            exact ⟨rfl, HE.out _ HB6.out.1⟩
          · obtain ⟨dn, rfl⟩ : ∃ dn : Nat, d = dn := ⟨d.toNat, by omega⟩
            by_cases g3 : (a.size : Int) < (fn : Int)
            · go_wp2_with fail
              go_ret
              exact ⟨rfl, HE.out _ HB6.out.1⟩
            · obtain ⟨t, ht⟩ : ∃ t, a.size - fn = t := ⟨_, rfl⟩
              have g4 : (a.size : Int) - (fn : Int) = (t : Int) := by omega
              have g5 : IntKind.i64.wrap (t : Int) = (t : Int) := IntWalk.i64_in _ (by omega)
              by_cases g6 : (t : Int) < (dn : Int)
              · go_wp2_with fail
                go_ret
                exact ⟨rfl, HE.out _ HB6.out.1⟩
              · have hs1 := HM.out.2.2.2.2.1
                have hq := HQ.out
                obtain ⟨y, hy⟩ : ∃ y, fn - cn = y := ⟨_, rfl⟩
                obtain ⟨x, hx⟩ : ∃ x, y + S.size = x := ⟨_, rfl⟩
                have z1 : (fn : Int) - (cn : Int) = (y : Int) := by omega
                have z2 : IntKind.i64.wrap (y : Int) = (y : Int) := IntWalk.i64_in _ (by omega)
                have z3 : (y : Int) + (S.size : Int) = (x : Int) := by omega
                have z4 : IntKind.i64.wrap (x : Int) = (x : Int) := IntWalk.i64_in _ (by omega)
                have h1 := fun W (hb : Below w6.heap.size w6 W) => change_fit s1 m HM.out.1 nm HM.out.2.1 (by have := HM.out.2.2.2.2.2; omega) m0 mcap hmc x dn (by omega) F (by omega) (by omega) (by omega) W (HM.out.2.2.1.below (below_two HB6.out.2.2 hb)) (fun z hz => Nat.lt_of_lt_of_le (HM.out.2.2.2.1 z hz) (below_two HB6.out.2.2 hb).size)
                have h2 := fun W (hb : Below w6.heap.size w6 W) => change_fit a l HT.out.1 n HT.out.2.1 (by omega) a0 cap0 hcap fn dn (by omega) F (by omega) (by omega) (by omega) W (HT.out.2.2.1.below (below_two HB6.out.2.1 hb)) (fun z hz => Nat.lt_of_lt_of_le (HT.out.2.2.2 z hz) (below_two HB6.out.2.1 hb).size)
                have h3 := chT_size a fn dn F (by omega)
                have h4 := two_same a pn cn fn dn x S F (by omega) (by omega) (by omega)
                rw [← HS1.out] at h4
                have h5 := chT_size s1 x dn F (by omega)
                obtain ⟨c3, hc3⟩ : ∃ c3, chT s1 x dn F = c3 := ⟨_, rfl⟩
                obtain ⟨c2, hc2⟩ : ∃ c2, chT a fn dn F = c2 := ⟨_, rfl⟩
                rw [hc3] at h1 h4 h5
                rw [hc2] at h2 h3 h4
                obtain ⟨rs3, n3, p3, er3, hn3, hform⟩ := chG_form c3
                have HF := Lib.hid (And.intro hn3 hform)
                have H1 := Lib.hid h1
                have H2 := Lib.hid h2
                have HZ := Lib.hid (And.intro h3 (And.intro h4 (And.intro (show c3.size ≤ 20000 by omega) (And.intro (show pn + cn ≤ c2.size by omega) (And.intro (show c2.size + S.size - cn ≤ 20000 by omega) (show c2.size ≤ 20000 by omega))))))
                clear hs1 hq hy hx h1 h2 h3 h4 h5 hc3 hc2 hn3 hform ht
                go_wp2_with fail
                refine (H1.out _ (Below.refl _ _)).mono ?_
                rintro e w7 ⟨hb7, hg7⟩
                obtain ⟨hle7, o7, cap7, rfl, hc7, ht7⟩ := HF.out.2 _ _ hg7
                have HB7 := Lib.hid (And.intro (below_two HB6.out.1 hb7) (And.intro hb7 (And.intro ht7 hle7)))
                clear hb7 hg7 ht7 hle7 e0 e1 e2 f0 f1 f2
                have f0 := (HC.out w7 HB7.out.1).2.1
                have f1 := (HC.out w7 HB7.out.1).2.2.1
                have f2 := (HC.out w7 HB7.out.1).2.2.2
                unfold four
                go_wp2_with fail
                refine (H2.out _ HB7.out.2.1).mono ?_
                rintro e w8 ⟨hb8, h8⟩
                have HB8 := Lib.hid (And.intro (below_two HB7.out.1 hb8) hb8)
                clear hb8 f0 f1 f2
                rcases h8 with ⟨u, _, rfl⟩ | ⟨m2, k2, n2, cap2, hT2, hn2, hn3, rfl, hc2, ht2, ha2⟩
                · unfold four
                  go_wp2_with fail
                  go_ret
                  exact ⟨rfl, HE.out _ HB8.out.1⟩
                · have h9 := change_fit c2 m2 hT2 n2 hn2 (by have := HZ.out.2.2.2.2.2; omega) k2 cap2 hc2 pn cn HZ.out.2.2.2.1 S HZ.out.2.2.2.2.2 (by omega) HZ.out.2.2.2.2.1 w8 ht2 ha2
                  rw [← HZ.out.2.1] at h9
                  have H9 := Lib.hid h9
                  clear h9 hT2 hn2 hn3 ht2 ha2
                  have e0 := (HC.out w8 HB8.out.1).1.1
                  have e1 := (HC.out w8 HB8.out.1).1.2.1
                  have e2 := (HC.out w8 HB8.out.1).1.2.2
                  unfold four
                  go_wp2_with fail
                  refine H9.out.mono ?_
                  rintro e w9 ⟨hb9, h9⟩
                  obtain ⟨_, o9, cap9, rfl, hc9, ht9⟩ := HF.out.2 _ _ h9
                  have hsm := sameG_any rs3 rs3 o7 o9 cap7 cap9 n3 n3 w9 HF.out.1 HF.out.1 (HB7.out.2.2.1.below (below_two HB8.out.2 hb9)) ht9 (by have := HZ.out.2.2.1; have := HB7.out.2.2.2; omega)
                  rw [(eqs_iff _ _).2 rfl] at hsm
                  have HSM := Lib.hid hsm
                  have HB9 := Lib.hid (below_two HB8.out.1 hb9)
                  clear hb9 h9 hc9 ht9 hsm e0 e1 e2
                  unfold four
                  go_wp2_with fail
                  refine HSM.out.mono ?_
                  rintro e w10 ⟨rfl, hg10⟩
                  have HB10 := Lib.hid (below_grown HB9.out hg10)
                  clear hg10
                  go_wp2_with fail
                  go_ret
                  exact ⟨rfl, HE.out _ HB10.out⟩
  · rw [show decide (total [a, S, F] ≤ 20000) = false from by simpa using hdd]
    clear hdd
    go_wp2_with fail
    go_ret
    exact ⟨rfl, HE.out _ HB2.out⟩
end Go.Proofs.YtkghbecfjeldcaaDoor
