/- Merged: Settle, Unified, Unify. -/
import Derived.Test.YtapdfdjknehhgaaRowP

/- Everything put into everything. -/
namespace Go.Proofs.Ytapdfdjknehhgaa
open Go.RowKit Go.Tr Go.Maps

theorem uniI_look2 {B pu bm : Nat} {b : Bec} {n : Int} {w : World} (h : UniI B pu bm b n w) {m : Int} (hm : inI m) :
    ∃ u, (∀ W, W.heap[bm]? = w.heap[bm]? → (Instr.lookup 92 (.map (some bm)) (.int .i64 m) true).run Try.prog W = .ok (.tuple #[u, .bool (fndT m b).isSome]) W) ∧
      TrV w (· < B) ((fndT m b).getD zeroT) u := by
  obtain ⟨v, h1, h2⟩ := h.hb
  cases hf : fndT m b with
  | none =>
    have h3 := h2.none hf
    refine ⟨vzero, fun W hW => ?_, ?_⟩
    · rw [look_int Try.underlying92 zeroTerm (h1.of_block hW) m hm true, h3]
      rfl
    · exact trV_iff.2 ⟨_, rfl, by unfold inI; simp [zeroT, Tm.k], by unfold inI; simp [zeroT, Tm.n], none, 0, 0, 0, rfl, Nat.le_refl _, by decide, fun h => absurd rfl h, trivial⟩
  | some t =>
    obtain ⟨u, h3, h4⟩ := h2.some hf
    refine ⟨u, fun W hW => ?_, h4⟩
    rw [look_int Try.underlying92 zeroTerm (h1.of_block hW) m hm true, h3]
    rfl
abbrev setCaps (q : Nat) : Array Value := #[.pointer (some ⟨q, 0, none⟩), .pointer (some ⟨q + 2, 0, none⟩), .pointer (some ⟨q + 3, 0, none⟩)]
/-- What settling has in memory. -/
structure SetI (B pu bm : Nat) (b : Bec) (c : Int) (q : Nat) (l : List Tm) (w : World) : Prop where
  uni : UniI B pu bm b c w
  hu : w.heap[q]? = some (.cells #[.pointer (some ⟨pu, 0, none⟩)] 91)
  row : RowP (q + 1) l w
  hl : w.heap[q + 2]? = some (.cells #[.slice (some ⟨q + 1, 0, none⟩) l.length l.length] 22)
  hs : w.heap[q + 3]? = some (.cells #[.func (.func 99) #[] #[.pointer (some ⟨q, 0, none⟩), .pointer (some ⟨q + 2, 0, none⟩), .pointer (some ⟨q + 3, 0, none⟩)]] 77)
  sz : ∀ x ∈ l, sz x ≤ 2000
  nu : pu < q
  nm : bm < q
theorem setI_kp {B pu bm : Nat} {b : Bec} {c : Int} {q : Nat} {l l' : List Tm} {w w' : World} (h : SetI B pu bm b c q l w) (hk : Kp (Ap (q + 1) w) w w') (hr : RowP (q + 1) l' w') (hl : l'.length = l.length) (hs : ∀ x ∈ l', sz x ≤ 2000) : SetI B pu bm b c q l' w' := by
  have l1 := block_lt h.hu
  have l2 := block_lt h.hl
  have l3 := block_lt h.hs
  have n1 := h.nu
  have n2 := h.nm
  obtain ⟨f, h1, h2⟩ := h.uni.hb
  have hbu := h.uni.bu
  refine ⟨⟨(hk.block pu ⟨by omega, by omega⟩).trans h.uni.hu, ⟨f, h1.of_block (hk.block bm ⟨by omega, by omega⟩), BRel.up (fun k hk' => hk.block k ⟨by omega, by omega⟩) h2⟩, h.uni.bu, h.uni.bb, h.uni.ne⟩,
    (hk.block q ⟨l1, by omega⟩).trans h.hu, hr, ?_, (hk.block _ ⟨l3, by omega⟩).trans h.hs, hs, n1, n2⟩
  rw [hl]
  exact (hk.block _ ⟨l2, by omega⟩).trans h.hl
theorem apB {g : Nat} {w w' : World} (h : Below w.heap.size w w') : Kp (Ap g w) w w' := below_kp h (fun _ hb => hb.1)
theorem apT {g : Nat} {a b c : World} (h : Kp (Ap g a) a b) (k : Kp (Ap g b) b c) : Kp (Ap g a) a c := h.trans (k.mono fun _ hx => ⟨Nat.lt_of_lt_of_le hx.1 h.size, hx.2⟩)
/-- A tree is laid into the row. -/
theorem setI_set0 {B pu bm : Nat} {b : Bec} {c : Int} {q k : Nat} {l : List Tm} {W : World} {t : Tm} {oa : Option Addr} {cap : Nat} (h : SetI B pu bm b c q l W) (hk : k < l.length) (hv : TrV W (Ap (q + 1) W) t (.agg #[.int .i64 t.k, .int .i64 t.n, .slice oa t.l.length cap])) (ht : sz t ≤ 2000) :
    SetI B pu bm b c q (l.set k t) (((W.setCell ⟨q + 1, k * 3, none⟩ (.int .i64 t.k)).setCell ⟨q + 1, k * 3 + 1, none⟩ (.int .i64 t.n)).setCell ⟨q + 1, k * 3 + 2, none⟩ (.slice oa t.l.length cap)) ∧
      Kp (Ap (q + 1) W) W (((W.setCell ⟨q + 1, k * 3, none⟩ (.int .i64 t.k)).setCell ⟨q + 1, k * 3 + 1, none⟩ (.int .i64 t.n)).setCell ⟨q + 1, k * 3 + 2, none⟩ (.slice oa t.l.length cap)) := by
  have hn : ∀ {X : World}, ¬ Ap (q + 1) X (q + 1) := fun hc => hc.2 rfl
  have hk1 : Kp (Ap (q + 1) W) W (((W.setCell ⟨q + 1, k * 3, none⟩ (.int .i64 t.k)).setCell ⟨q + 1, k * 3 + 1, none⟩ (.int .i64 t.n)).setCell ⟨q + 1, k * 3 + 2, none⟩ (.slice oa t.l.length cap)) :=
    ((kp_set hn _ _).trans (kp_set hn _ _)).trans (kp_set hn _ _)
  refine ⟨setI_kp h hk1 (rowP_set h.row hk hv) (by simp) (fun x hx => ?_), hk1⟩
  rcases List.mem_or_eq_of_mem_set hx with h1 | h1
  · exact h.sz x h1
  · rw [h1]; exact ht
theorem setI_set {B pu bm : Nat} {b : Bec} {c : Int} {q k : Nat} {l : List Tm} {W : World} {t : Tm} {oa : Option Addr} {cap : Nat} (h : SetI B pu bm b c q l W) (hk : k < l.length) (hv : TrV W (Ap (q + 1) W) t (.agg #[.int .i64 t.k, .int .i64 t.n, .slice oa t.l.length cap])) (ht : sz t ≤ 2000) :
    SetI B pu bm b c q (l.set k t) (((W.setCell ⟨q + 1, k * 3, none⟩ (.int .i64 t.k)).setCell ⟨q + 1, k * 3 + 1, none⟩ (.int .i64 t.n)).setCell ⟨q + 1, k * 3 + 2, none⟩ (.slice oa t.l.length cap)).drew ∧
      Kp (Ap (q + 1) W) W (((W.setCell ⟨q + 1, k * 3, none⟩ (.int .i64 t.k)).setCell ⟨q + 1, k * 3 + 1, none⟩ (.int .i64 t.n)).setCell ⟨q + 1, k * 3 + 2, none⟩ (.slice oa t.l.length cap)).drew := by
  obtain ⟨h1, h2⟩ := setI_set0 h hk hv ht
  exact ⟨setI_kp h1 (kpD _) (rowP_below h1.row (bD (bZ _))) rfl h1.sz, h2.trans (kpD _)⟩
set_option maxRecDepth 100000 in
set_option maxHeartbeats 1000000 in
theorem settle_any {B pu bm : Nat} {b : Bec} {c : Int} {q N : Nat} (hb : WfB b c) (hN : N ≤ 1000001) (hvs : ∀ z ∈ b, ∀ m, occ m z.2 = true → 0 ≤ m ∧ m < N) (n : Int) (ha : Acc (Beh1 b) n) : ∀ (l : List Tm) (w : World), l.length = N → 0 ≤ n → n < N → SetI B pu bm b c q l w →
    Calls Try.prog 99 #[.int .i64 n, .pointer (some ⟨q, 0, none⟩), .pointer (some ⟨q + 2, 0, none⟩), .pointer (some ⟨q + 3, 0, none⟩)] w fun e w' => ∃ r, Sets b l n r ∧ e = .returned (.bool r.2) ∧ SetI B pu bm b c q r.1 w' ∧ r.1.length = N ∧ Kp (Ap (q + 1) w) w w' := by
  induction ha with
  | intro n _ ih =>
    intro l w hlen hn0 hn1 h
    obtain ⟨k, rfl⟩ : ∃ k : Nat, n = k := ⟨n.toNat, by omega⟩
    have hk : k < l.length := by omega
    have hat : atL l k = l[k] := by unfold atL; rw [Int.toNat_natCast, List.getElem?_eq_getElem hk]; rfl
    obtain ⟨u, hlu, hut⟩ := uniI_look2 h.uni (show inI (k : Int) from by unfold inI; omega)
    obtain ⟨su, rfl, hu1, hu2, hus⟩ := trV_iff.1 hut
    obtain ⟨ou, capu, b1, o1, rfl, hlc, hcm, -, -⟩ := trS_at hus
    obtain ⟨oa, cap, a0, a1, a2, fr, hv⟩ := rowP_cells h.row hk
    have g1 := rowP_lt h.row
    have g2 := block_lt h.hl
    have g3 := block_lt h.hs
    have z0 := cell_of_one h.hu
    have z1 := (cells_of h.uni.hu 0).1
    have z2 := cell_of_one h.hl
    have z3 := cell_of_one h.hs
    simp only [List.getElem?_toArray, List.getElem?_cons_zero] at z1
    have hlook := hlu w rfl
    have i0 : (0 : Int) ≤ (k : Int) := Int.natCast_nonneg _
    have i1 : (k : Int) < (l.length : Int) := by omega
    generalize hut0 : (fndT (↑k) b).getD zeroT = t at *
    have hgr := fun o => bA (bZ w) o
    have H := Lib.hid (And.intro h (And.intro hut (And.intro hgr (And.intro hlu hat))))
    have HV := Lib.hid hv
    clear hv hus hu1 hu2 hut hlu h hat
    by_cases hk0 : l[k].k = 0
    · have hkb : (l[k].k != 0) = false := by simp [hk0]
      cases hf : fndT (↑k) b with
      | none =>
        rw [hf] at hlook
        have hset : Sets b l k (l.set (k : Int).toNat (var k), true) := sets_free (by rw [H.out.2.2.2.2]; exact hk0) hf
        rw [Int.toNat_natCast] at hset
        have HS := Lib.hid (And.intro hset hlen)
        have fc2 : ∀ o v j, ((w.alloc o).alloc v).cell? ⟨q + 1, j, none⟩ = w.cell? ⟨q + 1, j, none⟩ := fun o v j => World.cell?_of_block (w := w) (a := ⟨q + 1, j, none⟩) ((bA (bA (bZ w) o) v).block (q + 1) g1)
        have fr2 : ∀ o v j, ((w.alloc o).alloc v).frozen? ⟨q + 1, j, none⟩ = false := fun o v j => by
          obtain ⟨xs, hx, -⟩ := H.out.1.row
          exact (cells_of (((bA (bA (bZ w) o) v).block (q + 1) g1).trans hx) j).2
        clear hset ih hlen hut0 hn0 hn1 hvs hf
        go_enter Try.func99, Try.ntmps99
        go_wp2_with fail
        go_region_held3 (fun W => W.cell? ⟨q + 2, 0, none⟩ = some (.slice (some ⟨q + 1, 0, none⟩) l.length l.length))
          (first | with_reducible assumption | go_keep)
          (first
            | ((with_reducible refine (variable_any _ _).mono ?_); rintro e w2 ⟨rfl, rfl⟩))
        all_goals
          go_wp2_with fail
          go_ret
          have hW := fun o1 o2 => setI_kp (w' := (w.alloc o1).alloc o2) H.out.1 (apB (bA (H.out.2.2.1 _) _)) (rowP_below H.out.1.row (bA (H.out.2.2.1 _) _)) rfl H.out.1.sz
          have h2 := fun o1 o2 => setI_set (t := var k) (oa := none) (cap := 0) (hW o1 o2) hk (trV_var (by have := HS.out.2; unfold inI; omega)) (by simp [var, sz, szL])
          exact ⟨_, HS.out.1, rfl, (h2 _ _).1, by rw [List.length_set]; exact HS.out.2, apT (apB (bA (H.out.2.2.1 _) _)) (h2 _ _).2⟩
      | some t0 =>
        rw [hf] at hlook hut0
        obtain rfl : t0 = t := hut0
        obtain ⟨zz, hzm, hzt⟩ := fndT_mem hf
        have hok : okT t0 := hzt ▸ hb.ok zz hzm
        have hvz : ∀ m, m ∈ vars [t0] → 0 ≤ m ∧ m < N := fun m hm => hvs zz hzm m (by rw [hzt]; exact (vars_one t0 m).1 hm)
        have hIH : ∀ m, m ∈ vars [t0] → ∀ (l : List Tm) (w : World), l.length = N → SetI B pu bm b c q l w → Calls Try.prog 99 #[.int .i64 m, .pointer (some ⟨q, 0, none⟩), .pointer (some ⟨q + 2, 0, none⟩), .pointer (some ⟨q + 3, 0, none⟩)] w fun e w' => ∃ r, Sets b l m r ∧ e = .returned (.bool r.2) ∧ SetI B pu bm b c q r.1 w' ∧ r.1.length = N ∧ Kp (Ap (q + 1) w) w w' :=
          fun m hm l w hl hI => ih m ⟨t0, hf, (vars_one t0 m).1 hm⟩ l w hl (hvz m hm).1 (hvz m hm).2 hI
        have hset0 : ∀ l1, SetsL b (vars [t0]) l (l1, false) → Sets b l k (l1, false) := fun l1 hl1 => sets_no (by rw [H.out.2.2.2.2]; exact hk0) hf hl1
        have hset1 : ∀ l1, SetsL b (vars [t0]) l (l1, true) → Sets b l k (l1.set k (if fit (repT (atL l1) t0) then repT (atL l1) t0 else zeroT), fit (repT (atL l1) t0)) := fun l1 hl1 => by
          have := sets_yes (l := l) (by rw [H.out.2.2.2.2]; exact hk0) hf hl1
          rwa [Int.toNat_natCast] at this
        obtain ⟨ob, hob⟩ : ∃ o : Obj, o = .cells #[.int .i64 t0.k, .int .i64 t0.n, .slice ou t0.l.length capu] 24 := ⟨_, rfl⟩
        obtain ⟨W2, hW2⟩ : ∃ W, W = (w.alloc ob).alloc ob := ⟨_, rfl⟩
        have hb2 : Below w.heap.size w W2 := by rw [hW2]; exact bA (bA (bZ w) _) _
        have s2 : W2.heap.size = w.heap.size + 2 := by rw [hW2]; simp
        have htv : TrV (w.alloc ob) (· < (w.alloc ob).heap.size) t0 (.agg #[.int .i64 t0.k, .int .i64 t0.n, .slice ou t0.l.length capu]) := trV_mono (w := w) (w' := w.alloc ob) (fun x hx => by
            have hx' : x < B := hx
            have h1 := H.out.1.uni.bu
            have h2 := H.out.1.nu
            have h3 := block_lt H.out.1.hu
            show x < (w.alloc ob).heap.size
            rw [alloc_size]; omega) (fun x hx => (H.out.2.2.1 ob).block x (by
            have hx' : x < B := hx
            have h1 := H.out.1.uni.bu
            have h2 := H.out.1.nu
            have h3 := block_lt H.out.1.hu
            omega)) _ H.out.2.1
        have hts : TrS W2 (· < W2.heap.size) [t0] (.slice (some ⟨w.heap.size + 1, 0, none⟩) 1 1) := by
          have := trS_one (w := w.alloc ob) (w' := W2) htv (by rw [hW2, hob])
          rwa [alloc_size] at this
        have hvar := variables_any [t0] (.slice (some ⟨w.heap.size + 1, 0, none⟩) 1 1) W2 hts (by have := hok.2.2; simp [szL]; omega) (by have := hok.2.1; simp [dpL]; omega)
        have hbx : W2.heap[w.heap.size]? = some (.cells #[.int .i64 t0.k, .int .i64 t0.n, .slice ou t0.l.length capu] 24) := by
          rw [hW2, Below.heap_alloc _ _ _ (by simp), heap_alloc_new, hob]
        have HW2 := Lib.hid (And.intro hb2 (And.intro s2 hbx))
        clear hb2 htv hts hbx s2
        have HS := Lib.hid (And.intro hset0 (And.intro hset1 (And.intro hIH (And.intro hvz (And.intro hok hlen)))))
        have HVR := Lib.hid hvar
        clear hset0 hset1 hIH hvar ih hlen hn0 hn1 hvs hf hvz hok hzt hzm
        subst hob
        go_enter Try.func99, Try.ntmps99
        go_wp2_with fail
        rw [← hW2]
        refine HVR.out.mono ?_
        rintro e w3 ⟨vv, rfl, hints, hb3⟩
        obtain ⟨oi, capi, bi, oj, rfl, hil, him, hio, hie⟩ := hints
        have hq1 : q + 1 ≠ w.heap.size := by omega
        have hI3 : SetI B pu bm b c q l w3 := setI_kp H.out.1 (apB (below_next HW2.out.1 hb3)) (rowP_below H.out.1.row (below_next HW2.out.1 hb3)) rfl H.out.1.sz
        have hx3 := (hb3.block w.heap.size (by have := HW2.out.2.1; omega)).trans HW2.out.2.2
        have H3 := Lib.hid (And.intro hI3 (And.intro hx3 (And.intro (below_next HW2.out.1 hb3) (And.intro hio (And.intro hie HW2.out.2.1)))))
        clear hI3 hx3 hb3 hio hie hW2
        go_wp2_with fail
        go_loopw [37] (fun i wr => ∃ (j : Nat) (lj : List Tm), j ≤ (vars [t0]).length ∧ i = .int .i64 j ∧ lj.length = N ∧ Hid (∀ r, SetsL b ((vars [t0]).drop j) lj r → SetsL b (vars [t0]) l r) ∧ Hid (SetI B pu bm b c q lj wr ∧ Kp (Ap (q + 1) w3) w3 wr)) (fun i _ => (vars [t0]).length - (intOf i).toNat)
        case atStart => exact ⟨0, l, by omega, rfl, HS.out.2.2.2.2.2, fun r hr => hr, H3.out.1, Kp.refl _ _⟩
        case round =>
          obtain ⟨j, lj, hj, rfl, hlj, HR, HI⟩ := hrel
          have y3 := cell_of_one HI.out.1.hs
          have s3 := H3.out.2.2.1.size
          have hsr := HI.out.2.size
          have e1 := HS.out.1
          by_cases hlt : j < (vars [t0]).length
          · obtain ⟨rfl, hnw⟩ := H3.out.2.2.2.1 (by omega)
            have hw3s := block_lt H3.out.2.1
            have hlt3 : bi < w3.heap.size := hnw.2
            have hne3 : bi ≠ q + 1 := by have h1 := hnw.1; have h2 := H3.out.2.2.2.2.2; omega
            have d0 := (World.cell?_of_block (w := w3) (a := ⟨bi, oj + j, none⟩) (HI.out.2.block bi ⟨hlt3, hne3⟩)).trans (H3.out.2.2.2.2.1 j hlt)
            have hcall := HS.out.2.2.1 (vars [t0])[j] (List.getElem_mem hlt) lj wr hlj HI.out.1
            have hdr : (vars [t0]).drop j = (vars [t0])[j] :: (vars [t0]).drop (j + 1) := List.drop_eq_getElem_cons hlt
            have henter : ∀ (args : Array Value) (w : World), (callFunc 99 args).run Try.prog w = .ok (.enter 99 args) w := fun _ _ => by go_simp
            have j0 : (0 : Int) ≤ (j : Int) := Int.natCast_nonneg _
            have j1 : (j : Int) < ((vars [t0]).length : Int) := by omega
            have HC := Lib.hid (And.intro hcall hdr)
            clear hcall hdr e1 s3 hsr
            go_wp2_with fail
            refine HC.out.1.mono ?_
            rintro e w5 ⟨⟨l1, ok⟩, hs1, rfl, hI5, hl5, hk5⟩
            cases ok with
            | false =>
              have HF := Lib.hid (And.intro hs1 (And.intro hI5 (And.intro hl5 hk5)))
              clear hs1 hI5 hl5 hk5
              go_wp2_with fail
              go_ret
              refine ⟨(l1, false), HS.out.1 l1 (HR.out _ ?_), rfl, HF.out.2.1, HF.out.2.2.1, apT (apB H3.out.2.2.1) (apT HI.out.2 HF.out.2.2.2)⟩
              rw [HC.out.2]
              exact SetsL.no HF.out.1
            | true =>
              have HF := Lib.hid (And.intro hs1 (And.intro hI5 (And.intro hl5 hk5)))
              clear hs1 hI5 hl5 hk5
              go_wp2_with fail
              go_roundw
              case rel => exact ⟨j + 1, l1, by omega, by go_num, HF.out.2.2.1, fun r hr => HR.out r (by rw [HC.out.2]; exact SetsL.yes HF.out.1 hr), HF.out.2.1, apT HI.out.2 HF.out.2.2.2⟩
              case measure => simp [intOf]; omega
          · have hSL : SetsL b (vars [t0]) l (lj, true) := HR.out _ (by rw [List.drop_eq_nil_of_le (by omega)]; exact SetsL.nil _)
            have HSL := Lib.hid (HS.out.2.1 lj hSL)
            have hkj : k < lj.length := by have := HS.out.2.2.2.2.2; omega
            obtain ⟨oz0, capz0, r0, r1, r2, rfz, -⟩ := rowP_cells HI.out.1.row hkj
            have hg1 := rowP_lt HI.out.1.row
            have hws := block_lt H3.out.2.1
            have hBq : B ≤ q := by have := HI.out.1.uni.bu; have := HI.out.1.nu; omega
            have hxr := (HI.out.2.block w.heap.size ⟨hws, by omega⟩).trans H3.out.2.1
            have x0 := (cells_of hxr 0).1
            have x1 := (cells_of hxr 1).1
            have x2 := (cells_of hxr 2).1
            have y2 := cell_of_one HI.out.1.hl
            simp only [List.getElem?_toArray, List.getElem?_cons_zero, List.getElem?_cons_succ] at x0 x1 x2
            have hxs := block_lt hxr
            have hls := block_lt HI.out.1.hl
            have htr : TrV wr (· < B) t0 (.agg #[.int .i64 t0.k, .int .i64 t0.n, .slice ou t0.l.length capu]) := trV_mono (w := w) (w' := wr) (fun _ h => h) (fun x hx => by
              have hx' : x < B := hx
              exact (HI.out.2.block x ⟨by omega, by omega⟩).trans (H3.out.2.2.1.block x (by omega))) _ H.out.2.1
            have hall : allN (okP (inL lj)) t0 = true := allN_vars (p := inL lj) (List.all_eq_true.2 fun m hm => by
              have := HS.out.2.2.2.1 m hm
              simp only [inL, decide_eq_true_eq]; omega)
            have hgrown : ∀ W, Below wr.heap.size wr W → Calls Try.prog 70 #[.agg #[.int .i64 t0.k, .int .i64 t0.n, .slice ou t0.l.length capu], .func (.func 100) #[] #[.pointer (some ⟨q + 2, 0, none⟩)]] W fun e w' => ∃ (oz : Option Addr) (capz : Nat), e = .returned (.tuple #[.agg #[.int .i64 (if fit (repT (atL lj) t0) then repT (atL lj) t0 else zeroT).k, .int .i64 (if fit (repT (atL lj) t0) then repT (atL lj) t0 else zeroT).n, .slice oz (if fit (repT (atL lj) t0) then repT (atL lj) t0 else zeroT).l.length capz], .bool (fit (repT (atL lj) t0))]) ∧ TrV w' (Nw W w') (if fit (repT (atL lj) t0) then repT (atL lj) t0 else zeroT) (.agg #[.int .i64 (if fit (repT (atL lj) t0) then repT (atL lj) t0 else zeroT).k, .int .i64 (if fit (repT (atL lj) t0) then repT (atL lj) t0 else zeroT).n, .slice oz (if fit (repT (atL lj) t0) then repT (atL lj) t0 else zeroT).l.length capz]) ∧ Below W.heap.size W w' := fun W hW => by
              refine (grown_any t0 _ W (puts_up (unified11_puts HI.out.1.row HI.out.1.hl (fun x hx => by have := HI.out.1.sz x hx; omega)) hW) (okT_good HS.out.2.2.2.2.1) hall (trV_mono (w := wr) (w' := W) (fun x hx => by
                have hx' : x < B := hx
                have := hW.size
                show x < W.heap.size
                omega) (fun x hx => hW.block x (by have hx' : x < B := hx; omega)) _ htr)).mono ?_
              rintro e w7 ⟨v7, rfl, h1, h2, h3⟩
              cases hfit : fit (repT (atL lj) t0) with
              | true =>
                have hv7 := h1 hfit
                obtain ⟨s7, rfl, -, -, hs7⟩ := trV_iff.1 hv7
                obtain ⟨o7, cap7, b7, o8, rfl, -, -, -, -⟩ := trS_at hs7
                exact ⟨o7, cap7, rfl, hv7, h3⟩
              | false =>
                rw [h2 hfit]
                exact ⟨none, 0, rfl, trV_iff.2 ⟨_, rfl, by unfold inI; simp [zeroT, Tm.k], by unfold inI; simp [zeroT, Tm.n], none, 0, 0, 0, rfl, Nat.le_refl _, by decide, fun h => absurd rfl h, trivial⟩, h3⟩
            have hszr : sz (if fit (repT (atL lj) t0) then repT (atL lj) t0 else zeroT) ≤ 2000 := by
              split
              · rename_i hfit; simp only [fit, Bool.and_eq_true, decide_eq_true_eq] at hfit; exact hfit.1
              · decide
            generalize (if fit (repT (atL lj) t0) then repT (atL lj) t0 else zeroT) = rr at *
            generalize fit (repT (atL lj) t0) = okb at *
            have HK : Hid (∀ W, Below wr.heap.size wr W → W.cell? ⟨q + 2, 0, none⟩ = some (.slice (some ⟨q + 1, 0, none⟩) lj.length lj.length) ∧ W.cell? ⟨w.heap.size, 0, none⟩ = some (.int .i64 t0.k) ∧ W.cell? ⟨w.heap.size, 1, none⟩ = some (.int .i64 t0.n) ∧ W.cell? ⟨w.heap.size, 2, none⟩ = some (.slice ou t0.l.length capu)) := Lib.hid (fun W hW =>
              ⟨(World.cell?_of_block (w := wr) (a := ⟨q + 2, 0, none⟩) (hW.block _ hls)).trans y2, (World.cell?_of_block (w := wr) (a := ⟨w.heap.size, 0, none⟩) (hW.block _ hxs)).trans x0, (World.cell?_of_block (w := wr) (a := ⟨w.heap.size, 1, none⟩) (hW.block _ hxs)).trans x1, (World.cell?_of_block (w := wr) (a := ⟨w.heap.size, 2, none⟩) (hW.block _ hxs)).trans x2⟩)
            have hmf : ∀ (fn : Fn) (first cap : Array Value) (w : World), (Instr.makeFunc fn first cap).run Try.prog w = .ok (.func fn first cap) w := fun _ _ _ _ => rfl
            have HG := Lib.hid (And.intro hgrown (And.intro hszr (And.intro hkj HSL)))
            have i0 : (0 : Int) ≤ (k : Int) := Int.natCast_nonneg _
            have i2 : (k : Int) < (lj.length : Int) := by omega
            have i3 : (k : Int) < (N : Int) := by omega
            clear hgrown hszr HSL hall htr hxr r0 r1 r2 rfz x0 x1 x2 y2 y3 e1 s3 hsr hws
            go_wp2_with fail
            go_region_held3 (fun W => W.cell? ⟨q + 2, 0, none⟩ = some (.slice (some ⟨q + 1, 0, none⟩) lj.length lj.length) ∧ W.cell? ⟨w.heap.size, 0, none⟩ = some (.int .i64 t0.k) ∧ W.cell? ⟨w.heap.size, 1, none⟩ = some (.int .i64 t0.n) ∧ W.cell? ⟨w.heap.size, 2, none⟩ = some (.slice ou t0.l.length capu))
              (first | with_reducible assumption | (refine HK.out _ ?_; (repeat (first | with_reducible assumption | with_reducible exact bZ _ | with_reducible apply bA | with_reducible apply bD)); done) | go_keep)
              (first
                | (with_reducible refine (HG.out.1 _ (bD (bZ _))).mono ?_
                   rintro e w7 ⟨o7, cap7, rfl, hv7, hb7⟩
                   have hb8 := below_next (bD (bZ wr)) hb7
                   have hr7 := rowP_below HI.out.1.row hb8
                   obtain ⟨oz0, capz0, r0, r1, r2, rfz, -⟩ := rowP_cells hr7 HG.out.2.2.1
                   have hq5 : w.heap.size ≠ q + 1 := by omega))
            all_goals
              have hI7 := setI_kp HI.out.1 (apB hb8) hr7 rfl HI.out.1.sz
              have h7 := setI_set0 hI7 HG.out.2.2.1 (trV_mono (w := w7) (w' := w7) (fun x hx => by
                have hx1 : wr.heap.size ≤ x := hx.1
                exact ⟨hx.2, by omega⟩) (fun _ _ => rfl) _ hv7) HG.out.2.1
              have HZ := Lib.hid (And.intro h7.1 (apT (apB H3.out.2.2.1) (apT HI.out.2 (apT (apB hb8) h7.2))))
              clear hI7 h7 hb7 hb8 hr7 hv7 r0 r1 r2 rfz
              go_wp2_with fail
              go_ret
              exact ⟨(lj.set k rr, okb), HG.out.2.2.2, rfl, HZ.out.1, by rw [List.length_set]; exact hlj, HZ.out.2⟩
    · have hkb : (l[k].k != 0) = true := by simp [hk0]
      have hset : Sets b l k (l, true) := sets_done (by rw [H.out.2.2.2.2]; exact hk0)
      have HS := Lib.hid (And.intro hset hlen)
      clear hset hk0 ih hlen hut0 hn0 hn1 hvs
      go_enter Try.func99, Try.ntmps99
      go_wp2_with fail
      go_ret
      exact ⟨_, HS.out.1, rfl, setI_kp H.out.1 (apB (H.out.2.2.1 _)) (rowP_below H.out.1.row (H.out.2.2.1 _)) rfl H.out.1.sz, HS.out.2, apB (H.out.2.2.1 _)⟩
end Go.Proofs.Ytapdfdjknehhgaa

/- Everything put into everything: the whole. -/
namespace Go.Proofs.Ytapdfdjknehhgaa
open Go.RowKit Go.Tr Go.Maps

/-- The numbers below a number. -/
def upTo (N : Nat) : List Int := (List.range N).map Int.ofNat
theorem upTo_len (N : Nat) : (upTo N).length = N := by simp [upTo]
theorem upTo_get (N j : Nat) (h : j < (upTo N).length) : (upTo N)[j] = (j : Int) := by simp [upTo]
theorem below_ap {q : Nat} {w W w' : World} (hq : w.heap.size = q) (h : Below w.heap.size w W) (hk : Kp (Ap (q + 1) W) W w') : Below w.heap.size w w' :=
  ⟨hk.os.trans h.os, hk.tape.trans h.tape, hk.output.trans h.output, Nat.le_trans h.size hk.size, fun x hx => (hk.block x ⟨Nat.lt_of_lt_of_le hx h.size, by omega⟩).trans (h.block x hx)⟩
/-- What unified leaves. -/
def UnifiedP (b : Bec) (N : Nat) (w : World) (e : Ending) (w' : World) : Prop :=
  ∃ r, SetsL b (upTo N) (List.replicate N zeroT) r ∧ r.1.length = N ∧ Below w.heap.size w w' ∧
    ((r.2 = true ∧ ∃ v, e = .returned (.tuple #[v, .bool true, .int .i64 0]) ∧ TrS w' (· < w'.heap.size) r.1 v) ∨ (r.2 = false ∧ e = .returned (.tuple #[.slice none 0 0, .bool false, .int .i64 2])))
set_option maxRecDepth 100000 in
set_option maxHeartbeats 1000000 in
theorem unified_any {B pu bm : Nat} {b : Bec} {c : Int} (N : Nat) (hb : WfB b c) (ha : AccB b) (hN : N ≤ 1000001) (hvs : ∀ z ∈ b, ∀ m, occ m z.2 = true → 0 ≤ m ∧ m < N) (w : World) (h : UniI B pu bm b c w) :
    Calls Try.prog 68 #[.pointer (some ⟨pu, 0, none⟩), .int .i64 N] w (UnifiedP b N w) := by
  obtain ⟨W4, hW4⟩ : ∃ W, W = ((((w.alloc (.cells #[.pointer (some ⟨pu, 0, none⟩)] 91)).alloc (.cells (madeCells zt (N * 3)) 24)).alloc (.cells #[.slice (some ⟨w.heap.size + 1, 0, none⟩) N N] 22)).alloc (.cells #[.func (.func 99) #[] #[.pointer (some ⟨w.heap.size, 0, none⟩), .pointer (some ⟨w.heap.size + 2, 0, none⟩), .pointer (some ⟨w.heap.size + 3, 0, none⟩)]] 77)) := ⟨_, rfl⟩
  have hgr : Below w.heap.size w W4 := by rw [hW4]; exact bA (bA (bA (bA (bZ w) _) _) _) _
  have hrow : RowP (w.heap.size + 1) (List.replicate N zeroT) W4 := by
    rw [hW4]
    have := rowP_start (n := N) (w.alloc (.cells #[.pointer (some ⟨pu, 0, none⟩)] 91))
    rw [alloc_size] at this
    exact rowP_below (rowP_below this (bA (bZ _) _)) (bA (bZ _) _)
  have hI : SetI B pu bm b c w.heap.size (List.replicate N zeroT) W4 := by
    refine ⟨uniI_below h (uniI_B h) hgr, by subst hW4; (simp only [heap_alloc, alloc_size]; repeat (first | rw [if_pos trivial] | rw [if_pos (by omega)] | rw [if_neg (by omega)])), hrow, ?_, by subst hW4; (simp only [heap_alloc, alloc_size]; repeat (first | rw [if_pos trivial] | rw [if_pos (by omega)] | rw [if_neg (by omega)])), fun x hx => ?_, block_lt h.hu, ?_⟩
    · rw [List.length_replicate]; subst hW4; (simp only [heap_alloc, alloc_size]; repeat (first | rw [if_pos trivial] | rw [if_pos (by omega)] | rw [if_neg (by omega)]))
    · rw [(List.mem_replicate.1 hx).2]; decide
    · obtain ⟨f, h1, -⟩ := h.hb; exact h1.lt
  have hmk := fun w => make_terms N (by omega) w
  have hmf : ∀ (fn : Fn) (first cap : Array Value) (w : World), (Instr.makeFunc fn first cap).run Try.prog w = .ok (.func fn first cap) w := fun _ _ _ _ => rfl
  have y2 := cell_of_one hI.hl
  rw [List.length_replicate] at y2
  have hset : ∀ n : Nat, n < N → ∀ l w', l.length = N → SetI B pu bm b c w.heap.size l w' → Calls Try.prog 99 #[.int .i64 n, .pointer (some ⟨w.heap.size, 0, none⟩), .pointer (some ⟨w.heap.size + 2, 0, none⟩), .pointer (some ⟨w.heap.size + 3, 0, none⟩)] w' fun e w'' => ∃ r, Sets b l n r ∧ e = .returned (.bool r.2) ∧ SetI B pu bm b c w.heap.size r.1 w'' ∧ r.1.length = N ∧ Kp (Ap (w.heap.size + 1) w') w' w'' :=
    fun n hn l w' hl hI => settle_any hb hN hvs n (ha n) l w' hl (by omega) (by omega) hI
  have HH := Lib.hid (And.intro hI (And.intro hgr hset))
  have hq2 : (2 : Nat) + w.heap.size = w.heap.size + 2 := by omega
  clear hI hgr hset hrow h hb ha hvs hq2
  go_enter Try.func68, Try.ntmps68
  go_wp2_with fail
  have e2 : w.heap.size + 1 + 1 = w.heap.size + 2 := rfl
  have e3 : w.heap.size + 2 + 1 = w.heap.size + 3 := rfl
  rw [e2, e3, ← hW4]
  clear hW4
  generalize hq : w.heap.size = q at *
  have HQ := Lib.hid hq
  clear hq e2 e3 y2
  go_loopw [15] (fun i wr => ∃ (j : Nat) (lj : List Tm), j ≤ N ∧ i = .int .i64 j ∧ lj.length = N ∧ Hid (∀ r, SetsL b ((upTo N).drop j) lj r → SetsL b (upTo N) (List.replicate N zeroT) r) ∧ Hid (SetI B pu bm b c q lj wr ∧ Kp (Ap (q + 1) W4) W4 wr)) (fun i _ => N - (intOf i).toNat)
  case atStart => exact ⟨0, List.replicate N zeroT, by omega, rfl, by simp, fun r hr => hr, HH.out.1, Kp.refl _ _⟩
  case round =>
    obtain ⟨j, lj, hj, rfl, hlj, HR, HI⟩ := hrel
    have y3 := cell_of_one HI.out.1.hs
    by_cases hlt : j < N
    · have hcall := HH.out.2.2 j hlt lj wr hlj HI.out.1
      have hdr : (upTo N).drop j = (j : Int) :: (upTo N).drop (j + 1) := by
        rw [List.drop_eq_getElem_cons (by rw [upTo_len]; exact hlt), upTo_get]
      have henter : ∀ (args : Array Value) (w : World), (callFunc 99 args).run Try.prog w = .ok (.enter 99 args) w := fun _ _ => by go_simp
      have HC := Lib.hid (And.intro hcall hdr)
      clear hcall hdr
      go_wp2_with fail
      refine HC.out.1.mono ?_
      rintro e w5 ⟨⟨l1, ok⟩, hs1, rfl, hI5, hl5, hk5⟩
      cases ok with
      | false =>
        have HF := Lib.hid (And.intro hs1 (And.intro hI5 (And.intro hl5 hk5)))
        clear hs1 hI5 hl5 hk5
        go_wp2_with fail
        go_ret3
        refine ⟨(l1, false), HR.out _ ?_, HF.out.2.2.1, ?_, .inr ⟨rfl, rfl⟩⟩
        · rw [HC.out.2]; exact SetsL.no HF.out.1
        · have hbl : Below w.heap.size w W4 := by rw [HQ.out]; exact HH.out.2.1
          exact below_ap HQ.out hbl (apT HI.out.2 HF.out.2.2.2)
      | true =>
        have HF := Lib.hid (And.intro hs1 (And.intro hI5 (And.intro hl5 hk5)))
        clear hs1 hI5 hl5 hk5
        go_wp2_with fail
        go_roundw
        case rel => exact ⟨j + 1, l1, by omega, by go_num, HF.out.2.2.1, fun r hr => HR.out r (by rw [HC.out.2]; exact SetsL.yes HF.out.1 hr), HF.out.2.1, apT HI.out.2 HF.out.2.2.2⟩
        case measure => simp [intOf]; omega
    · have hSL : SetsL b (upTo N) (List.replicate N zeroT) (lj, true) := HR.out _ (by rw [List.drop_eq_nil_of_le (by rw [upTo_len]; omega)]; exact SetsL.nil _)
      have y2 := cell_of_one HI.out.1.hl
      have HSL := Lib.hid hSL
      clear hSL
      go_wp2_with fail
      go_ret3
      have hbl : Below w.heap.size w W4 := by rw [HQ.out]; exact HH.out.2.1
      exact ⟨(lj, true), HSL.out, hlj, below_ap HQ.out hbl HI.out.2, .inl ⟨rfl, _, rfl, by have h := rowP_trS HI.out.1.row (by omega); rw [hlj] at h; exact h⟩⟩
end Go.Proofs.Ytapdfdjknehhgaa

/- Unify. -/
namespace Go.Proofs.Ytapdfdjknehhgaa
open Go.RowKit Go.Tr Go.Maps

theorem wfB_nil : WfB [] 0 := ⟨by simp, (fun x hx => by cases hx), fun i hi => by simp at hi⟩
theorem trV_up2 {w W : World} {B : Nat} {t : Tm} {v : Value} (h : Below w.heap.size w W) (hB : w.heap.size ≤ B) (hv : TrV w (· < w.heap.size) t v) : TrV W (· < B) t v :=
  trV_mono (w := w) (w' := W) (fun _ hx => Nat.lt_of_lt_of_le hx hB) (fun x hx => h.block x hx) _ hv
theorem below_nu {w w3 W w5 : World} {pu bm : Nat} (h1 : Below w.heap.size w w3) (h2 : Below w3.heap.size w3 W) (hpu : w3.heap.size ≤ pu) (hbm : w3.heap.size ≤ bm) (h3 : Kp (NU pu bm W) W w5) : Below w.heap.size w w5 := by
  have h12 := below_next h1 h2
  have s1 := h1.size
  have s2 := h2.size
  exact ⟨h3.os.trans h12.os, h3.tape.trans h12.tape, h3.output.trans h12.output, Nat.le_trans h12.size h3.size, fun x hx => (h3.block x ⟨by omega, by omega, by omega⟩).trans (h12.block x hx)⟩
/-- How many variables the substitution is of. -/
def uniN (p t : Tm) : Nat := (most (vars [p, t]) + 1).toNat
def lookU (p t : Tm) : Bec × Int × Int := lookT 20001 [] 0 p t
def UnifyP (p t : Tm) (w : World) (e : Ending) (w' : World) : Prop :=
  Below w.heap.size w w' ∧
  ((good p && good t) = false ∧ e = .returned (.tuple #[.slice none 0 0, .bool false, .int .i64 4]) ∨
   (good p && good t) = true ∧ (4000 < most (vars [p, t]) ∧ e = .returned (.tuple #[.slice none 0 0, .bool false, .int .i64 1]) ∨
     most (vars [p, t]) ≤ 4000 ∧ (
       (lookU p t).2.2 = 3 ∧ e = .returned (.tuple #[.slice none 0 0, .bool false, .int .i64 0]) ∨
       (lookU p t).2.2 ≠ 3 ∧ (lookU p t).2.2 ≠ 0 ∧ e = .returned (.tuple #[.slice none 0 0, .bool false, .int .i64 (lookU p t).2.2]) ∨
       (lookU p t).2.2 = 0 ∧ ∃ r, SetsL (lookU p t).1 (upTo (uniN p t)) (List.replicate (uniN p t) zeroT) r ∧ r.1.length = uniN p t ∧
         ((r.2 = true ∧ ∃ v, e = .returned (.tuple #[v, .bool true, .int .i64 0]) ∧ TrS w' (· < w'.heap.size) r.1 v) ∨ (r.2 = false ∧ e = .returned (.tuple #[.slice none 0 0, .bool false, .int .i64 2]))))))
set_option maxRecDepth 100000 in
set_option maxHeartbeats 1000000 in
theorem Unify_any (p t : Tm) (vp vt : Value) (w : World) (hvp : TrV w (· < w.heap.size) p vp) (hvt : TrV w (· < w.heap.size) t vt) :
    Calls Try.prog 29 #[vp, vt] w (UnifyP p t w) := by
  obtain ⟨sl, rfl, hpk, hpn, hsl⟩ := trV_iff.1 hvp
  obtain ⟨oa, cap, b, o, rfl, hlc, hcm, -, -⟩ := trS_at hsl
  obtain ⟨sl', rfl, -, -, hsl'⟩ := trV_iff.1 hvt
  obtain ⟨oa', cap', b', o', rfl, hlc', hcm', -, -⟩ := trS_at hsl'
  obtain ⟨o1, ho1⟩ : ∃ o : Obj, o = .cells #[.int .i64 p.k, .int .i64 p.n, .slice oa p.l.length cap] 24 := ⟨_, rfl⟩
  obtain ⟨o2, ho2⟩ : ∃ o : Obj, o = .cells #[.int .i64 t.k, .int .i64 t.n, .slice oa' t.l.length cap'] 24 := ⟨_, rfl⟩
  obtain ⟨o3, ho3⟩ : ∃ o : Obj, o = .cells #[.int .i64 p.k, .int .i64 p.n, .slice oa p.l.length cap, .int .i64 t.k, .int .i64 t.n, .slice oa' t.l.length cap'] 24 := ⟨_, rfl⟩
  have hgr2 : Below w.heap.size w ((w.alloc o1).alloc o2) := bA (bA (bZ w) _) _
  have hgr : Below w.heap.size w (((w.alloc o1).alloc o2).alloc o3) := bA hgr2 _
  have hq1 : (((w.alloc o1).alloc o2).alloc o3).heap[w.heap.size]? = some o1 := by (simp only [heap_alloc, alloc_size]; repeat (first | rw [if_pos trivial] | rw [if_pos (by omega)] | rw [if_neg (by omega)]))
  have hq2 : (((w.alloc o1).alloc o2).alloc o3).heap[w.heap.size + 1]? = some o2 := by (simp only [heap_alloc, alloc_size]; repeat (first | rw [if_pos trivial] | rw [if_pos (by omega)] | rw [if_neg (by omega)]))
  have hA := areTrees_any [p, t] _ (((w.alloc o1).alloc o2).alloc o3) (trS_two (w := (w.alloc o1).alloc o2) (trV_up hgr2 hvp) (trV_up hgr2 hvt) (by rw [ho3]))
  have hall : [p, t].all good = (good p && good t) := by simp
  have hsz0 : ((w.alloc o1).alloc o2).heap.size = w.heap.size + 1 + 1 := by simp
  rw [hall, hsz0] at hA
  have HH := Lib.hid (And.intro hA (And.intro hgr (And.intro (hq1.trans (congrArg some ho1)) (And.intro (hq2.trans (congrArg some ho2)) (And.intro hvp hvt)))))
  clear hA hgr hgr2 hq1 hq2 hvp hvt hsl hsl' hall hsz0
  subst ho1 ho2 ho3
  cases hg : (good p && good t) with
  | false =>
    have HG := Lib.hid (And.intro hg True.intro)
    clear hg
    go_enter Try.func29, Try.ntmps29
    go_wp2_with fail
    refine HH.out.1.mono ?_
    rintro e w2 ⟨rfl, hb2⟩
    rw [HG.out.1]
    have HB := Lib.hid (below_next HH.out.2.1 hb2)
    clear hb2
    unfold errT
    go_wp2_with fail
    go_ret3
    exact ⟨HB.out, .inl ⟨HG.out.1, rfl⟩⟩
  | true =>
    have hgp : good p = true := by simp only [Bool.and_eq_true] at hg; exact hg.1
    have hgt : good t = true := by simp only [Bool.and_eq_true] at hg; exact hg.2
    have hop := good_okT hgp
    have hot := good_okT hgt
    have HE := Lib.hid (And.intro hop (And.intro hot hg))
    have HG := Lib.hid (And.intro hg (And.intro (show szL [p, t] ≤ 10000000000 from by have := hop.2.2; have := hot.2.2; simp [szL]; omega) (show dpL [p, t] ≤ 1000000000 from by have := hop.2.1; have := hot.2.1; simp [dpL]; omega)))
    clear hg hgp hgt hop hot
    by_cases hm : most (vars [p, t]) ≤ 4000
    · by_cases h3 : (lookU p t).2.2 = 3
      · have HR : Hid ((lookT 20001 [] 0 p t).2.2 = 3) := Lib.hid h3
        clear h3
        go_enter Try.func29, Try.ntmps29
        go_wp2_with fail
        refine HH.out.1.mono ?_
        rintro e w2 ⟨rfl, hb2⟩
        rw [HG.out.1]
        have hbw := below_next HH.out.2.1 hb2
        have r1 := (hb2.block _ (block_lt HH.out.2.2.1)).trans HH.out.2.2.1
        have r2 := (hb2.block _ (block_lt HH.out.2.2.2.1)).trans HH.out.2.2.2.1
        have a0 := (cells_of r1 0).1
        have a1 := (cells_of r1 1).1
        have a2 := (cells_of r1 2).1
        have b0 := (cells_of r2 0).1
        have b1 := (cells_of r2 1).1
        have b2 := (cells_of r2 2).1
        simp only [List.getElem?_toArray, List.getElem?_cons_zero, List.getElem?_cons_succ] at a0 a1 a2 b0 b1 b2
        have hgre := greatest_any [p, t] _ (w2.alloc (.cells #[.int .i64 p.k, .int .i64 p.n, .slice oa p.l.length cap, .int .i64 t.k, .int .i64 t.n, .slice oa' t.l.length cap'] 24)) (trS_two (w := w2) (trV_up hbw HH.out.2.2.2.2.1) (trV_up hbw HH.out.2.2.2.2.2) rfl) HG.out.2.1 HG.out.2.2
        have HG2 := Lib.hid (And.intro hgre (And.intro hbw (And.intro r1 r2)))
        clear hgre hbw r1 r2 hb2
        unfold errT
        go_wp2_with fail
        refine HG2.out.1.mono ?_
        rintro e w3 ⟨rfl, hb3⟩
        have hb3 := below_next (below_alloc w2 _) hb3
        have r1 := (hb3.block _ (block_lt HG2.out.2.2.1)).trans HG2.out.2.2.1
        have r2 := (hb3.block _ (block_lt HG2.out.2.2.2)).trans HG2.out.2.2.2
        have HX := Lib.hid (And.intro (below_next HG2.out.2.1 hb3) (And.intro r1 r2))
        have a0 := (cells_of r1 0).1
        have a1 := (cells_of r1 1).1
        have a2 := (cells_of r1 2).1
        have b0 := (cells_of r2 0).1
        have b1 := (cells_of r2 1).1
        have b2 := (cells_of r2 2).1
        simp only [List.getElem?_toArray, List.getElem?_cons_zero, List.getElem?_cons_succ] at a0 a1 a2 b0 b1 b2
        have l1 := block_lt r1
        have l2 := block_lt r2
        clear r1 r2 hb3
        have hmm := @run_makeMap Try.prog
        go_wp2_with fail
        have hW : Below w3.heap.size w3 ((w3.alloc (.map #[] 0)).alloc (.cells #[.map (some w3.heap.size), .int .i64 0] 94)) := bA (bA (bZ w3) _) _
        have hU : UniI w3.heap.size (w3.heap.size + 1) w3.heap.size [] 0 ((w3.alloc (.map #[] 0)).alloc (.cells #[.map (some w3.heap.size), .int .i64 0] 94)) :=
          ⟨by (simp only [heap_alloc, alloc_size]; repeat (first | rw [if_pos trivial] | rw [if_pos (by omega)] | rw [if_neg (by omega)])), ⟨[], ⟨#[], 0, by (simp only [heap_alloc, alloc_size]; repeat (first | rw [if_pos trivial] | rw [if_pos (by omega)] | rw [if_neg (by omega)])), rfl⟩, trivial⟩, by omega, Nat.le_refl _, by omega⟩
        have hlook := look_any 20001 [] 0 p t _ _ _ (by omega) (by omega) (by omega) wfB_nil HE.out.1 HE.out.2.1 hU (trV_up2 (below_next HX.out.1 hW) HX.out.1.size HH.out.2.2.2.2.1) (trV_up2 (below_next HX.out.1 hW) HX.out.1.size HH.out.2.2.2.2.2)
        have HL := Lib.hid hlook
        have HWW := Lib.hid (And.intro hW True.intro)
        clear hW hU hlook a0 a1 a2 b0 b1 b2 l1 l2
        refine HL.out.mono ?_
        rintro e w5 ⟨rfl, hU5, hk5⟩
        rw [HR.out]
        have hb5 := below_nu HX.out.1 HWW.out.1 (Nat.le_succ _) (Nat.le_refl _) hk5
        have H5 := Lib.hid (And.intro hU5 hb5)
        clear hU5 hk5 hb5
        go_wp2_with fail
        go_ret3
        exact ⟨H5.out.2, .inr ⟨HG.out.1, .inr ⟨hm, .inl ⟨HR.out, rfl⟩⟩⟩⟩
      · by_cases h0 : (lookU p t).2.2 = 0
        · have HR : Hid ((lookT 20001 [] 0 p t).2.2 = 0) := Lib.hid h0
          clear h0 h3
          have hmg := most_ge (vars [p, t])
          have hNe : ((uniN p t : Nat) : Int) = most (vars [p, t]) + 1 := by unfold uniN; omega
          have hun := fun (B pu bm : Nat) (w : World) h => unified_any (B := B) (pu := pu) (bm := bm) (b := (lookT 20001 [] 0 p t).1) (c := (lookT 20001 [] 0 p t).2.1) (uniN p t) (lookT_wf 20001 [] 0 p t wfB_nil HE.out.1 HE.out.2.1).1 (lookT_acc 20001 [] 0 p t wfB_nil accB_nil HE.out.1 HE.out.2.1) (by omega) (lookT_P (P := fun z => ∀ m, occ m z = true → 0 ≤ m ∧ m < (uniN p t : Int)) (fun z hz x hx m hm => hz m (by
            obtain ⟨zk, zn, zl⟩ := z
            simp only [occ, Bool.or_eq_true]; exact .inr ((occL_iff m zl).2 ⟨x, hx, hm⟩))) 20001 [] 0 p t (fun z hz => by cases hz) (fun m hm => ⟨occ_nonneg p HE.out.1.1 m hm, by have := most_mem (vars_occ (l := [p, t]) (by simp) hm); omega⟩) (fun m hm => ⟨occ_nonneg t HE.out.2.1.1 m hm, by have := most_mem (vars_occ (l := [p, t]) (by simp) hm); omega⟩)) w h
          rw [hNe] at hun
          have HUN := Lib.hid (And.intro hun hNe)
          clear hun hNe
          go_enter Try.func29, Try.ntmps29
          go_wp2_with fail
          refine HH.out.1.mono ?_
          rintro e w2 ⟨rfl, hb2⟩
          rw [HG.out.1]
          have hbw := below_next HH.out.2.1 hb2
          have r1 := (hb2.block _ (block_lt HH.out.2.2.1)).trans HH.out.2.2.1
          have r2 := (hb2.block _ (block_lt HH.out.2.2.2.1)).trans HH.out.2.2.2.1
          have a0 := (cells_of r1 0).1
          have a1 := (cells_of r1 1).1
          have a2 := (cells_of r1 2).1
          have b0 := (cells_of r2 0).1
          have b1 := (cells_of r2 1).1
          have b2 := (cells_of r2 2).1
          simp only [List.getElem?_toArray, List.getElem?_cons_zero, List.getElem?_cons_succ] at a0 a1 a2 b0 b1 b2
          have hgre := greatest_any [p, t] _ (w2.alloc (.cells #[.int .i64 p.k, .int .i64 p.n, .slice oa p.l.length cap, .int .i64 t.k, .int .i64 t.n, .slice oa' t.l.length cap'] 24)) (trS_two (w := w2) (trV_up hbw HH.out.2.2.2.2.1) (trV_up hbw HH.out.2.2.2.2.2) rfl) HG.out.2.1 HG.out.2.2
          have HG2 := Lib.hid (And.intro hgre (And.intro hbw (And.intro r1 r2)))
          clear hgre hbw r1 r2 hb2
          unfold errT
          go_wp2_with fail
          refine HG2.out.1.mono ?_
          rintro e w3 ⟨rfl, hb3⟩
          have hb3 := below_next (below_alloc w2 _) hb3
          have r1 := (hb3.block _ (block_lt HG2.out.2.2.1)).trans HG2.out.2.2.1
          have r2 := (hb3.block _ (block_lt HG2.out.2.2.2)).trans HG2.out.2.2.2
          have HX := Lib.hid (And.intro (below_next HG2.out.2.1 hb3) (And.intro r1 r2))
          have a0 := (cells_of r1 0).1
          have a1 := (cells_of r1 1).1
          have a2 := (cells_of r1 2).1
          have b0 := (cells_of r2 0).1
          have b1 := (cells_of r2 1).1
          have b2 := (cells_of r2 2).1
          simp only [List.getElem?_toArray, List.getElem?_cons_zero, List.getElem?_cons_succ] at a0 a1 a2 b0 b1 b2
          have l1 := block_lt r1
          have l2 := block_lt r2
          clear r1 r2 hb3
          have hmm := @run_makeMap Try.prog
          go_wp2_with fail
          have hW : Below w3.heap.size w3 ((w3.alloc (.map #[] 0)).alloc (.cells #[.map (some w3.heap.size), .int .i64 0] 94)) := bA (bA (bZ w3) _) _
          have hU : UniI w3.heap.size (w3.heap.size + 1) w3.heap.size [] 0 ((w3.alloc (.map #[] 0)).alloc (.cells #[.map (some w3.heap.size), .int .i64 0] 94)) :=
            ⟨by (simp only [heap_alloc, alloc_size]; repeat (first | rw [if_pos trivial] | rw [if_pos (by omega)] | rw [if_neg (by omega)])), ⟨[], ⟨#[], 0, by (simp only [heap_alloc, alloc_size]; repeat (first | rw [if_pos trivial] | rw [if_pos (by omega)] | rw [if_neg (by omega)])), rfl⟩, trivial⟩, by omega, Nat.le_refl _, by omega⟩
          have hlook := look_any 20001 [] 0 p t _ _ _ (by omega) (by omega) (by omega) wfB_nil HE.out.1 HE.out.2.1 hU (trV_up2 (below_next HX.out.1 hW) HX.out.1.size HH.out.2.2.2.2.1) (trV_up2 (below_next HX.out.1 hW) HX.out.1.size HH.out.2.2.2.2.2)
          have HL := Lib.hid hlook
          have HWW := Lib.hid (And.intro hW True.intro)
          clear hW hU hlook a0 a1 a2 b0 b1 b2 l1 l2
          refine HL.out.mono ?_
          rintro e w5 ⟨rfl, hU5, hk5⟩
          rw [HR.out]
          have hb5 := below_nu HX.out.1 HWW.out.1 (Nat.le_succ _) (Nat.le_refl _) hk5
          have H5 := Lib.hid (And.intro hU5 hb5)
          clear hU5 hk5 hb5
          go_wp2_with fail
          refine (HUN.out.1 _ _ _ _ H5.out.1).mono ?_
          rintro e w6 ⟨r, hs, hl, hb6, ⟨h1, v, rfl, hv⟩ | ⟨h1, rfl⟩⟩
          · have HZ := Lib.hid (And.intro hs (And.intro hl (And.intro (below_next H5.out.2 hb6) (And.intro h1 hv))))
            clear hs hl hb6 h1 hv
            go_wp2_with fail
            go_ret3
            exact ⟨HZ.out.2.2.1, .inr ⟨HG.out.1, .inr ⟨hm, .inr (.inr ⟨HR.out, r, HZ.out.1, HZ.out.2.1, .inl ⟨HZ.out.2.2.2.1, v, rfl, HZ.out.2.2.2.2⟩⟩)⟩⟩⟩
          · have HZ := Lib.hid (And.intro hs (And.intro hl (And.intro (below_next H5.out.2 hb6) h1)))
            clear hs hl hb6 h1
            go_wp2_with fail
            go_ret3
            exact ⟨HZ.out.2.2.1, .inr ⟨HG.out.1, .inr ⟨hm, .inr (.inr ⟨HR.out, r, HZ.out.1, HZ.out.2.1, .inr ⟨HZ.out.2.2.2, rfl⟩⟩)⟩⟩⟩
        · obtain ⟨er, her⟩ : ∃ er, er = (lookU p t).2.2 := ⟨_, rfl⟩
          have HR : Hid ((lookT 20001 [] 0 p t).2.2 = er) := Lib.hid her.symm
          have HR2 : Hid ((lookU p t).2.2 = er ∧ er ≠ 3 ∧ er ≠ 0) := Lib.hid ⟨her.symm, her ▸ h3, her ▸ h0⟩
          have e0 : (er == 0) = false := by simpa using HR2.out.2.2
          have e3 : (er == 3) = false := by simpa using HR2.out.2.1
          clear her h3 h0
          go_enter Try.func29, Try.ntmps29
          go_wp2_with fail
          refine HH.out.1.mono ?_
          rintro e w2 ⟨rfl, hb2⟩
          rw [HG.out.1]
          have hbw := below_next HH.out.2.1 hb2
          have r1 := (hb2.block _ (block_lt HH.out.2.2.1)).trans HH.out.2.2.1
          have r2 := (hb2.block _ (block_lt HH.out.2.2.2.1)).trans HH.out.2.2.2.1
          have a0 := (cells_of r1 0).1
          have a1 := (cells_of r1 1).1
          have a2 := (cells_of r1 2).1
          have b0 := (cells_of r2 0).1
          have b1 := (cells_of r2 1).1
          have b2 := (cells_of r2 2).1
          simp only [List.getElem?_toArray, List.getElem?_cons_zero, List.getElem?_cons_succ] at a0 a1 a2 b0 b1 b2
          have hgre := greatest_any [p, t] _ (w2.alloc (.cells #[.int .i64 p.k, .int .i64 p.n, .slice oa p.l.length cap, .int .i64 t.k, .int .i64 t.n, .slice oa' t.l.length cap'] 24)) (trS_two (w := w2) (trV_up hbw HH.out.2.2.2.2.1) (trV_up hbw HH.out.2.2.2.2.2) rfl) HG.out.2.1 HG.out.2.2
          have HG2 := Lib.hid (And.intro hgre (And.intro hbw (And.intro r1 r2)))
          clear hgre hbw r1 r2 hb2
          unfold errT
          go_wp2_with fail
          refine HG2.out.1.mono ?_
          rintro e w3 ⟨rfl, hb3⟩
          have hb3 := below_next (below_alloc w2 _) hb3
          have r1 := (hb3.block _ (block_lt HG2.out.2.2.1)).trans HG2.out.2.2.1
          have r2 := (hb3.block _ (block_lt HG2.out.2.2.2)).trans HG2.out.2.2.2
          have HX := Lib.hid (And.intro (below_next HG2.out.2.1 hb3) (And.intro r1 r2))
          have a0 := (cells_of r1 0).1
          have a1 := (cells_of r1 1).1
          have a2 := (cells_of r1 2).1
          have b0 := (cells_of r2 0).1
          have b1 := (cells_of r2 1).1
          have b2 := (cells_of r2 2).1
          simp only [List.getElem?_toArray, List.getElem?_cons_zero, List.getElem?_cons_succ] at a0 a1 a2 b0 b1 b2
          have l1 := block_lt r1
          have l2 := block_lt r2
          clear r1 r2 hb3
          have hmm := @run_makeMap Try.prog
          go_wp2_with fail
          have hW : Below w3.heap.size w3 ((w3.alloc (.map #[] 0)).alloc (.cells #[.map (some w3.heap.size), .int .i64 0] 94)) := bA (bA (bZ w3) _) _
          have hU : UniI w3.heap.size (w3.heap.size + 1) w3.heap.size [] 0 ((w3.alloc (.map #[] 0)).alloc (.cells #[.map (some w3.heap.size), .int .i64 0] 94)) :=
            ⟨by (simp only [heap_alloc, alloc_size]; repeat (first | rw [if_pos trivial] | rw [if_pos (by omega)] | rw [if_neg (by omega)])), ⟨[], ⟨#[], 0, by (simp only [heap_alloc, alloc_size]; repeat (first | rw [if_pos trivial] | rw [if_pos (by omega)] | rw [if_neg (by omega)])), rfl⟩, trivial⟩, by omega, Nat.le_refl _, by omega⟩
          have hlook := look_any 20001 [] 0 p t _ _ _ (by omega) (by omega) (by omega) wfB_nil HE.out.1 HE.out.2.1 hU (trV_up2 (below_next HX.out.1 hW) HX.out.1.size HH.out.2.2.2.2.1) (trV_up2 (below_next HX.out.1 hW) HX.out.1.size HH.out.2.2.2.2.2)
          have HL := Lib.hid hlook
          have HWW := Lib.hid (And.intro hW True.intro)
          clear hW hU hlook a0 a1 a2 b0 b1 b2 l1 l2
          refine HL.out.mono ?_
          rintro e w5 ⟨rfl, hU5, hk5⟩
          rw [HR.out]
          have hb5 := below_nu HX.out.1 HWW.out.1 (Nat.le_succ _) (Nat.le_refl _) hk5
          have H5 := Lib.hid (And.intro hU5 hb5)
          clear hU5 hk5 hb5
          go_wp2_with fail
          go_ret3
          exact ⟨H5.out.2, .inr ⟨HG.out.1, .inr ⟨hm, .inr (.inl ⟨HR2.out.1 ▸ HR2.out.2.1, HR2.out.1 ▸ HR2.out.2.2, by rw [HR2.out.1]; rfl⟩)⟩⟩⟩
    · have hm2 : 4000 < most (vars [p, t]) := by omega
      go_enter Try.func29, Try.ntmps29
      go_wp2_with fail
      refine HH.out.1.mono ?_
      rintro e w2 ⟨rfl, hb2⟩
      rw [HG.out.1]
      have hbw := below_next HH.out.2.1 hb2
      have r1 := (hb2.block _ (block_lt HH.out.2.2.1)).trans HH.out.2.2.1
      have r2 := (hb2.block _ (block_lt HH.out.2.2.2.1)).trans HH.out.2.2.2.1
      have a0 := (cells_of r1 0).1
      have a1 := (cells_of r1 1).1
      have a2 := (cells_of r1 2).1
      have b0 := (cells_of r2 0).1
      have b1 := (cells_of r2 1).1
      have b2 := (cells_of r2 2).1
      simp only [List.getElem?_toArray, List.getElem?_cons_zero, List.getElem?_cons_succ] at a0 a1 a2 b0 b1 b2
      have hgre := greatest_any [p, t] _ (w2.alloc (.cells #[.int .i64 p.k, .int .i64 p.n, .slice oa p.l.length cap, .int .i64 t.k, .int .i64 t.n, .slice oa' t.l.length cap'] 24)) (trS_two (w := w2) (trV_up hbw HH.out.2.2.2.2.1) (trV_up hbw HH.out.2.2.2.2.2) rfl) HG.out.2.1 HG.out.2.2
      have HG2 := Lib.hid (And.intro hgre (And.intro hbw (And.intro r1 r2)))
      clear hgre hbw r1 r2 hb2
      unfold errT
      go_wp2_with fail
      refine HG2.out.1.mono ?_
      rintro e w3 ⟨rfl, hb3⟩
      have hb3 := below_next (below_alloc w2 _) hb3
      have HX := Lib.hid (below_next HG2.out.2.1 hb3)
      clear hb3
      go_wp2_with fail
      go_ret3
      exact ⟨HX.out, .inr ⟨HG.out.1, .inl ⟨hm2, rfl⟩⟩⟩
end Go.Proofs.Ytapdfdjknehhgaa
