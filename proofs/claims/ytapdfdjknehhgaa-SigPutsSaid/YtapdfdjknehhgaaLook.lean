/- Merged: Look1, Look2, Look3. -/
import Derived.Test.YtapdfdjknehhgaaBec
import Derived.Test.YtapdfdjknehhgaaUni

/- Looking at the trees within two trees. -/
namespace Go.Proofs.Ytapdfdjknehhgaa
open Go.RowKit Go.Tr Go.Maps

/-- What looking at a pair does. -/
def LookC (B pu bm g : Nat) : Prop := ∀ (b : Bec) (c : Int) (t t' : Tm) (v v' : Value) (w : World), 20001 ≤ c + g → 0 ≤ c → c ≤ 20001 → WfB b c → okT t → okT t' → UniI B pu bm b c w → TrV w (· < B) t v → TrV w (· < B) t' v' →
  Calls Try.prog 67 #[.pointer (some ⟨pu, 0, none⟩), v, v'] w fun e w' => e = .returned (.int .i64 (lookT g b c t t').2.2) ∧ UniI B pu bm (lookT g b c t t').1 (lookT g b c t t').2.1 w' ∧ Kp (NU pu bm w) w w'
set_option maxRecDepth 100000 in
set_option maxHeartbeats 800000 in
theorem lookWithin_any {B pu bm g : Nat} (L : Hid (LookC B pu bm g)) (b : Bec) (c : Int) (p t : Tm) (v v' : Value) (w : World) (hg : 20001 ≤ c + g) (hc0 : 0 ≤ c) (hc : c ≤ 20000) (hb : WfB b c) (hp : okT p) (ht : okT t) (hlen : p.l.length = t.l.length) (h : UniI B pu bm b c w) (hv : TrV w (· < B) p v) (hv' : TrV w (· < B) t v') :
    Calls Try.prog 98 #[.pointer (some ⟨pu, 0, none⟩), v, v'] w fun e w' => e = .returned (.int .i64 (lookL (lookT g) b c p.l t.l).2.2) ∧ UniI B pu bm (lookL (lookT g) b c p.l t.l).1 (lookL (lookT g) b c p.l t.l).2.1 w' ∧ Kp (NU pu bm w) w w' := by
  obtain ⟨sl, rfl, hk1, hk2, hsl⟩ := trV_iff.1 hv
  obtain ⟨oa, cap, b1, o1, rfl, hlc, hcm, hoa, hel⟩ := trS_at hsl
  obtain ⟨sl', rfl, hk1', hk2', hsl'⟩ := trV_iff.1 hv'
  obtain ⟨oa', cap', b2, o2, rfl, hlc', hcm', hoa', hel'⟩ := trS_at hsl'
  obtain ⟨x1, hx1⟩ : ∃ o : Obj, o = .cells #[.int .i64 p.k, .int .i64 p.n, .slice oa p.l.length cap] 24 := ⟨_, rfl⟩
  obtain ⟨x2, hx2⟩ : ∃ o : Obj, o = .cells #[.int .i64 t.k, .int .i64 t.n, .slice oa' t.l.length cap'] 24 := ⟨_, rfl⟩
  have hB := uniI_B h
  have hgr : Below w.heap.size w ((w.alloc x1).alloc x2) := bA (bA (bZ w) _) _
  have hI := uniI_below h hB hgr
  have hq2 := (heap_alloc_new (w.alloc x1) x2).trans (congrArg some hx2)
  rw [alloc_size] at hq2
  have HEL := Lib.hid (And.intro hoa (And.intro hel (And.intro hoa' hel')))
  have HH := Lib.hid (And.intro hgr (And.intro hI (And.intro hq2 (And.intro h (And.intro hp ht)))))
  have hup : pu < w.heap.size := block_lt h.hu
  have hum : bm < w.heap.size := by obtain ⟨f, h1, -⟩ := h.hb; exact h1.lt
  have hbu := h.bu
  have hbb := h.bb
  have HW := Lib.hid hb
  have HLEN := Lib.hid hlen
  clear hgr hI hq2 hv hv' hsl hsl' hk1 hk2 hk1' hk2' hoa hoa' hel hel' h hp ht hb hlen
  subst hx1 hx2
  go_enter Try.func98, Try.ntmps98
  go_wp2_with fail
  generalize hw0 : ((w.alloc (.cells #[.int .i64 p.k, .int .i64 p.n, .slice oa p.l.length cap] 24)).alloc (.cells #[.int .i64 t.k, .int .i64 t.n, .slice oa' t.l.length cap'] 24)) = w0 at *
  clear hw0
  go_loopw [13] (fun i wr => ∃ (k : Nat) (bk : Bec) (ck : Int), k ≤ p.l.length ∧ i = .int .i64 k ∧ c ≤ ck ∧ ck ≤ 20000 ∧ Hid (WfB bk ck ∧ lookL (lookT g) b c p.l t.l = lookL (lookT g) bk ck (p.l.drop k) (t.l.drop k)) ∧ Hid (UniI B pu bm bk ck wr ∧ Kp (NU pu bm w0) w0 wr)) (fun i _ => p.l.length - (intOf i).toNat)
  case atStart => exact ⟨0, b, c, by omega, rfl, by omega, by omega, ⟨HW.out, rfl⟩, HH.out.2.1, Kp.refl _ _⟩
  case round =>
    obtain ⟨k, bk, ck, hk, rfl, hck, hck2, HR, HI⟩ := hrel
    by_cases hlt : k < p.l.length
    · have hlt' : k < t.l.length := by have := HLEN.out; omega
      obtain ⟨rfl, hQb⟩ := HEL.out.1 (by omega)
      obtain ⟨rfl, hQb'⟩ := HEL.out.2.2.1 (by omega)
      obtain ⟨oa2, cap2, e0, e1, e2, e3⟩ := HEL.out.2.1 k hlt
      obtain ⟨oa4, cap4, f0, f1, f2, f3⟩ := HEL.out.2.2.2 k hlt'
      have hs0 := HH.out.1.size
      have old : ∀ b, b < B → wr.heap[b]? = w.heap[b]? := fun b hb => (HI.out.2.block b ⟨by omega, by omega, by omega⟩).trans (HH.out.1.block b (by omega))
      have d0 := (World.cell?_of_block (w := w) (a := ⟨b1, o1 + k * 3, none⟩) (old b1 hQb)).trans e0
      have d1 := (World.cell?_of_block (w := w) (a := ⟨b1, o1 + k * 3 + 1, none⟩) (old b1 hQb)).trans e1
      have d2 := (World.cell?_of_block (w := w) (a := ⟨b1, o1 + k * 3 + 2, none⟩) (old b1 hQb)).trans e2
      have g0 := (World.cell?_of_block (w := w) (a := ⟨b2, o2 + k * 3, none⟩) (old b2 hQb')).trans f0
      have g1 := (World.cell?_of_block (w := w) (a := ⟨b2, o2 + k * 3 + 1, none⟩) (old b2 hQb')).trans f1
      have g2 := (World.cell?_of_block (w := w) (a := ⟨b2, o2 + k * 3 + 2, none⟩) (old b2 hQb')).trans f2
      have hl2 := block_lt HH.out.2.2.1
      have r2 := (HI.out.2.block _ ⟨hl2, by omega, by omega⟩).trans HH.out.2.2.1
      have t2' := (cells_of r2 2).1
      simp only [List.getElem?_toArray, List.getElem?_cons_zero, List.getElem?_cons_succ] at t2'
      have hsr := HI.out.2.size
      obtain ⟨ox, hox⟩ : ∃ ox : Obj, ox = .cells #[.int .i64 p.l[k].k, .int .i64 p.l[k].n, .slice oa2 p.l[k].l.length cap2] 24 := ⟨_, rfl⟩
      have hnewc := (heap_alloc_new wr ox).trans (congrArg some hox)
      have hal := bD (below_alloc wr ox)
      obtain ⟨wb, hwb⟩ : ∃ wb, wb = (wr.alloc ox).drew := ⟨_, rfl⟩
      have hnewb : wb.heap[wr.heap.size]? = some (.cells #[.int .i64 p.l[k].k, .int .i64 p.l[k].n, .slice oa2 p.l[k].l.length cap2] 24) := by rw [hwb]; exact hnewc
      rw [← hwb] at hal
      have hS : ∀ W : World, Kp (NU pu bm wb) wb W → W.cell? ⟨wr.heap.size, 0, none⟩ = some (.int .i64 p.l[k].k) ∧ W.cell? ⟨wr.heap.size, 1, none⟩ = some (.int .i64 p.l[k].n) ∧ W.cell? ⟨wr.heap.size, 2, none⟩ = some (.slice oa2 p.l[k].l.length cap2) ∧ W.cell? ⟨w.heap.size + 1, 2, none⟩ = some (.slice (some ⟨b2, o2, none⟩) t.l.length cap') ∧ W.cell? ⟨b2, o2 + k * 3, none⟩ = some (.int .i64 t.l[k].k) ∧ W.cell? ⟨b2, o2 + k * 3 + 1, none⟩ = some (.int .i64 t.l[k].n) ∧ W.cell? ⟨b2, o2 + k * 3 + 2, none⟩ = some (.slice oa4 t.l[k].l.length cap4) := fun W hW => by
        have hls := hal.size
        have hlb := block_lt hnewb
        have e1 : ∀ j, W.cell? ⟨wr.heap.size, j, none⟩ = _ := fun j => World.cell?_of_block (w := wb) (hW.block wr.heap.size ⟨hlb, by omega, by omega⟩)
        have e2 : ∀ j, W.cell? ⟨w.heap.size + 1, j, none⟩ = _ := fun j => World.cell?_of_block (w := wr) ((hW.block (w.heap.size + 1) ⟨by omega, by omega, by omega⟩).trans (hal.block _ (by omega)))
        have e3 : ∀ j, W.cell? ⟨b2, j, none⟩ = _ := fun j => World.cell?_of_block (w := wr) ((hW.block b2 ⟨by omega, by omega, by omega⟩).trans (hal.block _ (by omega)))
        rw [e1, e1, e1, e2, e3, e3, e3]
        exact ⟨(cells_of hnewb 0).1, (cells_of hnewb 1).1, (cells_of hnewb 2).1, t2', g0, g1, g2⟩
      have hIb := uniI_below HI.out.1 (uniI_B HI.out.1) hal
      have hpx := trV_mono (w' := wb) (w := w) (fun _ h => h) (fun b (hb : b < B) => (hal.block b (by omega)).trans (old b hb)) _ e3
      have hpy := trV_mono (w' := wb) (w := w) (fun _ h => h) (fun b (hb : b < B) => (hal.block b (by omega)).trans (old b hb)) _ f3
      have hokx := okT_mem HH.out.2.2.2.2.1 (List.getElem_mem hlt)
      have hoky := okT_mem HH.out.2.2.2.2.2 (List.getElem_mem hlt')
      have hcall := L.out bk ck p.l[k] t.l[k] _ _ wb (by omega) (by omega) (by omega) HR.out.1 hokx hoky hIb hpx hpy
      have hwf := lookT_wf g bk ck p.l[k] t.l[k] HR.out.1 hokx hoky
      have hle := lookT_le g bk ck p.l[k] t.l[k]
      have hdr : lookL (lookT g) bk ck (p.l.drop k) (t.l.drop k) = if (lookT g bk ck p.l[k] t.l[k]).2.2 = 0 then lookL (lookT g) (lookT g bk ck p.l[k] t.l[k]).1 (lookT g bk ck p.l[k] t.l[k]).2.1 (p.l.drop (k + 1)) (t.l.drop (k + 1)) else lookT g bk ck p.l[k] t.l[k] := by
        rw [List.drop_eq_getElem_cons hlt, List.drop_eq_getElem_cons hlt']; rfl
      have hfin := HR.out.2.trans hdr
      obtain ⟨⟨rb, rc, re⟩, hr⟩ : ∃ r, r = lookT g bk ck p.l[k] t.l[k] := ⟨_, rfl⟩
      rw [← hr] at hcall hwf hle hfin
      simp only at hcall hwf hle hfin
      have hkp : Kp (NU pu bm w) w wb := kpNU_trans (kpNU HH.out.1) (kpNU_trans HI.out.2 (kpNU hal))
      have hkp0 : Kp (NU pu bm w0) w0 wb := kpNU_trans HI.out.2 (kpNU hal)
      have HX := Lib.hid (And.intro hS (And.intro hcall (And.intro hwf (And.intro hkp hkp0))))
      have i0 : (0 : Int) ≤ (k : Int) := Int.natCast_nonneg _
      have i1 : (k : Int) < (t.l.length : Int) := by omega
      have i2 : (k : Int) < (p.l.length : Int) := by omega
      clear hr hdr hcall hS hnewc hnewb hal t2' r2 old e0 e1 e2 e3 f0 f1 f2 f3 g0 g1 g2 hIb hpx hpy hokx hoky hkp hkp0 hwf
      by_cases he : re = 0
      · subst he
        rw [if_pos rfl] at hfin
        have HF := Lib.hid (And.intro hfin (hle rfl))
        clear hfin hle
        subst hox
        go_wp2_with fail
        go_region_held3 (fun W => W.cell? ⟨wr.heap.size, 0, none⟩ = some (.int .i64 p.l[k].k) ∧ W.cell? ⟨wr.heap.size, 1, none⟩ = some (.int .i64 p.l[k].n) ∧ W.cell? ⟨wr.heap.size, 2, none⟩ = some (.slice oa2 p.l[k].l.length cap2) ∧ W.cell? ⟨w.heap.size + 1, 2, none⟩ = some (.slice (some ⟨b2, o2, none⟩) t.l.length cap') ∧ W.cell? ⟨b2, o2 + k * 3, none⟩ = some (.int .i64 t.l[k].k) ∧ W.cell? ⟨b2, o2 + k * 3 + 1, none⟩ = some (.int .i64 t.l[k].n) ∧ W.cell? ⟨b2, o2 + k * 3 + 2, none⟩ = some (.slice oa4 t.l[k].l.length cap4))
          (first | with_reducible assumption | (rw [← hwb]; exact HX.out.1 _ (Kp.refl _ _)) | exact HX.out.1 _ (by assumption))
          (first
            | (go_at_call 67; rw [← hwb]; (with_reducible refine (HX.out.2.1).mono ?_); rintro e w6 ⟨rfl, hq1, hq2⟩))
        all_goals
          have HQ := Lib.hid (And.intro hq1 hq2)
          clear hq1 hq2
          go_wp2_with fail
          go_roundw
          case rel => exact ⟨k + 1, rb, rc, by omega, by go_num, by have := HX.out.2.2.1.2; omega, HF.out.2, ⟨HX.out.2.2.1.1, HF.out.1⟩, HQ.out.1, kpNU_trans HX.out.2.2.2.2 HQ.out.2⟩
          case measure => simp [intOf]; omega
      · rw [if_neg he] at hfin
        have hb1 : (re != 0) = true := by simp [he]
        have HF := Lib.hid hfin
        clear hfin hle he
        subst hox
        go_wp2_with fail
        go_region_held3 (fun W => W.cell? ⟨wr.heap.size, 0, none⟩ = some (.int .i64 p.l[k].k) ∧ W.cell? ⟨wr.heap.size, 1, none⟩ = some (.int .i64 p.l[k].n) ∧ W.cell? ⟨wr.heap.size, 2, none⟩ = some (.slice oa2 p.l[k].l.length cap2) ∧ W.cell? ⟨w.heap.size + 1, 2, none⟩ = some (.slice (some ⟨b2, o2, none⟩) t.l.length cap') ∧ W.cell? ⟨b2, o2 + k * 3, none⟩ = some (.int .i64 t.l[k].k) ∧ W.cell? ⟨b2, o2 + k * 3 + 1, none⟩ = some (.int .i64 t.l[k].n) ∧ W.cell? ⟨b2, o2 + k * 3 + 2, none⟩ = some (.slice oa4 t.l[k].l.length cap4))
          (first | with_reducible assumption | (rw [← hwb]; exact HX.out.1 _ (Kp.refl _ _)) | exact HX.out.1 _ (by assumption))
          (first
            | (go_at_call 67; rw [← hwb]; (with_reducible refine (HX.out.2.1).mono ?_); rintro e w6 ⟨rfl, hq1, hq2⟩))
        all_goals
          have HQ := Lib.hid (And.intro hq1 hq2)
          clear hq1 hq2
          go_wp2_with fail
          go_ret
          rw [HF.out]
          exact ⟨rfl, HQ.out.1, kpNU_trans HX.out.2.2.2.1 HQ.out.2⟩
    · have hres : lookL (lookT g) b c p.l t.l = (bk, ck, 0) := by
        rw [HR.out.2, List.drop_eq_nil_of_le (by omega : p.l.length ≤ k)]
        cases t.l.drop k <;> rfl
      have HRS := Lib.hid hres
      clear hres
      go_wp2_with fail
      go_ret
      rw [HRS.out]
      exact ⟨rfl, HI.out.1, kpNU_trans (kpNU HH.out.1) HI.out.2⟩
end Go.Proofs.Ytapdfdjknehhgaa

/- Looking at a pair. -/
namespace Go.Proofs.Ytapdfdjknehhgaa
open Go.RowKit Go.Tr Go.Maps

theorem uniI_inc {B pu bm : Nat} {b : Bec} {c d : Int} {w : World} (h : UniI B pu bm b c w) : UniI B pu bm b d (w.setCell ⟨pu, 1, none⟩ (.int .i64 d)) := by
  obtain ⟨f, h1, h2⟩ := h.hb
  have hbb := h.bb
  have hbu := h.bu
  have hk : ∀ k, k ≠ pu → (w.setCell ⟨pu, 1, none⟩ (.int .i64 d)).heap[k]? = w.heap[k]? := fun k hk => Below.heap_setCell _ _ _ _ (by simpa using hk)
  refine ⟨?_, ⟨f, h1.of_block (hk bm (fun e => h.ne e.symm)), BRel.up (fun k hk' => hk k (by omega)) h2⟩, hbu, hbb, h.ne⟩
  exact heap_setCell_same w pu 1 _ _ (.int .i64 d) h.hu
/-- What is below a bound stays. -/
def Lo (n k : Nat) : Prop := k < n
theorem kpL {n : Nat} {w w' : World} (h : Below w.heap.size w w') (hn : n ≤ w.heap.size) : Kp (Lo n) w w' := below_kp h (fun _ hb => Nat.lt_of_lt_of_le hb hn)
theorem kpS {n : Nat} {a w : World} (h : Kp (Lo n) a w) {c : Nat} (hc : n ≤ c) (o : Nat) (u : Value) : Kp (Lo n) a (w.setCell ⟨c, o, none⟩ u) := h.trans (kp_set (by unfold Lo; omega) o u)
/-- Behind the two roots. -/
structure Aft (B pu bm : Nat) (b : Bec) (c : Int) (q : Nat) (W3 W7 : World) (r1 r2 : Tm) (o5 : Option Addr) (cap5 : Nat) (o6 : Option Addr) (cap6 : Nat) : Prop where
  f1 : W7.heap[q]? = some (.cells #[.int .i64 r1.k, .int .i64 r1.n, .slice o5 r1.l.length cap5] 24)
  f2 : W7.heap[q + 1]? = some (.cells #[.int .i64 r2.k, .int .i64 r2.n, .slice o6 r2.l.length cap6] 24)
  uni : UniI B pu bm b c W7
  t1 : TrV W7 (· < B) r1 (.agg #[.int .i64 r1.k, .int .i64 r1.n, .slice o5 r1.l.length cap5])
  t2 : TrV W7 (· < B) r2 (.agg #[.int .i64 r2.k, .int .i64 r2.n, .slice o6 r2.l.length cap6])
  kp : Kp (Lo q) W3 W7
  sz : q + 2 ≤ W7.heap.size
theorem uniI_lo {B pu bm : Nat} {b : Bec} {c : Int} {q : Nat} {W W' : World} (h : UniI B pu bm b c W) (hpu : pu < q) (hbm : bm < q) (hk : Kp (Lo q) W W') : UniI B pu bm b c W' := by
  obtain ⟨f, h1, h2⟩ := h.hb
  have hbu := h.bu
  exact ⟨(hk.block pu hpu).trans h.hu, ⟨f, h1.of_block (hk.block bm hbm), BRel.up (fun k hk' => hk.block k (show k < q by omega)) h2⟩, h.bu, h.bb, h.ne⟩
theorem trV_lo {B q : Nat} {t : Tm} {v : Value} {W W' : World} (h : TrV W (· < B) t v) (hB : B ≤ q) (hk : Kp (Lo q) W W') : TrV W' (· < B) t v :=
  trV_mono (w := W) (w' := W') (fun _ h => h) (fun k hk' => hk.block k (by have hk'' : k < B := hk'; show k < q; omega)) t h
theorem after_roots {B pu bm : Nat} {b : Bec} {c : Int} {q : Nat} {W3 w5 w6 : World} {r1 r2 : Tm} {o5 o6 : Option Addr} {cap5 cap6 : Nat} {a1 a2 a3 b1 b2 b3 : Value} (h3 : UniI B pu bm b c W3) (hpu : pu < q) (hbm : bm < q) (hbu : B ≤ pu) (k5 : Kp (Lo (q + 2)) W3.drew w5) (k6 : Kp (Lo (q + 2)) w5 w6)
    (Q1 : W3.heap[q]? = some (.cells #[a1, a2, a3] 24)) (Q2 : W3.heap[q + 1]? = some (.cells #[b1, b2, b3] 24))
    (tv5 : TrV w5 (· < B) r1 (.agg #[.int .i64 r1.k, .int .i64 r1.n, .slice o5 r1.l.length cap5])) (tv6 : TrV w6 (· < B) r2 (.agg #[.int .i64 r2.k, .int .i64 r2.n, .slice o6 r2.l.length cap6])) (s3 : W3.heap.size = q + 2) :
    Aft B pu bm b c q W3 ((((((w6.setCell ⟨q, 0, none⟩ (.int .i64 r1.k)).setCell ⟨q, 1, none⟩ (.int .i64 r1.n)).setCell ⟨q, 2, none⟩ (.slice o5 r1.l.length cap5)).setCell ⟨q + 1, 0, none⟩ (.int .i64 r2.k)).setCell ⟨q + 1, 1, none⟩ (.int .i64 r2.n)).setCell ⟨q + 1, 2, none⟩ (.slice o6 r2.l.length cap6)) r1 r2 o5 cap5 o6 cap6 := by
  have hlo : ∀ k, Lo q k → Lo (q + 2) k := fun k hk => by unfold Lo at *; omega
  have k06 : Kp (Lo (q + 2)) W3 w6 := ((kpD (Q := Lo (q + 2)) W3).trans k5).trans k6
  have k7 : ∀ {w : World}, Kp (Lo q) w ((((((w.setCell ⟨q, 0, none⟩ (.int .i64 r1.k)).setCell ⟨q, 1, none⟩ (.int .i64 r1.n)).setCell ⟨q, 2, none⟩ (.slice o5 r1.l.length cap5)).setCell ⟨q + 1, 0, none⟩ (.int .i64 r2.k)).setCell ⟨q + 1, 1, none⟩ (.int .i64 r2.n)).setCell ⟨q + 1, 2, none⟩ (.slice o6 r2.l.length cap6)) := fun {w} =>
    kpS (kpS (kpS (kpS (kpS (kpS (Kp.refl _ w) (Nat.le_refl _) _ _) (Nat.le_refl _) _ _) (Nat.le_refl _) _ _) (Nat.le_succ _) _ _) (Nat.le_succ _) _ _) (Nat.le_succ _) _ _
  have q1 := (k06.block q (show q < q + 2 by omega)).trans Q1
  have q2 := (k06.block (q + 1) (show q + 1 < q + 2 by omega)).trans Q2
  refine ⟨?_, ?_, uniI_lo h3 hpu hbm ((k06.mono hlo).trans k7), trV_lo tv5 (by omega) ((k6.mono hlo).trans k7), trV_lo tv6 (by omega) k7, (k06.mono hlo).trans k7, ?_⟩
  · rw [Below.heap_setCell _ _ _ _ (by simp), Below.heap_setCell _ _ _ _ (by simp), Below.heap_setCell _ _ _ _ (by simp)]
    exact three_set q1
  · refine three_set (a := b1) (b := b2) (c := b3) ?_
    rw [Below.heap_setCell _ _ _ _ (by simp), Below.heap_setCell _ _ _ _ (by simp), Below.heap_setCell _ _ _ _ (by simp)]
    exact q2
  · have := k06.size
    simpa using (by omega : q + 2 ≤ w6.heap.size)
theorem aft_below {B pu bm : Nat} {b : Bec} {c : Int} {q : Nat} {W3 W7 W8 : World} {r1 r2 : Tm} {o5 o6 : Option Addr} {cap5 cap6 : Nat} (A : Aft B pu bm b c q W3 W7 r1 r2 o5 cap5 o6 cap6) (hpu : pu < q) (hbm : bm < q) (hbu : B ≤ pu) (h : Below W7.heap.size W7 W8) : Aft B pu bm b c q W3 W8 r1 r2 o5 cap5 o6 cap6 := by
  have hk : Kp (Lo q) W7 W8 := kpL h (by have := A.sz; omega)
  have hs := A.sz
  exact ⟨(h.block q (by omega)).trans A.f1, (h.block (q + 1) (by omega)).trans A.f2, uniI_lo A.uni hpu hbm hk, trV_lo A.t1 (by omega) hk, trV_lo A.t2 (by omega) hk, A.kp.trans hk, by have := h.size; omega⟩
theorem aft_cells {B pu bm : Nat} {b : Bec} {c : Int} {q : Nat} {W3 W : World} {r1 r2 : Tm} {o5 o6 : Option Addr} {cap5 cap6 : Nat} (A : Aft B pu bm b c q W3 W r1 r2 o5 cap5 o6 cap6) :
    W.cell? ⟨q, 0, none⟩ = some (.int .i64 r1.k) ∧ W.cell? ⟨q, 1, none⟩ = some (.int .i64 r1.n) ∧ W.cell? ⟨q, 2, none⟩ = some (.slice o5 r1.l.length cap5) ∧ W.cell? ⟨q + 1, 0, none⟩ = some (.int .i64 r2.k) ∧ W.cell? ⟨q + 1, 1, none⟩ = some (.int .i64 r2.n) ∧ W.cell? ⟨q + 1, 2, none⟩ = some (.slice o6 r2.l.length cap6) ∧ (∀ j, W.frozen? ⟨q, j, none⟩ = false) ∧ ∀ j, W.frozen? ⟨q + 1, j, none⟩ = false :=
  ⟨(cells_of A.f1 0).1, (cells_of A.f1 1).1, (cells_of A.f1 2).1, (cells_of A.f2 0).1, (cells_of A.f2 1).1, (cells_of A.f2 2).1, fun j => (cells_of A.f1 j).2, fun j => (cells_of A.f2 j).2⟩
theorem aft_swap {B pu bm : Nat} {b : Bec} {c : Int} {q : Nat} {W3 W : World} {r1 r2 : Tm} {o5 o6 : Option Addr} {cap5 cap6 : Nat} (A : Aft B pu bm b c q W3 W r1 r2 o5 cap5 o6 cap6) (hpu : pu < q) (hbm : bm < q) (hbu : B ≤ pu) :
    Aft B pu bm b c q W3 ((((((W.setCell ⟨q, 0, none⟩ (.int .i64 r2.k)).setCell ⟨q, 1, none⟩ (.int .i64 r2.n)).setCell ⟨q, 2, none⟩ (.slice o6 r2.l.length cap6)).setCell ⟨q + 1, 0, none⟩ (.int .i64 r1.k)).setCell ⟨q + 1, 1, none⟩ (.int .i64 r1.n)).setCell ⟨q + 1, 2, none⟩ (.slice o5 r1.l.length cap5)) r2 r1 o6 cap6 o5 cap5 := by
  have k7 : Kp (Lo q) W ((((((W.setCell ⟨q, 0, none⟩ (.int .i64 r2.k)).setCell ⟨q, 1, none⟩ (.int .i64 r2.n)).setCell ⟨q, 2, none⟩ (.slice o6 r2.l.length cap6)).setCell ⟨q + 1, 0, none⟩ (.int .i64 r1.k)).setCell ⟨q + 1, 1, none⟩ (.int .i64 r1.n)).setCell ⟨q + 1, 2, none⟩ (.slice o5 r1.l.length cap5)) :=
    kpS (kpS (kpS (kpS (kpS (kpS (Kp.refl _ W) (Nat.le_refl _) _ _) (Nat.le_refl _) _ _) (Nat.le_refl _) _ _) (Nat.le_succ _) _ _) (Nat.le_succ _) _ _) (Nat.le_succ _) _ _
  refine ⟨?_, ?_, uniI_lo A.uni hpu hbm k7, trV_lo A.t2 (by omega) k7, trV_lo A.t1 (by omega) k7, A.kp.trans k7, ?_⟩
  · rw [Below.heap_setCell _ _ _ _ (by simp), Below.heap_setCell _ _ _ _ (by simp), Below.heap_setCell _ _ _ _ (by simp)]
    exact three_set A.f1
  · refine three_set (a := .int .i64 r2.k) (b := .int .i64 r2.n) (c := .slice o6 r2.l.length cap6) ?_
    rw [Below.heap_setCell _ _ _ _ (by simp), Below.heap_setCell _ _ _ _ (by simp), Below.heap_setCell _ _ _ _ (by simp)]
    exact A.f2
  · simpa using A.sz
theorem kp_end {pu bm q : Nat} {w W3 W w' : World} (h1 : Kp (NU pu bm w) w W3) (hq : w.heap.size = q) (h2 : Kp (Lo q) W3 W) (hs : q + 2 ≤ W.heap.size) (h3 : Kp (NU pu bm W) W w') : Kp (NU pu bm w) w w' :=
  (h1.trans (h2.mono (fun k hk => by have := hk.1; show k < q; omega))).trans (h3.mono (fun k hk => ⟨by have := hk.1; omega, hk.2⟩))
set_option maxRecDepth 100000 in
set_option maxHeartbeats 800000 in
theorem look_step {B pu bm g : Nat} (L : Hid (LookC B pu bm g)) (b : Bec) (c : Int) (p t : Tm) (v v' : Value) (w : World) (hg : 20001 ≤ c + 1 + g) (hc0 : 0 ≤ c) (hc : c < 20000) (hb : WfB b c) (hp : okT p) (ht : okT t) (h : UniI B pu bm b c w) (hv : TrV w (· < B) p v) (hv' : TrV w (· < B) t v') (x y : Tm) (hx : rootT b p = x) (hy : rootT b t = y) :
    Calls Try.prog 67 #[.pointer (some ⟨pu, 0, none⟩), v, v'] w fun e w' => e = .returned (.int .i64 (lookR (lookT g) b (c + 1) x y).2.2) ∧ UniI B pu bm (lookR (lookT g) b (c + 1) x y).1 (lookR (lookT g) b (c + 1) x y).2.1 w' ∧ Kp (NU pu bm w) w w' := by
  obtain ⟨sl, rfl, hk1, hk2, hsl⟩ := trV_iff.1 hv
  obtain ⟨oa, cap, b1, o1, rfl, hlc, hcm, hoa, hel⟩ := trS_at hsl
  obtain ⟨sl', rfl, hk1', hk2', hsl'⟩ := trV_iff.1 hv'
  obtain ⟨oa', cap', b2, o2, rfl, hlc', hcm', hoa', hel'⟩ := trS_at hsl'
  obtain ⟨x1, hx1⟩ : ∃ o : Obj, o = .cells #[.int .i64 p.k, .int .i64 p.n, .slice oa p.l.length cap] 24 := ⟨_, rfl⟩
  obtain ⟨x2, hx2⟩ : ∃ o : Obj, o = .cells #[.int .i64 t.k, .int .i64 t.n, .slice oa' t.l.length cap'] 24 := ⟨_, rfl⟩
  have hB := uniI_B h
  have hgr : Below w.heap.size w ((w.alloc x1).alloc x2) := bA (bA (bZ w) _) _
  have hI := uniI_below h hB hgr
  have z1 := (cells_of hI.hu 1).1
  have fz := fun j => (cells_of hI.hu j).2
  simp only [List.getElem?_toArray, List.getElem?_cons_zero, List.getElem?_cons_succ] at z1
  have hlt : (c + 1) ≤ 20000 := by omega
  obtain ⟨W3, hW3⟩ : ∃ W, W = ((w.alloc x1).alloc x2).setCell ⟨pu, 1, none⟩ (.int .i64 (c + 1)) := ⟨_, rfl⟩
  have hpu := block_lt h.hu
  have hbm : bm < w.heap.size := by obtain ⟨f, h1, -⟩ := h.hb; exact h1.lt
  have hbu := h.bu
  have hbb := h.bb
  have s3 : W3.heap.size = w.heap.size + 2 := by subst hW3; simp
  have hI3 : UniI B pu bm b (c + 1) W3 := by subst hW3; exact uniI_inc hI
  have hne : ∀ k, k ≠ pu → W3.heap[k]? = ((w.alloc x1).alloc x2).heap[k]? := fun k hk => by subst hW3; exact Below.heap_setCell _ _ _ _ (by simpa using hk)
  have q1 : W3.heap[w.heap.size]? = some (.cells #[.int .i64 p.k, .int .i64 p.n, .slice oa p.l.length cap] 24) := (hne _ (by omega)).trans ((Below.heap_alloc _ _ _ (by simp)).trans ((heap_alloc_new w x1).trans (congrArg some hx1)))
  have q2 : W3.heap[w.heap.size + 1]? = some (.cells #[.int .i64 t.k, .int .i64 t.n, .slice oa' t.l.length cap'] 24) := (hne _ (by omega)).trans (by have := (heap_alloc_new (w.alloc x1) x2).trans (congrArg some hx2); rw [alloc_size] at this; exact this)
  have hk3 : Kp (NU pu bm w) w W3 := by
    have h1 : Kp (NU pu bm w) w ((w.alloc x1).alloc x2) := kpNU hgr
    subst hW3
    exact h1.trans (kp_set (fun hc => hc.2.1 rfl) 1 _)
  have hroot : ∀ (z : Tm) (vy : Value), okT z → TrV w (· < B) z vy → ∀ W, Kp (Lo w.heap.size) W3 W → w.heap.size + 2 ≤ W.heap.size → Calls Try.prog 95 #[.pointer (some ⟨pu, 0, none⟩), vy] W fun e w' => ∃ (oz : Option Addr) (capz : Nat), e = .returned (.agg #[.int .i64 (rootT b z).k, .int .i64 (rootT b z).n, .slice oz (rootT b z).l.length capz]) ∧ TrV w' (· < B) (rootT b z) (.agg #[.int .i64 (rootT b z).k, .int .i64 (rootT b z).n, .slice oz (rootT b z).l.length capz]) ∧ Kp (Lo (w.heap.size + 2)) W w' := fun z vy hz hvy W hW hWs => by
    have hIW : UniI B pu bm b (c + 1) W := by
      obtain ⟨f, h1, h2⟩ := hI3.hb
      exact ⟨(hW.block pu hpu).trans hI3.hu, ⟨f, h1.of_block (hW.block bm hbm), BRel.up (fun k hk => hW.block k (show k < w.heap.size by omega)) h2⟩, hbu, hbb, h.ne⟩
    refine (root_any (b.length + 1) z (rootT b z) (rootT_is hb z hz).1 vy W hIW (trV_mono (w := w) (w' := W) (fun _ h => h) (fun k hk => (hW.block k (by have hk' : k < B := hk; show k < w.heap.size; omega)).trans (hk3.block k (by have hk' : k < B := hk; exact ⟨by omega, by omega, by omega⟩))) _ hvy)).mono ?_
    rintro e w' ⟨vz, rfl, hvz, hbz⟩
    obtain ⟨sz', rfl, -, -, hsz⟩ := trV_iff.1 hvz
    obtain ⟨oz, capz, b3, o3, rfl, -, -, -, -⟩ := trS_at hsz
    exact ⟨oz, capz, rfl, hvz, kpL hbz hWs⟩
  have hb1 : WfB b (c + 1) := ⟨by have := hb.len; omega, hb.ok, hb.ac⟩
  obtain ⟨-, hxr, hxo⟩ := rootT_is hb p hp
  obtain ⟨-, hyr, hyo⟩ := rootT_is hb t ht
  rw [hx] at hxr hxo
  rw [hy] at hyr hyo
  have HF := Lib.hid (And.intro hb1 (And.intro hxr (And.intro hxo (And.intro hyr hyo))))
  clear hb1 hxr hxo hyr hyo
  have hra := hroot p _ hp hv
  have hrb := hroot t _ ht hv'
  rw [hx] at hra
  rw [hy] at hrb
  have HRA := Lib.hid hra
  have HRB := Lib.hid hrb
  clear hra hrb hx hy
  have HQ := Lib.hid (And.intro q1 (And.intro q2 (And.intro hI3 hk3)))
  have c0 := (cells_of q1 0).1
  have c1 := (cells_of q1 1).1
  have c2 := (cells_of q1 2).1
  have d0 := (cells_of q2 0).1
  have d1 := (cells_of q2 1).1
  have d2 := (cells_of q2 2).1
  simp only [List.getElem?_toArray, List.getElem?_cons_zero, List.getElem?_cons_succ] at c0 c1 c2 d0 d1 d2
  clear hI hgr hsl hsl' hv hv' h hel hel' hoa hoa' hk1 hk2 hk1' hk2' hp ht hb q1 q2 hI3 hk3 hroot hne
  have HN := Lib.hid (And.intro hpu (And.intro hbm (And.intro hbu hbb)))
  clear hpu hbm hbu hbb
  subst hx1 hx2
  go_enter Try.func67, Try.ntmps67
  go_wp2_with fail
  rw [← hW3]
  clear z1 fz hW3
  generalize hq : w.heap.size = q at *
  have HS := Lib.hid hq
  clear hq
  go_region_with
    (first
      | (with_reducible refine (HRA.out _ ?_ ?_).mono ?_
         · exact kpD (Q := Lo q) W3
         · show q + 2 ≤ W3.heap.size; omega
         rintro e w5 ⟨o5, cap5, rfl, tv5, kp5⟩
         have Q1 := (kp5.block q (show q < q + 2 by omega)).trans HQ.out.1
         have Q2 := (kp5.block (q + 1) (show q + 1 < q + 2 by omega)).trans HQ.out.2.1
         have s5 : q + 2 ≤ w5.heap.size := by have := kp5.size; have e5 : W3.drew.heap.size = W3.heap.size := rfl; omega
         have g0 := (cells_of Q2 0).1
         have g1 := (cells_of Q2 1).1
         have g2 := (cells_of Q2 2).1
         have j0 := (cells_of Q1 0).1
         have j1 := (cells_of Q1 1).1
         have j2 := (cells_of Q1 2).1
         simp only [List.getElem?_toArray, List.getElem?_cons_zero, List.getElem?_cons_succ] at g0 g1 g2 j0 j1 j2
         have fg0 := fun j => (cells_of Q1 j).2
         have K5 := Lib.hid (And.intro Q1 (And.intro Q2 (And.intro tv5 (And.intro kp5 s5))))
         clear Q1 Q2 tv5 kp5 s5)
      | (with_reducible refine (HRB.out _ ?_ ?_).mono ?_
         · exact (kpD (Q := Lo q) W3).trans (K5.out.2.2.2.1.mono (fun k hk => Nat.lt_of_lt_of_le hk (by omega)))
         · exact K5.out.2.2.2.2
         rintro e w6 ⟨o6, cap6, rfl, tv6, kp6⟩
         have Q1 := (kp6.block q (show q < q + 2 by omega)).trans K5.out.1
         have Q2 := (kp6.block (q + 1) (show q + 1 < q + 2 by omega)).trans K5.out.2.1
         have j0' := (cells_of Q1 0).1
         have j1' := (cells_of Q1 1).1
         have j2' := (cells_of Q1 2).1
         have g0' := (cells_of Q2 0).1
         have g1' := (cells_of Q2 1).1
         have g2' := (cells_of Q2 2).1
         simp only [List.getElem?_toArray, List.getElem?_cons_zero, List.getElem?_cons_succ] at j0' j1' j2' g0' g1' g2'
         have fg1 := fun j => (cells_of Q1 j).2
         have fg2 := fun j => (cells_of Q2 j).2
         have K6 := Lib.hid (And.intro tv6 kp6)
         clear Q1 Q2 tv6 kp6))
  all_goals
    have A := after_roots HQ.out.2.2.1 HN.out.1 HN.out.2.1 HN.out.2.2.1 K5.out.2.2.2.1 K6.out.2 HQ.out.1 HQ.out.2.1 K5.out.2.2.1 K6.out.1 s3
    clear g0 g1 g2 j0 j1 j2 fg0 j0' j1' j2' g0' g1' g2' fg1 fg2 K5 K6 c0 c1 c2 d0 d1 d2 s3
    generalize ((((((w6.setCell ⟨q, 0, none⟩ (.int .i64 (x).k)).setCell ⟨q, 1, none⟩ (.int .i64 (x).n)).setCell ⟨q, 2, none⟩ (.slice o5 (x).l.length cap5)).setCell ⟨q + 1, 0, none⟩ (.int .i64 (y).k)).setCell ⟨q + 1, 1, none⟩ (.int .i64 (y).n)).setCell ⟨q + 1, 2, none⟩ (.slice o6 (y).l.length cap6)) = W7 at *
    obtain ⟨e0, e1, e2, h0, h1, h2, fz1, fz2⟩ := aft_cells A
    have HA := Lib.hid A
    clear A HRA HRB
    by_cases hA : x.k = 1 ∧ sameR x y = true
    · have hb1 : (x.k == 1) = true := by simp [hA.1]
      have hl : lookR (lookT g) b (c + 1) x y = (b, c + 1, 0) := by unfold lookR; rw [if_pos hA]
      have hs : (x.k == y.k && x.n == y.n && decide (x.l.length = y.l.length)) = true := hA.2
      have HL := Lib.hid (And.intro hl hs)
      have HSR := Lib.hid (sameRoot_any x y _ _ _ _ W7 HA.out.t1 HA.out.t2)
      clear hA hl hs fz1 fz2
      go_wp2_with fail
      refine HSR.out.mono ?_
      rintro e w8 ⟨rfl, hb8⟩
      rw [HL.out.2]
      have HB := Lib.hid hb8
      clear hb8
      go_wp2_with fail
      go_ret
      have A8 := aft_below HA.out HN.out.1 HN.out.2.1 HN.out.2.2.1 HB.out
      rw [HL.out.1]
      exact ⟨rfl, A8.uni, kp_end HQ.out.2.2.2 HS.out A8.kp A8.sz (Kp.refl _ _)⟩
    · by_cases hx : x.k = 1
      · have hb1 : (x.k == 1) = true := by simp [hx]
        have hb2 : (x.k != 1) = false := by simp [hx]
        have hs : (x.k == y.k && x.n == y.n && decide (x.l.length = y.l.length)) = false := by
          rw [Bool.eq_false_iff]; exact fun h => hA ⟨hx, h⟩
        have HX1 := Lib.hid hx
        have HL0 := Lib.hid (And.intro hA hs)
        have HSR := Lib.hid (sameRoot_any x y _ _ _ _ W7 HA.out.t1 HA.out.t2)
        clear hA hs hx fz1 fz2
        by_cases hy : y.k = 1
        · have hy1 : (y.k == 1) = true := by simp [hy]
          have HY1 := Lib.hid hy
          clear hy
          by_cases hlt2 : x.n < y.n
          · have HL : Hid (lookR (lookT g) b (c + 1) x y = becT b (c + 1) y x) := Lib.hid (by unfold lookR; rw [if_neg HL0.out.1, if_pos ⟨HY1.out, .inr hlt2⟩])
            go_wp2_with fail
            refine HSR.out.mono ?_
            rintro e w8 ⟨rfl, hb8⟩
            rw [HL0.out.2]
            have A8 := aft_below HA.out HN.out.1 HN.out.2.1 HN.out.2.2.1 hb8
            clear hb8 e0 e1 e2 h0 h1 h2
            obtain ⟨e0, e1, e2, h0, h1, h2, fz1, fz2⟩ := aft_cells A8
            have A9 := aft_swap A8 HN.out.1 HN.out.2.1 HN.out.2.2.1
            have A9' := Lib.hid A9
            clear A9 A8
            go_wp2_with fail
            have A9 := A9'.out
            refine (become_any HF.out.1 (by omega) y x (trV_int A9.t1) (HF.out.2.2.2.1 HY1.out) HF.out.2.2.1 _ _ A9.uni A9.t2).mono ?_
            rintro e w10 ⟨rfl, hI10, hk10⟩
            have HZ := Lib.hid (And.intro hI10 (kp_end HQ.out.2.2.2 HS.out A9.kp A9.sz hk10))
            clear hI10 hk10
            clear A9
            go_wp2_with fail
            go_ret
            rw [HL.out]
            exact ⟨rfl, HZ.out.1, HZ.out.2⟩
          · have hge : y.n ≤ x.n := by omega
            have HL : Hid (lookR (lookT g) b (c + 1) x y = becT b (c + 1) x y) := Lib.hid (by unfold lookR; rw [if_neg HL0.out.1, if_neg (by rintro ⟨-, h | h⟩; exact h HX1.out; exact hlt2 h), if_pos HX1.out])
            go_wp2_with fail
            refine HSR.out.mono ?_
            rintro e w8 ⟨rfl, hb8⟩
            rw [HL0.out.2]
            have A8 := aft_below HA.out HN.out.1 HN.out.2.1 HN.out.2.2.1 hb8
            clear hb8 e0 e1 e2 h0 h1 h2
            obtain ⟨e0, e1, e2, h0, h1, h2, fz1, fz2⟩ := aft_cells A8
            have A9' := Lib.hid A8
            clear A8
            go_wp2_with fail
            have A9 := A9'.out
            refine (become_any HF.out.1 (by omega) x y (trV_int A9.t1) (HF.out.2.1 HX1.out) HF.out.2.2.2.2 _ _ A9.uni A9.t2).mono ?_
            rintro e w10 ⟨rfl, hI10, hk10⟩
            have HZ := Lib.hid (And.intro hI10 (kp_end HQ.out.2.2.2 HS.out A9.kp A9.sz hk10))
            clear hI10 hk10
            clear A9
            go_wp2_with fail
            go_ret
            rw [HL.out]
            exact ⟨rfl, HZ.out.1, HZ.out.2⟩
        · have hy1 : (y.k == 1) = false := by simp [hy]
          have HL : Hid (lookR (lookT g) b (c + 1) x y = becT b (c + 1) x y) := Lib.hid (by unfold lookR; rw [if_neg HL0.out.1, if_neg (fun h => hy h.1), if_pos HX1.out])
          clear hy
          go_wp2_with fail
          refine HSR.out.mono ?_
          rintro e w8 ⟨rfl, hb8⟩
          rw [HL0.out.2]
          have A8 := aft_below HA.out HN.out.1 HN.out.2.1 HN.out.2.2.1 hb8
          clear hb8 e0 e1 e2 h0 h1 h2
          obtain ⟨e0, e1, e2, h0, h1, h2, fz1, fz2⟩ := aft_cells A8
          have A9' := Lib.hid A8
          clear A8
          go_wp2_with fail
          have A9 := A9'.out
          refine (become_any HF.out.1 (by omega) x y (trV_int A9.t1) (HF.out.2.1 HX1.out) HF.out.2.2.2.2 _ _ A9.uni A9.t2).mono ?_
          rintro e w10 ⟨rfl, hI10, hk10⟩
          have HZ := Lib.hid (And.intro hI10 (kp_end HQ.out.2.2.2 HS.out A9.kp A9.sz hk10))
          clear hI10 hk10
          clear A9
          go_wp2_with fail
          go_ret
          rw [HL.out]
          exact ⟨rfl, HZ.out.1, HZ.out.2⟩
      · have hb1 : (x.k == 1) = false := by simp [hx]
        have hb2 : (x.k != 1) = true := by simp [hx]
        have HX0 := Lib.hid hx
        have HL0 := Lib.hid hA
        clear hA hx
        by_cases hy : y.k = 1
        · have hy1 : (y.k == 1) = true := by simp [hy]
          have HY1 := Lib.hid hy
          have HL : Hid (lookR (lookT g) b (c + 1) x y = becT b (c + 1) y x) := Lib.hid (by unfold lookR; rw [if_neg HL0.out, if_pos ⟨hy, .inl HX0.out⟩])
          have A9' := Lib.hid (aft_swap HA.out HN.out.1 HN.out.2.1 HN.out.2.2.1)
          clear hy
          go_wp2_with fail
          have A9 := A9'.out
          refine (become_any HF.out.1 (by omega) y x (trV_int A9.t1) (HF.out.2.2.2.1 HY1.out) HF.out.2.2.1 _ _ A9.uni A9.t2).mono ?_
          rintro e w10 ⟨rfl, hI10, hk10⟩
          have HZ := Lib.hid (And.intro hI10 (kp_end HQ.out.2.2.2 HS.out A9.kp A9.sz hk10))
          clear hI10 hk10
          clear A9
          go_wp2_with fail
          go_ret
          rw [HL.out]
          exact ⟨rfl, HZ.out.1, HZ.out.2⟩
        · have hy1 : (y.k == 1) = false := by simp [hy]
          have HSR := Lib.hid (sameRoot_any x y _ _ _ _ W7 HA.out.t1 HA.out.t2)
          have HY0 := Lib.hid hy
          clear hy fz1 fz2
          by_cases hs : sameR x y = true
          · have HL : Hid (lookR (lookT g) b (c + 1) x y = lookL (lookT g) b (c + 1) x.l y.l ∧ (x.k == y.k && x.n == y.n && decide (x.l.length = y.l.length)) = true) := Lib.hid ⟨by unfold lookR; rw [if_neg HL0.out, if_neg (fun h => HY0.out h.1), if_neg HX0.out, if_pos hs], hs⟩
            have hlen : Hid (x.l.length = y.l.length) := Lib.hid (by simp only [sameR, Bool.and_eq_true, decide_eq_true_eq] at hs; exact hs.2)
            clear hs
            go_wp2_with fail
            refine HSR.out.mono ?_
            rintro e w8 ⟨rfl, hb8⟩
            rw [HL.out.2]
            have A8 := aft_below HA.out HN.out.1 HN.out.2.1 HN.out.2.2.1 hb8
            clear hb8 e0 e1 e2 h0 h1 h2
            obtain ⟨e0, e1, e2, h0, h1, h2, fz1, fz2⟩ := aft_cells A8
            have A9' := Lib.hid A8
            clear A8
            go_wp2_with fail
            have A9 := A9'.out
            refine (lookWithin_any L b (c + 1) x y _ _ _ (by omega) (by omega) (by omega) HF.out.1 HF.out.2.2.1 HF.out.2.2.2.2 hlen.out A9.uni A9.t1 A9.t2).mono ?_
            rintro e w10 ⟨rfl, hI10, hk10⟩
            have HZ := Lib.hid (And.intro hI10 (kp_end HQ.out.2.2.2 HS.out A9.kp A9.sz hk10))
            clear hI10 hk10
            clear A9
            go_wp2_with fail
            go_ret
            rw [HL.out.1]
            exact ⟨rfl, HZ.out.1, HZ.out.2⟩
          · have HL : Hid (lookR (lookT g) b (c + 1) x y = (b, c + 1, 3) ∧ (x.k == y.k && x.n == y.n && decide (x.l.length = y.l.length)) = false) := Lib.hid ⟨by unfold lookR; rw [if_neg HL0.out, if_neg (fun h => HY0.out h.1), if_neg HX0.out, if_neg hs], by rw [Bool.eq_false_iff]; exact hs⟩
            clear hs
            go_wp2_with fail
            refine HSR.out.mono ?_
            rintro e w8 ⟨rfl, hb8⟩
            rw [HL.out.2]
            have A8 := Lib.hid (aft_below HA.out HN.out.1 HN.out.2.1 HN.out.2.2.1 hb8)
            clear hb8
            go_wp2_with fail
            go_ret
            rw [HL.out.1]
            exact ⟨rfl, A8.out.uni, kp_end HQ.out.2.2.2 HS.out A8.out.kp A8.out.sz (Kp.refl _ _)⟩
end Go.Proofs.Ytapdfdjknehhgaa

/- Looking at a pair: the whole. -/
namespace Go.Proofs.Ytapdfdjknehhgaa
open Go.RowKit Go.Tr Go.Maps

set_option maxRecDepth 100000 in
set_option maxHeartbeats 800000 in
theorem look_limit {B pu bm : Nat} (b : Bec) (c : Int) (p t : Tm) (v v' : Value) (w : World) (hc0 : 20000 < c + 1) (hc : c ≤ 20001) (h : UniI B pu bm b c w) (hv : TrV w (· < B) p v) (hv' : TrV w (· < B) t v') :
    Calls Try.prog 67 #[.pointer (some ⟨pu, 0, none⟩), v, v'] w fun e w' => e = .returned (.int .i64 2) ∧ UniI B pu bm b (c + 1) w' ∧ Kp (NU pu bm w) w w' := by
  obtain ⟨sl, rfl, hk1, hk2, hsl⟩ := trV_iff.1 hv
  obtain ⟨oa, cap, b1, o1, rfl, hlc, hcm, hoa, hel⟩ := trS_at hsl
  obtain ⟨sl', rfl, hk1', hk2', hsl'⟩ := trV_iff.1 hv'
  obtain ⟨oa', cap', b2, o2, rfl, hlc', hcm', hoa', hel'⟩ := trS_at hsl'
  obtain ⟨x1, hx1⟩ : ∃ o : Obj, o = .cells #[.int .i64 p.k, .int .i64 p.n, .slice oa p.l.length cap] 24 := ⟨_, rfl⟩
  obtain ⟨x2, hx2⟩ : ∃ o : Obj, o = .cells #[.int .i64 t.k, .int .i64 t.n, .slice oa' t.l.length cap'] 24 := ⟨_, rfl⟩
  have hB := uniI_B h
  have hgr : Below w.heap.size w ((w.alloc x1).alloc x2) := bA (bA (bZ w) _) _
  have hI := uniI_below h hB hgr
  have z1 := (cells_of hI.hu 1).1
  have fz := fun j => (cells_of hI.hu j).2
  simp only [List.getElem?_toArray, List.getElem?_cons_zero, List.getElem?_cons_succ] at z1
  have hI3 : UniI B pu bm b (c + 1) (((w.alloc x1).alloc x2).setCell ⟨pu, 1, none⟩ (.int .i64 (c + 1))) := uniI_inc hI
  have hk3 : Kp (NU pu bm w) w (((w.alloc x1).alloc x2).setCell ⟨pu, 1, none⟩ (.int .i64 (c + 1))) := (kpNU hgr).trans (kp_set (fun hc => hc.2.1 rfl) 1 _)
  have HQ := Lib.hid (And.intro hI3 hk3)
  clear hI hgr hsl hsl' hv hv' h hel hel' hoa hoa' hk1 hk2 hk1' hk2' hI3 hk3
  subst hx1 hx2
  go_enter Try.func67, Try.ntmps67
  go_wp2_with fail
  go_ret
  exact ⟨rfl, HQ.out.1, HQ.out.2⟩
theorem look_any {B pu bm : Nat} (g : Nat) : LookC B pu bm g := by
  induction g with
  | zero =>
    intro b c t t' v v' w hg hc0 hc hb ht ht' h hv hv'
    exact look_limit b c t t' v v' w (by omega) hc h hv hv'
  | succ g ih =>
    intro b c t t' v v' w hg hc0 hc hb ht ht' h hv hv'
    by_cases hl : 20000 < c + 1
    · have e : lookT (g + 1) b c t t' = (b, c + 1, 2) := by simp only [lookT]; rw [if_pos hl]
      rw [e]
      exact look_limit b c t t' v v' w hl hc h hv hv'
    · have e : lookT (g + 1) b c t t' = lookR (lookT g) b (c + 1) (rootT b t) (rootT b t') := by simp only [lookT]; rw [if_neg hl]
      rw [e]
      exact look_step (Lib.hid ih) b c t t' v v' w (by omega) hc0 (by omega) hb ht ht' h hv hv' _ _ rfl rfl
end Go.Proofs.Ytapdfdjknehhgaa
