/- Join: tokens with numbers of any size, wherever they lie. -/
import Derived.Test.YtcjdacdggklifaaGreatDoorApart
import Derived.IntWalk
namespace Go.Proofs.YtcjdacdggklifaaGreatDoor
open Go.RowKit

theorem TokV.blk {w w' : World} {oa : Option Addr} {rs : List RT} (h : TokV w oa rs) (hs : w.heap.size ≤ w'.heap.size) (hk : ∀ x, oa = some x → w'.heap[x.block]? = w.heap[x.block]?) : TokV w' oa rs := fun hn => by
  obtain ⟨g, off, rfl, hl, hc⟩ := h hn
  exact ⟨g, off, rfl, Nat.lt_of_lt_of_le hl hs, fun i hi j hj => (World.cell?_of_block (w := w) (a := ⟨g, off + (i * 5 + j), none⟩) (hk ⟨g, off, none⟩ rfl)).trans (hc i hi j hj)⟩
theorem TokV.lt {w : World} {oa : Option Addr} {rs : List RT} (h : TokV w oa rs) (hn : rs.length ≠ 0) : ∀ x, oa = some x → x.block < w.heap.size := by
  obtain ⟨g, off, rfl, hl, _⟩ := h hn
  intro x hx; cases hx; exact hl
/-- What holds of the world all through the loop that writes. -/
structure FiveT (bz p sg fm sm bb b0 : Nat) (oa : Option Addr) (rs : List RT) (J : List UInt8) (w0 w : World) : Prop where
  sc : HasSc bz p sg fm sm w
  bld : Bld bb bb (Lib.byteCells J) w
  row : TokV w oa rs
  below : Below b0 w0 w
  lt : bb < w.heap.size
  tab : Tab w
section
variable {bz p sg fm sm bb b0 : Nat} {oa : Option Addr} {rs : List RT} {J : List UInt8} {w0 w w' : World}
theorem FiveT.grown (h : FiveT bz p sg fm sm bb b0 oa rs J w0 w) (hs : HasSc bz p sg fm sm w') (hg : w.grownBy w' (some p)) (h1 : p < bb) (h2 : b0 ≤ p) (h3 : ∀ x, oa = some x → x.block < b0) (h4 : b0 ≤ w.heap.size) (h5 : some 1 ≠ some p) : FiveT bz p sg fm sm bb b0 oa rs J w0 w' :=
  ⟨hs, h.bld.kept hg h1, h.row.blk hg.size (fun x hx => hg.block _ (by have := h3 x hx; omega) (by have := h3 x hx; simp; omega)), h.below.grown hg h4 (fun j hj => by simp at hj; omega), Nat.lt_of_lt_of_le h.lt hg.size, h.tab.grown hg h5⟩
theorem FiveT.alloc (h : FiveT bz p sg fm sm bb b0 oa rs J w0 w) (o : Obj) (h1 : p < bb) (h2 : b0 ≤ p) (h3 : ∀ x, oa = some x → x.block < b0) (_h4 : b0 ≤ bb) (h5 : some 1 ≠ some p) : FiveT bz p sg fm sm bb b0 oa rs J w0 (w.alloc o) :=
  h.grown (h.sc.kept (World.grownBy_alloc _ _ _)) (World.grownBy_alloc _ _ _) h1 h2 h3 (by have := h.lt; omega) h5
theorem FiveT.wrote {J' : List UInt8} (h : FiveT bz p sg fm sm bb b0 oa rs J w0 w) (hb : Bld bb bb (Lib.byteCells J') w') (hw : Wrote bb bb w w') (h1 : bz ≤ bb) (h2 : ∀ x, oa = some x → x.block < b0) (h3 : b0 ≤ bb) (h4 : 1 < b0) : FiveT bz p sg fm sm bb b0 oa rs J' w0 w' :=
  ⟨h.sc.others hw h.bld.block h1, hb, h.row.blk hw.1.size (fun x hx => hw.1.block _ (by have := h2 x hx; omega)), below_le h.below hw.1 h3, Nat.lt_of_lt_of_le h.lt hw.1.size, h.tab.of_block (hw.1.block _ (by omega))⟩
end

set_option maxRecDepth 100000 in
set_option maxHeartbeats 2000000 in
theorem Join_all (rs : List RT) (n0 : Nat) (hn0 : rs.length = n0) (oa : Option Addr) (cap : Nat) (w : World) (hrow : TokV w oa rs) (haw : ∀ x, oa = some x → x.block < w.heap.size) (htab : Tab w) (hn : n0 ≤ 2000) (hsm : ∀ t ∈ rs, t.fit ∧ t.s.size ≤ 20000) :
    Calls Tryz.prog 9 #[.slice oa n0 cap] w fun e w' => e = joinR rs ∧ Below w.heap.size w w' := by
  obtain ⟨res, hres⟩ : ∃ r, r = joinR rs := ⟨_, rfl⟩
  rw [← hres]
  have HRES := Lib.hid hres
  have HR := Lib.hid hrow
  have HTB := Lib.hid htab
  have hgw := htab.lt
  subst hn0
  clear hres hrow htab
  have hn2 : (rs.length : Int) ≤ 20000 := by omega
  go_enter Tryz.func9, Tryz.ntmps9
  go_wp2_with fail
  refine (new_any ⟨#[]⟩ w).mono ?_
  rintro e w1 ⟨rfl, hnew⟩
  have hsc : HasSc (w.heap.size + 5) (w.heap.size + 3) w.heap.size (w.heap.size + 1) (w.heap.size + 2) w1 := ⟨_, _, _, _, new_sc hnew⟩
  have HSC := Lib.hid hsc
  have HB := Lib.hid hnew.below
  have hw1 := hnew.size
  have HRW := Lib.hid (HR.out.below hnew.below)
  have HT1 := Lib.hid (HTB.out.below hnew.below (Nat.le_refl _))
  have HAW := Lib.hid haw
  have HZ := Lib.hid (And.intro hgw hw1)
  have HL := Lib.hid (rfl : rs.length = rs.length)
  clear hnew hsc hgw hw1 haw
  generalize hbz : w.heap.size + 5 = bz at *
  generalize hpz : w.heap.size + 3 = p at *
  generalize hfz : w.heap.size + 1 = fm at *
  generalize hsz : w.heap.size + 2 = sm at *
  have HE := Lib.hid (And.intro hbz (And.intro hpz (And.intro hfz hsz)))
  clear hbz hpz hfz hsz
  obtain ⟨n, hnn⟩ : ∃ n, rs.length = n := ⟨_, rfl⟩
  have HN := Lib.hid hnn
  rw [hnn] at hn hn2 ⊢
  clear hnn
  go_wp2_with fail
  go_loopw [13] (fun v wr => ∃ k : Nat, k ≤ n ∧ v = .int .i64 k ∧ HasSc bz p w.heap.size fm sm wr ∧ w1.grownBy wr (some p) ∧ (rs.take k).all rightB = true) (fun v _ => n - (intOf v).toNat)
  case atStart => exact ⟨0, by omega, rfl, HSC.out, grownZ _ _, by simp⟩
  case round =>
    obtain ⟨k, hk, rfl, hsc, hg, hall⟩ := hrel
    have HS := Lib.hid hsc
    have HG := Lib.hid hg
    have HALL := Lib.hid hall
    clear hsc hg hall
    by_cases hlt : k < n
    · have hkr : k < rs.length := by have := HN.out; omega
      have hrw : TokV wr oa rs := HRW.out.blk HG.out.size (fun x hx => HG.out.block _ (by have := HAW.out x hx; have := HZ.out; have := HE.out; omega) (by have := HAW.out x hx; have := HE.out; simp; omega))
      obtain ⟨g, off, rfl, hgl, hcl⟩ := hrw (by omega)
      have e1 := fun j hj => hcl k hkr j hj
      have htr : Tab wr := HT1.out.grown HG.out (by have := HZ.out; have := HE.out; simp; omega)
      have hm := hsm _ (List.getElem_mem hkr)
      have hr1 := fun o => right_all (HS.out.kept (World.grownBy_alloc wr o none)) (htr.grown (World.grownBy_alloc wr o none) (by simp)) rs[k] hm.1 (by have := hm.2; omega)
      have htk : rs.take (k + 1) = rs.take k ++ [rs[k]] := List.take_succ_eq_append_getElem hkr
      have HTK := Lib.hid htk
      clear htk htr hcl
      have hmem := List.getElem_mem hkr
      have HMEM := Lib.hid hmem
      clear hmem
      generalize rs[k] = x at *
      obtain ⟨xk, xn, xs, xa, xf⟩ := x
      simp only [RT.v] at hr1
      have a0 := e1 0 (by omega)
      have a1 := e1 1 (by omega)
      have a2 := e1 2 (by omega)
      have a3 := e1 3 (by omega)
      have a4 := e1 4 (by omega)
      simp only [RT.cells, List.getElem?_cons_zero, List.getElem?_cons_succ, Nat.add_zero, ← Nat.add_assoc] at a0 a1 a2 a3 a4
      have HR1 := Lib.hid hr1
      clear e1 hkr hm hr1
      go_wp2_with fail
      refine (HR1.out _).mono ?_
      rintro e w3 ⟨rfl, hs3, hg3⟩
      have hg3' : w1.grownBy w3 (some p) := grown_trans HG.out (grown_trans (World.grownBy_alloc wr _ _) hg3)
      have HS3 := Lib.hid hs3
      have HG3 := Lib.hid hg3'
      clear hs3 hg3 hg3' a0 a1 a2 a3 a4
      cases hrt : rightB ⟨xk, xn, xs, xa, xf⟩
      · go_wp2_with fail
        go_ret2
        have hf : rs.all rightB = false := by
          rw [List.all_eq_false]; exact ⟨_, HMEM.out, by rw [hrt]; simp⟩
        exact ⟨by rw [HRES.out, joinR, if_neg (by rw [hf]; simp)]; rfl, HB.out.grown HG3.out HB.out.size (fun j hj => by have := HE.out; simp at hj; omega)⟩
      · go_wp2_with fail
        go_roundw
        case rel => exact ⟨k + 1, by omega, by go_num, HS3.out, HG3.out, by rw [HTK.out, List.all_append, HALL.out]; simp [hrt]⟩
        case measure => simp [intOf]; omega
    · have hkn : n = k := by omega
      subst hkn
      have hall2 : rs.all rightB = true := by have := HALL.out; rwa [List.take_of_length_le (by have := HN.out; omega)] at this
      have HALL2 := Lib.hid hall2
      have hbel : Below w.heap.size w wr := HB.out.grown HG.out HB.out.size (fun j hj => by have := HE.out; simp at hj; omega)
      have hrw : TokV wr oa rs := HRW.out.blk HG.out.size (fun x hx => HG.out.block _ (by have := HAW.out x hx; have := HZ.out; have := HE.out; omega) (by have := HAW.out x hx; have := HE.out; simp; omega))
      have htr : Tab wr := HT1.out.grown HG.out (by have := HZ.out; have := HE.out; simp; omega)
      have hpz2 : bz ≤ wr.heap.size ∧ w.heap.size + 3 = p := by have := HZ.out; have := HE.out; have := HG.out.size; omega
      have hgz := HZ.out.1
      have HTR := Lib.hid htr
      have HBEL := Lib.hid hbel
      have HRW2 := Lib.hid hrw
      have HPZ := Lib.hid (And.intro hpz2.1 (And.intro hpz2.2 hgz))
      clear hall2 hbel hrw hpz2 hgz htr HALL HG HRW HB HSC HE HZ HR
      obtain ⟨wo, hwo⟩ : ∃ wo : World, wo = wr := ⟨_, rfl⟩
      go_wp2_with fail
      have hnw : (wr.alloc (.cells #[.pointer none, .slice none 0 0] 63)).heap[wr.heap.size]? = some (.cells #[.pointer none, .slice none 0 0] 63) := heap_alloc_new wr _
      have hbl0 : Bld wr.heap.size wr.heap.size [] (wr.alloc (.cells #[.pointer none, .slice none 0 0] 63)) := .inl ⟨Nat.le_refl _, _, hnw, World.ownsRow_nil _ _ _ _, by simp [Value.ownBlock]⟩
      have hsc0 : HasSc bz p w.heap.size fm sm (wr.alloc (.cells #[.pointer none, .slice none 0 0] 63)) := HS.out.kept (World.grownBy_alloc _ _ _)
      have hrow0 : TokV (wr.alloc (.cells #[.pointer none, .slice none 0 0] 63)) oa rs := HRW2.out.below (by exact (Below.refl _ _).alloc (Nat.le_refl _) _)
      have htb0 : Tab (wr.alloc (.cells #[.pointer none, .slice none 0 0] 63)) := HTR.out.grown (World.grownBy_alloc _ _ none) (by simp)
      have hbe0 : Below w.heap.size w (wr.alloc (.cells #[.pointer none, .slice none 0 0] 63)) := HBEL.out.alloc HBEL.out.size _
      have hsz0 : wr.heap.size < (wr.alloc (.cells #[.pointer none, .slice none 0 0] 63)).heap.size := by simp
      have H0 := Lib.hid (And.intro hbl0 (And.intro hsc0 (And.intro hrow0 (And.intro hbe0 (And.intro hsz0 htb0)))))
      have hwb : w.heap.size ≤ wr.heap.size := HBEL.out.size
      have hbzb : bz ≤ wr.heap.size := HPZ.out.1
      have hpw : w.heap.size ≤ p := by have := HPZ.out.2.1; omega
      have hpb : p < bz := by obtain ⟨_, _, _, _, h⟩ := HS.out; exact h.pB
      have hgw2 := HPZ.out.2.2
      clear hnw hbl0 hsc0 hrow0 hbe0 hsz0 htb0 HBEL HRW2 HPZ HS HTR
      generalize (wr.alloc (.cells #[.pointer none, .slice none 0 0] 63)) = wb at *
      generalize wr.heap.size = bb at *
      clear hwo wo hn2
      have HWS := Lib.hid (writeString_any bb bb)
      have HWB := Lib.hid (writeByte_any bb bb)
      have H00 : FiveT bz p w.heap.size fm sm bb w.heap.size oa rs (joinK rs 0) w wb := ⟨H0.out.2.1, H0.out.1, H0.out.2.2.1, H0.out.2.2.2.1, H0.out.2.2.2.2.1, H0.out.2.2.2.2.2⟩
      have H00 := Lib.hid H00
      have hpbb : p < bb := by omega
      have hp1 : some 1 ≠ some p := by simp; omega
      have hg1 : 1 < w.heap.size := hgw2
      go_loopw [27] (fun v wr2 => ∃ k : Nat, k ≤ n ∧ v = .int .i64 k ∧ FiveT bz p w.heap.size fm sm bb w.heap.size oa rs (joinK rs k) w wr2) (fun v _ => n - (intOf v).toNat)
      case atStart => exact ⟨0, by omega, rfl, H00.out⟩
      case round =>
        obtain ⟨k, hk, rfl, h5⟩ := hrel
        by_cases hlt : k < n
        · have hkr : k < rs.length := by have := HN.out; omega
          have hm := hsm _ (List.getElem_mem hkr)
          have hjl := joinK_le rs (fun t ht => by have := t.text_le (hsm t ht).1; have := (hsm t ht).2; omega) k (by omega)
          obtain ⟨g, off, rfl, hgl, hcl⟩ := h5.row (by omega)
          have e1 := fun j hj => hcl k hkr j hj
          have hgp : ∀ x, some (⟨g, off, none⟩ : Addr) = some x → x.block < w.heap.size := HAW.out
          have a0 := e1 0 (by omega)
          have a1 := e1 1 (by omega)
          have a2 := e1 2 (by omega)
          have a3 := e1 3 (by omega)
          have a4 := e1 4 (by omega)
          have hsp := fun W ht => spelled_all rs[k] hm.1 W ht
          have htz : (rs[k]).text.size ≤ 1000000 := by have := (rs[k]).text_le hm.1; have := hm.2; omega
          have HSP := Lib.hid hsp
          -- the box of the token
          have hbx : ∀ xs ty, FiveT bz p w.heap.size fm sm bb w.heap.size (some ⟨g, off, none⟩) rs (joinK rs k) w (wr.alloc (.cells xs ty)) ∧ wr.heap.size < (wr.alloc (.cells xs ty)).heap.size ∧ (wr.alloc (.cells xs ty)).heap[wr.heap.size]? = some (.cells xs ty) := fun xs ty =>
            ⟨h5.alloc _ hpbb hpw hgp hwb hp1, by simp, heap_alloc_new wr _⟩
          have hbx := hbx #[.int .i64 (rs[k]).k, .int .i64 (rs[k]).n, .string (rs[k]).s, .int .i64 (rs[k]).a, .int .i64 (rs[k]).f] 35
          have HBX := Lib.hid hbx
          have hbq : bb < wr.heap.size := h5.lt
          clear hbx hsp e1 h5 hm hcl
          obtain ⟨x, hx⟩ : ∃ x, x = rs[k] := ⟨_, rfl⟩
          have HX := Lib.hid hx
          rw [← hx] at a0 a1 a2 a3 a4 HSP HBX htz
          clear hx
          obtain ⟨xk, xn, xs, xa, xf⟩ := x
          simp only [RT.v, RT.cells, List.getElem?_cons_zero, List.getElem?_cons_succ, Nat.add_zero, ← Nat.add_assoc] at a0 a1 a2 a3 a4 HSP HBX
          obtain ⟨tx, htx⟩ : ∃ tx, tx = (⟨xk, xn, xs, xa, xf⟩ : RT).text := ⟨_, rfl⟩
          have HTX := Lib.hid htx
          rw [← htx] at HSP htz
          clear htx
          have hnew := HBX.out.2.2
          have c0 := (cells_of hnew 0).1
          have c1 := (cells_of hnew 1).1
          have c2 := (cells_of hnew 2).1
          have c3 := (cells_of hnew 3).1
          have c4 := (cells_of hnew 4).1
          simp only [List.getElem?_toArray, List.getElem?_cons_zero, List.getElem?_cons_succ] at c0 c1 c2 c3 c4
          clear hnew
          by_cases hk0 : k = 0
          · subst hk0
            have hj0 : joinK rs (0 + 1) = joinK rs 0 ++ tx.data.toList := by
              rw [joinK_one rs hkr, joinK_zero, ← HX.out, HTX.out]; rfl
            simp only [Nat.zero_mul, Nat.add_zero] at a0 a1 a2 a3 a4
            have HJ := Lib.hid hj0
            clear hj0
            go_wp2_with fail
            generalize (wr.alloc (.cells #[.int .i64 xk, .int .i64 xn, .string xs, .int .i64 xa, .int .i64 xf] 35)) = wx at *
            clear a0 a1 a2 a3 a4
            go_quiet (fail)
            have HQ0 := Lib.hid (HBX.out.1.grown (HBX.out.1.sc.kept (grownN nq (grownZ _ _))) (grownN nq (grownZ _ _)) hpbb hpw hgp (by have := HBX.out.1.lt; omega) hp1)
            go_wp2_with (go_at_call 37; refine (HSP.out _ HQ0.out.tab).mono ?_; rintro e w4 ⟨rfl, hg4⟩)
            have h4 := HQ0.out.grown (HQ0.out.sc.kept hg4) (grown_any hg4 _) hpbb hpw hgp (by have := HQ0.out.lt; omega) hp1
            clear hg4
            have hin := HWS.out (Lib.byteCells (joinK rs 0)) tx w4 h4.bld (by rw [Lib.byteCells_length]; (try simp only [List.length_append, List.length_cons, List.length_nil]); omega) (Nat.le_of_lt h4.lt)
            have H4 := Lib.hid h4
            have HIN := Lib.hid hin
            clear h4 hin
            refine HIN.out.mono ?_
            rintro e w5 ⟨rfl, hb5, hw5⟩
            have hb6 : Bld bb bb (Lib.byteCells (joinK rs (0 + 1))) w5 := by
              rw [HJ.out]; simpa [Lib.byteCells, Lib.strCells] using hb5
            have H5 := Lib.hid (H4.out.wrote hb6 hw5 hbzb hgp hwb hg1)
            clear hb5 hw5 hb6
            go_wp2_with fail
            go_roundw
            case rel => exact ⟨0 + 1, by omega, by go_num, H5.out⟩
            case measure => simp [intOf]; omega
          · obtain ⟨m, hkm⟩ : ∃ m, k = m + 1 := ⟨k - 1, by omega⟩
            have hmr : m < rs.length := by omega
            have hj0 : joinK rs (k + 1) = joinK rs k ++ sp rs[m] ⟨xk, xn, xs, xa, xf⟩ ++ tx.data.toList := by
              subst hkm
              rw [show m + 1 + 1 = m + 2 from rfl, joinK_succ rs m hkr, ← HX.out, HTX.out]
            have hsx : (⟨xk, xn, xs, xa, xf⟩ : RT).fit ∧ xs.size ≤ 20000 := by
              have := hsm _ (List.getElem_mem hkr); rw [← HX.out] at this; exact this
            have hsy := hsm _ (List.getElem_mem hmr)
            obtain ⟨g', off', he', _, hcl⟩ := HBX.out.1.row (by omega)
            simp only [Option.some.injEq, Addr.mk.injEq, and_true] at he'
            obtain ⟨rfl, rfl⟩ := he'
            have hy1 := fun j hj => hcl m hmr j hj
            have hap := fun n => apart_all (HBX.out.1.sc.kept (grownN n (grownZ _ _))) (HBX.out.1.tab.grown (grownN n (grownZ _ none)) (by simp)) rs[m] ⟨xk, xn, xs, xa, xf⟩ hsy.1 hsx.1 (by have := hsy.2; omega) (by have := hsx.2; simp only; omega)
            obtain ⟨y, hy⟩ : ∃ y, y = rs[m] := ⟨_, rfl⟩
            rw [← hy] at hj0 hy1 hap
            clear hy hsy hsx hcl
            obtain ⟨yk, yn, ys, ya, yf⟩ := y
            have b0 := hy1 0 (by omega)
            have b1 := hy1 1 (by omega)
            have b2 := hy1 2 (by omega)
            have b3 := hy1 3 (by omega)
            have b4 := hy1 4 (by omega)
            simp only [RT.v, RT.cells, List.getElem?_cons_zero, List.getElem?_cons_succ, Nat.add_zero, ← Nat.add_assoc] at b0 b1 b2 b3 b4 hap
            have HAP := Lib.hid hap
            have HJ := Lib.hid hj0
            have HMR := Lib.hid (And.intro hmr hkr)
            have hmn : (m : Int) < (n : Int) := by omega
            have hmn2 : m < n := by omega
            have hm0 : (0 : Int) ≤ (m : Int) := by omega
            have hk0' : (0 : Int) < (k : Int) := by omega
            have hk0n : 0 < k := by omega
            have hsub : (k : Int) - 1 = (m : Int) := by omega
            have hwm : IntKind.i64.wrap (m : Int) = (m : Int) := IntWalk.i64_in _ (by omega)
            clear hap hj0 hy1 hkm hk0
            go_wp2_with fail
            generalize (wr.alloc (.cells #[.int .i64 xk, .int .i64 xn, .string xs, .int .i64 xa, .int .i64 xf] 35)) = wx at *
            clear a0 a1 a2 a3 a4
            go_still_tail 10, (by kernel_rfl)
            change wpList _ _ _ _ _ wx.drew
            go_wp2_with fail
            refine (HAP.out 1).mono ?_
            rintro e w3 ⟨rfl, hs3, hg3⟩
            have hgx : wx.grownBy w3 (some p) := grown_trans (grownN 1 (grownZ wx (some p))) hg3
            have hF3 := HBX.out.1.grown hs3 hgx hpbb hpw hgp (by have := HBX.out.1.lt; omega) hp1
            have hq3 : w3.heap[wr.heap.size]? = some (.cells #[.int .i64 xk, .int .i64 xn, .string xs, .int .i64 xa, .int .i64 xf] 35) := (hgx.block _ HBX.out.2.1 (by simp; omega)).trans HBX.out.2.2
            have HF3 := Lib.hid hF3
            have HQ3 := Lib.hid hq3
            clear hs3 hg3 hgx hF3 hq3 b0 b1 b2 b3 b4 c0 c1 c2 c3 c4
            cases hab : apartB ⟨yk, yn, ys, ya, yf⟩ ⟨xk, xn, xs, xa, xf⟩
            · have hj2 : joinK rs (k + 1) = joinK rs k ++ [32] ++ tx.data.toList := by rw [HJ.out, sp, hab]; rfl
              have HJ2 := Lib.hid hj2
              clear hj2 hab
              have hwr := HWB.out (Lib.byteCells (joinK rs k)) 32 w3 HF3.out.bld (by rw [Lib.byteCells_length]; omega) (Nat.le_of_lt HF3.out.lt)
              have HWR := Lib.hid hwr
              clear hwr
              go_wp2_with fail
              refine HWR.out.mono ?_
              rintro e w4 ⟨rfl, hb4, hw4⟩
              have hb4' : Bld bb bb (Lib.byteCells (joinK rs k ++ [32])) w4 := by simpa [Lib.byteCells] using hb4
              have hF4 := HF3.out.wrote hb4' hw4 hbzb hgp hwb hg1
              have hq4 : w4.heap[wr.heap.size]? = some (.cells #[.int .i64 xk, .int .i64 xn, .string xs, .int .i64 xa, .int .i64 xf] 35) := hw4.2 _ _ HQ3.out (by simp; omega) (fun c fz e => by cases e)
              have c0 := (cells_of hq4 0).1
              have c1 := (cells_of hq4 1).1
              have c2 := (cells_of hq4 2).1
              have c3 := (cells_of hq4 3).1
              have c4 := (cells_of hq4 4).1
              simp only [List.getElem?_toArray, List.getElem?_cons_zero, List.getElem?_cons_succ] at c0 c1 c2 c3 c4
              have HF4 := Lib.hid hF4
              clear hb4 hw4 hb4' hF4 hq4
              go_wp2_with (go_at_call 37; refine (HSP.out _ HF4.out.tab).mono ?_; rintro e w7 ⟨rfl, hg7⟩)
              have h4 := HF4.out.grown (HF4.out.sc.kept hg7) (grown_any hg7 _) hpbb hpw hgp (by have := HF4.out.lt; omega) hp1
              clear hg7
              have hin := HWS.out (Lib.byteCells (joinK rs k ++ [32])) tx w7 h4.bld (by rw [Lib.byteCells_length]; (try simp only [List.length_append, List.length_cons, List.length_nil]); omega) (Nat.le_of_lt h4.lt)
              have H4 := Lib.hid h4
              have HIN := Lib.hid hin
              clear h4 hin
              refine HIN.out.mono ?_
              rintro e w5 ⟨rfl, hb5, hw5⟩
              have hb6 : Bld bb bb (Lib.byteCells (joinK rs (k + 1))) w5 := by
                rw [HJ2.out]; simpa [Lib.byteCells, Lib.strCells] using hb5
              have H5 := Lib.hid (H4.out.wrote hb6 hw5 hbzb hgp hwb hg1)
              clear hb5 hw5 hb6
              go_wp2_with fail
              go_roundw
              case rel => exact ⟨k + 1, by omega, by go_num, H5.out⟩
              case measure => simp [intOf]; omega
            · have hj2 : joinK rs (k + 1) = joinK rs k ++ tx.data.toList := by rw [HJ.out, sp, hab]; simp
              have HJ2 := Lib.hid hj2
              clear hj2 hab
              have c0 := (cells_of HQ3.out 0).1
              have c1 := (cells_of HQ3.out 1).1
              have c2 := (cells_of HQ3.out 2).1
              have c3 := (cells_of HQ3.out 3).1
              have c4 := (cells_of HQ3.out 4).1
              simp only [List.getElem?_toArray, List.getElem?_cons_zero, List.getElem?_cons_succ] at c0 c1 c2 c3 c4
              go_wp2_with (go_at_call 37; refine (HSP.out _ HF3.out.tab).mono ?_; rintro e w7 ⟨rfl, hg7⟩)
              have h4 := HF3.out.grown (HF3.out.sc.kept hg7) (grown_any hg7 _) hpbb hpw hgp (by have := HF3.out.lt; omega) hp1
              clear hg7
              have hin := HWS.out (Lib.byteCells (joinK rs k)) tx w7 h4.bld (by rw [Lib.byteCells_length]; (try simp only [List.length_append, List.length_cons, List.length_nil]); omega) (Nat.le_of_lt h4.lt)
              have H4 := Lib.hid h4
              have HIN := Lib.hid hin
              clear h4 hin
              refine HIN.out.mono ?_
              rintro e w5 ⟨rfl, hb5, hw5⟩
              have hb6 : Bld bb bb (Lib.byteCells (joinK rs (k + 1))) w5 := by
                rw [HJ2.out]; simpa [Lib.byteCells, Lib.strCells] using hb5
              have H5 := Lib.hid (H4.out.wrote hb6 hw5 hbzb hgp hwb hg1)
              clear hb5 hw5 hb6
              go_wp2_with fail
              go_roundw
              case rel => exact ⟨k + 1, by omega, by go_num, H5.out⟩
              case measure => simp [intOf]; omega
        · have hkn : n = k := by omega
          subst hkn
          have hb9 := h5.bld
          have hl9 : bb ≤ wr.heap.size := Nat.le_of_lt h5.lt
          have hbe9 := h5.below
          rw [show joinK rs n = joinT rs from by rw [← HN.out]; exact joinK_all rs] at hb9
          have HB9 := Lib.hid hb9
          have HBE := Lib.hid hbe9
          clear h5 hb9 hbe9
          by_cases hbig : 100000 < (joinT rs).length
          · have hbig2 : (100000 : Int) < ((joinT rs).length : Int) := by omega
            have hr : res = .returned (.tuple #[.string ⟨#[]⟩, .int .i64 2]) := by rw [HRES.out, joinR, if_pos HALL2.out, if_pos hbig]
            have HRR := Lib.hid hr
            clear hr hbig
            go_wp2_with (go_at_call 38; refine (Tryz.Builder_Len bb bb _ _ HB9.out).mono ?_; rintro e w' ⟨rfl, hw⟩; obtain rfl := hw; rw [Lib.byteCells_length])
            go_ret2
            exact ⟨HRR.out.symm, HBE.out⟩
          · have hbig2 : ((joinT rs).length : Int) ≤ (100000 : Int) := by omega
            have hr : res = .returned (.tuple #[.string (ofB (joinT rs)), .int .i64 0]) := by rw [HRES.out, joinR, if_pos HALL2.out, if_neg hbig]
            have HRR := Lib.hid hr
            clear hr hbig
            go_wp2_with (first | (go_at_call 38; refine (Tryz.Builder_Len bb bb _ _ HB9.out).mono ?_; rintro e w' ⟨rfl, hw⟩; obtain rfl := hw; rw [Lib.byteCells_length]) | (go_at_call 39; refine (Tryz.Builder_String_any bb bb _ _ HB9.out hl9).mono ?_; rintro e w' ⟨rfl, hw⟩))
            go_ret2
            exact ⟨HRR.out.symm, below_le HBE.out hw hwb⟩
end Go.Proofs.YtcjdacdggklifaaGreatDoor
