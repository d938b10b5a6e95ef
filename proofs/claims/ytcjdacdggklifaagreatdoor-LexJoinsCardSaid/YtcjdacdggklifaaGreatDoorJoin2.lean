/- cutInto. -/
import Derived.Test.YtcjdacdggklifaaGreatDoorJoin1
namespace Go.Proofs.YtcjdacdggklifaaGreatDoor
open Go.RowKit

def flat (rs : List RT) : List Value := rs.flatMap RT.cells
/-- A row of tokens in block g. -/
def RowAt (w : World) (g : Nat) (rs : List RT) : Prop := ∃ xs t fz, w.heap[g]? = some (.cells xs t fz) ∧ ∀ j, j < rs.length * 5 → xs[j]? = (flat rs)[j]?
def likes : List RT → List RT → Bool
  | [], [] => true
  | a :: l, b :: m => alikeB a b && likes l m
  | _, _ => false
def cutB (text : ByteArray) (rs : List RT) : Bool := likes ((toks (Lx.G (rs.length + 1) (bts text) 0)).map rt) rs

theorem flat_get (rs : List RT) : ∀ (i : Nat) (h : i < rs.length) (j : Nat), j < 5 → (flat rs)[i * 5 + j]? = (rs[i]).cells[j]? := by
  induction rs with
  | nil => intro i h; cases h
  | cons r rs ih =>
    intro i h j hj
    cases i with
    | zero => simp only [flat, List.flatMap_cons, Nat.zero_mul, Nat.zero_add, List.getElem_cons_zero]; rw [List.getElem?_append_left (by simp [RT.cells]; omega)]
    | succ i =>
      have := ih i (by simpa using h) j hj
      simp only [flat, List.flatMap_cons, List.getElem_cons_succ] at this ⊢
      rw [List.getElem?_append_right (by simp [RT.cells]; omega), ← this]
      congr 1; simp [RT.cells]; omega
theorem likes_len : ∀ (a b : List RT), likes a b = true → a.length = b.length
  | [], [], _ => rfl
  | _ :: l, _ :: m, h => by simp only [likes, Bool.and_eq_true] at h; simp [likes_len l m h.2]
  | [], _ :: _, h => by simp [likes] at h
  | _ :: _, [], h => by simp [likes] at h
theorem likes_step : ∀ (a b : List RT), a.length = b.length → ∀ i (hi : i < a.length) (hj : i < b.length), likes (a.drop i) (b.drop i) = (alikeB a[i] b[i] && likes (a.drop (i + 1)) (b.drop (i + 1))) := by
  intro a b _ i hi hj
  rw [List.drop_eq_getElem_cons hi, List.drop_eq_getElem_cons hj]; rfl
theorem RowAt.kept {w w' : World} {g : Nat} {rs : List RT} (h : RowAt w g rs) (e : w'.heap[g]? = w.heap[g]?) : RowAt w' g rs := by
  obtain ⟨xs, t, fz, hg, hx⟩ := h; exact ⟨xs, t, fz, e.trans hg, hx⟩
theorem RowAt.lt {w : World} {g : Nat} {rs : List RT} (h : RowAt w g rs) : g < w.heap.size := by
  obtain ⟨xs, t, fz, hg, _⟩ := h; exact (Array.getElem?_eq_some_iff.1 hg).1
theorem RowAt.cell {w : World} {g : Nat} {rs : List RT} (h : RowAt w g rs) (i : Nat) (hi : i < rs.length) (j : Nat) (hj : j < 5) : w.cell? ⟨g, i * 5 + j, none⟩ = (rs[i]).cells[j]? := by
  obtain ⟨xs, t, fz, hg, hx⟩ := h
  rw [← flat_get rs i hi j hj, ← hx (i * 5 + j) (by omega)]
  simp [World.cell?, hg]
theorem tokCs_flat (ts : List Lx.Tok) : tokCs ts = flat (ts.map rt) := by
  induction ts with
  | nil => rfl
  | cons t ts ih => simp only [tokCs, flat, List.flatMap_cons, List.map_cons] at ih ⊢; rw [ih]; rfl
theorem rowAt_owned {w : World} {B cap : Nat} {ts : List Lx.Tok} {a : Option Addr} (h : w.ownsRow B 35 5 (.slice a ts.length cap) ts.length (tokCs ts)) (hn : ts.length ≠ 0) :
    ∃ g, a = some ⟨g, 0, none⟩ ∧ RowAt w g (ts.map rt) ∧ B ≤ g := by
  rcases h.2 with ⟨_, h0⟩ | ⟨g, cap', cur, hv, hgB, hcur, hnc, hcm, hcsz, htk⟩
  · exact absurd h0 hn
  · simp only [Value.slice.injEq] at hv
    refine ⟨g, hv.1, ⟨cur, _, _, hcur, fun j hj => ?_⟩, hgB⟩
    rw [List.length_map] at hj
    rw [← Array.getElem?_toList, ← tokCs_flat, ← htk, List.getElem?_take, if_pos hj]

section
variable {B p sg fm sm : Nat} {text : ByteArray} {st : St} {tv cv : Value} {w : World}
def HasSc (B p sg fm sm : Nat) (w : World) : Prop := ∃ text st tv cv, Sc B p sg fm sm text st tv cv w
theorem grown_any {w w' : World} (h : w.grownBy w' none) (o : Option Nat) : w.grownBy w' o := ⟨h.os, h.tape, h.output, h.size, fun k hk _ => h.block k hk (by simp)⟩
theorem HasSc.kept {w' : World} (h : HasSc B p sg fm sm w) (hg : w.grownBy w' none) : HasSc B p sg fm sm w' := by
  obtain ⟨text, st, tv, cv, h⟩ := h
  have hk : ∀ b, b < B → w'.heap[b]? = w.heap[b]? := fun b hb => hg.block b (Nat.lt_of_lt_of_le hb h.BW) (by simp)
  refine ⟨text, st, tv, cv, (hk p h.pB).trans h.self, (hk sg h.sgB).trans h.signs, h.fixed.of_block (hk fm h.fmB), (hk sm h.smB).trans h.steps, ?_, ?_, h.pB, h.sgB, h.fmB, h.smB, Nat.le_trans h.BW hg.size, h.ne, h.apart⟩
  · exact owns_of_block h.toks fun b hb => hg.block b (owns_ge h.toks b hb).2 (by simp)
  · exact owns_of_block h.coms fun b hb => hg.block b (owns_ge h.coms b hb).2 (by simp)

set_option maxRecDepth 100000 in
set_option maxHeartbeats 1000000 in
theorem cutInto_any (h : HasSc B p sg fm sm w) (text : ByteArray) (hs : text.size ≤ 2000000) (rs : List RT) (hn0 : rs.length ≠ 0) (hn : rs.length ≤ 2000000) (g cap : Nat) (hrow : RowAt w g rs) (hgp : g ≠ p) :
    Calls Tryz.prog 62 #[.pointer (some ⟨p, 0, none⟩), .string text, .slice (some ⟨g, 0, none⟩) rs.length cap] w fun e w' =>
      e = .returned (.bool (cutB text rs)) ∧ HasSc B p sg fm sm w' ∧ w.grownBy w' (some p) := by
  obtain ⟨text0, st, tv, cv, h⟩ := h
  have hf := first_any h text rs.length hs
  have HF := Lib.hid hf
  have HR := Lib.hid hrow
  obtain ⟨res, hres⟩ : ∃ r, r = cutB text rs := ⟨_, rfl⟩
  rw [← hres]
  unfold cutB at hres
  clear h hf hrow
  go_enter Tryz.func62, Tryz.ntmps62
  go_wp2_with fail
  refine HF.out.mono ?_
  rintro e w1 ⟨v, rfl, hown, ⟨st', tv', cv', hsc⟩, hgr⟩
  have hrow1 : RowAt w1 g rs := HR.out.kept (hgr.block g HR.out.lt (by simp; exact hgp))
  obtain ⟨a0, cap0, rfl, hcap⟩ := owns_form hown
  have HSC : Hid (HasSc B p sg fm sm w1) := Lib.hid ⟨_, _, _, _, hsc⟩
  have HG := Lib.hid hgr
  have HRO := Lib.hid hrow1
  have HRES := Lib.hid hres
  clear hsc hgr hrow1 hres hcap
  generalize toks (Lx.G (rs.length + 1) (bts text) 0) = ts at *
  by_cases hlen : ts.length = rs.length
  · have hl2 : ((ts.length : Int) == (rs.length : Int)) = true := by rw [beq_iff_eq]; omega
    have HO := Lib.hid hown
    have HL := Lib.hid hlen
    clear hown hlen
    obtain ⟨nt, hts⟩ : ∃ nt, ts.length = nt := ⟨_, rfl⟩
    by_cases hnt : nt = 0
    · exact absurd (by have := HL.out; omega) hn0
    · have hnt1 : 1 ≤ nt := by omega
      obtain ⟨g2, rfl, hr2, hgB⟩ := rowAt_owned HO.out (by omega)
      have HR2 := Lib.hid hr2
      clear hr2
      have hlen2 : rs.length = nt := by have := HL.out; omega
      have HX := Lib.hid hts
      rw [hlen2] at hl2
      simp only [hts, hlen2] at hl2 ⊢
      clear hts
      go_wp2_with fail
      have hq : w1.grownBy w1 none := ⟨rfl, rfl, rfl, Nat.le_refl _, fun _ _ _ => rfl⟩
      have HQ := Lib.hid hq
      clear hq
      go_loopw [22] (fun v wr => ∃ k : Nat, k ≤ nt ∧ v = .int .i64 k ∧ w1.grownBy wr none ∧ res = likes ((ts.map rt).drop k) (rs.drop k)) (fun v _ => nt - (intOf v).toNat)
      case atStart => exact ⟨0, by omega, rfl, HQ.out, by rw [List.drop_zero, List.drop_zero]; exact HRES.out⟩
      case round =>
        obtain ⟨k, hk, rfl, hg, hr⟩ := hrel
        have HGK := Lib.hid hg
        have HRK := Lib.hid hr
        clear hg hr
        by_cases hlt : k < nt
        · have hka : k < (ts.map rt).length := by rw [List.length_map]; have := HX.out; omega
          have hkb : k < rs.length := by omega
          have e1 : ∀ j, j < 5 → wr.cell? ⟨g2, k * 5 + j, none⟩ = ((ts.map rt)[k]).cells[j]? := fun j hj => (HR2.out.kept (HGK.out.block g2 HR2.out.lt (by simp))).cell k hka j hj
          have e2 : ∀ j, j < 5 → ∀ o, (wr.alloc o).cell? ⟨g, k * 5 + j, none⟩ = (rs[k]).cells[j]? := fun j hj o => ((HRO.out.kept (HGK.out.block g HRO.out.lt (by simp))).kept (heap_alloc_old wr o (Nat.lt_of_lt_of_le HRO.out.lt HGK.out.size))).cell k hkb j hj
          have hst := likes_step (ts.map rt) rs (by rw [List.length_map]; exact HL.out) k hka hkb
          have HST := Lib.hid hst
          clear hst
          generalize (ts.map rt)[k] = x at *
          generalize rs[k] = y at *
          have a0 := e1 0 (by omega)
          have a1 := e1 1 (by omega)
          have a2 := e1 2 (by omega)
          have a3 := e1 3 (by omega)
          have a4 := e1 4 (by omega)
          have b0 := e2 0 (by omega)
          have b1 := e2 1 (by omega)
          have b2 := e2 2 (by omega)
          have b3 := e2 3 (by omega)
          have b4 := e2 4 (by omega)
          simp only [RT.cells, List.getElem?_cons_zero, List.getElem?_cons_succ, Nat.add_zero] at a0 a1 a2 a3 a4 b0 b1 b2 b3 b4
          clear e1 e2 hka hkb
          go_wp2_with fail
          have hn0 : wr.heap[wr.heap.size]? = none := by simp
          have hnew := heap_alloc_new wr (.cells #[.int .i64 x.k, .int .i64 x.n, .string x.s, .int .i64 x.a, .int .i64 x.f] 35)
          have c0 := (cells_of hnew 0).1
          have c1 := (cells_of hnew 1).1
          have c2 := (cells_of hnew 2).1
          have c3 := (cells_of hnew 3).1
          have c4 := (cells_of hnew 4).1
          simp only [List.getElem?_toArray, List.getElem?_cons_zero, List.getElem?_cons_succ] at c0 c1 c2 c3 c4
          have d0 := b0 (.cells #[.int .i64 x.k, .int .i64 x.n, .string x.s, .int .i64 x.a, .int .i64 x.f] 35)
          have d1 := b1 (.cells #[.int .i64 x.k, .int .i64 x.n, .string x.s, .int .i64 x.a, .int .i64 x.f] 35)
          have d2 := b2 (.cells #[.int .i64 x.k, .int .i64 x.n, .string x.s, .int .i64 x.a, .int .i64 x.f] 35)
          have d3 := b3 (.cells #[.int .i64 x.k, .int .i64 x.n, .string x.s, .int .i64 x.a, .int .i64 x.f] 35)
          have d4 := b4 (.cells #[.int .i64 x.k, .int .i64 x.n, .string x.s, .int .i64 x.a, .int .i64 x.f] 35)
          have hgb : wr.grownBy (wr.alloc (.cells #[.int .i64 x.k, .int .i64 x.n, .string x.s, .int .i64 x.a, .int .i64 x.f] 35)) none := World.grownBy_alloc _ _ _
          have HGB := Lib.hid hgb
          clear hnew hgb b0 b1 b2 b3 b4 a0 a1 a2 a3 a4 hn0
          generalize wr.alloc (.cells #[.int .i64 x.k, .int .i64 x.n, .string x.s, .int .i64 x.a, .int .i64 x.f] 35) = wb at *
          go_still_tail 5, (by kernel_rfl)
          change wpList _ _ _ _ _ wb.drew
          go_wp2_with fail
          refine (alike_any x y wb.drew).mono ?_
          rintro e w3 ⟨rfl, hg3⟩
          have hgw : w1.grownBy w3 none := grown_trans HGK.out (grown_trans HGB.out ⟨hg3.os, hg3.tape, hg3.output, hg3.size, hg3.block⟩)
          have HGW := Lib.hid hgw
          clear hg3 hgw c0 c1 c2 c3 c4 d0 d1 d2 d3 d4
          cases hal : alikeB x y
          · go_wp2_with fail
            go_ret
            exact ⟨ret_bool (by rw [HRK.out, HST.out, hal]; rfl), HSC.out.kept HGW.out, grown_trans HG.out (grown_any HGW.out _)⟩
          · go_wp2_with fail
            go_roundw
            case rel => exact ⟨k + 1, by omega, by go_num, HGW.out, by rw [HRK.out, HST.out, hal]; rfl⟩
            case measure => simp [intOf]; omega
        · have hkm : k = nt := by omega
          subst hkm
          go_wp2_with fail
          go_ret
          exact ⟨ret_bool (by rw [HRK.out, List.drop_eq_nil_of_le (by rw [List.length_map]; have := HX.out; omega), List.drop_eq_nil_of_le (by omega)]; rfl), HSC.out.kept HGK.out, grown_trans HG.out (grown_any HGK.out _)⟩
  · have hl2 : ((ts.length : Int) == (rs.length : Int)) = false := by rw [beq_eq_false_iff_ne]; omega
    have hr : false = res := by
      rw [HRES.out]
      cases hk : likes (ts.map rt) rs with
      | false => rfl
      | true => exact absurd (by simpa using likes_len _ _ hk) hlen
    have HFR := Lib.hid hr
    clear hown hlen hr
    generalize ts.length = nt at *
    go_wp2_with fail
    go_ret
    exact ⟨ret_bool HFR.out, HSC.out, HG.out⟩
end
end Go.Proofs.YtcjdacdggklifaaGreatDoor
