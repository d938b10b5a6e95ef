/- Strip: the walk. -/
import Derived.Test.YtcjdacdggklifaaGreatDoorStrip1
namespace Go.Proofs.YtcjdacdggklifaaGreatDoor
open Go.RowKit

def tup2 (s : ByteArray) (e : Int) : Ending := .returned (.tuple #[.string s, .int .i64 e])
/-- What 'Strip' hands back. -/
def StripR (text : ByteArray) (e : Ending) : Prop :=
  (100000 < text.size ∧ e = tup2 ⟨#[]⟩ 2) ∨
  (text.size ≤ 100000 ∧ ∃ r, Runs (bts text) dNever ⟨0, [], []⟩ r ∧ ((∃ a, r = .inl a ∧ e = tup2 ⟨#[]⟩ 10) ∨
    ∃ st, r = .inr st ∧ ((20000 < st.ts.length ∧ e = tup2 ⟨#[]⟩ 2) ∨ (st.ts.length ≤ 20000 ∧ e = tup2 (ofB (blot st.cs (bts text))) 0))))

theorem rowB_new (w : World) (s : ByteArray) (cap : Nat) : RowB (w.alloc (.cells (bytesRow s cap) 5 ((bytesRow s cap).size, (bytesRow s cap).size + 1))) w.heap.size (bts s) := by
  refine ⟨_, _, heap_alloc_new w _, ?_, fun i hi => ?_⟩
  · rw [bts_length]; simp [bytesRow]
  · rw [bts_length] at hi
    rw [bytesRow_cell s cap i hi]; rfl

set_option maxRecDepth 100000 in
set_option maxHeartbeats 2000000 in
theorem Strip_any (text : ByteArray) (w : World) : Calls Tryz.prog 13 #[.string text] w fun e w' => StripR text e ∧ Below w.heap.size w w' := by
  have kc := fun (w : World) (s : ByteArray) => run_bytes_of_string (P := Tryz.prog) w 9 61 5 s Tryz.underlying9 Tryz.underlying61 Tryz.underlying5
  have KC := Lib.hid kc
  clear kc
  obtain ⟨P, hP⟩ : ∃ P : Ending → Prop, P = StripR text := ⟨_, rfl⟩
  rw [← hP]
  have HP := Lib.hid hP
  clear hP
  go_enter Tryz.func13, Tryz.ntmps13
  go_wp2_with fail
  refine (new_any text w).mono ?_
  rintro e w1 ⟨rfl, hnew⟩
  have hf := finish_any (new_sc hnew) ⟨Nat.zero_le _, Nat.le_refl _, Nat.le_refl _⟩ dNever (fun _ _ => rfl) 43 #[] (asks_never _ _ _)
  have HF := Lib.hid hf
  have HBL := Lib.hid hnew.below
  clear hnew hf
  go_wp2_with fail
  refine HF.out.mono ?_
  intro e w2 hfin
  rcases hfin with ⟨hbig, rfl, rfl⟩ | ⟨hsz, r, hr, st', tv', cv', hsc, hmv, hcase⟩
  · have hp : P (tup2 ⟨#[]⟩ 2) := by rw [HP.out]; exact .inl ⟨hbig, rfl⟩
    have HPP := Lib.hid hp
    clear hp hbig
    unfold three
    go_wp2_with fail
    go_ret2
    exact ⟨HPP.out, HBL.out⟩
  · have hb2 : Below w.heap.size w w2 := below_moved HBL.out (by omega) hmv
    have HB2 := Lib.hid hb2
    clear hb2
    rcases hcase with ⟨a, rfl, rfl⟩ | ⟨rfl, hn, rfl⟩ | ⟨rfl, hn, rfl⟩
    · have hp : P (tup2 ⟨#[]⟩ 10) := by rw [HP.out]; exact .inr ⟨hsz, _, hr, .inl ⟨a, rfl, rfl⟩⟩
      have HPP := Lib.hid hp
      clear hp hsz hr hsc hmv
      unfold three
      go_wp2_with fail
      go_ret2
      exact ⟨HPP.out, HB2.out⟩
    · have hp : P (tup2 ⟨#[]⟩ 2) := by rw [HP.out]; exact .inr ⟨hsz, _, hr, .inr ⟨st', rfl, .inl ⟨hn, rfl⟩⟩⟩
      have HPP := Lib.hid hp
      clear hp hsz hr hsc hmv hn
      unfold three
      go_wp2_with fail
      go_ret2
      exact ⟨HPP.out, HB2.out⟩
    · have hp : P (tup2 (ofB (blot st'.cs (bts text))) 0) := by rw [HP.out]; exact .inr ⟨hsz, _, hr, .inr ⟨st', rfl, .inr ⟨hn, rfl⟩⟩⟩
      have HPP := Lib.hid hp
      have hin := runs_coms hr ⟨Nat.zero_le _, Nat.le_refl _, Nat.le_refl _⟩ (fun c hc => by cases hc) st' rfl
      have HIN := Lib.hid hin
      have hgd := runs_good hr ⟨Nat.zero_le _, Nat.le_refl _, Nat.le_refl _⟩ st' rfl
      have hcl : st'.cs.length ≤ 100000 := by have h1 := hgd.1; have h2 := hgd.2.2; rw [bts_length] at h1; omega
      clear hgd
      have c3 := hsc.c3
      have hpw := hsc.pw
      obtain ⟨a0, cap0, rfl, hcap⟩ := owns_form hsc.coms
      have hcoms := hsc.coms
      have HCO := Lib.hid hcoms
      have kc := KC.out w2
      have d3 : ∀ o, (w2.alloc o).cell? ⟨w.heap.size + 3, 3, none⟩ = some (.slice a0 st'.cs.length cap0) := fun o => by
        rw [World.cell?_of_block (w := w2) (heap_alloc_old w2 o hpw)]; exact c3
      clear hp hr hsc hmv hn hin hcap hcoms c3
      generalize st'.cs = cs at *
      unfold three
      go_wp2_with fail
      have hrb : RowB (w2.alloc (.cells (bytesRow text (grownCap w2 text.size 0 5)) 5 ((bytesRow text (grownCap w2 text.size 0 5)).size, (bytesRow text (grownCap w2 text.size 0 5)).size + 1))).drew w2.heap.size (bts text) := rowB_new w2 text _
      have hgr : w2.grownBy (w2.alloc (.cells (bytesRow text (grownCap w2 text.size 0 5)) 5 ((bytesRow text (grownCap w2 text.size 0 5)).size, (bytesRow text (grownCap w2 text.size 0 5)).size + 1))).drew none := grownD (World.grownBy_alloc _ _ _)
      have hw2 := HB2.out.size
      have HRB := Lib.hid hrb
      have HGR := Lib.hid hgr
      clear hrb hgr d3 kc
      generalize (w2.alloc (.cells (bytesRow text (grownCap w2 text.size 0 5)) 5 ((bytesRow text (grownCap w2 text.size 0 5)).size, (bytesRow text (grownCap w2 text.size 0 5)).size + 1))).drew = w3 at *
      generalize grownCap w2 text.size 0 5 = capq at *
      obtain ⟨q, hq⟩ : ∃ q, w2.heap.size = q := ⟨_, rfl⟩
      obtain ⟨nc, hnc⟩ : ∃ nc, cs.length = nc := ⟨_, rfl⟩
      have HQ := Lib.hid (And.intro hq (And.intro hnc hw2))
      rw [hq] at HRB ⊢
      rw [hnc] at HCO hcl ⊢
      have hqw : w.heap.size ≤ q := by omega
      clear hq hnc hw2 hpw
      have hLs : ∀ k, (blot (cs.take k) (bts text)).length = text.size := fun k => by rw [blot_len, bts_length]
      have HLS := Lib.hid hLs
      clear hLs
      go_loopw [30] (fun v wr => ∃ k : Nat, k ≤ nc ∧ v = .int .i64 k ∧ RowB wr q (blot (cs.take k) (bts text)) ∧ w3.grownBy wr (some q)) (fun v _ => nc - (intOf v).toNat)
      case atStart => exact ⟨0, by omega, rfl, HRB.out, grownZ _ _⟩
      case round =>
        obtain ⟨k, hk, rfl, hrow, hg⟩ := hrel
        have HROW := Lib.hid hrow
        have HG := Lib.hid hg
        clear hrow hg
        by_cases hlt : k < nc
        · have hkc : k < cs.length := by have := HQ.out.2.1; omega
          obtain ⟨gs, rfl, hrs, hgB⟩ := rowS_owned (cap := cap0) (a := a0) (by rw [HQ.out.2.1]; exact HCO.out) (by omega)
          have hgq : gs < q := by have := hrs.lt; have := HQ.out.1; omega
          have hrs3 : RowS wr gs cs := (hrs.kept (HGR.out.block gs hrs.lt (by simp))).kept (HG.out.block gs (Nat.lt_of_lt_of_le hrs.lt HGR.out.size) (by simp; omega))
          have e0 := hrs3.cell k hkc 0 (by omega)
          have e1 := hrs3.cell k hkc 1 (by omega)
          have hbd := HIN.out _ (List.getElem_mem hkc)
          have htk := blot_take cs (bts text) k hkc
          have hll := HLS.out k
          have HTK := Lib.hid htk
          clear htk hrs hrs3
          generalize cs[k] = sp at *
          obtain ⟨sa, sb⟩ := sp
          simp only [spanC, List.getElem?_cons_zero, List.getElem?_cons_succ, Nat.add_zero] at e0 e1 hbd HTK
          rw [bts_length] at hbd
          obtain ⟨L, hL⟩ : ∃ L, L = blot (cs.take k) (bts text) := ⟨_, rfl⟩
          rw [← hL] at HROW HTK hll
          clear hL
          go_wp2_with fail
          have hnew := heap_alloc_new wr (.cells #[.int .i64 sa, .int .i64 sb] 81)
          have hgb : wr.grownBy (wr.alloc (.cells #[.int .i64 sa, .int .i64 sb] 81)) none := World.grownBy_alloc _ _ _
          have hqr : q < wr.heap.size := HROW.out.lt
          have hlt2 : wr.heap.size < (wr.alloc (.cells #[.int .i64 sa, .int .i64 sb] 81)).heap.size := by simp
          have HNEW := Lib.hid hnew
          have HGB := Lib.hid hgb
          have HROW2 := Lib.hid (HROW.out.kept (hgb.block q hqr (by simp)))
          clear hnew hgb e0 e1
          generalize (wr.alloc (.cells #[.int .i64 sa, .int .i64 sb] 81)) = wb at *
          obtain ⟨bx, hbx⟩ : ∃ bx, wr.heap.size = bx := ⟨_, rfl⟩
          rw [hbx] at HNEW hqr hlt2 ⊢
          clear hbx
          go_loopw [11] (fun v wi => ∃ i : Nat, sa ≤ i ∧ i ≤ sb ∧ v = .int .i64 i ∧ RowB wi q (blot1 sa i L) ∧ wb.grownBy wi (some q)) (fun v _ => sb - (intOf v).toNat)
          case atStart => exact ⟨sa, by omega, by omega, rfl, by rw [blot1_same]; exact HROW2.out, grownZ _ _⟩
          case round =>
            obtain ⟨i, hi1, hi2, rfl, hrow, hgi⟩ := hrel
            have c1 : wr.cell? ⟨bx, 1, none⟩ = some (.int .i64 sb) := by
              rw [World.cell?_of_block (w := wb) (a := ⟨bx, 1, none⟩) (hgi.block bx hlt2 (by simp; omega)), (cells_of HNEW.out 1).1]; rfl
            by_cases hli : i < sb
            · have hiL : i < L.length := by omega
              have hiB : i < (blot1 sa i L).length := by rw [blot1_len]; exact hiL
              have hcell := hrow.cell i hiB
              rw [blot1_at sa i L hiL] at hcell
              have hfree := hrow.free i hiB
              have hit : i < text.size := by omega
              have hit2 : (i : Int) < (text.size : Int) := by omega
              by_cases hc : L[i] = 10
              · have hk2 := blot1_keep sa i L hiL hc
                have HK2 := Lib.hid (And.intro hk2 (And.intro hrow hgi))
                rw [hc] at hcell
                clear hk2 hc hrow hgi hfree
                go_wp2_with fail
                go_roundw
                case rel => exact ⟨i + 1, by omega, by omega, by go_num, by rw [HK2.out.1]; exact HK2.out.2.1, HK2.out.2.2⟩
                case measure => simp [intOf]; omega
              · have hk2 := blot1_set sa i L hiL hi1 hc
                have hset := hrow.set i 32 hiB
                have HK2 := Lib.hid (And.intro hk2 (And.intro hset hgi))
                have hcb : (((L[i]).toNat : Int) == 10) = false := by
                  rw [beq_eq_false_iff_ne]; intro e; exact hc (by rw [← UInt8.toNat_inj]; simpa using (by omega : (L[i]).toNat = _))
                clear hk2 hset hc hrow hgi
                generalize (L[i]).toNat = cv at *
                go_wp2_with fail
                go_roundw
                case rel => exact ⟨i + 1, by omega, by omega, by go_num, by rw [HK2.out.1]; exact HK2.out.2.1, grown_trans HK2.out.2.2 (setCell_grown _ _ _ _)⟩
                case measure => simp [intOf]; omega
            · have his : i = sb := by omega
              have HK2 := Lib.hid (And.intro hrow hgi)
              clear hrow hgi
              go_wp2_with fail
              go_roundw
              case rel => exact ⟨k + 1, by omega, by go_num, by rw [HTK.out, ← his]; exact HK2.out.1, grown_trans HG.out (grown_trans (grown_any HGB.out _) HK2.out.2)⟩
              case measure => simp [intOf]; omega
        · have hkn : nc = k := by omega
          subst hkn
          have hfin : RowB wr q (blot cs (bts text)) := by
            have := HROW.out; rwa [List.take_of_length_le (by have := HQ.out.2.1; omega)] at this
          have hlen : (blot cs (bts text)).length = text.size := by rw [blot_len, bts_length]
          have hback := run_convert_bytes_back (P := Tryz.prog) wr 61 9 5 ⟨q, 0, none⟩ capq (blot cs (bts text)) Tryz.underlying61 Tryz.underlying5 Tryz.underlying9 (fun j hj => by
            have e : (⟨q, 0, none⟩ : Addr).add j = ⟨q, j, none⟩ := by by_cases h : j = 0 <;> simp [Addr.add, h]
            rw [e]; exact hfin.cell j hj)
          rw [hlen] at hback
          have hbe : Below w.heap.size w wr := (HB2.out.grown HGR.out HB2.out.size (fun j hj => by simp at hj)).grown HG.out (Nat.le_trans HB2.out.size HGR.out.size) (fun j hj => by simp at hj; omega)
          have HBE := Lib.hid hbe
          clear hfin hlen hbe
          obtain ⟨S, hS⟩ : ∃ S, S = ofB (blot cs (bts text)) := ⟨_, rfl⟩
          rw [show (ByteArray.mk (blot cs (bts text)).toArray) = S from hS.symm] at hback
          rw [← hS] at HPP
          clear hS
          go_wp2_with fail
          go_ret2
          exact ⟨HPP.out, HBE.out⟩
end Go.Proofs.YtcjdacdggklifaaGreatDoor
