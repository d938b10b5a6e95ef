/- The scanner's steps, three: sign. -/
import Derived.Test.YtcjdacdggklifaaGreatDoorStep2
namespace Go.Proofs.YtcjdacdggklifaaGreatDoor
open Go.RowKit

def fold (l : Lx.Bs) (k : Nat) : Lx.Bs := (Lx.signs.take k).foldl (Lx.better l) []
theorem fold_24 (l : Lx.Bs) : fold l 24 = Lx.sgn l := by rw [Lx.sgn_eq]; rfl
theorem fold_succ (l : Lx.Bs) (k : Nat) (h : k < 24) : fold l (k + 1) = Lx.better l (fold l k) (Lx.signs.getD k []) := by
  unfold fold; rw [take_snoc Lx.signs [] k h, List.foldl_append]; rfl
theorem fold_short (l : Lx.Bs) : ∀ k, k ≤ 24 → (fold l k).length ≤ 32 := by
  intro k
  induction k with
  | zero => intro _; simp [fold]
  | succ k ih =>
    intro h
    rw [fold_succ l k (by omega)]
    rcases Lx.better_cases l (fold l k) (Lx.signs.getD k []) with h' | ⟨h', _⟩
    · rw [h']; exact ih (by omega)
    · rw [h']; exact short_lists.2 _ (getD_mem Lx.signs [] k (by exact (by omega : k < 24)))

/-- Whether a string begins with another one. -/
def pfx (s q : ByteArray) : Bool := Lib.hasPrefix s.data.toList q.data.toList
theorem pfx_end (text q : ByteArray) (a : Nat) : pfx (text.extract a text.size) q = (bts q).isPrefixOf ((bts text).drop a) := by
  unfold pfx Lib.hasPrefix; rw [Lib.extract_to_end]
theorem hasPrefix_any (s q : ByteArray) (w : World) : Calls Tryz.prog 89 #[.string s, .string q] w fun e w' => e = .returned (.bool (pfx s q)) ∧ w' = w := Tryz.strings_HasPrefix s q w
theorem hasPrefix_k (s q : ByteArray) (w : World) : Calls Tryz.prog 89 #[.string s, .string q] w fun e w' => e = .returned (.bool (pfx s q)) ∧ w = w' :=
  (hasPrefix_any s q w).mono fun _ _ h => ⟨h.1, h.2.symm⟩

section
variable {B p sg fm sm : Nat} {text : ByteArray} {st : St} {tv cv : Value} {w : World}

set_option maxRecDepth 100000 in
set_option maxHeartbeats 1000000 in
theorem sign_any (h : Sc B p sg fm sm text st tv cv w) (hs : text.size ≤ 2000000) (hat : st.at_ ≤ text.size) (hn : st.ts.length ≤ 2000000) :
    Calls Tryz.prog 60 #[.pointer (some ⟨p, 0, none⟩)] w (Ends B p sg fm sm text st tv cv w (stTok st (Lx.sign ((bts text).drop st.at_)))) := by
  have c0 := h.c0
  have c1 := h.c1
  have c4 := h.c4
  have hsgn := h.signs
  have HSG := Lib.hid hsgn
  have H := Lib.hid h
  clear h hsgn
  have hi0 : (0 : Int) ≤ (st.at_ : Int) := Int.natCast_nonneg _
  have hi1 : (st.at_ : Int) ≤ (text.size : Int) := by omega
  generalize hr : stTok st (Lx.sign ((bts text).drop st.at_)) = r
  have HR := Lib.hid hr
  clear hr
  go_enter Tryz.func60, Tryz.ntmps60
  go_wp2_with fail
  go_loopw [2, 10] (fun b i wr => ∃ (k n : Nat), k ≤ 24 ∧ i = .int .i64 k ∧ b = .string (ofB (fold ((bts text).drop st.at_) k)) ∧ wr = w.drewN n) (fun _ i _ => 24 - (intOf i).toNat)
  case atStart => exact ⟨0, 0, by omega, rfl, rfl, rfl⟩
  case round =>
    obtain ⟨k, n, hk, rfl, rfl, hw⟩ := hrel
    have d0 : wr.cell? ⟨p, 0, none⟩ = some (.string text) := by rw [hw]; exact c0
    have d1 : wr.cell? ⟨p, 1, none⟩ = some (.int .i64 st.at_) := by rw [hw]; exact c1
    have HW := Lib.hid hw
    clear hw
    by_cases hlt : k < 24
    · have c5 : wr.cell? ⟨sg, k, none⟩ = some (.string (ofB (Lx.signs.getD k []))) := by rw [HW.out]; exact strs_cell HSG.out k hlt
      have hf := fold_succ ((bts text).drop st.at_) k hlt
      have HF := Lib.hid hf
      clear hf
      have hb32 := fold_short ((bts text).drop st.at_) k hk
      have hs32 : (Lx.signs.getD k []).length ≤ 32 := short_lists.2 _ (getD_mem Lx.signs [] k hlt)
      rw [← ofB_size] at hb32 hs32
      clear c0 c1 c4
      by_cases hg : (ofB (fold ((bts text).drop st.at_) k)).size < (ofB (Lx.signs.getD k [])).size
      · have hp := hasPrefix_any (text.extract st.at_ text.size) (ofB (Lx.signs.getD k []))
        have HP := Lib.hid hp
        clear hp
        generalize hnk : ofB (Lx.signs.getD k []) = nk at *
        generalize hbk : ofB (fold ((bts text).drop st.at_) k) = bk at *
        have HNK := Lib.hid hnk
        have HBK := Lib.hid hbk
        clear hnk hbk
        have hg' : (bk.size : Int) < (nk.size : Int) := by omega
        go_wp2_with fail
        go_quiet ((go_at_call 89; exact Calls.quiet_of_same (HP.out _)))
        generalize hb : pfx (text.extract st.at_ text.size) nk = bb
        have hb2 : (Lx.signs.getD k []).isPrefixOf ((bts text).drop st.at_) = bb := by
          rw [← hb, pfx_end, ← HNK.out, bts_ofB]
        have HB := Lib.hid hb2
        have hlen : (fold ((bts text).drop st.at_) k).length < (Lx.signs.getD k []).length := by
          rw [← ofB_size, ← ofB_size, HNK.out, HBK.out]; exact hg
        have HLEN := Lib.hid hlen
        clear hb hb2 hlen
        cases bb
        · go_wp2_with fail
          go_roundw
          case rel => exact ⟨k + 1, n + nq, by omega, by go_num, by rw [HF.out, Lx.better, if_neg (by rw [HB.out]; simp), HBK.out], by rw [HW.out, World.drewN_drewN]⟩
          case measure => simp [intOf]; omega
        · go_wp2_with fail
          go_roundw
          case rel => exact ⟨k + 1, n + nq, by omega, by go_num, by rw [HF.out, Lx.better, if_pos (by rw [HB.out]; simpa using HLEN.out), HNK.out], by rw [HW.out, World.drewN_drewN]⟩
          case measure => simp [intOf]; omega
      · generalize hnk : ofB (Lx.signs.getD k []) = nk at *
        generalize hbk : ofB (fold ((bts text).drop st.at_) k) = bk at *
        have HNK := Lib.hid hnk
        have HBK := Lib.hid hbk
        clear hnk hbk
        have hg' : decide ((bk.size : Int) < (nk.size : Int)) = false := by simpa using hg
        have hg2 : (nk.size : Int) ≤ (bk.size : Int) := by omega
        have hlen : ¬ (fold ((bts text).drop st.at_) k).length < (Lx.signs.getD k []).length := by
          rw [← ofB_size, ← ofB_size, HNK.out, HBK.out]; exact hg
        have HLEN := Lib.hid hlen
        clear hlen
        go_wp2_with fail
        go_quiet (fail)
        go_wp2_with fail
        go_roundw
        case rel => exact ⟨k + 1, n + nq, by omega, by go_num, by rw [HF.out, Lx.better, if_neg (by simp; intro h; exact absurd h HLEN.out), HBK.out], by rw [HW.out, World.drewN_drewN]⟩
        case measure => simp [intOf]; omega
    · obtain rfl : k = 24 := by omega
      have hfe := fold_24 ((bts text).drop st.at_)
      have hle : (Lx.sgn ((bts text).drop st.at_)).length ≤ text.size - st.at_ := by
        have := (Lx.sgn_pre ((bts text).drop st.at_)).length_le; rwa [List.length_drop, bts_length] at this
      rw [hfe]
      have HS := Lib.hid (by rw [HW.out]; exact H.out.drewN n : Sc B p sg fm sm text st tv cv wr)
      have HM := Lib.hid (by rw [HW.out]; exact Moved.drewN n : Moved p tv cv w tv cv wr)
      clear hfe c0 c1 c4
      by_cases he : Lx.sgn ((bts text).drop st.at_) = []
      · have hr : none = r := by rw [← HR.out, Lx.sign, if_pos he]; rfl
        rw [he, show ofB [] = ⟨#[]⟩ from rfl]
        subst hr
        go_wp2_with fail
        refine (refuse_any HS.out).mono ?_
        rintro e w' ⟨rfl, rfl⟩
        exact ⟨rfl, rfl, HS.out, HM.out⟩
      · have hr : some { at_ := st.at_ + (Lx.sgn ((bts text).drop st.at_)).length, ts := st.ts ++ [⟨5, 0, Lx.sgn ((bts text).drop st.at_), st.at_, st.at_ + (Lx.sgn ((bts text).drop st.at_)).length⟩], cs := st.cs } = r := by
          rw [← HR.out, Lx.sign, if_neg he]; rfl
        have hsz : (ofB (Lx.sgn ((bts text).drop st.at_))).size = (Lx.sgn ((bts text).drop st.at_)).length := ofB_size _
        have hne : (ofB (Lx.sgn ((bts text).drop st.at_))).toList.isEmpty = false := by
          rw [ByteArray.toList_eq]
          cases hx : Lx.sgn ((bts text).drop st.at_) with
          | nil => exact absurd hx he
          | cons c q => rfl
        have hbo := bts_ofB (Lx.sgn ((bts text).drop st.at_))
        generalize Lx.sgn ((bts text).drop st.at_) = sn at *
        subst hr
        have HSZ := Lib.hid hsz
        have HBO := Lib.hid hbo
        rw [← hsz] at hle
        clear hsz hbo he
        go_wp2_with fail
        have ht := take_any HS.out 5 0 (ofB sn) (st.at_ + sn.length) hn
        have HT := Lib.hid ht
        clear ht
        rw [show (st.at_ : Int) + ((ofB sn).size : Int) = ((st.at_ + sn.length : Nat) : Int) from by have := HSZ.out; omega]
        refine HT.out.mono ?_
        rintro e w' ⟨rfl, tv', cv', hsc, hmv⟩
        have HSC := Lib.hid hsc
        have HMV := Lib.hid hmv
        clear hsc hmv
        go_wp2_with fail
        go_end0
        have e1 := HSC.out
        rw [HBO.out] at e1
        exact ⟨rfl, tv', cv', e1, HM.out.trans HMV.out⟩
end
end Go.Proofs.YtcjdacdggklifaaGreatDoor
