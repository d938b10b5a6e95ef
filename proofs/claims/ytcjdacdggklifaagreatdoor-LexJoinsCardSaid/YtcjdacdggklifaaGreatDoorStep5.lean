/- The scanner's steps, five: number. -/
import Derived.Test.YtcjdacdggklifaaGreatDoorStep4
import Derived.Laws.IdiomStrings
namespace Go.Proofs.YtcjdacdggklifaaGreatDoor
open Go.RowKit

/-- A new block turns nothing of a scanner. -/
theorem Sc.allocD {B p sg fm sm : Nat} {text : ByteArray} {st : St} {tv cv : Value} {w : World} (h : Sc B p sg fm sm text st tv cv w) {w1 : World} (o : Obj) (hh : w1.heap = (w.alloc o).heap) (h1 : w1.os = w.os) (h2 : w1.tape = w.tape) (h3 : w1.output = w.output) :
    Sc B p sg fm sm text st tv cv w1 ∧ Moved p tv cv w tv cv w1 := by
  have hb : ∀ b, b < w.heap.size → w1.heap[b]? = w.heap[b]? := fun b hb => by rw [hh]; exact heap_alloc_old w o hb
  have hs : w1.heap.size = w.heap.size + 1 := by rw [hh]; simp
  have hBW := h.BW
  refine ⟨⟨?_, ?_, ?_, ?_, ?_, ?_, h.pB, h.sgB, h.fmB, h.smB, by rw [hs]; omega, h.ne, h.apart⟩, ⟨h1, h2, h3, by rw [hs]; omega, fun i hi _ _ _ => hb i hi, .inl rfl, .inl rfl⟩⟩
  · rw [hb p h.pw]; exact h.self
  · rw [hb sg (by have := h.sgB; omega)]; exact h.signs
  · exact h.fixed.of_block (hb fm (by have := h.fmB; omega))
  · rw [hb sm (by have := h.smB; omega)]; exact h.steps
  · exact owns_of_block h.toks fun g hg => hb g (owns_ge h.toks g hg).2
  · exact owns_of_block h.coms fun g hg => hb g (owns_ge h.coms g hg).2

theorem take_run_all (pr : UInt8 → Bool) (l : Lx.Bs) : ∀ c ∈ l.take (Lx.run pr l), pr c = true := by
  induction l with
  | nil => intro c hc; simp at hc
  | cons d r ih =>
    intro c hc
    rw [Lx.run_cons] at hc
    split at hc
    · rename_i hd
      rw [List.take_succ_cons] at hc
      rcases List.mem_cons.1 hc with rfl | hc
      · exact hd
      · exact ih c hc
    · simp at hc
theorem bytesRow_cell (s : ByteArray) (cap i : Nat) (h : i < s.size) : (bytesRow s cap)[i]? = some (.int .u8 (s[i].toNat : Int)) := by
  have hi : i < s.data.size := h
  unfold bytesRow
  rw [Array.getElem?_append_left (by simpa using hi)]
  rw [Array.getElem?_map, Array.getElem?_eq_getElem hi]; rfl
theorem digit_bounds {c : UInt8} (h : Lx.digit c = true) : 48 ≤ c.toNat ∧ c.toNat ≤ 57 := by
  simp [Lx.digit, UInt8.le_iff_toNat_le] at h; exact h

section
variable {B p sg fm sm : Nat} {text : ByteArray} {st : St} {tv cv : Value} {w : World}

set_option maxRecDepth 100000 in
set_option maxHeartbeats 1000000 in
theorem number_any (h : Sc B p sg fm sm text st tv cv w) (hs : text.size ≤ 2000000) (hat : st.at_ ≤ text.size) (hn : st.ts.length ≤ 2000000) (_hk : Lx.kd ((bts text).drop st.at_) = .digit) :
    Calls Tryz.prog 59 #[.pointer (some ⟨p, 0, none⟩)] w (Ends B p sg fm sm text st tv cv w (stTok st (Lx.number ((bts text).drop st.at_)))) := by
  have hr := run_any Lx.digit 93 (Lib.hid isDigit_any) enter_isDigit p text st.at_ w hs hat h.c0 h.c1
  have hle := Lx.run_le Lx.digit ((bts text).drop st.at_)
  rw [List.length_drop, bts_length] at hle
  have c0 := h.c0
  have c1 := h.c1
  have H := Lib.hid h
  have HR := Lib.hid hr
  clear h hr
  generalize hq : st.at_ + Lx.run Lx.digit ((bts text).drop st.at_) = q at *
  have HQ := Lib.hid hq
  have hq1 : st.at_ ≤ q := by omega
  have hq2 : q ≤ text.size := by omega
  clear hq hle
  generalize hres : stTok st (Lx.number ((bts text).drop st.at_)) = r
  have HRES := Lib.hid hres
  clear hres
  have kc := fun (w : World) (s : ByteArray) => run_bytes_of_string (P := Tryz.prog) w 9 61 5 s Tryz.underlying9 Tryz.underlying61 Tryz.underlying5
  have hdig : ∀ c ∈ bts (text.extract st.at_ q), Lx.digit c = true := by
    rw [bts_extract, show q - st.at_ = Lx.run Lx.digit ((bts text).drop st.at_) from by have := HQ.out; omega]; exact take_run_all _ _
  have hxs : (text.extract st.at_ q).size = q - st.at_ := by simp; omega
  have hnum : Lx.number ((bts text).drop st.at_) = if Lx.stops Lx.inw ((bts text).drop q) = true then .bad else match Lx.numF 0 (bts (text.extract st.at_ q)) with | none => .bad | some v => .tok 3 v [] (q - st.at_) := by
    have e1 : Lx.run Lx.digit ((bts text).drop st.at_) = q - st.at_ := by have := HQ.out; omega
    unfold Lx.number
    rw [e1, bts_extract, List.drop_drop, show st.at_ + (q - st.at_) = q from by omega]
    rfl
  have HD := Lib.hid hdig
  have HX := Lib.hid hxs
  have HNUM := Lib.hid hnum
  clear hdig hxs hnum
  by_cases hst : Lx.stops Lx.inw ((bts text).drop q) = true
  · have hlt : q < text.size := by
      refine Nat.lt_of_not_le fun h => ?_
      rw [bts_nil text q h] at hst; cases hst
    have hin : Lx.inw (text[q]) = true := by rw [bts_drop text q hlt] at hst; exact hst
    have hr : none = r := by rw [← HRES.out, HNUM.out, if_pos hst]; rfl
    subst hr
    clear hst
    go_enter Tryz.func59, Tryz.ntmps59
    go_wp2_with fail
    refine HR.out.mono ?_
    rintro e w' ⟨rfl, rfl⟩
    go_wp2_with (go_at_call 92; refine (isInWord_any _ _).mono ?_; rintro e w' ⟨rfl, rfl⟩)
    refine (refuse_any H.out).mono ?_
    rintro e w1 ⟨rfl, rfl⟩
    exact ⟨rfl, rfl, H.out, Moved.refl _ _ _ _⟩
  · have hst' : Lx.stops Lx.inw ((bts text).drop q) = false := by simpa using hst
    rw [if_neg hst] at *
    have hcase : q < text.size ∧ (∀ h : q < text.size, Lx.inw (text[q]) = false) ∨ ¬ q < text.size := by
      by_cases hlt : q < text.size
      · exact .inl ⟨hlt, fun _ => by rw [bts_drop text q hlt] at hst'; exact hst'⟩
      · exact .inr hlt
    have HST := Lib.hid hst'
    clear hst hst'
    rcases hcase with ⟨hlt, hin0⟩ | hlt
    case' inl => (have hin := hin0 hlt; clear hin0)
    all_goals
      go_enter Tryz.func59, Tryz.ntmps59
      go_wp2_with fail
      refine HR.out.mono ?_
      rintro e w' ⟨rfl, rfl⟩
      go_wp2_with (go_at_call 92; refine (isInWord_any _ _).mono ?_; rintro e w' ⟨rfl, rfl⟩)
      go_region
      go_wp2_with fail
      have hS := H.out.allocD (w1 := (w'.alloc (Obj.cells (bytesRow (text.extract st.at_ q) (grownCap w'.drew (q - st.at_) 0 5)) 5 ((bytesRow (text.extract st.at_ q) (grownCap w'.drew (q - st.at_) 0 5)).size, (bytesRow (text.extract st.at_ q) (grownCap w'.drew (q - st.at_) 0 5)).size + 1))).drew.drew) _ rfl rfl rfl rfl
      have hcell : ∀ i (hi : i < (text.extract st.at_ q).size), (w'.alloc (Obj.cells (bytesRow (text.extract st.at_ q) (grownCap w'.drew (q - st.at_) 0 5)) 5 ((bytesRow (text.extract st.at_ q) (grownCap w'.drew (q - st.at_) 0 5)).size, (bytesRow (text.extract st.at_ q) (grownCap w'.drew (q - st.at_) 0 5)).size + 1))).drew.drew.cell? ⟨w'.heap.size, i, none⟩ = some (.int .u8 ((text.extract st.at_ q)[i].toNat : Int)) := by
        intro i hi
        have := heap_alloc_new w' (Obj.cells (bytesRow (text.extract st.at_ q) (grownCap w'.drew (q - st.at_) 0 5)) 5 ((bytesRow (text.extract st.at_ q) (grownCap w'.drew (q - st.at_) 0 5)).size, (bytesRow (text.extract st.at_ q) (grownCap w'.drew (q - st.at_) 0 5)).size + 1))
        show (w'.alloc _).cell? _ = _
        simp only [World.cell?, this]
        exact bytesRow_cell _ _ _ hi
      generalize hW1 : (w'.alloc (Obj.cells (bytesRow (text.extract st.at_ q) (grownCap w'.drew (q - st.at_) 0 5)) 5 ((bytesRow (text.extract st.at_ q) (grownCap w'.drew (q - st.at_) 0 5)).size, (bytesRow (text.extract st.at_ q) (grownCap w'.drew (q - st.at_) 0 5)).size + 1))).drew.drew = W1 at *
      have HS := Lib.hid hS
      have HC := Lib.hid hcell
      clear hS hcell hW1 kc c0 c1
      generalize text.extract st.at_ q = bs at *
      go_loop [3, 38] (fun v i => ∃ (n k : Nat), k ≤ q - st.at_ ∧ v = .int .i64 n ∧ i = .int .i64 k ∧ n ≤ 2147483647 ∧ Lx.numF 0 (bts bs) = Lx.numF n ((bts bs).drop k)) (fun _ i => (q - st.at_) - (intOf i).toNat)
      case atStart => exact ⟨0, 0, by omega, rfl, rfl, by omega, rfl⟩
      case round =>
        obtain ⟨n, k, hk2, rfl, rfl, hn2, hnf⟩ := hrel
        have HNF := Lib.hid hnf
        clear hnf
        have hx := HX.out
        by_cases hkl : k < q - st.at_
        · have hkb : k < bs.size := by omega
          have hcell := HC.out k hkb
          have hd := digit_bounds (HD.out bs[k] (by rw [← List.take_append_drop k (bts bs), bts_drop bs k hkb]; simp))
          have hdrop := bts_drop bs k hkb
          have HDROP := Lib.hid hdrop
          have HX2 := Lib.hid hx
          clear hdrop hx
          generalize bs[k] = c at *
          obtain ⟨hd1, hd2⟩ := hd
          have hd3 : (48 : Int) ≤ (c.toNat : Int) := by omega
          have hd4 : (c.toNat : Int) ≤ 57 := by omega
          by_cases hbig : 10 * n + (c.toNat - 48) > 2147483647
          · have hbig2 : (2147483647 : Int) < 10 * (n : Int) + ((c.toNat : Int) - 48) := by omega
            go_wp2_with fail
            have hr : none = r := by
              rw [← HRES.out, HNUM.out, HNF.out, HDROP.out, Lx.numF, if_pos hbig]
              simp [stTok]
            subst hr
            refine (refuse_any HS.out.1).mono ?_
            rintro e w1 ⟨rfl, rfl⟩
            exact ⟨rfl, rfl, HS.out.1, HS.out.2⟩
          · have hbig2 : 10 * (n : Int) + ((c.toNat : Int) - 48) ≤ 2147483647 := by omega
            go_wp2_with fail
            go_round
            case rel => exact ⟨10 * n + (c.toNat - 48), k + 1, by omega, by congr 1; omega, by go_num, by omega, by rw [HNF.out, HDROP.out, Lx.numF, if_neg hbig]⟩
            case measure => simp [intOf]; omega
        · go_wp2_with fail
          obtain rfl : k = q - st.at_ := by omega
          have hr : some { at_ := q, ts := st.ts ++ [⟨3, n, [], st.at_, q⟩], cs := st.cs } = r := by
            rw [← HRES.out, HNUM.out, HNF.out, List.drop_eq_nil_of_le (by rw [bts_length]; omega)]
            simp only [Lx.numF, stTok]
            rw [show st.at_ + (q - st.at_) = q from by omega]
          subst hr
          have ht := take_any HS.out.1 3 n ⟨#[]⟩ q hn
          have HT := Lib.hid ht
          clear ht
          refine HT.out.mono ?_
          rintro e w1 ⟨rfl, tv', cv', hsc, hmv⟩
          have HSC := Lib.hid hsc
          have HMV := Lib.hid hmv
          clear hsc hmv
          go_wp2_with fail
          go_end0
          exact ⟨rfl, tv', cv', HSC.out, HS.out.2.trans HMV.out⟩
end
end Go.Proofs.YtcjdacdggklifaaGreatDoor
