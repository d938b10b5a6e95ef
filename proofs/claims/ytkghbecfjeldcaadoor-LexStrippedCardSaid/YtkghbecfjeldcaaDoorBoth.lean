/- LexBoth: the walk. -/
import Derived.Test.YtkghbecfjeldcaaDoorLike
namespace Go.Proofs.YtkghbecfjeldcaaDoor
open Go.RowKit

theorem likes_refl : ∀ l : List RT, likes l l = true
  | [] => rfl
  | a :: l => by simp [likes, alikeB, likes_refl l]
theorem likes_up (k : Nat) : ∀ l : List Lx.Tok, likes ((l.map (Lx.Tok.up k)).map rt) (l.map rt) = true
  | [] => rfl
  | a :: l => by
    simp only [List.map_cons, likes, likes_up k l, Bool.and_true]
    simp [alikeB, rt, Lx.Tok.up]
/-- A text behind another one, with a blank between. -/
theorem T_both {a b : Lx.Bs} {l m : List Lx.Tok} (ha : Lx.T a 0 = .good l) (hb : Lx.T b 0 = .good m) : Lx.T (a ++ 32 :: b) 0 = .good (l ++ m.map (Lx.Tok.up (a.length + 1))) := by
  have hl : Lx.Loose (32 :: b) := fun c hc => by simp at hc; subst hc; decide
  rw [Lx.T_app a 0 l ha _ hl]
  have hs : Lx.step (32 :: b) = .fill 1 := by unfold Lx.step; rw [Lx.kd_blank (by decide)]
  rw [Lx.T_fill hs]
  simp only [List.drop_succ_cons, List.drop_zero]
  rw [show 0 + a.length + 1 = 0 + (a.length + 1) from by omega, Lx.T_up, hb]
  rfl
/-- The tokens of a row, as they lie. -/
theorem tokV_owned {w : World} {B cap : Nat} {ts : List Lx.Tok} {a : Option Addr} (h : w.ownsRow B 31 5 (.slice a ts.length cap) ts.length (tokCs ts)) : TokV w a (ts.map rt) := fun hn => by
  rw [List.length_map] at hn
  obtain ⟨g, rfl, hr, _⟩ := rowAt_owned h hn
  exact ⟨g, 0, rfl, hr.lt, fun i hi j hj => by rw [Nat.zero_add]; exact hr.cell i hi j hj⟩
theorem tokV_take {w : World} {ts : List RT} {a : Option Addr} (k : Nat) (h : TokV w a ts) : TokV w a (ts.take k) := fun hn => by
  rw [List.length_take] at hn
  obtain ⟨g, off, rfl, hl, hc⟩ := h (by omega)
  exact ⟨g, off, rfl, hl, fun i hi j hj => by rw [List.getElem_take]; exact hc i (by rw [List.length_take] at hi; omega) j hj⟩
theorem tokV_drop {w : World} {ts : List RT} {g off : Nat} (k : Nat) (h : TokV w (some ⟨g, off, none⟩) ts) : TokV w (some ⟨g, off + k * 5, none⟩) (ts.drop k) := fun hn => by
  rw [List.length_drop] at hn
  obtain ⟨g', off', he, hl, hc⟩ := h (by omega)
  cases he
  refine ⟨g, off + k * 5, rfl, hl, fun i hi j hj => ?_⟩
  rw [List.length_drop] at hi
  rw [List.getElem_drop, ← hc (k + i) (by omega) j hj]
  congr 2; omega

theorem TokV.below {w w' : World} {o : Option Addr} {rs : List RT} (h : TokV w o rs) (hb : Below w.heap.size w w') : TokV w' o rs := fun hn => by
  obtain ⟨g, off, rfl, hl, hc⟩ := h hn
  exact ⟨g, off, rfl, Nat.lt_of_lt_of_le hl hb.size, fun i hi j hj => (World.cell?_of_block (w := w) (a := ⟨g, off + (i * 5 + j), none⟩) (hb.block g hl)).trans (hc i hi j hj)⟩

set_option maxRecDepth 100000 in
set_option maxHeartbeats 2000000 in
theorem LexBoth_any (a b : ByteArray) (ha : a.size ≤ 140737488355328) (hb : b.size ≤ 140737488355328) (w : World) : Calls Tryd.prog 7 #[.string a, .string b] w fun e w' => e = .returned (.bool true) ∧ Below w.heap.size w w' := by
  go_enter Tryd.func7, Tryd.ntmps7
  go_wp2_with fail
  refine (sane_any _).mono ?_
  rintro e w1 ⟨rfl, hb1⟩
  have hsh := short_any [a, b] 2 rfl (by omega) (by intro s hs; simp only [List.mem_cons, List.not_mem_nil, or_false] at hs; rcases hs with rfl | rfl <;> assumption) w1.heap.size 2 9 (w1.alloc (.cells #[.string a, .string b] 9)) (heap_alloc_new w1 _)
  have hb2 : Below w.heap.size w (w1.alloc (.cells #[.string a, .string b] 9)) := hb1.alloc hb1.size _
  have HSH := Lib.hid hsh
  have HB2 := Lib.hid hb2
  clear hb1 hsh hb2 ha hb
  go_wp2_with fail
  refine HSH.out.mono ?_
  rintro e w' ⟨rfl, rfl⟩
  generalize (w1.alloc (.cells #[.string a, .string b] 9)) = w2 at *
  clear HSH
  by_cases hd : total [a, b] ≤ 20000
  · rw [show decide (total [a, b] ≤ 20000) = true from by simpa using hd]
    have hsz : a.size + b.size ≤ 20000 := by simpa [total] using hd
    clear hd
    have HTK := Lib.hid (tokens_s a (by omega) w2)
    have HTB := Lib.hid (fun w => tokens_s b (by omega) w)
    go_wp2_with fail
    refine HTK.out.mono ?_
    rintro e w3 ⟨hb3, h⟩
    have HB3 := Lib.hid (And.intro (below_le HB2.out hb3 HB2.out.size) hb3)
    clear hb3 HTK
    rcases h with ⟨p, hT, rfl⟩ | ⟨l, hT, hl, v, rfl, hown⟩
    · clear hT
      unfold three
      go_wp2_with fail
      refine (HTB.out _).mono ?_
      rintro e w4 ⟨hb4, h⟩
      have HB4 := Lib.hid (below_le HB3.out.1 hb4 HB3.out.1.size)
      clear hb4
      rcases h with ⟨q, _, rfl⟩ | ⟨m, _, _, v, rfl, hown⟩
      · unfold three
        go_wp2_with fail
        go_ret
        exact ⟨rfl, HB4.out⟩
      · clear hown
        unfold three
        go_wp2_with fail
        go_ret
        exact ⟨rfl, HB4.out⟩
    · obtain ⟨ao, capa, rfl, hcapa⟩ := owns_form hown
      have HTA := Lib.hid (And.intro hT (And.intro hl (tokV_owned hown)))
      clear hT hl hown
      unfold three
      go_wp2_with fail
      refine (HTB.out _).mono ?_
      rintro e w4 ⟨hb4, h⟩
      have HB4 := Lib.hid (And.intro (below_le HB3.out.1 hb4 HB3.out.1.size) hb4)
      clear hb4
      rcases h with ⟨q, _, rfl⟩ | ⟨m, hTm, hm, v, rfl, hown⟩
      · unfold three
        go_wp2_with fail
        go_ret
        exact ⟨rfl, HB4.out.1⟩
      · obtain ⟨bo, capb, rfl, hcapb⟩ := owns_form hown
        have HTM := Lib.hid (And.intro hTm (And.intro hm (tokV_owned hown)))
        clear hTm hm hown
        have hcat : bts (a ++ ⟨#[32]⟩ ++ b) = bts a ++ 32 :: bts b := by rw [bts_append, bts_append, List.append_assoc]; rfl
        have htk3 := fun w => tokens_l (a ++ ⟨#[32]⟩ ++ b) (by rw [ByteArray.size_append, ByteArray.size_append]; have : (ByteArray.mk #[32]).size = 1 := rfl; omega) (l ++ m.map (Lx.Tok.up (a.size + 1))) (by rw [hcat, T_both HTA.out.1 HTM.out.1, bts_length]) (by have := HTA.out.2.1; have := HTM.out.2.1; simp; omega) w
        have HTK3 := Lib.hid htk3
        have hc1 : ¬ 9223372036854775807 < a.size + 1 := by omega
        have hc2 : ¬ 9223372036854775807 < a.size + 1 + b.size := by omega
        clear hcat htk3
        unfold three
        go_wp2_with fail
        refine (HTK3.out _).mono ?_
        rintro e w5 ⟨hb5, v, rfl, hown5⟩
        obtain ⟨ko, capk, rfl, hcapk⟩ := owns_form hown5
        have htk := tokV_owned hown5
        have hta := (HTA.out.2.2.below HB4.out.2).below hb5
        have htm := HTM.out.2.2.below hb5
        have hla := HTA.out.2.1
        have hlm := HTM.out.2.1
        have hB5 := below_le HB4.out.1 hb5 HB4.out.1.size
        have hlk : (l ++ m.map (Lx.Tok.up (a.size + 1))).length = l.length + m.length := by simp
        rw [hlk] at hcapk ⊢
        have hmap : (l ++ m.map (Lx.Tok.up (a.size + 1))).map rt = l.map rt ++ (m.map (Lx.Tok.up (a.size + 1))).map rt := by simp
        rw [hmap] at htk
        have h1 : TokV w5 ko (l.map rt) := by
          have := tokV_take l.length htk
          rwa [List.take_left' (by simp)] at this
        have H5 := Lib.hid (And.intro h1 (And.intro htk (And.intro hta (And.intro htm hB5))))
        have HTKM := Lib.hid (likes_up (a.size + 1) m)
        have hn1 : (l.map rt).length = l.length := by simp
        have hn2 : (m.map rt).length = m.length := by simp
        have hn3 : ((m.map (Lx.Tok.up (a.size + 1))).map rt).length = m.length := by simp
        have HN := Lib.hid (And.intro hn1 (And.intro hn2 hn3))
        clear hb5 hown5 htk hta htm hB5 hlk hmap h1 hn1 hn2 hn3 hc1 hc2 HTK3 HTB
        generalize (m.map (Lx.Tok.up (a.size + 1))).map rt = LK at *
        generalize l.map rt = LA at *
        generalize m.map rt = LM at *
        clear HTA HTM
        generalize l.length = nl at *
        generalize m.length = nm at *
        have i1 : (nl : Int) ≤ 20000 := by omega
        have i2 : (nm : Int) ≤ 20000 := by omega
        have i3 : (nl : Int) ≤ (nl : Int) + (nm : Int) := by omega
        have i4 : nl ≤ capk := by omega
        have HLK := Lib.hid (like_any LA LA ko ao capk capa nl nl w5 HN.out.1 HN.out.1 H5.out.1 H5.out.2.2.1 (by omega))
        unfold three
        go_wp2_with fail
        refine HLK.out.mono ?_
        rintro e w6 ⟨rfl, hg6⟩
        rw [likes_refl]
        have HG6 := Lib.hid hg6
        have hd : TokV w6 (Option.map (fun x => x.add (nl * 5)) ko) LK := by
          have h2 : TokV w5 (Option.map (fun x => x.add (nl * 5)) ko) LK := fun hn => by
            have hnn : (LA ++ LK).length ≠ 0 := by rw [List.length_append]; omega
            obtain ⟨g, off, rfl, hl, hc⟩ := H5.out.2.1 hnn
            have := tokV_drop nl H5.out.2.1
            rw [List.drop_left' HN.out.1] at this
            have e : (⟨g, off, none⟩ : Addr).add (nl * 5) = ⟨g, off + nl * 5, none⟩ := by
              by_cases h : nl = 0
              · simp [Addr.add, h]
              · have h5 : ¬ nl * 5 = 0 := by omega
                simp [Addr.add, h5]
            simp only [Option.map_some, e]
            exact this hn
          exact h2.kept hg6
        by_cases hcn : capk = nl
        · have hnm0 : nm = 0 := by omega
          have HLK2 := Lib.hid (like_any LK LM ko bo 0 capb nm nm w6 HN.out.2.2 HN.out.2.1 (fun hn => absurd (HN.out.2.2.trans hnm0) hn) (H5.out.2.2.2.1.kept hg6) (by omega))
          clear hnm0
          clear hg6 HLK hd
          go_wp2_with fail
          with_reducible refine HLK2.out.mono ?_
          rintro e w7 ⟨rfl, hg7⟩
          rw [HTKM.out]
          have HG7 := Lib.hid hg7
          clear hg7 HLK2
          go_wp2_with fail
          go_ret
          exact ⟨rfl, below_grown (below_grown H5.out.2.2.2.2 HG6.out) HG7.out⟩
        · have HLK2 := Lib.hid (like_any LK LM (Option.map (fun x => x.add (nl * 5)) ko) bo (capk - nl) capb nm nm w6 HN.out.2.2 HN.out.2.1 hd (H5.out.2.2.2.1.kept hg6) (by omega))
          clear hg6 HLK hd
          go_wp2_with fail
          with_reducible refine HLK2.out.mono ?_
          rintro e w7 ⟨rfl, hg7⟩
          rw [HTKM.out]
          have HG7 := Lib.hid hg7
          clear hg7 HLK2
          go_wp2_with fail
          go_ret
          exact ⟨rfl, below_grown (below_grown H5.out.2.2.2.2 HG6.out) HG7.out⟩
  · rw [show decide (total [a, b] ≤ 20000) = false from by simpa using hd]
    clear hd
    go_wp2_with fail
    go_ret
    exact ⟨rfl, HB2.out⟩
end Go.Proofs.YtkghbecfjeldcaaDoor
