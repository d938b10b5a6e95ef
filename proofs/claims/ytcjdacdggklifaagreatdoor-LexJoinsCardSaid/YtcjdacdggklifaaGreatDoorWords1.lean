/- LexWords: the pure part, and R.In. -/
import Derived.Test.YtcjdacdggklifaaGreatDoorSane4
namespace Go.Proofs.YtcjdacdggklifaaGreatDoor
open Go.RowKit

theorem kind_word {l : Lx.Bs} (h : Lx.kindOf l = 1 ∨ Lx.kindOf l = 2) : Lx.words.contains l = decide (Lx.kindOf l = 2) := by
  obtain ⟨n, s, hs⟩ := Lx.kindOf_inv l (by omega)
  rcases Lx.step_tok_iff.1 hs with ⟨_, ht⟩ | ⟨_, ht⟩ | ⟨_, ht⟩ | ⟨_, ht⟩
  · obtain ⟨_, hk, _, _, hl⟩ := Lx.word_tok.1 ht
    rw [← hl, List.take_length] at hk
    by_cases hc : Lx.words.contains l = true
    · rw [if_pos hc] at hk; rw [hc, hk]; rfl
    · rw [if_neg hc] at hk; rw [hk]; simpa using hc
  · obtain ⟨_, _, hk, _, _⟩ := Lx.number_tok.1 ht; omega
  · obtain ⟨_, hk, _, _, _⟩ := Lx.symbol_tok.1 ht; split at hk <;> omega
  · obtain ⟨_, hk, _⟩ := Lx.sign_tok.1 ht; omega
theorem kind_sign {l : Lx.Bs} (h : Lx.kindOf l = 4 ∨ Lx.kindOf l = 5) : Lx.signs.contains l = decide (Lx.kindOf l = 5) := by
  obtain ⟨n, s, hs⟩ := Lx.kindOf_inv l (by omega)
  rcases Lx.step_tok_iff.1 hs with ⟨_, ht⟩ | ⟨_, ht⟩ | ⟨_, ht⟩ | ⟨_, ht⟩
  · obtain ⟨_, hk, _, _, hl⟩ := Lx.word_tok.1 ht; split at hk <;> omega
  · obtain ⟨_, _, hk, _, _⟩ := Lx.number_tok.1 ht; omega
  · obtain ⟨_, hk, _, _, hl⟩ := Lx.symbol_tok.1 ht
    rw [← hl, List.take_length] at hk
    by_cases hc : Lx.signs.contains l = true
    · rw [if_pos hc] at hk; rw [hc, hk]; rfl
    · rw [if_neg hc] at hk; rw [hk]; simpa using hc
  · obtain ⟨hne, hk, _, hs2, hl⟩ := Lx.sign_tok.1 ht
    have he : Lx.sgn l = l := (Lx.sgn_pre l).eq_of_length hl.symm
    have hm := Lx.sgn_mem hne
    rw [he] at hm
    rw [hk]; simpa using hm

/-- Each word, and each sign, is one token. -/
theorem words_kind : ∀ s ∈ Lx.words, Lx.kindOf s = 2 := by
  have h : Lx.words.all (fun s => (tF 40 s 0).map (kdR s.length) == some 2) = true := by kernel_rfl
  intro s hs
  have := List.all_eq_true.1 h s hs
  rw [beq_iff_eq] at this
  obtain ⟨r, hr, hk⟩ := Option.map_eq_some_iff.1 this
  rw [kd_of hr, hk]
theorem signs_kind : ∀ s ∈ Lx.signs, Lx.kindOf s = 5 := by
  have h : Lx.signs.all (fun s => (tF 40 s 0).map (kdR s.length) == some 5) = true := by kernel_rfl
  intro s hs
  have := List.all_eq_true.1 h s hs
  rw [beq_iff_eq] at this
  obtain ⟨r, hr, hk⟩ := Option.map_eq_some_iff.1 this
  rw [kd_of hr, hk]

theorem ofB_list (l : Lx.Bs) : (ofB l).toList = l := by rw [ByteArray.toList_eq]; simp [ofB]
set_option maxRecDepth 100000 in
theorem In_any (l : List Lx.Bs) (n : Nat) (hn : l.length = n) (hn2 : n ≤ 1000) (g cap : Nat) (t : TypeId) (s : ByteArray) (w : World) (hr : w.heap[g]? = some (.cells (strs l) t)) :
    Calls Tryz.prog 72 #[.slice (some ⟨g, 0, none⟩) n cap, .string s] w fun e w' => e = .returned (.bool (l.contains (bts s))) ∧ w = w' := by
  have hsl : s.toList = bts s := ByteArray.toList_eq s
  obtain ⟨res, hres⟩ : ∃ r, r = l.contains (bts s) := ⟨_, rfl⟩
  rw [← hres]
  have HR := Lib.hid (And.intro hr (And.intro hn hres))
  clear hr hn hres
  go_enter Tryz.func72, Tryz.ntmps72
  go_wp2_with fail
  go_loop [5] (fun i => ∃ k : Nat, k ≤ n ∧ i = .int .i64 k ∧ res = (l.drop k).contains (bts s)) (fun i => n - (intOf i).toNat)
  case atStart => exact ⟨0, by omega, rfl, by rw [List.drop_zero]; exact HR.out.2.2⟩
  case round =>
    obtain ⟨k, hk, rfl, hc⟩ := hrel
    have HC := Lib.hid hc
    clear hc
    by_cases hlt : k < n
    · have hkl : k < l.length := by have := HR.out.2.1; omega
      have hcell := strs_cell HR.out.1 k hkl
      have hd : l.drop k = l.getD k [] :: l.drop (k + 1) := by rw [List.drop_eq_getElem_cons hkl, List.getD_eq_getElem?_getD, List.getElem?_eq_getElem hkl]; rfl
      have hx := ofB_list (l.getD k [])
      have HD := Lib.hid hd
      clear hd
      generalize l.getD k [] = x at *
      generalize ofB x = xb at *
      by_cases hq : x = bts s
      · have hq2 : (xb.toList == s.toList) = true := by rw [hx, hsl, hq]; simp
        have hrr : true = res := by rw [HC.out, HD.out, hq]; simp
        have HRR := Lib.hid hrr
        clear hq hrr hx hsl
        go_wp2_with fail
        go_ret
        exact ⟨ret_bool HRR.out, rfl⟩
      · have hq2 : (xb.toList == s.toList) = false := by rw [hx, hsl]; simpa using hq
        have hne : (x == bts s) = false := by simpa using hq
        have hne' : (bts s == x) = false := by simpa using fun e => hq e.symm
        have hrr : res = (l.drop (k + 1)).contains (bts s) := by rw [HC.out, HD.out, List.contains_cons, hne']; simp
        have HRR := Lib.hid hrr
        clear hq hrr hne hne' hx hsl
        go_wp2_with fail
        go_round
        case rel => exact ⟨k + 1, by omega, by go_num, HRR.out⟩
        case measure => simp [intOf]; omega
    · have hkn : n = k := by omega
      subst hkn
      have hrr : false = res := by rw [HC.out, List.drop_eq_nil_of_le (by have := HR.out.2.1; omega)]; rfl
      have HRR := Lib.hid hrr
      clear hrr
      go_wp2_with fail
      go_ret
      exact ⟨ret_bool HRR.out, rfl⟩
end Go.Proofs.YtcjdacdggklifaaGreatDoor
