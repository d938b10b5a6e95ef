/- Short texts. -/
import Derived.Test.YtcjdacdggklifaaGreatDoorSane4
namespace Go.Proofs.YtcjdacdggklifaaGreatDoor
open Go.RowKit

theorem bts_append (a b : ByteArray) : bts (a ++ b) = bts a ++ bts b := by simp [bts]
/-- There are no more tokens than bytes. -/
theorem T_count (l : Lx.Bs) : ∀ (a : Nat) (ts : List Lx.Tok), Lx.T l a = .good ts → ts.length ≤ l.length := by
  induction l using Lx.step_induct with
  | h0 => intro a ts h; rw [Lx.T_nil] at h; cases h; simp
  | hbad l hl hs => intro a ts h; rw [Lx.T_bad hl hs] at h; cases h
  | hfill l n hs ih =>
    intro a ts h
    rw [Lx.T_fill hs] at h
    have := ih _ _ h
    rw [List.length_drop] at this; omega
  | htok l k n s len hs ih =>
    intro a ts h
    rw [Lx.T_tok hs, Lx.Res.pre_good] at h
    obtain ⟨l', h1, rfl⟩ := h
    have := ih _ _ h1
    have h2 := Lx.step_tok hs
    rw [List.length_drop] at this
    simp; omega
def total (ss : List ByteArray) : Nat := (ss.map (·.size)).sum
theorem total_take (ss : List ByteArray) (k : Nat) (h : k < ss.length) : total (ss.take (k + 1)) = total (ss.take k) + (ss[k]).size := by
  unfold total; rw [List.take_succ_eq_append_getElem h, List.map_append, List.sum_append]; simp
theorem total_le (C : Nat) (ss : List ByteArray) (h : ∀ s ∈ ss, s.size ≤ C) : ∀ k, total (ss.take k) ≤ k * C := by
  intro k
  induction k with
  | zero => exact Nat.zero_le _
  | succ k ih =>
    rw [Nat.succ_mul]
    by_cases hk : k < ss.length
    · rw [total_take ss k hk]; exact Nat.add_le_add ih (h _ (List.getElem_mem hk))
    · rw [List.take_of_length_le (by omega)]; rw [List.take_of_length_le (by omega)] at ih; exact Nat.le_trans ih (Nat.le_add_right _ _)
set_option maxRecDepth 100000 in
theorem short_any (ss : List ByteArray) (n : Nat) (hn : ss.length = n) (hn2 : n ≤ 4) (hs : ∀ s ∈ ss, s.size ≤ 140737488355328) (g cap : Nat) (t : TypeId) (w : World) (hr : w.heap[g]? = some (.cells (ss.map Value.string).toArray t)) :
    Calls Tryz.prog 8 #[.slice (some ⟨g, 0, none⟩) n cap] w fun e w' => e = .returned (.bool (decide (total ss ≤ 20000))) ∧ w = w' := by
  obtain ⟨res, hres⟩ : ∃ r, r = decide (total ss ≤ 20000) := ⟨_, rfl⟩
  rw [← hres]
  have HR := Lib.hid (And.intro hr (And.intro hn (And.intro hres hs)))
  clear hr hn hres hs
  go_enter Tryz.func8, Tryz.ntmps8
  go_wp2_with fail
  go_loop [3, 8] (fun v i => ∃ k : Nat, k ≤ n ∧ i = .int .i64 k ∧ v = .int .i64 (total (ss.take k))) (fun _ i => n - (intOf i).toNat)
  case atStart => exact ⟨0, by omega, rfl, rfl⟩
  case round =>
    obtain ⟨k, hk, rfl, rfl⟩ := hrel
    have htl := total_le 140737488355328 ss HR.out.2.2.2 k
    by_cases hlt : k < n
    · have hkl : k < ss.length := by have := HR.out.2.1; omega
      have hcell : ∀ (W : World), W.heap[g]? = some (.cells (ss.map Value.string).toArray t) → W.cell? ⟨g, k, none⟩ = some (.string ss[k]) := fun W h => by
        rw [(cells_of h k).1, List.getElem?_toArray, List.getElem?_map, List.getElem?_eq_getElem hkl]; rfl
      have c0 := hcell _ HR.out.1
      have hx := HR.out.2.2.2 _ (List.getElem_mem hkl)
      have htk := total_take ss k hkl
      have HTK := Lib.hid htk
      clear hcell htk
      generalize ss[k] = x at *
      generalize total (ss.take k) = m at *
      have hm : (m : Int) ≤ 4 * 140737488355328 := by have : k * 140737488355328 ≤ 4 * 140737488355328 := Nat.mul_le_mul (by omega) (Nat.le_refl _); omega
      have hx2 : (x.size : Int) ≤ 140737488355328 := by omega
      clear htl
      go_wp2_with fail
      go_round
      case rel => exact ⟨k + 1, by omega, by go_num, by rw [HTK.out]; go_num⟩
      case measure => simp [intOf]; omega
    · have hkn : n = k := by omega
      subst hkn
      have hrr : res = decide (total (ss.take n) ≤ 20000) := by rw [HR.out.2.2.1, List.take_of_length_le (by have := HR.out.2.1; omega)]
      have HRR := Lib.hid hrr
      clear hrr htl
      generalize total (ss.take n) = m at *
      go_wp2_with fail
      go_ret
      exact ⟨ret_bool (by rw [HRR.out, decide_eq_decide]; omega), rfl⟩

/-- Tokens of a short text. -/
theorem tokens_s (text : ByteArray) (hs : text.size ≤ 20000) (w : World) : Calls Tryz.prog 22 #[.string text] w fun e w' => Below w.heap.size w w' ∧
    ((∃ a, Lx.T (bts text) 0 = .bad a ∧ e = three (.slice none 0 0) a 10) ∨ ∃ l, Lx.T (bts text) 0 = .good l ∧ l.length ≤ text.size ∧ ∃ v, e = three v 0 0 ∧ w'.ownsRow w.heap.size 35 5 v l.length (tokCs l)) := by
  refine (Tokens_any text w).mono fun e w' ⟨hb, h⟩ => ⟨hb, ?_⟩
  rcases h with ⟨h1, _⟩ | ⟨_, h⟩
  · omega
  · cases hT : Lx.T (bts text) 0 with
    | bad a => rw [hT] at h; exact .inl ⟨a, rfl, h⟩
    | good l =>
      rw [hT] at h
      have hc := T_count _ _ _ hT
      rw [bts_length] at hc
      simp only at h
      rw [if_neg (by omega)] at h
      exact .inr ⟨l, rfl, hc, h⟩
theorem tokens_l (text : ByteArray) (hs : text.size ≤ 100000) (l : List Lx.Tok) (hT : Lx.T (bts text) 0 = .good l) (hl : l.length ≤ 20000) (w : World) : Calls Tryz.prog 22 #[.string text] w fun e w' => Below w.heap.size w w' ∧
    ∃ v, e = three v 0 0 ∧ w'.ownsRow w.heap.size 35 5 v l.length (tokCs l) := by
  refine (Tokens_any text w).mono fun e w' ⟨hb, h⟩ => ⟨hb, ?_⟩
  rcases h with ⟨h1, _⟩ | ⟨_, h⟩
  · omega
  · rw [hT] at h
    simp only at h
    rw [if_neg (by omega)] at h
    exact h
theorem tokens_bad (text : ByteArray) (hs : text.size ≤ 100000) (p : Nat) (hT : Lx.T (bts text) 0 = .bad p) (w : World) : Calls Tryz.prog 22 #[.string text] w fun e w' => Below w.heap.size w w' ∧ e = three (.slice none 0 0) p 10 := by
  refine (Tokens_any text w).mono fun e w' ⟨hb, h⟩ => ⟨hb, ?_⟩
  rcases h with ⟨h1, _⟩ | ⟨_, h⟩
  · omega
  · rw [hT] at h; exact h
end Go.Proofs.YtcjdacdggklifaaGreatDoor
