/- The reference: lists, symbols, sign. -/
import Derived.Test.YtcjdacdggklifaaGreatDoorRef2
import Derived.Test.YtcjdacdggklifaaGreatDoorWords1
namespace Go.Proofs.YtcjdacdggklifaaGreatDoor
open Go.RowKit

theorem rSigns_any (w : World) : Calls Tryz.prog 78 #[] w fun e w' => e = .returned (.slice (some ⟨w.heap.size, 0, none⟩) 24 24) ∧ w' = w.alloc (.cells (strs Lx.signs) 9) := by
  simp only [strs, Lx.signs, List.map_cons, List.map_nil, ofB]
  go_enter Tryz.func78, Tryz.ntmps78
  go_wp2
  go_ret
  exact ⟨rfl, rfl⟩
theorem rWords_any (w : World) : Calls Tryz.prog 73 #[] w fun e w' => e = .returned (.slice (some ⟨w.heap.size, 0, none⟩) 37 37) ∧ w' = w.alloc (.cells (strs Lx.words) 9) := by
  simp only [strs, Lx.words, List.map_cons, List.map_nil, ofB]
  go_enter Tryz.func73, Tryz.ntmps73
  go_wp2
  go_ret
  exact ⟨rfl, rfl⟩

set_option maxRecDepth 100000 in
theorem rSymbols_any (s : ByteArray) (hs : s.size ≤ 1000) (w : World) :
    Calls Tryz.prog 101 #[.string s] w fun e w' => e = .returned (.bool ((bts s).all Lx.symb)) ∧ w = w' := by
  obtain ⟨res, hres⟩ : ∃ r, r = (bts s).all Lx.symb := ⟨_, rfl⟩
  rw [← hres]
  have HR := Lib.hid hres
  clear hres
  go_enter Tryz.func101, Tryz.ntmps101
  go_wp2_with fail
  go_loop [3] (fun i => ∃ k : Nat, k ≤ s.size ∧ i = .int .i64 k ∧ res = ((bts s).drop k).all Lx.symb) (fun i => s.size - (intOf i).toNat)
  case atStart => exact ⟨0, by omega, rfl, HR.out⟩
  case round =>
    obtain ⟨k, hk, rfl, hc⟩ := hrel
    have HC := Lib.hid hc
    clear hc
    by_cases hlt : k < s.size
    · have hlt2 : (k : Int) < (s.size : Int) := by omega
      have hd := bts_drop s k hlt
      have HD := Lib.hid hd
      have HS := Lib.hid (fun w => rSymbol_any s[k] w)
      clear hd
      cases hq : Lx.symb s[k]
      · have hrr : false = res := by rw [HC.out, HD.out, List.all_cons, hq, Bool.false_and]
        have HRR := Lib.hid hrr
        rw [hq] at HS
        clear hrr hq
        go_wp2_with (go_at_call 77; refine (HS.out _).mono ?_; rintro e w' ⟨rfl, rfl⟩)
        go_ret
        exact ⟨ret_bool HRR.out, rfl⟩
      · have hrr : res = ((bts s).drop (k + 1)).all Lx.symb := by rw [HC.out, HD.out, List.all_cons, hq, Bool.true_and]
        have HRR := Lib.hid hrr
        rw [hq] at HS
        clear hrr hq
        go_wp2_with (go_at_call 77; refine (HS.out _).mono ?_; rintro e w' ⟨rfl, rfl⟩)
        go_round
        case rel => exact ⟨k + 1, by omega, by go_num, HRR.out⟩
        case measure => simp [intOf]; omega
    · have hrr : true = res := by rw [HC.out, bts_nil s k (by omega)]; rfl
      have HRR := Lib.hid hrr
      clear hrr
      go_wp2_with fail
      go_ret
      exact ⟨ret_bool HRR.out, rfl⟩

/-- The longest sign that is not made of symbols. -/
def better2 (l best s : Lx.Bs) : Lx.Bs := if (!(s.all Lx.symb) && s.isPrefixOf l) && decide (best.length < s.length) then s else best
def fold2 (l : Lx.Bs) (k : Nat) : Lx.Bs := (Lx.signs.take k).foldl (better2 l) []
theorem fold2_succ (l : Lx.Bs) (k : Nat) (h : k < 24) : fold2 l (k + 1) = better2 l (fold2 l k) (Lx.signs.getD k []) := by
  unfold fold2
  rw [List.take_succ_eq_append_getElem (show k < Lx.signs.length from h), List.foldl_append, List.getD_eq_getElem?_getD, List.getElem?_eq_getElem (show k < Lx.signs.length from h)]; rfl
theorem signs_heads : ∀ s ∈ Lx.signs, ∃ c r, s = c :: r ∧ s.all Lx.symb = Lx.symb c := by
  intro s hs
  have h : Lx.signs.all (fun s => match s with | [] => false | c :: r => (c :: r).all Lx.symb == Lx.symb c) = true := by decide +kernel
  have := List.all_eq_true.1 h s hs
  cases s with
  | nil => simp at this
  | cons c r => exact ⟨c, r, rfl, by simpa using this⟩
theorem fold2_is (l : Lx.Bs) (h : ∀ c r, l = c :: r → Lx.symb c = false) : fold2 l 24 = Lx.sgn l := by
  rw [Lx.sgn_eq]
  show Lx.signs.foldl (better2 l) [] = Lx.signs.foldl (Lx.better l) []
  have key : ∀ (ss : List Lx.Bs), (∀ s ∈ ss, s ∈ Lx.signs) → ∀ b, ss.foldl (better2 l) b = ss.foldl (Lx.better l) b := by
    intro ss
    induction ss with
    | nil => intro _ b; rfl
    | cons s ss ih =>
      intro hs b
      rw [List.foldl_cons, List.foldl_cons, ih (fun t ht => hs t (by simp [ht]))]
      congr 1
      unfold better2 Lx.better
      obtain ⟨c, r, rfl, hc⟩ := signs_heads s (hs s (by simp))
      cases hp : (c :: r).isPrefixOf l with
      | false => simp
      | true =>
        cases l with
        | nil => cases hp
        | cons d q =>
          have hcd : c = d := by simp at hp; exact hp.1
          have := h d q rfl
          rw [hc, hcd, this]; simp
  exact key _ (fun s h => h) _
theorem fold2_none (c : UInt8) (r : Lx.Bs) (h : Lx.symb c = true) : fold2 (c :: r) 24 = [] := by
  have key : ∀ (ss : List Lx.Bs), (∀ s ∈ ss, s ∈ Lx.signs) → ss.foldl (better2 (c :: r)) [] = [] := by
    intro ss
    induction ss with
    | nil => intro _; rfl
    | cons s ss ih =>
      intro hs
      have hb : better2 (c :: r) [] s = [] := by
        unfold better2
        obtain ⟨d, q, rfl, hc⟩ := signs_heads s (hs s (by simp))
        cases hp : (d :: q).isPrefixOf (c :: r) with
        | false => simp
        | true =>
          have hcd : d = c := by simp at hp; exact hp.1
          rw [hc, hcd, h]; simp
      rw [List.foldl_cons, hb]
      exact ih (fun t ht => hs t (by simp [ht]))
  exact key _ (fun s h => h)
end Go.Proofs.YtcjdacdggklifaaGreatDoor
