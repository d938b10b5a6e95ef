/- Tokens with numbers of any size: how they are written; right, apart. -/
import Derived.Test.YtcjdacdggklifaaGreatDoorBoth0
import Derived.Lib.ItoaLen
namespace Go.Proofs.YtcjdacdggklifaaGreatDoor
open Go.RowKit

/-- A number that an int holds. -/
def RT.fit (t : RT) : Prop := t.k = 3 → -9223372036854775808 ≤ t.n ∧ t.n ≤ 9223372036854775807
theorem RT.text_le (t : RT) (h : t.fit) : t.text.size ≤ t.s.size + 21 := by
  unfold RT.text
  by_cases hk : t.k = 3
  · rw [if_pos hk]
    obtain ⟨h0, h1⟩ := h hk
    have e : (ByteArray.mk (Lib.itoa t.n).toArray).size = (Lib.itoa t.n).length := by simp [ByteArray.size]
    rw [e]
    unfold Lib.itoa
    split
    · have := Lib.nDigits_le20 t.n.natAbs (by omega)
      rw [List.length_cons, Lib.decDigits_length]; omega
    · have := Lib.nDigits_le20 t.n.toNat (by omega)
      rw [Lib.decDigits_length]; omega
  · rw [if_neg hk]; omega
/-- The table of the powers of ten is laid. -/
def Tab (w : World) : Prop := Lib.TabIs Tryz.prog w "internal/strconv.uint64pow10" .u64 Lib.pow10Tab
theorem tab_glob : Tryz.prog.globalNamed "internal/strconv.uint64pow10" = some 1 := by kernel_rfl
theorem Tab.lt {w : World} (h : Tab w) : 1 < w.heap.size := by
  unfold Tab Lib.TabIs World.var? at h
  rw [tab_glob] at h
  simp only [Option.bind_some] at h
  rcases Nat.lt_or_ge 1 w.heap.size with h' | h'
  · exact h'
  · rw [Array.getElem?_eq_none h'] at h; cases h
theorem Tab.of_block {w w' : World} (h : Tab w) (e : w'.heap[1]? = w.heap[1]?) : Tab w' := by
  unfold Tab Lib.TabIs World.var? at *
  rw [tab_glob] at *
  simp only [Option.bind_some] at *
  rw [e]; exact h
theorem Tab.grown {w w' : World} {o : Option Nat} (h : Tab w) (hg : w.grownBy w' o) (ho : some 1 ≠ o) : Tab w' := h.of_block (hg.block _ h.lt ho)
theorem Tab.below {w w' : World} {B : Nat} (h : Tab w) (hb : Below B w w') (hB : w.heap.size ≤ B) : Tab w' := h.of_block (hb.block _ (by have := h.lt; omega))
theorem grown_grow (w : World) (n : Nat) (os : Array Obj) : w.grownBy (Go.Sort.grow (w.drewN n) os) none :=
  ⟨rfl, (grownN n (grownZ w none)).tape, rfl, by simp [Go.Sort.grow, World.drewN], fun k hk _ => by
    have e := (grownN n (grownZ w none)).block k hk (by simp)
    rw [← e]
    have hk2 : k < (w.drewN n).heap.size := Nat.lt_of_lt_of_le hk (grownN n (grownZ w none)).size
    simp only [Go.Sort.grow]
    exact Array.getElem?_append_left hk2⟩

set_option maxRecDepth 100000 in
theorem spelled_all (t : RT) (h : t.fit) (w : World) (htab : Tab w) : Calls Tryz.prog 37 #[t.v] w fun e w' => e = .returned (.string t.text) ∧ w.grownBy w' none := by
  obtain ⟨k, n, s, a, f⟩ := t
  simp only [RT.v, RT.text, RT.fit] at *
  by_cases hk : k = 3
  · subst hk
    obtain ⟨h0, h1⟩ := h rfl
    rw [if_pos rfl]
    have HT := Lib.hid (fun o => htab.grown (World.grownBy_alloc w o none) (by simp))
    clear h htab
    go_enter Tryz.func37, Tryz.ntmps37
    go_wp2_with (go_at_call 53; refine (Tryz.strconv_Itoa n h0 h1 _ (HT.out _)).mono ?_; rintro e w' ⟨rfl, nq, os, rfl⟩)
    go_ret
    exact ⟨rfl, grown_trans (World.grownBy_alloc _ _ _) (grown_grow _ _ _)⟩
  · rw [if_neg hk]
    have hk' : (k == 3) = false := by simpa using hk
    clear h
    go_enter Tryz.func37, Tryz.ntmps37
    go_wp2
    all_goals go_ret
    all_goals exact ⟨rfl, World.grownBy_alloc _ _ _⟩
set_option maxRecDepth 100000 in
theorem Text_all (t : RT) (h : t.fit) (w : World) (htab : Tab w) : Calls Tryz.prog 24 #[t.v] w fun e w' => e = .returned (.string t.text) ∧ w.grownBy w' none := by
  obtain ⟨k, n, s, a, f⟩ := t
  simp only [RT.v, RT.text, RT.fit] at *
  by_cases hk : k = 3
  · subst hk
    obtain ⟨h0, h1⟩ := h rfl
    rw [if_pos rfl]
    have HT := Lib.hid (fun o => htab.grown (World.grownBy_alloc w o none) (by simp))
    clear h htab
    go_enter Tryz.func24, Tryz.ntmps24
    go_wp2_with (go_at_call 53; refine (Tryz.strconv_Itoa n h0 h1 _ (HT.out _)).mono ?_; rintro e w' ⟨rfl, nq, os, rfl⟩)
    go_ret
    exact ⟨rfl, grown_trans (World.grownBy_alloc _ _ _) (grown_grow _ _ _)⟩
  · rw [if_neg hk]
    have hk' : (k == 3) = false := by simpa using hk
    clear h
    go_enter Tryz.func24, Tryz.ntmps24
    go_wp2
    all_goals go_ret
    all_goals exact ⟨rfl, World.grownBy_alloc _ _ _⟩
section
variable {B p sg fm sm : Nat} {w : World}
set_option maxRecDepth 100000 in
set_option maxHeartbeats 1000000 in
theorem right_all (h : HasSc B p sg fm sm w) (htab : Tab w) (t : RT) (ht : t.fit) (hs : t.s.size ≤ 900000) :
    Calls Tryz.prog 33 #[.pointer (some ⟨p, 0, none⟩), t.v] w fun e w' =>
      e = .returned (.bool (rightB t)) ∧ HasSc B p sg fm sm w' ∧ w.grownBy w' (some p) := by
  have hpw : p < w.heap.size := by obtain ⟨_, _, _, _, h⟩ := h; exact h.pw
  have hz := t.text_le ht
  have hsp : ∀ w', w.grownBy w' none → Calls Tryz.prog 37 #[t.v] w' fun e w'' => e = .returned (.string t.text) ∧ w'.grownBy w'' none := fun w' hg => spelled_all t ht w' (htab.grown hg (by simp))
  have hcut : ∀ (w' : World) (g : Nat), w.grownBy w' none → w.heap.size ≤ g → w'.heap[g]? = some (.cells t.cells.toArray 35) → Calls Tryz.prog 62 #[.pointer (some ⟨p, 0, none⟩), .string t.text, .slice (some ⟨g, 0, none⟩) 1 1] w' fun e w'' =>
      e = .returned (.bool (rightB t)) ∧ HasSc B p sg fm sm w'' ∧ w'.grownBy w'' (some p) := fun w' g hg hle hr =>
    (cutInto_any (h.kept hg) t.text (by omega) [t] (by simp) (by simp) g 1 (t.rowAt hr) (by omega)).mono fun e w'' ⟨he, hs', hg'⟩ => ⟨he, hs', hg'⟩
  have HC := Lib.hid hcut
  have HS := Lib.hid hsp
  clear hcut hsp h hz htab
  generalize hr : rightB t = r at *
  generalize t.text = tx at *
  obtain ⟨k, n, s, a, f⟩ := t
  simp only [RT.v, RT.cells] at *
  clear ht hr
  go_enter Tryz.func33, Tryz.ntmps33
  go_wp2_with fail
  generalize hwb : w.alloc (.cells #[.int .i64 k, .int .i64 n, .string s, .int .i64 a, .int .i64 f] 35) = wb
  have hq1 : wb.heap[w.heap.size]? = some (.cells #[.int .i64 k, .int .i64 n, .string s, .int .i64 a, .int .i64 f] 35) := by
    subst hwb; rw [alloc_hit _ _ _ rfl]
  have hgb : w.grownBy wb none := by subst hwb; exact grownA _ (grownZ _ _)
  have hzb : wb.heap.size = w.heap.size + 1 := by subst hwb; simp
  clear hwb
  have c0 := (cells_of hq1 0).1
  have c1 := (cells_of hq1 1).1
  have c2 := (cells_of hq1 2).1
  have c3 := (cells_of hq1 3).1
  have c4 := (cells_of hq1 4).1
  simp only [List.getElem?_toArray, List.getElem?_cons_zero, List.getElem?_cons_succ] at c0 c1 c2 c3 c4
  have HG := Lib.hid hgb
  have HZ := Lib.hid (And.intro hzb hpw)
  have lq1 : w.heap.size < wb.heap.size := by omega
  clear hq1 hgb hzb hpw
  generalize w.heap.size = q1 at *
  have hk : ∀ W : World, wb.grownBy W (some p) → W.cell? ⟨q1, 0, none⟩ = some (.int .i64 k) ∧ W.cell? ⟨q1, 1, none⟩ = some (.int .i64 n) ∧ W.cell? ⟨q1, 2, none⟩ = some (.string s) ∧ W.cell? ⟨q1, 3, none⟩ = some (.int .i64 a) ∧ W.cell? ⟨q1, 4, none⟩ = some (.int .i64 f) := fun W hg => by
    have e1 : W.heap[q1]? = wb.heap[q1]? := hg.block q1 lq1 (by have := HZ.out.2; simp; omega)
    have f1 : ∀ j, W.cell? ⟨q1, j, none⟩ = wb.cell? ⟨q1, j, none⟩ := fun j => World.cell?_of_block (w := wb) e1
    rw [f1, f1, f1, f1, f1]
    exact ⟨c0, c1, c2, c3, c4⟩
  have HK := Lib.hid hk
  clear hk
  go_region_held3 (fun W => W.cell? ⟨q1, 0, none⟩ = some (.int .i64 k) ∧ W.cell? ⟨q1, 1, none⟩ = some (.int .i64 n) ∧ W.cell? ⟨q1, 2, none⟩ = some (.string s) ∧ W.cell? ⟨q1, 3, none⟩ = some (.int .i64 a) ∧ W.cell? ⟨q1, 4, none⟩ = some (.int .i64 f))
    (first | (refine HK.out _ (grown_any ?_ _); (repeat (first | with_reducible exact HG.out | with_reducible exact grownZ _ _ | with_reducible apply grownA | with_reducible apply grownD | with_reducible refine grown_trans ?_ hg2)); done) | (refine HK.out _ (grown_trans (grown_any ?_ _) hg'); (repeat (first | with_reducible exact HG.out | with_reducible exact grownZ _ _ | with_reducible apply grownA | with_reducible apply grownD | with_reducible refine grown_trans ?_ hg2)); done))
    (first
      | (go_at_call 37; with_reducible refine (HS.out _ (by repeat (first | with_reducible exact HG.out | with_reducible exact grownZ _ _ | with_reducible apply grownA | with_reducible apply grownD | with_reducible refine grown_trans ?_ hg2))).mono ?_; rintro e w' ⟨rfl, hg2⟩)
      | (go_at_call 62; refine (HC.out _ _ (by repeat (first | with_reducible exact HG.out | with_reducible exact grownZ _ _ | with_reducible apply grownA | with_reducible apply grownD | with_reducible refine grown_trans ?_ hg2)) (by have := HZ.out; have h9 := hg2.size; (try simp only [drew_heap] at h9); (try simp only [drew_heap]); first | omega | (simp; omega)) (by repeat (first | simp only [drew_heap] | (with_reducible refine alloc_hit _ _ _ ?_; simp; done) | (with_reducible refine Eq.trans (alloc_miss _ _ _ ?_) ?_; · (first | (simp; done) | (simp; omega))) | (refine Eq.trans (hg2.block _ ?_ (by simp)) ?_; · (first | (simp; done) | (simp; omega)))))).mono ?_; rintro e w' ⟨rfl, hs', hg'⟩))
  all_goals
    go_wp2_with fail
    go_ret
    refine ⟨rfl, hs', grown_trans (grown_any ?_ _) hg'⟩
    repeat (first | with_reducible exact HG.out | with_reducible exact grownZ _ _ | with_reducible apply grownA | with_reducible apply grownD | with_reducible refine grown_trans ?_ hg2)
end
end Go.Proofs.YtcjdacdggklifaaGreatDoor
