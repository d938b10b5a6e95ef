/- apart. -/
import Derived.Test.YtcjdacdggklifaaGreatDoorJoin3
namespace Go.Proofs.YtcjdacdggklifaaGreatDoor
open Go.RowKit

def apartB (a b : RT) : Bool := cutB (a.text ++ b.text) [a, b]
theorem RT.rowAt2 {w : World} (a b : RT) {g : Nat} {ty : TypeId} (h : w.heap[g]? = some (.cells (a.cells ++ b.cells).toArray ty)) : RowAt w g [a, b] :=
  ⟨_, _, _, h, fun j hj => by simp [flat]⟩
section
variable {B p sg fm sm : Nat} {w : World}
set_option maxRecDepth 100000 in
set_option maxHeartbeats 2000000 in
theorem apart_any (h : HasSc B p sg fm sm w) (a b : RT) (ha : a.small) (hb : b.small) (has : a.s.size ≤ 1000000) (hbs : b.s.size ≤ 1000000) :
    Calls Tryz.prog 34 #[.pointer (some ⟨p, 0, none⟩), a.v, b.v] w fun e w' =>
      e = .returned (.bool (apartB a b)) ∧ HasSc B p sg fm sm w' ∧ w.grownBy w' (some p) := by
  have hpw : p < w.heap.size := by obtain ⟨_, _, _, _, h⟩ := h; exact h.pw
  have hz1 := a.text_size ha has
  have hz2 := b.text_size hb hbs
  have hsa := fun w => spelled_any a ha w
  have hsb := fun w => spelled_any b hb w
  have hcut : ∀ (w' : World) (g : Nat), w.grownBy w' none → w.heap.size ≤ g → w'.heap[g]? = some (.cells (a.cells ++ b.cells).toArray 35) → Calls Tryz.prog 62 #[.pointer (some ⟨p, 0, none⟩), .string (a.text ++ b.text), .slice (some ⟨g, 0, none⟩) 2 2] w' fun e w'' =>
      e = .returned (.bool (apartB a b)) ∧ HasSc B p sg fm sm w'' ∧ w'.grownBy w'' (some p) := fun w' g hg hle hr =>
    (cutInto_any (h.kept hg) (a.text ++ b.text) (by simp; omega) [a, b] (by simp) (by simp) g 2 (a.rowAt2 b hr) (by omega)).mono fun e w'' ⟨he, hs', hg'⟩ => ⟨he, hs', hg'⟩
  have HC := Lib.hid hcut
  have HA := Lib.hid hsa
  have HB := Lib.hid hsb
  have hcl : ¬ (9223372036854775807 < a.text.size + b.text.size) := by omega
  have hcl2 : a.text.size + b.text.size ≤ 9223372036854775807 := by omega
  clear hcut hsa hsb h hz1 hz2
  generalize hr : apartB a b = r at *
  generalize a.text = tx at *
  generalize b.text = ty at *
  obtain ⟨k, n, s, at1, f⟩ := a
  obtain ⟨k2, n2, s2, at2, f2⟩ := b
  simp only [RT.v, RT.cells, RT.small, List.cons_append, List.nil_append] at *
  clear ha hb hr
  go_enter Tryz.func34, Tryz.ntmps34
  go_wp2_with fail
  generalize hwb : (w.alloc (.cells #[.int .i64 k, .int .i64 n, .string s, .int .i64 at1, .int .i64 f] 35)).alloc (.cells #[.int .i64 k2, .int .i64 n2, .string s2, .int .i64 at2, .int .i64 f2] 35) = wb
  have hq1 : wb.heap[w.heap.size]? = some (.cells #[.int .i64 k, .int .i64 n, .string s, .int .i64 at1, .int .i64 f] 35) := by
    subst hwb; rw [alloc_miss _ _ _ (by simp), alloc_hit _ _ _ rfl]
  have hq2 : wb.heap[w.heap.size + 1]? = some (.cells #[.int .i64 k2, .int .i64 n2, .string s2, .int .i64 at2, .int .i64 f2] 35) := by
    subst hwb; rw [alloc_hit _ _ _ (by simp)]
  have hgb : w.grownBy wb none := by subst hwb; exact grownA _ (grownA _ (grownZ _ _))
  have hzb : wb.heap.size = w.heap.size + 2 := by subst hwb; simp
  clear hwb
  have c0 := (cells_of hq1 0).1
  have c1 := (cells_of hq1 1).1
  have c2 := (cells_of hq1 2).1
  have c3 := (cells_of hq1 3).1
  have c4 := (cells_of hq1 4).1
  have d0 := (cells_of hq2 0).1
  have d1 := (cells_of hq2 1).1
  have d2 := (cells_of hq2 2).1
  have d3 := (cells_of hq2 3).1
  have d4 := (cells_of hq2 4).1
  simp only [List.getElem?_toArray, List.getElem?_cons_zero, List.getElem?_cons_succ] at c0 c1 c2 c3 c4 d0 d1 d2 d3 d4
  have HG := Lib.hid hgb
  have HZ := Lib.hid (And.intro hzb hpw)
  have lq1 : w.heap.size < wb.heap.size := by omega
  have lq2 : w.heap.size + 1 < wb.heap.size := by omega
  clear hq1 hq2 hgb hzb hpw
  generalize w.heap.size = q1 at *
  generalize hq12 : q1 + 1 = q2 at *
  have HE := Lib.hid hq12
  have hk : ∀ W : World, wb.grownBy W (some p) → W.cell? ⟨q1, 0, none⟩ = some (.int .i64 k) ∧ W.cell? ⟨q1, 1, none⟩ = some (.int .i64 n) ∧ W.cell? ⟨q1, 2, none⟩ = some (.string s) ∧ W.cell? ⟨q1, 3, none⟩ = some (.int .i64 at1) ∧ W.cell? ⟨q1, 4, none⟩ = some (.int .i64 f) ∧
      W.cell? ⟨q2, 0, none⟩ = some (.int .i64 k2) ∧ W.cell? ⟨q2, 1, none⟩ = some (.int .i64 n2) ∧ W.cell? ⟨q2, 2, none⟩ = some (.string s2) ∧ W.cell? ⟨q2, 3, none⟩ = some (.int .i64 at2) ∧ W.cell? ⟨q2, 4, none⟩ = some (.int .i64 f2) := fun W hg => by
    have e1 : W.heap[q1]? = wb.heap[q1]? := hg.block q1 lq1 (by have := HZ.out.2; simp; omega)
    have e2 : W.heap[q2]? = wb.heap[q2]? := hg.block q2 lq2 (by have := HZ.out.2; simp; omega)
    have f1 : ∀ j, W.cell? ⟨q1, j, none⟩ = wb.cell? ⟨q1, j, none⟩ := fun j => World.cell?_of_block (w := wb) e1
    have f2 : ∀ j, W.cell? ⟨q2, j, none⟩ = wb.cell? ⟨q2, j, none⟩ := fun j => World.cell?_of_block (w := wb) e2
    rw [f1, f1, f1, f1, f1, f2, f2, f2, f2, f2]
    exact ⟨c0, c1, c2, c3, c4, d0, d1, d2, d3, d4⟩
  have HK := Lib.hid hk
  clear hq12 hk
  go_region_held3 (fun W => W.cell? ⟨q1, 0, none⟩ = some (.int .i64 k) ∧ W.cell? ⟨q1, 1, none⟩ = some (.int .i64 n) ∧ W.cell? ⟨q1, 2, none⟩ = some (.string s) ∧ W.cell? ⟨q1, 3, none⟩ = some (.int .i64 at1) ∧ W.cell? ⟨q1, 4, none⟩ = some (.int .i64 f) ∧
      W.cell? ⟨q2, 0, none⟩ = some (.int .i64 k2) ∧ W.cell? ⟨q2, 1, none⟩ = some (.int .i64 n2) ∧ W.cell? ⟨q2, 2, none⟩ = some (.string s2) ∧ W.cell? ⟨q2, 3, none⟩ = some (.int .i64 at2) ∧ W.cell? ⟨q2, 4, none⟩ = some (.int .i64 f2))
    (first | (refine HK.out _ ?_; (repeat (first | with_reducible exact grownZ _ _ | with_reducible apply grownA | with_reducible apply grownD)); done) | (refine HK.out _ (grown_trans ?_ hg'); (repeat (first | with_reducible exact grownZ _ _ | with_reducible apply grownA | with_reducible apply grownD)); done))
    (first
      | (go_at_call 37; first | (with_reducible refine (HA.out _).mono ?_; rintro e w' ⟨rfl, rfl⟩) | (with_reducible refine (HB.out _).mono ?_; rintro e w' ⟨rfl, rfl⟩))
      | (go_at_call 62; refine (HC.out _ _ (grown_trans HG.out (by repeat (first | with_reducible exact grownZ _ _ | with_reducible apply grownA | with_reducible apply grownD))) (by have := HZ.out; simp; omega) (by simp only [drew_heap]; repeat (first | (with_reducible refine alloc_hit _ _ _ ?_; simp; done) | (with_reducible refine Eq.trans (alloc_miss _ _ _ ?_) ?_; · (first | (simp; done) | (simp; omega)))))).mono ?_; rintro e w' ⟨rfl, hs', hg'⟩))
  all_goals
    go_wp2_with fail
    go_ret
    refine ⟨rfl, hs', grown_trans (grown_any HG.out _) (grown_trans ?_ hg')⟩
    repeat (first | with_reducible exact grownZ _ _ | with_reducible apply grownA | with_reducible apply grownD)
end
end Go.Proofs.YtcjdacdggklifaaGreatDoor
