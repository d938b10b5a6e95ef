/- right, apart. -/
import Derived.Test.YtcjdacdggklifaaGreatDoorJoin2
namespace Go.Proofs.YtcjdacdggklifaaGreatDoor
open Go.RowKit

def rightB (t : RT) : Bool := cutB t.text [t]
theorem RT.rowAt {w : World} (t : RT) {g : Nat} {ty : TypeId} (h : w.heap[g]? = some (.cells t.cells.toArray ty)) : RowAt w g [t] :=
  ⟨_, _, _, h, fun j hj => by simp [flat]⟩
theorem RT.text_size (t : RT) (h : t.small) (hs : t.s.size ≤ 1000000) : t.text.size ≤ 1000000 := by
  unfold RT.text
  by_cases hk : t.k = 3
  · rw [if_pos hk]
    obtain ⟨h0, h1⟩ := h hk
    have : ∀ n, n < 100 → (ByteArray.mk (Lib.decDigits n).toArray).size ≤ 1000000 := by decide +kernel
    obtain ⟨m, hm⟩ : ∃ m : Nat, t.n = m := ⟨t.n.toNat, by omega⟩
    rw [hm, itoa_nat]
    exact this _ (by omega)
  · rw [if_neg hk]; exact hs

theorem drew_heap (w : World) : w.drew.heap = w.heap := rfl
theorem grownA {w w' : World} {o : Option Nat} (x : Obj) (h : w.grownBy w' o) : w.grownBy (w'.alloc x) o := grown_trans h (World.grownBy_alloc _ _ _)
theorem grownD {w w' : World} {o : Option Nat} (h : w.grownBy w' o) : w.grownBy w'.drew o := ⟨h.os, h.tape, h.output, h.size, h.block⟩
theorem grownN {w w' : World} {o : Option Nat} (n : Nat) (h : w.grownBy w' o) : w.grownBy (w'.drewN n) o := ⟨h.os, h.tape, h.output, h.size, h.block⟩
theorem grownZ (w : World) (o : Option Nat) : w.grownBy w o := ⟨rfl, rfl, rfl, Nat.le_refl _, fun _ _ _ => rfl⟩
section
variable {B p sg fm sm : Nat} {w : World}
set_option maxRecDepth 100000 in
set_option maxHeartbeats 1000000 in
theorem right_any (h : HasSc B p sg fm sm w) (t : RT) (ht : t.small) (hs : t.s.size ≤ 1000000) :
    Calls Tryz.prog 33 #[.pointer (some ⟨p, 0, none⟩), t.v] w fun e w' =>
      e = .returned (.bool (rightB t)) ∧ HasSc B p sg fm sm w' ∧ w.grownBy w' (some p) := by
  have hpw : p < w.heap.size := by obtain ⟨_, _, _, _, h⟩ := h; exact h.pw
  have hz := t.text_size ht hs
  have hsp := fun w => spelled_any t ht w
  have hcut : ∀ (w' : World) (g : Nat), w.grownBy w' none → w.heap.size ≤ g → w'.heap[g]? = some (.cells t.cells.toArray 35) → Calls Tryz.prog 62 #[.pointer (some ⟨p, 0, none⟩), .string t.text, .slice (some ⟨g, 0, none⟩) 1 1] w' fun e w'' =>
      e = .returned (.bool (rightB t)) ∧ HasSc B p sg fm sm w'' ∧ w.grownBy w'' (some p) := fun w' g hg hle hr =>
    (cutInto_any (h.kept hg) t.text (by omega) [t] (by simp) (by simp) g 1 (t.rowAt hr) (by omega)).mono fun e w'' ⟨he, hs', hg'⟩ => ⟨he, hs', grown_trans (grown_any hg _) hg'⟩
  have HC := Lib.hid hcut
  have HS := Lib.hid hsp
  clear hcut hsp h hz hpw
  generalize hr : rightB t = r at *
  generalize t.text = tx at *
  obtain ⟨k, n, s, a, f⟩ := t
  simp only [RT.v, RT.cells, RT.small] at *
  clear ht hr
  go_enter Tryz.func33, Tryz.ntmps33
  go_wp2_with fail
  go_region_with (first | (go_at_call 37; refine (HS.out _).mono ?_; rintro e w' ⟨rfl, rfl⟩) | (go_at_call 62; refine (HC.out _ _ (by repeat (first | with_reducible exact grownZ _ _ | with_reducible apply grownA | with_reducible apply grownD)) (by omega) (by simp only [drew_heap]; repeat (first | (with_reducible refine alloc_hit _ _ _ ?_; simp; done) | (with_reducible refine Eq.trans (alloc_miss _ _ _ ?_) ?_; · (simp; done))))).mono ?_; rintro e w' ⟨rfl, hs', hg'⟩))
  all_goals go_wp2_with fail
  all_goals go_ret
  all_goals exact ⟨rfl, hs', hg'⟩
end
end Go.Proofs.YtcjdacdggklifaaGreatDoor
