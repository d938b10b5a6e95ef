/- The scanner's uses: never, first, finish. -/
import Derived.Test.YtcjdacdggklifaaGreatDoorScan
namespace Go.Proofs.YtcjdacdggklifaaGreatDoor
open Go.RowKit

section
variable {B p sg fm sm : Nat} {text : ByteArray} {st : St} {tv cv : Value} {w : World}

theorem owns_form {w : World} {base : Nat} {e : TypeId} {size : Nat} {v : Value} {n : Nat} {xs : List Value} (h : w.ownsRow base e size v n xs) : ∃ a cap, v = .slice a n cap ∧ n ≤ cap := by
  rcases h.2 with ⟨rfl, rfl⟩ | ⟨g, cap, cur, rfl, _, _, hc, _⟩
  · exact ⟨none, 0, rfl, Nat.le_refl _⟩
  · exact ⟨_, cap, rfl, hc⟩

theorem never_any (w : World) : Calls Tryz.prog 43 #[] w fun e w' => e = .returned (.bool false) ∧ w' = w := by
  go_enter Tryz.func43, Tryz.ntmps43
  go_wp2
  go_ret
  exact ⟨rfl, rfl⟩

def dNever (st : St) : Bool × St := (false, st)
theorem asks_never (tv0 cv0 : Value) (w0 : World) : Asks B p sg fm sm text dNever 43 #[] tv0 cv0 w0 :=
  ⟨fun _ _ => by go_simp, fun st tv cv W h _ _ _ => (never_any W).mono fun e w' ⟨he, hw⟩ => ⟨he, tv, cv, hw ▸ h, hw ▸ Moved.refl _ _ _ _⟩⟩

def dMost (m : Nat) (st : St) : Bool × St := (decide (m < st.ts.length), st)
theorem first1_any (h : Sc B p sg fm sm text st tv cv w) (b1 b2 m : Nat) (hc1 : w.cell? ⟨b1, 0, none⟩ = some (.pointer (some ⟨p, 0, none⟩))) (hc2 : w.cell? ⟨b2, 0, none⟩ = some (.int .i64 m)) :
    Calls Tryz.prog 86 #[.pointer (some ⟨b1, 0, none⟩), .pointer (some ⟨b2, 0, none⟩)] w fun e w' => e = .returned (.bool (decide (m < st.ts.length))) ∧ ∃ n, w' = w.drewN n := by
  have c2 := h.c2
  obtain ⟨a, cap, rfl, hcap⟩ := owns_form h.toks
  clear h
  generalize st.ts.length = n at *
  go_enter Tryz.func86, Tryz.ntmps86
  go_wp2_with fail
  go_quiet (fail)
  go_wp2_with fail
  go_ret
  exact ⟨ret_bool (by simp), nq, rfl⟩

theorem restart_any (h : Sc B p sg fm sm text st tv cv w) (text' : ByteArray) :
    Calls Tryz.prog 85 #[.pointer (some ⟨p, 0, none⟩), .string text'] w fun e w' =>
      e = .returned (.tuple #[]) ∧ Sc B p sg fm sm text' ⟨0, [], []⟩ (.slice none 0 0) (.slice none 0 0) w' ∧ w.grownBy w' (some p) := by
  have c0 := h.c0
  have c1 := h.c1
  have c2 := h.c2
  have c3 := h.c3
  have f0 := h.fz 0
  have f1 := h.fz 1
  have f2 := h.fz 2
  have f3 := h.fz 3
  have H := Lib.hid h
  clear h
  go_enter Tryz.func85, Tryz.ntmps85
  go_wp2_with fail
  go_end0
  have h := H.out
  have s1 := setCell_at w ⟨p, 0, none⟩ (.string text') _ _ h.self rfl
  have s2 := setCell_at _ ⟨p, 1, none⟩ (.int .i64 0) _ _ s1 rfl
  have s3 := setCell_at _ ⟨p, 2, none⟩ (.slice none 0 0) _ _ s2 rfl
  have s4 := setCell_at _ ⟨p, 3, none⟩ (.slice none 0 0) _ _ s3 rfl
  have far : ∀ b, b ≠ p → ((((w.setCell ⟨p, 0, none⟩ (.string text')).setCell ⟨p, 1, none⟩ (.int .i64 0)).setCell ⟨p, 2, none⟩ (.slice none 0 0)).setCell ⟨p, 3, none⟩ (.slice none 0 0)).heap[b]? = w.heap[b]? := fun b hb =>
    (Below.heap_setCell _ _ _ _ hb).trans ((Below.heap_setCell _ _ _ _ hb).trans ((Below.heap_setCell _ _ _ _ hb).trans (Below.heap_setCell _ _ _ _ hb)))
  have hs : ((((w.setCell ⟨p, 0, none⟩ (.string text')).setCell ⟨p, 1, none⟩ (.int .i64 0)).setCell ⟨p, 2, none⟩ (.slice none 0 0)).setCell ⟨p, 3, none⟩ (.slice none 0 0)).heap.size = w.heap.size := by simp [World.setCell]
  have hn := h.ne
  refine ⟨rfl, ⟨s4, ?_, ?_, ?_, World.ownsRow_nil _ _ _ _, World.ownsRow_nil _ _ _ _, h.pB, h.sgB, h.fmB, h.smB, by rw [hs]; exact h.BW, hn, .inl rfl⟩, ⟨rfl, rfl, rfl, by rw [hs]; exact Nat.le_refl _, fun k _ hk => far k (fun e => hk (by rw [e]))⟩⟩
  · rw [far sg (Ne.symm hn.1)]; exact h.signs
  · exact h.fixed.of_block (far fm (Ne.symm hn.2.1))
  · rw [far sm (Ne.symm hn.2.2)]; exact h.steps

theorem moved_grown {tv' cv' : Value} {w w' : World} (h : Moved p (.slice none 0 0) (.slice none 0 0) w tv' cv' w') : w.grownBy w' (some p) :=
  ⟨h.os, h.tape, h.output, h.size, fun k hk hp => h.block k hk (fun e => hp (by rw [e])) (by simp [Value.ownBlock]) (by simp [Value.ownBlock])⟩
end
end Go.Proofs.YtcjdacdggklifaaGreatDoor
