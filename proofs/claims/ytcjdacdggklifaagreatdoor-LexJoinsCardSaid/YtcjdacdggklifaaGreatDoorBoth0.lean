/- Rows of tokens: texts behind each other, rows that are taken apart. -/
import Derived.Test.YtcjdacdggklifaaGreatDoorLike
namespace Go.Proofs.YtcjdacdggklifaaGreatDoor
open Go.RowKit

theorem likes_refl : ∀ l : List RT, likes l l = true
  | [] => rfl
  | a :: l => by simp [likes, alikeB, likes_refl l]
theorem likes_up (k : Nat) : ∀ l : List Lx.Tok, likes ((l.map (Lx.Tok.up k)).map rt) (l.map rt) = true
  | [] => rfl
  | a :: l => by
    simp only [List.map_cons, likes, likes_up k l, Bool.and_true]
    simp [alikeB, rt, Lx.Tok.up]
/-- A text behind another one, with a blank between. -/
theorem T_both {a b : Lx.Bs} {l m : List Lx.Tok} (ha : Lx.T a 0 = .good l) (hb : Lx.T b 0 = .good m) : Lx.T (a ++ 32 :: b) 0 = .good (l ++ m.map (Lx.Tok.up (a.length + 1))) := by
  have hl : Lx.Loose (32 :: b) := fun c hc => by simp at hc; subst hc; decide
  rw [Lx.T_app a 0 l ha _ hl]
  have hs : Lx.step (32 :: b) = .fill 1 := by unfold Lx.step; rw [Lx.kd_blank (by decide)]
  rw [Lx.T_fill hs]
  simp only [List.drop_succ_cons, List.drop_zero]
  rw [show 0 + a.length + 1 = 0 + (a.length + 1) from by omega, Lx.T_up, hb]
  rfl
/-- The tokens of a row, as they lie. -/
theorem tokV_owned {w : World} {B cap : Nat} {ts : List Lx.Tok} {a : Option Addr} (h : w.ownsRow B 35 5 (.slice a ts.length cap) ts.length (tokCs ts)) : TokV w a (ts.map rt) := fun hn => by
  rw [List.length_map] at hn
  obtain ⟨g, rfl, hr, _⟩ := rowAt_owned h hn
  exact ⟨g, 0, rfl, hr.lt, fun i hi j hj => by rw [Nat.zero_add]; exact hr.cell i hi j hj⟩
theorem tokV_take {w : World} {ts : List RT} {a : Option Addr} (k : Nat) (h : TokV w a ts) : TokV w a (ts.take k) := fun hn => by
  rw [List.length_take] at hn
  obtain ⟨g, off, rfl, hl, hc⟩ := h (by omega)
  exact ⟨g, off, rfl, hl, fun i hi j hj => by rw [List.getElem_take]; exact hc i (by rw [List.length_take] at hi; omega) j hj⟩
theorem tokV_drop {w : World} {ts : List RT} {g off : Nat} (k : Nat) (h : TokV w (some ⟨g, off, none⟩) ts) : TokV w (some ⟨g, off + k * 5, none⟩) (ts.drop k) := fun hn => by
  rw [List.length_drop] at hn
  obtain ⟨g', off', he, hl, hc⟩ := h (by omega)
  cases he
  refine ⟨g, off + k * 5, rfl, hl, fun i hi j hj => ?_⟩
  rw [List.length_drop] at hi
  rw [List.getElem_drop, ← hc (k + i) (by omega) j hj]
  congr 2; omega

theorem TokV.below {w w' : World} {o : Option Addr} {rs : List RT} (h : TokV w o rs) (hb : Below w.heap.size w w') : TokV w' o rs := fun hn => by
  obtain ⟨g, off, rfl, hl, hc⟩ := h hn
  exact ⟨g, off, rfl, Nat.lt_of_lt_of_le hl hb.size, fun i hi j hj => (World.cell?_of_block (w := w) (a := ⟨g, off + (i * 5 + j), none⟩) (hb.block g hl)).trans (hc i hi j hj)⟩
end Go.Proofs.YtcjdacdggklifaaGreatDoor
