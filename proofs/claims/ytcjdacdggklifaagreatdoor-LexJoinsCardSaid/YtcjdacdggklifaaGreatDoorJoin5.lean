/- Join. -/
import Derived.Test.YtcjdacdggklifaaGreatDoorBuild
namespace Go.Proofs.YtcjdacdggklifaaGreatDoor
open Go.RowKit

def sp (a b : RT) : List UInt8 := if apartB a b then [] else [32]
/-- The bytes of the tokens behind a token, joined. -/
def joinF (a : RT) : List RT → List UInt8
  | [] => []
  | b :: l => sp a b ++ b.text.data.toList ++ joinF b l
def joinT : List RT → List UInt8
  | [] => []
  | a :: l => a.text.data.toList ++ joinF a l
/-- The bytes of the first k tokens, joined. -/
def joinK (rs : List RT) (k : Nat) : List UInt8 := joinT (rs.take k)
theorem joinF_snoc (l : List RT) : ∀ (a b : RT), joinF a (l ++ [b]) = joinF a l ++ (sp ((a :: l).getLast (by simp)) b ++ b.text.data.toList) := by
  induction l with
  | nil => intro a b; simp only [List.nil_append, joinF, List.append_nil, List.getLast_singleton]
  | cons x l ih => intro a b; rw [List.cons_append, joinF, ih, joinF, List.getLast_cons_cons]; simp
theorem joinK_zero (rs : List RT) : joinK rs 0 = [] := rfl
theorem joinK_one (rs : List RT) (h : 0 < rs.length) : joinK rs 1 = (rs[0]).text.data.toList := by
  cases rs with
  | nil => cases h
  | cons a l => simp [joinK, joinT, joinF]
theorem joinK_succ (rs : List RT) (k : Nat) (h : k + 1 < rs.length) : joinK rs (k + 2) = joinK rs (k + 1) ++ sp rs[k] rs[k + 1] ++ (rs[k + 1]).text.data.toList := by
  unfold joinK
  rw [show k + 2 = (k + 1) + 1 from rfl, List.take_succ_eq_append_getElem h]
  cases rs with
  | nil => cases h
  | cons a l =>
    rw [List.take_succ_cons, List.cons_append, joinT, joinF_snoc, joinT]
    have : (a :: List.take k l).getLast (by simp) = (a :: l)[k] := by
      rw [List.getLast_eq_getElem]
      simp only [List.length_cons, Nat.add_sub_cancel]
      have hk : (List.take k l).length = k := by rw [List.length_take]; simp at h; omega
      cases k with
      | zero => rfl
      | succ m => simp only [List.getElem_cons_succ, hk, List.getElem_take]
    rw [this]; simp
theorem joinK_all (rs : List RT) : joinK rs rs.length = joinT rs := by simp [joinK]

def joinR (rs : List RT) : Ending :=
  if rs.all rightB then (if 100000 < (joinT rs).length then .returned (.tuple #[.string ⟨#[]⟩, .int .i64 2]) else .returned (.tuple #[.string (ofB (joinT rs)), .int .i64 0]))
  else .returned (.tuple #[.string ⟨#[]⟩, .int .i64 1])

theorem HasSc.others {B p sg fm sm : Nat} {w w' : World} {B2 b : Nat} (h : HasSc B p sg fm sm w) (hw : Wrote B2 b w w') (hb : ∃ xs, w.heap[b]? = some (.cells xs 63)) (hB : B ≤ B2) : HasSc B p sg fm sm w' := by
  obtain ⟨text, st, tv, cv, h⟩ := h
  have hk : ∀ k, k < B → w'.heap[k]? = w.heap[k]? := fun k hk => hw.1.block k (by omega)
  obtain ⟨xs, hb⟩ := hb
  refine ⟨text, st, tv, cv, (hk p h.pB).trans h.self, (hk sg h.sgB).trans h.signs, h.fixed.of_block (hk fm h.fmB), (hk sm h.smB).trans h.steps, ?_, ?_, h.pB, h.sgB, h.fmB, h.smB, Nat.le_trans h.BW hw.1.size, h.ne, h.apart⟩
  · refine owns_of_block h.toks fun g hg => ?_
    obtain ⟨c, fz, hc⟩ := owns_kind h.toks g hg
    rw [hc]
    refine hw.2 g _ hc (fun e => ?_) (fun c' fz' e => ?_)
    · cases e; rw [hb] at hc; cases hc
    · cases e
  · refine owns_of_block h.coms fun g hg => ?_
    obtain ⟨c, fz, hc⟩ := owns_kind h.coms g hg
    rw [hc]
    refine hw.2 g _ hc (fun e => ?_) (fun c' fz' e => ?_)
    · cases e; rw [hb] at hc; cases hc
    · cases e
theorem joinK_le (rs : List RT) (h : ∀ t ∈ rs, t.text.size ≤ 1000000) : ∀ k, k ≤ rs.length → (joinK rs k).length ≤ k * 1000001
  | 0, _ => by rw [joinK_zero]; simp
  | 1, hk => by
    rw [joinK_one rs (by omega)]
    have := h _ (List.getElem_mem (show 0 < rs.length by omega))
    have e := bts_length (rs[0]).text
    have e : (rs[0]).text.data.toList.length = (rs[0]).text.size := e
    omega
  | k + 2, hk => by
    rw [joinK_succ rs k (by omega), List.length_append, List.length_append]
    have h1 := joinK_le rs h (k + 1) (by omega)
    have h2 := h _ (List.getElem_mem (show k + 1 < rs.length by omega))
    have e := bts_length (rs[k + 1]).text
    have e : (rs[k + 1]).text.data.toList.length = (rs[k + 1]).text.size := e
    have h3 : (sp rs[k] rs[k + 1]).length ≤ 1 := by unfold sp; split <;> simp
    omega
theorem Bld.kept {B b p : Nat} {bs : List Value} {w w' : World} (h : Bld B b bs w) (hg : w.grownBy w' (some p)) (hp : p < B) : Bld B b bs w' := by
  have key : ∀ q, Lib.BuilderAt 63 5 B b q bs w → Lib.BuilderAt 63 5 B b q bs w' := fun q ⟨hB, v, hb, ho, hn⟩ => by
    have hlt : b < w.heap.size := (Array.getElem?_eq_some_iff.1 hb).1
    refine ⟨hB, v, (hg.block b hlt (by simp; omega)).trans hb, owns_of_block ho fun g hg2 => ?_, hn⟩
    have := owns_ge ho g hg2
    exact hg.block g this.2 (by simp; omega)
  rcases h with h | h
  · exact .inl (key _ h)
  · exact .inr (key _ h)
theorem Bld.block {B b : Nat} {bs : List Value} {w : World} (h : Bld B b bs w) : ∃ xs, w.heap[b]? = some (.cells xs 63) := by
  rcases h with ⟨_, v, hb, _⟩ | ⟨_, v, hb, _⟩ <;> exact ⟨_, hb⟩
theorem below_le {B C : Nat} {a w w' : World} (h : Below B a w) (k : Below C w w') (hc : B ≤ C) : Below B a w' :=
  h.trans ⟨k.os, k.tape, k.output, k.size, fun i hi => k.block i (by omega)⟩
/-- What holds of the world all through the loop that writes. -/
structure Five (bz p sg fm sm bb g b0 : Nat) (rs : List RT) (J : List UInt8) (w0 w : World) : Prop where
  sc : HasSc bz p sg fm sm w
  bld : Bld bb bb (Lib.byteCells J) w
  row : RowAt w g rs
  below : Below b0 w0 w
  lt : bb < w.heap.size
section
variable {bz p sg fm sm bb g b0 : Nat} {rs : List RT} {J : List UInt8} {w0 w w' : World}
theorem Five.grown (h : Five bz p sg fm sm bb g b0 rs J w0 w) (hs : HasSc bz p sg fm sm w') (hg : w.grownBy w' (some p)) (h1 : p < bb) (h2 : b0 ≤ p) (h3 : g ≠ p) (h4 : b0 ≤ w.heap.size) : Five bz p sg fm sm bb g b0 rs J w0 w' :=
  ⟨hs, h.bld.kept hg h1, h.row.kept (hg.block g h.row.lt (by simp; exact h3)), h.below.grown hg h4 (fun j hj => by simp at hj; omega), Nat.lt_of_lt_of_le h.lt hg.size⟩
theorem Five.alloc (h : Five bz p sg fm sm bb g b0 rs J w0 w) (o : Obj) (h1 : p < bb) (h2 : b0 ≤ p) (h3 : g ≠ p) (_h4 : b0 ≤ bb) : Five bz p sg fm sm bb g b0 rs J w0 (w.alloc o) :=
  h.grown (h.sc.kept (World.grownBy_alloc _ _ _)) (World.grownBy_alloc _ _ _) h1 h2 h3 (by have := h.lt; omega)
theorem Five.wrote {J' : List UInt8} (h : Five bz p sg fm sm bb g b0 rs J w0 w) (hb : Bld bb bb (Lib.byteCells J') w') (hw : Wrote bb bb w w') (h1 : bz ≤ bb) (h2 : g < b0) (h3 : b0 ≤ bb) : Five bz p sg fm sm bb g b0 rs J' w0 w' :=
  ⟨h.sc.others hw h.bld.block h1, hb, h.row.kept (hw.1.block g (by omega)), below_le h.below hw.1 h3, Nat.lt_of_lt_of_le h.lt hw.1.size⟩
end
end Go.Proofs.YtcjdacdggklifaaGreatDoor
