/- The law's examples: the small ones. -/
import Derived.Test.YtcjdacdggklifaaGreatDoorSane1
import Derived.Laws.Rows
namespace Go.Proofs.YtcjdacdggklifaaGreatDoor
open Go.RowKit

theorem infoTk : (Tryz.prog.info? 35).map (·.size) = some 5 := by kernel_rfl
set_option maxRecDepth 100000 in
theorem sane1_any (s : ByteArray) (w : World) : Calls Tryz.prog 27 #[.string s] w fun e w' => e = .returned (.agg #[.int .i64 4, .int .i64 0, .string s, .int .i64 0, .int .i64 0]) ∧ w.grownBy w' none := by
  go_enter Tryz.func27, Tryz.ntmps27
  go_wp2
  refine bodyPost_ret (results_cell_row rfl _ _ w.heap.size 35 _ _ _ rfl (heap_alloc_new w _) Tryz.underlying35 rfl infoTk) rfl ?_
  exact ⟨rfl, World.grownBy_alloc _ _ _⟩
set_option maxRecDepth 100000 in
theorem sane2_any (s : ByteArray) (w : World) : Calls Tryz.prog 28 #[.string s] w fun e w' => e = .returned (.agg #[.int .i64 5, .int .i64 0, .string s, .int .i64 0, .int .i64 0]) ∧ w.grownBy w' none := by
  go_enter Tryz.func28, Tryz.ntmps28
  go_wp2
  refine bodyPost_ret (results_cell_row rfl _ _ w.heap.size 35 _ _ _ rfl (heap_alloc_new w _) Tryz.underlying35 rfl infoTk) rfl ?_
  exact ⟨rfl, World.grownBy_alloc _ _ _⟩
set_option maxRecDepth 100000 in
theorem sane3_any (s : ByteArray) (w : World) : Calls Tryz.prog 29 #[.string s] w fun e w' => e = .returned (.agg #[.int .i64 1, .int .i64 0, .string s, .int .i64 0, .int .i64 0]) ∧ w.grownBy w' none := by
  go_enter Tryz.func29, Tryz.ntmps29
  go_wp2
  refine bodyPost_ret (results_cell_row rfl _ _ w.heap.size 35 _ _ _ rfl (heap_alloc_new w _) Tryz.underlying35 rfl infoTk) rfl ?_
  exact ⟨rfl, World.grownBy_alloc _ _ _⟩

set_option maxRecDepth 100000 in
theorem place_sane (w : World) : Calls Tryz.prog 11 #[.string ⟨#[10, 97, 98]⟩, .int .i64 2] w fun e w' => e = .returned (.tuple #[.int .i64 2, .int .i64 2, .int .i64 0]) ∧ w = w' := by
  have h3 : Lib.countByte [10, 97] 10 = 1 := by kernel_rfl
  have h1 : Lib.countByte ((ByteArray.mk #[10, 97, 98]).extract 0 2).data.toList 10 = 1 := by kernel_rfl
  have h2 : Lib.lastIndexByte ((ByteArray.mk #[10, 97, 98]).extract 0 2) 10 = 0 := by kernel_rfl
  go_enter Tryz.func11, Tryz.ntmps11
  go_wp2_with (first | (go_at_call 40; refine (Tryz.strings_Count_one _ _ _).mono ?_; rintro e w' ⟨rfl, hw⟩; obtain rfl := hw) | (go_at_call 41; refine (Tryz.strings_LastIndexByte _ _ (by decide) _).mono ?_; rintro e w' ⟨rfl, hw⟩; obtain rfl := hw))
  all_goals go_ret3
  all_goals exact ⟨rfl, rfl⟩

/-- Cutting, with a number that falls. -/
def tF : Nat → Lx.Bs → Nat → Option Lx.Res
  | 0, _, _ => none
  | _ + 1, [], _ => some (.good [])
  | f + 1, c :: r, a => match Lx.step (c :: r) with
    | .bad => some (.bad a)
    | .fill n => tF f ((c :: r).drop n) (a + n)
    | .tok k n s len => (tF f ((c :: r).drop len) (a + len)).map (Lx.Res.pre [⟨k, n, s, a, a + len⟩])
theorem tF_eq (f : Nat) : ∀ (l : Lx.Bs) (a : Nat) (r : Lx.Res), tF f l a = some r → Lx.T l a = r := by
  induction f with
  | zero => intro l a r h; cases h
  | succ f ih =>
    intro l a r h
    cases l with
    | nil => simp only [tF, Option.some.injEq] at h; rw [Lx.T_nil, h]
    | cons c t =>
      simp only [tF] at h
      cases hs : Lx.step (c :: t) with
      | bad => rw [hs] at h; simp only [Option.some.injEq] at h; rw [Lx.T_bad (by simp) hs, h]
      | fill n => rw [hs] at h; rw [Lx.T_fill hs]; exact ih _ _ _ h
      | tok k n s len =>
        rw [hs] at h
        obtain ⟨q, hq, rfl⟩ := Option.map_eq_some_iff.1 h
        rw [Lx.T_tok hs, ih _ _ _ hq]
def gF : Nat → Nat → Lx.Bs → Nat → Option Lx.Res
  | 0, _, _, _ => none
  | _ + 1, 0, _, _ => some (.good [])
  | _ + 1, _ + 1, [], _ => some (.good [])
  | f + 1, k + 1, c :: r, a => match Lx.step (c :: r) with
    | .bad => some (.bad a)
    | .fill n => gF f (k + 1) ((c :: r).drop n) (a + n)
    | .tok kd n s len => (gF f k ((c :: r).drop len) (a + len)).map (Lx.Res.pre [⟨kd, n, s, a, a + len⟩])
theorem gF_eq (f : Nat) : ∀ (k : Nat) (l : Lx.Bs) (a : Nat) (r : Lx.Res), gF f k l a = some r → Lx.G k l a = r := by
  induction f with
  | zero => intro k l a r h; cases k <;> cases h
  | succ f ih =>
    intro k l a r h
    cases k with
    | zero => simp only [gF, Option.some.injEq] at h; rw [Lx.G_zero, h]
    | succ k =>
      cases l with
      | nil => simp only [gF, Option.some.injEq] at h; rw [Lx.G_nil, h]
      | cons c t =>
        simp only [gF] at h
        cases hs : Lx.step (c :: t) with
        | bad => rw [hs] at h; simp only [Option.some.injEq] at h; rw [Lx.G_bad (by simp) hs, h]
        | fill n => rw [hs] at h; rw [Lx.G_fill hs]; exact ih _ _ _ _ h
        | tok kd n s len =>
          rw [hs] at h
          obtain ⟨q, hq, rfl⟩ := Option.map_eq_some_iff.1 h
          rw [Lx.G_tok hs, ih _ _ _ _ hq]
theorem t1 : Lx.T [80, 91, 97, 93, 62, 62, 98, 59, 105] 0 = .good [⟨1, 0, [80], 0, 1⟩, ⟨5, 0, [91], 1, 2⟩, ⟨1, 0, [97], 2, 3⟩, ⟨5, 0, [93], 3, 4⟩, ⟨5, 0, [62, 62], 4, 6⟩, ⟨1, 0, [98], 6, 7⟩, ⟨5, 0, [59], 7, 8⟩, ⟨2, 0, [105], 8, 9⟩] := tF_eq 20 _ _ _ (by kernel_rfl)
end Go.Proofs.YtcjdacdggklifaaGreatDoor
