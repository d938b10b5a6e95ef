/- Merged: Sn1, Sn2. -/
import Derived.Test.YtapdfdjknehhgaaPth
import Derived.Test.YtapdfdjknehhgaaUnf
import Derived.Test.YtapdfdjknehhgaaMat
import Derived.Test.YtapdfdjknehhgaaNormal
import Derived.Test.YtapdfdjknehhgaaShift
import Derived.Test.YtapdfdjknehhgaaSub
import Derived.Test.YtapdfdjknehhgaaCmp
import Derived.Test.YtapdfdjknehhgaaRInts

/- The law's examples: numbers, variable, op; trees built of rows. -/
namespace Go.Proofs.Ytapdfdjknehhgaa
open Go.RowKit Go.Tr

def Has (w : World) (b : Nat) (o : Obj) : Prop := w.heap[b]? = some o
theorem has_new {w : World} {b : Nat} {o : Obj} (h : b = w.heap.size) : Has (w.alloc o) b o := by rw [h]; exact heap_alloc_new w o
theorem has_old {w : World} {b : Nat} {o o' : Obj} (h : Has w b o) : Has (w.alloc o') b o := ((below_alloc w o').block b (block_lt h)).trans h
theorem has_drew {w : World} {b : Nat} {o : Obj} (h : Has w b o) : Has w.drew b o := h
theorem has_call {w w' : World} {b : Nat} {o : Obj} (hb : Below w.heap.size w w') (h : Has w b o) : Has w' b o := (hb.block b (block_lt h)).trans h
theorem has_lt {w : World} {b : Nat} {o : Obj} (h : Has w b o) : b < w.heap.size := block_lt h

theorem tL (w : World) (k n : Int) (hk : inI k) (hn : inI n) : TrV w (· < w.heap.size) (.node k n []) (.agg #[.int .i64 k, .int .i64 n, .slice none 0 0]) :=
  trV_iff.2 ⟨_, rfl, hk, hn, none, 0, 0, 0, rfl, Nat.le_refl _, by decide, (fun h => absurd rfl h), trivial⟩
theorem sN1 {w : World} {b : Nat} {k n : Int} {l : List Tm} {s : Value} (h : Has w b (.cells #[.int .i64 k, .int .i64 n, s] 24)) (ht : TrV w (· < w.heap.size) (.node k n l) (.agg #[.int .i64 k, .int .i64 n, s])) :
    TrS w (· < w.heap.size) [.node k n l] (.slice (some ⟨b, 0, none⟩) 1 1) := by
  refine ⟨_, _, b, 0, rfl, Nat.le_refl _, by decide, fun _ => ⟨rfl, has_lt h⟩, trC_iff.2 fun i hi => ?_⟩
  have hi0 : i = 0 := by simpa using hi
  subst hi0
  exact ⟨s, (cells_of h 0).1, (cells_of h 1).1, (cells_of h 2).1, ht⟩
theorem sN2 {w : World} {b : Nat} {k n k' n' : Int} {l l' : List Tm} {s s' : Value} (h : Has w b (.cells #[.int .i64 k, .int .i64 n, s, .int .i64 k', .int .i64 n', s'] 24)) (ht : TrV w (· < w.heap.size) (.node k n l) (.agg #[.int .i64 k, .int .i64 n, s]))
    (ht' : TrV w (· < w.heap.size) (.node k' n' l') (.agg #[.int .i64 k', .int .i64 n', s'])) : TrS w (· < w.heap.size) [.node k n l, .node k' n' l'] (.slice (some ⟨b, 0, none⟩) 2 2) := by
  refine ⟨_, _, b, 0, rfl, Nat.le_refl _, by decide, fun _ => ⟨rfl, has_lt h⟩, trC_iff.2 fun i hi => ?_⟩
  match i, hi with
  | 0, _ => exact ⟨s, (cells_of h 0).1, (cells_of h 1).1, (cells_of h 2).1, ht⟩
  | 1, _ => exact ⟨s', (cells_of h 3).1, (cells_of h 4).1, (cells_of h 5).1, ht'⟩
theorem sN3 {w : World} {b : Nat} {k n k' n' k2 n2 : Int} {l l' l2 : List Tm} {s s' s2 : Value} (h : Has w b (.cells #[.int .i64 k, .int .i64 n, s, .int .i64 k', .int .i64 n', s', .int .i64 k2, .int .i64 n2, s2] 24)) (ht : TrV w (· < w.heap.size) (.node k n l) (.agg #[.int .i64 k, .int .i64 n, s]))
    (ht' : TrV w (· < w.heap.size) (.node k' n' l') (.agg #[.int .i64 k', .int .i64 n', s'])) (ht2 : TrV w (· < w.heap.size) (.node k2 n2 l2) (.agg #[.int .i64 k2, .int .i64 n2, s2])) : TrS w (· < w.heap.size) [.node k n l, .node k' n' l', .node k2 n2 l2] (.slice (some ⟨b, 0, none⟩) 3 3) := by
  refine ⟨_, _, b, 0, rfl, Nat.le_refl _, by decide, fun _ => ⟨rfl, has_lt h⟩, trC_iff.2 fun i hi => ?_⟩
  match i, hi with
  | 0, _ => exact ⟨s, (cells_of h 0).1, (cells_of h 1).1, (cells_of h 2).1, ht⟩
  | 1, _ => exact ⟨s', (cells_of h 3).1, (cells_of h 4).1, (cells_of h 5).1, ht'⟩
  | 2, _ => exact ⟨s2, (cells_of h 6).1, (cells_of h 7).1, (cells_of h 8).1, ht2⟩
theorem tN {w : World} {k n : Int} {l : List Tm} {s : Value} (hk : inI k) (hn : inI n) (h : TrS w (· < w.heap.size) l s) : TrV w (· < w.heap.size) (.node k n l) (.agg #[.int .i64 k, .int .i64 n, s]) := trV_iff.2 ⟨_, rfl, hk, hn, h⟩
theorem iN1 {w : World} {b : Nat} {n : Int} (h : Has w b (.cells #[.int .i64 n] 3)) : IntS w (· < w.heap.size) [n] (.slice (some ⟨b, 0, none⟩) 1 1) := by
  refine ⟨_, _, b, 0, rfl, Nat.le_refl _, by decide, fun _ => ⟨rfl, has_lt h⟩, fun i hi => ?_⟩
  have hi0 : i = 0 := by simpa using hi
  subst hi0
  exact (cells_of h 0).1
theorem iN2 {w : World} {b : Nat} {n n' : Int} (h : Has w b (.cells #[.int .i64 n, .int .i64 n'] 3)) : IntS w (· < w.heap.size) [n, n'] (.slice (some ⟨b, 0, none⟩) 2 2) := by
  refine ⟨_, _, b, 0, rfl, Nat.le_refl _, by decide, fun _ => ⟨rfl, has_lt h⟩, fun i hi => ?_⟩
  match i, hi with
  | 0, _ => exact (cells_of h 0).1
  | 1, _ => exact (cells_of h 1).1
theorem in01 : inI 0 ∧ inI 1 ∧ inI 2 ∧ inI 3 := by unfold inI; omega
/-- The signature of the examples. -/
def numS : Sg := ⟨[⟨#[110, 97, 116]⟩, ⟨#[98, 111, 111, 108]⟩], [⟨⟨#[48]⟩, [], 0⟩, ⟨⟨#[115]⟩, [0], 0⟩, ⟨⟨#[95, 43, 95]⟩, [0, 0], 0⟩, ⟨⟨#[95, 101, 113, 95]⟩, [0, 0], 1⟩]⟩
theorem numS_ok : SgOk numS := by
  refine ⟨?_, ?_, ?_, ?_⟩
  · intro s hs; simp only [numS, List.mem_cons, List.not_mem_nil, or_false] at hs; rcases hs with rfl | rfl <;> decide
  · intro o ho; simp only [numS, List.mem_cons, List.not_mem_nil, or_false] at ho; rcases ho with rfl | rfl | rfl | rfl <;> decide
  · intro o ho; simp only [numS, List.mem_cons, List.not_mem_nil, or_false] at ho; unfold inI; rcases ho with rfl | rfl | rfl | rfl <;> decide
  · intro o ho; simp only [numS, List.mem_cons, List.not_mem_nil, or_false] at ho; unfold inI; rcases ho with rfl | rfl | rfl | rfl <;> (intro n hn; simp at hn; try subst hn) <;> decide
theorem infoSg : (Try.prog.info? 56).map (·.size) = some 2 := by kernel_rfl
theorem numbers_any (w : World) : Calls Try.prog 45 #[] w fun e w' => Below w.heap.size w w' ∧ ∃ a b, e = .returned (.agg #[.slice (some ⟨a, 0, none⟩) 2 2, .slice (some ⟨b, 0, none⟩) 4 4]) ∧ SgV w' (· < w'.heap.size) numS (.agg #[.slice (some ⟨a, 0, none⟩) 2 2, .slice (some ⟨b, 0, none⟩) 4 4]) := by
  go_enter Try.func45, Try.ntmps45
  go_wp2
  generalize hW : ((((((w.alloc _).alloc _).alloc _).alloc _).alloc _).alloc _) = W
  have h0 : Has W w.heap.size (.cells #[.slice (some ⟨w.heap.size + 1, 0, none⟩) 2 2, .slice (some ⟨w.heap.size + 1 + 1 + 1 + 1 + 1, 0, none⟩) 4 4] 56) := by rw [← hW]; show _ = _; (simp only [heap_alloc, alloc_size]; repeat (first | rw [if_pos trivial] | rw [if_pos (by omega)] | rw [if_neg (by omega)]))
  have h1 : Has W (w.heap.size + 1) (.cells #[.string ⟨#[110, 97, 116]⟩, .string ⟨#[98, 111, 111, 108]⟩] 9) := by rw [← hW]; show _ = _; (simp only [heap_alloc, alloc_size]; repeat (first | rw [if_pos trivial] | rw [if_pos (by omega)] | rw [if_neg (by omega)]))
  have h2 : Has W (w.heap.size + 1 + 1) (.cells #[.int .i64 0] 3) := by rw [← hW]; show _ = _; (simp only [heap_alloc, alloc_size]; repeat (first | rw [if_pos trivial] | rw [if_pos (by omega)] | rw [if_neg (by omega)]))
  have h3 : Has W (w.heap.size + 1 + 1 + 1) (.cells #[.int .i64 0, .int .i64 0] 3) := by rw [← hW]; show _ = _; (simp only [heap_alloc, alloc_size]; repeat (first | rw [if_pos trivial] | rw [if_pos (by omega)] | rw [if_neg (by omega)]))
  have h4 : Has W (w.heap.size + 1 + 1 + 1 + 1) (.cells #[.int .i64 0, .int .i64 0] 3) := by rw [← hW]; show _ = _; (simp only [heap_alloc, alloc_size]; repeat (first | rw [if_pos trivial] | rw [if_pos (by omega)] | rw [if_neg (by omega)]))
  have h5 : Has W (w.heap.size + 1 + 1 + 1 + 1 + 1) (.cells #[.string ⟨#[48]⟩, .slice none 0 0, .int .i64 0, .string ⟨#[115]⟩, .slice (some ⟨w.heap.size + 1 + 1, 0, none⟩) 1 1, .int .i64 0, .string ⟨#[95, 43, 95]⟩, .slice (some ⟨w.heap.size + 1 + 1 + 1, 0, none⟩) 2 2, .int .i64 0, .string ⟨#[95, 101, 113, 95]⟩, .slice (some ⟨w.heap.size + 1 + 1 + 1 + 1, 0, none⟩) 2 2, .int .i64 1] 107) := by rw [← hW]; show _ = _; (simp only [heap_alloc, alloc_size]; repeat (first | rw [if_pos trivial] | rw [if_pos (by omega)] | rw [if_neg (by omega)]))
  have hb : Below w.heap.size w W := by rw [← hW]; exact bA (bA (bA (bA (bA (bA (bZ w) _) _) _) _) _) _
  refine bodyPost_ret (results_cell_row rfl _ _ w.heap.size 56 _ _ _ rfl h0 Try.underlying56 rfl infoSg) rfl ?_
  refine ⟨hb, _, _, rfl, _, _, rfl, ?_, ?_, numS_ok⟩
  · refine ⟨_, _, _, 0, rfl, Nat.le_refl _, by decide, fun _ => ⟨rfl, has_lt h1⟩, fun i hi => ?_⟩
    match i, hi with
    | 0, _ => exact (cells_of h1 0).1
    | 1, _ => exact (cells_of h1 1).1
  · refine ⟨_, _, _, 0, rfl, Nat.le_refl _, by decide, fun _ => ⟨rfl, has_lt h5⟩, fun i hi => ?_⟩
    match i, hi with
    | 0, _ => exact ⟨_, (cells_of h5 0).1, (cells_of h5 1).1, (cells_of h5 2).1, none, 0, 0, 0, rfl, Nat.le_refl _, by decide, (fun h => by simp [numS] at h), (fun i h => by simp [numS] at h)⟩
    | 1, _ => exact ⟨_, (cells_of h5 3).1, (cells_of h5 4).1, (cells_of h5 5).1, iN1 h2⟩
    | 2, _ => exact ⟨_, (cells_of h5 6).1, (cells_of h5 7).1, (cells_of h5 8).1, iN2 h3⟩
    | 3, _ => exact ⟨_, (cells_of h5 9).1, (cells_of h5 10).1, (cells_of h5 11).1, iN2 h4⟩
theorem n_chk : chk numS = 0 := by kernel_rfl
theorem n_sort1 : sortE numS [0] (.node 2 2 [.node 1 0 [], .node 2 1 [.node 2 0 []]]) = (0, 0) := by kernel_rfl
theorem n_sort2 : sortE numS [0, 1] (.node 2 3 [.node 1 0 [], .node 1 1 []]) = (0, 4) := by kernel_rfl
theorem n_inf : infsA numS [.node 2 3 [.node 1 0 [], .node 2 1 [.node 1 0 []]], .node 1 0 []] [1, 0] [] = some [(0, 0)] := by kernel_rfl
theorem n_find : findN ⟨#[95, 43, 95]⟩ numS.op 0 = [2] := by kernel_rfl
theorem n_list : listK [(0, 0)] = [0] := by kernel_rfl
end Go.Proofs.Ytapdfdjknehhgaa

/- The law's examples: what each call returns. -/
namespace Go.Proofs.Ytapdfdjknehhgaa
open Go.RowKit Go.Tr

theorem trS_new {w w' : World} {l : List Tm} {v : Value} (h : TrS w' (Nw w w') l v) : TrS w' (· < w'.heap.size) l v := trS_mono (fun _ hb => hb.2) (fun _ _ => rfl) h
theorem trV_new {w w' : World} {t : Tm} {v : Value} (h : TrV w' (Nw w w') t v) : TrV w' (· < w'.heap.size) t v := trV_mono (fun _ hb => hb.2) (fun _ _ => rfl) _ h
theorem intS_new {w w' : World} {l : List Int} {v : Value} (h : IntS w' (Nw w w') l v) : IntS w' (· < w'.heap.size) l v := intS_mono (fun _ hb => hb.2) (fun _ _ => rfl) h
def tz : Tm := .node 2 0 []
def tx : Tm := .node 1 0 []
def ty : Tm := .node 1 1 []
theorem sort_c1 (v s vt : Value) (w : World) (hv : SgV w (· < w.heap.size) numS v) (hs : IntS w (· < w.heap.size) [0] s) (ht : TrV w (· < w.heap.size) (.node 2 2 [.node 1 0 [], .node 2 1 [.node 2 0 []]]) vt) :
    Calls Try.prog 38 #[v, s, vt] w fun e w' => e = .returned (.tuple #[.int .i64 0, .int .i64 0]) ∧ Below w.heap.size w w' := by
  have h := Sort_any numS [0] _ v s vt w hv hs ht
  rw [n_sort1] at h; exact h
theorem sort_c2 (v s vt : Value) (w : World) (hv : SgV w (· < w.heap.size) numS v) (hs : IntS w (· < w.heap.size) [0, 1] s) (ht : TrV w (· < w.heap.size) (.node 2 3 [.node 1 0 [], .node 1 1 []]) vt) :
    Calls Try.prog 38 #[v, s, vt] w fun e w' => e = .returned (.tuple #[.int .i64 0, .int .i64 4]) ∧ Below w.heap.size w w' := by
  have h := Sort_any numS [0, 1] _ v s vt w hv hs ht
  rw [n_sort2] at h; exact h
theorem infer_c (v s sv : Value) (w : World) (hv : SgV w (· < w.heap.size) numS v) (hs : TrS w (· < w.heap.size) [.node 2 3 [.node 1 0 [], .node 2 1 [.node 1 0 []]], .node 1 0 []] s) (ht : IntS w (· < w.heap.size) [1, 0] sv) :
    Calls Try.prog 39 #[v, s, sv] w fun e w' => ∃ oa cap, e = .returned (.tuple #[.slice oa 1 cap, .int .i64 0]) ∧ IntS w' (· < w'.heap.size) [0] (.slice oa 1 cap) ∧ Below w.heap.size w w' := by
  refine (Infer_ok numS _ [1, 0] _ v s sv w hv hs ht n_chk rfl (by kernel_rfl) n_inf).mono ?_
  rintro e w' ⟨r, rfl, h1, h2⟩
  rw [n_list] at h1
  obtain ⟨oa, cap, b, o, rfl, -⟩ := id h1
  exact ⟨oa, cap, rfl, intS_new h1, h2⟩
theorem find_c (v : Value) (w : World) (hv : SgV w (· < w.heap.size) numS v) :
    Calls Try.prog 47 #[v, .string ⟨#[95, 43, 95]⟩] w fun e w' => ∃ oa cap, e = .returned (.slice oa 1 cap) ∧ IntS w' (· < w'.heap.size) [2] (.slice oa 1 cap) ∧ Below w.heap.size w w' := by
  refine (Find_any numS _ v w hv (by decide)).mono ?_
  rintro e w' ⟨r, rfl, h1, h2⟩
  rw [n_find] at h1
  obtain ⟨oa, cap, b, o, rfl, -⟩ := id h1
  exact ⟨oa, cap, rfl, intS_new h1, h2⟩
theorem check_c (v : Value) (w : World) (hv : SgV w (· < w.heap.size) numS v) : Calls Try.prog 48 #[v] w fun e w' => e = .returned (.int .i64 0) ∧ Below w.heap.size w w' := by
  have h := Check_any numS v w hv
  rw [n_chk] at h; exact h
theorem ints_c (l : List Int) (s s' : Value) (w : World) (h : IntS w (· < w.heap.size) l s) (h' : IntS w (· < w.heap.size) l s') : Calls Try.prog 21 #[s, s'] w fun e w' => e = .returned (.bool true) ∧ Below w.heap.size w w' := by
  have h := RSameInts_any l l s s' w h h'
  rw [decide_eq_true rfl] at h; exact h
theorem same_c (t : Tm) (v v' : Value) (w : World) (h : TrV w (· < w.heap.size) t v) (h' : TrV w (· < w.heap.size) t v') : Calls Try.prog 18 #[v, v'] w fun e w' => e = .returned (.bool true) ∧ Below w.heap.size w w' := by
  have h := RSame_any t t v v' w h h'
  rw [(eqT_iff t t).2 rfl] at h; exact h
theorem all_c (l m : List Tm) (hlm : eqAll l m = true) (s s' : Value) (w : World) (h : TrS w (· < w.heap.size) l s) (h' : TrS w (· < w.heap.size) m s') : Calls Try.prog 43 #[s, s'] w fun e w' => e = .returned (.bool true) ∧ Below w.heap.size w w' := by
  have h := RSameAll_any l m s s' w h h'
  rw [hlm] at h; exact h
theorem cmp_c (t t' : Tm) (hc : cmpT t t' = -1) (v v' : Value) (w : World) (h : TrV w (· < w.heap.size) t v) (h' : TrV w (· < w.heap.size) t' v') : Calls Try.prog 19 #[v, v'] w fun e w' => e = .returned (.int .i64 (-1)) ∧ Below w.heap.size w w' := by
  have h := Compare_any t t' v v' w h h'
  rw [hc] at h; exact h
theorem paths_c (v : Value) (w : World) (h : TrV w (· < w.heap.size) (.node 2 2 [.node 1 0 [], .node 2 1 [.node 2 0 []]]) v) : Calls Try.prog 33 #[v] w fun e w' => ∃ b cap oa ca, e = .returned (.tuple #[.slice (some ⟨b, 0, none⟩) 4 cap, .int .i64 0]) ∧ (b < w'.heap.size ∧ w'.cell? ⟨b, 3, none⟩ = some (.slice oa 2 ca) ∧ IntS w' (· < w'.heap.size) [1, 0] (.slice oa 2 ca)) ∧ Below w.heap.size w w' := by
  refine (Paths_any _ v w h).mono ?_
  rintro e w' ⟨hb, ⟨hf, -⟩ | ⟨-, r, rfl, hp⟩⟩
  · exact absurd hf (by decide +kernel)
  · have hpt : pathsT (.node 2 2 [.node 1 0 [], .node 2 1 [.node 2 0 []]]) [] = [[], [0], [1], [1, 0]] := by kernel_rfl
    rw [hpt] at hp
    obtain ⟨oa, cap, b, rfl, hc, hob, hel⟩ := hp
    obtain ⟨rfl, hlt⟩ := hob (by decide)
    obtain ⟨s, hs, hi⟩ := hel 3 (by decide)
    obtain ⟨os, cs, b2, o2, rfl, h1, h2, h3, h4⟩ := hi
    exact ⟨b, cap, os, cs, rfl, ⟨hlt, hs, ⟨os, cs, b2, o2, rfl, h1, h2, h3, h4⟩⟩, hb⟩
theorem subst_c1 (v s : Value) (w : World) (hv : TrV w (· < w.heap.size) (.node 2 2 [.node 1 0 [], .node 1 1 []]) v) (hs : TrS w (· < w.heap.size) [.node 2 1 [.node 1 1 []], .node 2 0 []] s) :
    Calls Try.prog 30 #[v, s] w fun e w' => ∃ oa cap, e = .returned (.tuple #[.agg #[.int .i64 2, .int .i64 2, .slice oa 2 cap], .int .i64 0]) ∧ TrV w' (Nw w w') (.node 2 2 [.node 2 1 [.node 1 1 []], .node 2 0 []]) (.agg #[.int .i64 2, .int .i64 2, .slice oa 2 cap]) ∧ Below w.heap.size w w' := by
  refine (Subst_any _ _ v s w hv hs).mono ?_
  have e1 : substE (.node 2 2 [.node 1 0 [], .node 1 1 []]) [.node 2 1 [.node 1 1 []], .node 2 0 []] = 0 := by decide +kernel
  have e2 : substT [.node 2 1 [.node 1 1 []], .node 2 0 []] (.node 2 2 [.node 1 0 [], .node 1 1 []]) = .node 2 2 [.node 2 1 [.node 1 1 []], .node 2 0 []] := by kernel_rfl
  rw [e1, e2]
  rintro e w' ⟨v', rfl, h1, -, h2⟩
  have h3 := h1 rfl
  obtain ⟨sl, rfl, -, -, hsl⟩ := trV_iff.1 h3
  obtain ⟨oa, cap, b, o, rfl, -⟩ := id hsl
  exact ⟨oa, cap, rfl, h3, h2⟩
theorem subst_c2 (v s : Value) (w : World) (hv : TrV w (· < w.heap.size) (.node 2 2 [.node 1 0 [], .node 1 1 []]) v) (hs : TrS w (· < w.heap.size) [.node 2 1 [.node 1 1 []]] s) :
    Calls Try.prog 30 #[v, s] w fun e w' => e = .returned (.tuple #[.agg #[.int .i64 0, .int .i64 0, .slice none 0 0], .int .i64 1]) ∧ Below w.heap.size w w' := by
  refine (Subst_any _ _ v s w hv hs).mono ?_
  have e1 : substE (.node 2 2 [.node 1 0 [], .node 1 1 []]) [.node 2 1 [.node 1 1 []]] = 1 := by decide +kernel
  rw [e1]
  rintro e w' ⟨v', rfl, -, h1, h2⟩
  rw [h1 (by decide)]
  exact ⟨rfl, h2⟩
theorem shift_c (v : Value) (w : World) (hv : TrV w (· < w.heap.size) (.node 2 2 [.node 1 0 [], .node 1 1 []]) v) :
    Calls Try.prog 44 #[v, .int .i64 1, .int .i64 2] w fun e w' => ∃ oa cap, e = .returned (.tuple #[.agg #[.int .i64 2, .int .i64 2, .slice oa 2 cap], .int .i64 0]) ∧ TrV w' (Nw w w') (.node 2 2 [.node 1 0 [], .node 1 3 []]) (.agg #[.int .i64 2, .int .i64 2, .slice oa 2 cap]) ∧ Below w.heap.size w w' := by
  refine (Shift_any _ v 1 2 in01.2.1 in01.2.2.1 w hv).mono ?_
  have e1 : shiftE (.node 2 2 [.node 1 0 [], .node 1 1 []]) 1 2 = 0 := by decide +kernel
  have e2 : shiftT 1 2 (.node 2 2 [.node 1 0 [], .node 1 1 []]) = .node 2 2 [.node 1 0 [], .node 1 3 []] := by kernel_rfl
  rw [e1, e2]
  rintro e w' ⟨v', rfl, h1, -, h2⟩
  have h3 := h1 rfl
  obtain ⟨sl, rfl, -, -, hsl⟩ := trV_iff.1 h3
  obtain ⟨oa, cap, b, o, rfl, -⟩ := id hsl
  exact ⟨oa, cap, rfl, h3, h2⟩
theorem normal_c (s : Value) (w : World) (hs : TrS w (· < w.heap.size) [.node 2 2 [.node 1 1 [], .node 1 0 []], .node 1 1 []] s) :
    Calls Try.prog 42 #[s] w fun e w' => ∃ oa ca ob cb, e = .returned (.tuple #[.slice oa 2 ca, .slice ob 2 cb, .int .i64 0]) ∧ TrS w' (· < w'.heap.size) [.node 2 2 [.node 1 0 [], .node 1 1 []], .node 1 0 []] (.slice oa 2 ca) ∧ IntS w' (· < w'.heap.size) [1, 0] (.slice ob 2 cb) ∧ Below w.heap.size w w' := by
  refine (Normal_any _ s w hs (by decide)).mono ?_
  have e1 : ([.node 2 2 [.node 1 1 [], .node 1 0 []], .node 1 1 []] : List Tm).all good = true := by decide +kernel
  have e2 : vars [.node 2 2 [.node 1 1 [], .node 1 0 []], .node 1 1 []] = [1, 0] := by kernel_rfl
  have e3 : ([.node 2 2 [.node 1 1 [], .node 1 0 []], .node 1 1 []] : List Tm).map (numT [1, 0]) = [.node 2 2 [.node 1 0 [], .node 1 1 []], .node 1 0 []] := by kernel_rfl
  unfold NormP
  rw [e1, e2, e3]
  rintro e w' ⟨v1, v2, rfl, h1, -, h2⟩
  obtain ⟨h3, h4⟩ := h1 rfl
  obtain ⟨oa, ca, b, o, rfl, -⟩ := id h3
  obtain ⟨ob, cb, b', o', rfl, -⟩ := id h4
  exact ⟨oa, ca, ob, cb, rfl, trS_new h3, intS_new h4, h2⟩
theorem match_c1 (v v' : Value) (w : World) (hv : TrV w (· < w.heap.size) (.node 2 2 [.node 1 0 [], .node 1 0 []]) v) (hv' : TrV w (· < w.heap.size) (.node 2 2 [.node 2 1 [.node 1 1 []], .node 2 1 [.node 1 1 []]]) v') :
    Calls Try.prog 41 #[v, v'] w fun e w' => ∃ oa ca, e = .returned (.tuple #[.slice oa 1 ca, .bool true, .int .i64 0]) ∧ TrS w' (· < w'.heap.size) [.node 2 1 [.node 1 1 []]] (.slice oa 1 ca) ∧ Below w.heap.size w w' := by
  refine (Match_any _ _ v v' w hv hv').mono ?_
  have e1 : (good (.node 2 2 [.node 1 0 [], .node 1 0 []]) && good (.node 2 2 [.node 2 1 [.node 1 1 []], .node 2 1 [.node 1 1 []]])) = true := by decide +kernel
  have e2 : most (vars [.node 2 2 [.node 1 0 [], .node 1 0 []]]) = 0 := by kernel_rfl
  have e3 : matchR (.node 2 2 [.node 1 0 [], .node 1 0 []]) (.node 2 2 [.node 2 1 [.node 1 1 []], .node 2 1 [.node 1 1 []]]) = ([.node 2 1 [.node 1 1 []]], true) := by kernel_rfl
  unfold MatchP
  rw [e1, e2, e3]
  rintro e w' ⟨hb, ⟨h, -⟩ | ⟨-, ⟨h, -⟩ | ⟨-, ⟨h, -⟩ | ⟨-, v, rfl, h⟩⟩⟩⟩
  · cases h
  · omega
  · cases h
  · obtain ⟨oa, ca, b, o, rfl, -⟩ := id h
    exact ⟨oa, ca, rfl, trS_new h, hb⟩
theorem match_c2 (v v' : Value) (w : World) (hv : TrV w (· < w.heap.size) (.node 2 2 [.node 1 0 [], .node 1 0 []]) v) (hv' : TrV w (· < w.heap.size) (.node 2 2 [.node 2 0 [], .node 2 1 [.node 2 0 []]]) v') :
    Calls Try.prog 41 #[v, v'] w fun e w' => e = .returned (.tuple #[.slice none 0 0, .bool false, .int .i64 0]) ∧ Below w.heap.size w w' := by
  refine (Match_any _ _ v v' w hv hv').mono ?_
  have e1 : (good (.node 2 2 [.node 1 0 [], .node 1 0 []]) && good (.node 2 2 [.node 2 0 [], .node 2 1 [.node 2 0 []]])) = true := by decide +kernel
  have e2 : most (vars [.node 2 2 [.node 1 0 [], .node 1 0 []]]) = 0 := by kernel_rfl
  have e3 : (matchR (.node 2 2 [.node 1 0 [], .node 1 0 []]) (.node 2 2 [.node 2 0 [], .node 2 1 [.node 2 0 []]])).2 = false := by kernel_rfl
  unfold MatchP
  rw [e1, e2, e3]
  rintro e w' ⟨hb, ⟨h, -⟩ | ⟨-, ⟨h, -⟩ | ⟨-, ⟨-, rfl⟩ | ⟨h, -⟩⟩⟩⟩
  · cases h
  · omega
  · exact ⟨rfl, hb⟩
  · cases h
theorem unify_c1 (v v' : Value) (w : World) (hv : TrV w (· < w.heap.size) (.node 2 2 [.node 1 0 [], .node 2 1 [.node 1 0 []]]) v) (hv' : TrV w (· < w.heap.size) (.node 2 2 [.node 2 1 [.node 1 1 []], .node 1 2 []]) v') :
    Calls Try.prog 29 #[v, v'] w fun e w' => ∃ oa ca, e = .returned (.tuple #[.slice oa 3 ca, .bool true, .int .i64 0]) ∧ TrS w' (· < w'.heap.size) [.node 2 1 [.node 1 1 []], .node 1 1 [], .node 2 1 [.node 2 1 [.node 1 1 []]]] (.slice oa 3 ca) ∧ Below w.heap.size w w' := by
  refine (Unify_any _ _ v v' w hv hv').mono ?_
  have e1 : (good (.node 2 2 [.node 1 0 [], .node 2 1 [.node 1 0 []]]) && good (.node 2 2 [.node 2 1 [.node 1 1 []], .node 1 2 []])) = true := by decide +kernel
  have e2 : most (vars [.node 2 2 [.node 1 0 [], .node 2 1 [.node 1 0 []]], .node 2 2 [.node 2 1 [.node 1 1 []], .node 1 2 []]]) = 2 := by kernel_rfl
  have e3 : (lookU (.node 2 2 [.node 1 0 [], .node 2 1 [.node 1 0 []]]) (.node 2 2 [.node 2 1 [.node 1 1 []], .node 1 2 []])).2.2 = 0 := by kernel_rfl
  have e4 : (lookU (.node 2 2 [.node 1 0 [], .node 2 1 [.node 1 0 []]]) (.node 2 2 [.node 2 1 [.node 1 1 []], .node 1 2 []])).1 = [(0, .node 2 1 [.node 1 1 []]), (2, .node 2 1 [.node 1 0 []])] := by kernel_rfl
  have e5 : uniN (.node 2 2 [.node 1 0 [], .node 2 1 [.node 1 0 []]]) (.node 2 2 [.node 2 1 [.node 1 1 []], .node 1 2 []]) = 3 := by kernel_rfl
  unfold UnifyP
  rw [e1, e2, e3, e4, e5]
  rintro e w' ⟨hb, ⟨h, -⟩ | ⟨-, ⟨h, -⟩ | ⟨-, ⟨h, -⟩ | ⟨-, h, -⟩ | ⟨-, r, hr, hl, h⟩⟩⟩⟩
  · cases h
  · omega
  · omega
  · exact absurd rfl h
  · obtain ⟨f, hf⟩ := setsL_fuel hr
    have k1 : settleL (settleT [(0, .node 2 1 [.node 1 1 []]), (2, .node 2 1 [.node 1 0 []])] 10) (upTo 3) (List.replicate 3 zeroT) = some ([.node 2 1 [.node 1 1 []], .node 1 1 [], .node 2 1 [.node 2 1 [.node 1 1 []]]], true) := by kernel_rfl
    have k2 := settleL_mono (fun l n r hr => settleT_le _ (Nat.le_max_left f 10) hr) _ _ _ hf
    have k3 := settleL_mono (fun l n r hr => settleT_le _ (Nat.le_max_right f 10) hr) _ _ _ k1
    rw [k2] at k3
    obtain rfl := Option.some.inj k3
    rcases h with ⟨-, v, rfl, hv⟩ | ⟨h, -⟩
    · obtain ⟨oa, ca, b, o, rfl, -⟩ := id hv
      exact ⟨oa, ca, rfl, hv, hb⟩
    · cases h
theorem unify_c2 (v v' : Value) (w : World) (hv : TrV w (· < w.heap.size) (.node 1 0 []) v) (hv' : TrV w (· < w.heap.size) (.node 2 1 [.node 1 0 []]) v') :
    Calls Try.prog 29 #[v, v'] w fun e w' => e = .returned (.tuple #[.slice none 0 0, .bool false, .int .i64 0]) ∧ Below w.heap.size w w' := by
  refine (Unify_any _ _ v v' w hv hv').mono ?_
  have e1 : (good (.node 1 0 []) && good (.node 2 1 [.node 1 0 []])) = true := by decide +kernel
  have e2 : most (vars [.node 1 0 [], .node 2 1 [.node 1 0 []]]) = 0 := by kernel_rfl
  have e3 : (lookU (.node 1 0 []) (.node 2 1 [.node 1 0 []])).2.2 = 3 := by kernel_rfl
  unfold UnifyP
  rw [e1, e2, e3]
  rintro e w' ⟨hb, ⟨h, -⟩ | ⟨-, ⟨h, -⟩ | ⟨-, ⟨-, rfl⟩ | ⟨h, -⟩ | ⟨h, -⟩⟩⟩⟩
  · cases h
  · omega
  · exact ⟨rfl, hb⟩
  · exact absurd rfl h
  · cases h
end Go.Proofs.Ytapdfdjknehhgaa
