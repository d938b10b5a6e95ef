/- An edit as an argument: opened and shut. -/
import Derived.Test.YtcjdacdggklifaaGreatDoorChgA
import Derived.OpenShut
import Derived.SizedLaws
namespace Go.Proofs.YtcjdacdggklifaaGreatDoor
open Go.ChangeShapes Go.ChangeMaps Go.WideShapes Go.RowKit

set_option maxRecDepth 100000 in
theorem open_edit {H : Type} {enc : TypeId × Value → H} {w : World} {base b0 : Nat} {spare : Nat → Bool} {held : Bool} {r : Reach} {v : Value} {d : DataW H} {ps : List MemPlace} (hval : Value.okWide Tryz.prog w r b0 38 v) (hd : DataW.Trod enc Tryz.prog w base spare held 38 v d ps) :
    ∃ pe c S, v = .agg #[.int .i64 pe, .int .i64 c, .string S] ∧ d = .agg [.lit (.int .i64 pe), .lit (.int .i64 c), .lit (.string S.data.toList)] ∧ ps = [] ∧ ((Lit.int .i64 pe).wf = true ∧ (Lit.int .i64 c).wf = true ∧ S.size ≤ maxLen) := by
  have c38 : Tryz.prog.cellsOf 38 = 3 := by kernel_rfl
  have c3 : Tryz.prog.cellsOf 3 = 1 := by kernel_rfl
  have c9 : Tryz.prog.cellsOf 9 = 1 := by kernel_rfl
  obtain ⟨cs, rfl, hsz⟩ := okWide_struct Tryz.underlying38 hval
  obtain ⟨fuel, hf⟩ := hd
  obtain ⟨xs, n, _, hx, _, hlen, hfs⟩ := DataW.trod_struct Tryz.underlying38 hf
  rw [c38] at hsz
  obtain ⟨l⟩ := cs
  match l, hsz with
  | [x0, x1, x2], _ =>
  match xs, hlen with
  | [y0, y1, y2], _ =>
  have h0 : DataW.trod enc Tryz.prog w base spare held n 3 ([x0, x1, x2].take (Tryz.prog.cellsOf 3)) = some y0 := hfs 0 _ rfl
  have h1 : DataW.trod enc Tryz.prog w base spare held n 3 ([x1, x2].take (Tryz.prog.cellsOf 3)) = some y1 := hfs 1 _ rfl
  have h2 : DataW.trod enc Tryz.prog w base spare held n 9 ([x2].take (Tryz.prog.cellsOf 9)) = some y2 := hfs 2 _ rfl
  rw [c3] at h0 h1
  rw [c9] at h2
  obtain ⟨pe, e0, e1, wa⟩ := DataW.trod_int Tryz.underlying3 h0
  obtain ⟨c, e2, e3, wb⟩ := DataW.trod_int Tryz.underlying3 h1
  obtain ⟨S, e4, e5, wc⟩ := DataW.trod_string Tryz.underlying9 h2
  simp at e0 e2 e4
  subst e0 e2 e4 e1 e3 e5
  simp only [Prod.mk.injEq] at hx
  exact ⟨pe, c, S, rfl, hx.1, hx.2, wa, wb, wc⟩
set_option maxRecDepth 100000 in
theorem shut_edit {H : Type} {enc : TypeId × Value → H} {w : World} {base : Nat} {spare : Nat → Bool} {held : Bool} {pe c : Int} {S : ByteArray} (h : (Lit.int .i64 pe).wf = true ∧ (Lit.int .i64 c).wf = true ∧ S.size ≤ maxLen) :
    DataW.Trod enc Tryz.prog w base spare held 38 (.agg #[.int .i64 pe, .int .i64 c, .string S]) (.agg [.lit (.int .i64 pe), .lit (.int .i64 c), .lit (.string S.data.toList)]) [] := by
  have c38 : Tryz.prog.cellsOf 38 = 3 := by kernel_rfl
  have c3 : Tryz.prog.cellsOf 3 = 1 := by kernel_rfl
  have c9 : Tryz.prog.cellsOf 9 = 1 := by kernel_rfl
  obtain ⟨wa, wb, wc⟩ := h
  have f0 : DataW.trod enc Tryz.prog w base spare held 1 3 [.int .i64 pe] = some (.lit (.int .i64 pe), []) := by simp [DataW.trod, Tryz.underlying3, wa]
  have f1 : DataW.trod enc Tryz.prog w base spare held 1 3 [.int .i64 c] = some (.lit (.int .i64 c), []) := by simp [DataW.trod, Tryz.underlying3, wb]
  have f2 : DataW.trod enc Tryz.prog w base spare held 1 9 [.string S] = some (.lit (.string S.data.toList), []) := by simp [DataW.trod, Tryz.underlying9, wc]
  have h := trod_struct_mk (enc := enc) (w := w) (base := base) (spare := spare) (held := held) (n := 1) (cs := [.int .i64 pe, .int .i64 c, .string S]) (xs := [(.lit (.int .i64 pe), []), (.lit (.int .i64 c), []), (.lit (.string S.data.toList), [])]) Tryz.underlying38 (by rw [c38]; rfl) (by
    simp only [List.mapM_cons, List.mapM_nil, c3, c9, List.drop_zero, List.drop_succ_cons, List.take_succ_cons, List.take_zero, f0, f1, f2]
    rfl)
  exact ⟨2, h⟩
/-- A string in an edit is no longer than what can be reached. -/
theorem sized_edit {H : Type} {ts : List TypeId} {ds : List (DataW H)} (h : (DataW.weightsEach Tryz.prog ts ds).all (· ≤ reachBytes) = true) {j : Nat} {x y : Lit} {bytes : List UInt8} (ht : ts[j]? = some 38) (hd : ds[j]? = some (.agg [.lit x, .lit y, .lit (.string bytes)])) : bytes.length ≤ reachBytes := by
  have := List.all_eq_true.1 h _ (DataW.weights_mem_each ht hd bytes.length (by
    unfold DataW.weights
    rw [Tryz.underlying38]
    simp [DataW.weightsEach, DataW.weights]))
  simpa using this
end Go.Proofs.YtcjdacdggklifaaGreatDoor
