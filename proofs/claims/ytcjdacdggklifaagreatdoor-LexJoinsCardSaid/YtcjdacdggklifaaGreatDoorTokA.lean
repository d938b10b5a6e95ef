/- A list of tokens as an argument: opened; what can be reached bounds it. -/
import Derived.Test.YtcjdacdggklifaaGreatDoorBoth0
import Derived.OpenShut
import Derived.SizedLaws
import Derived.Carry
import Derived.Deep.Slices
namespace Go.Proofs.YtcjdacdggklifaaGreatDoor
open Go.ChangeShapes Go.ChangeMaps Go.WideShapes Go.RowKit

/-- A token as data. -/
def RT.dat {H : Type} (t : RT) : DataW H := .agg [.lit (.int .i64 t.k), .lit (.int .i64 t.n), .lit (.string t.s.data.toList), .lit (.int .i64 t.a), .lit (.int .i64 t.f)]
def RT.wf (t : RT) : Prop := (Lit.int .i64 t.k).wf = true ∧ (Lit.int .i64 t.n).wf = true ∧ t.s.size ≤ maxLen ∧ (Lit.int .i64 t.a).wf = true ∧ (Lit.int .i64 t.f).wf = true

set_option maxRecDepth 100000 in
theorem open_tok {H : Type} {enc : TypeId × Value → H} {w : World} {base : Nat} {spare : Nat → Bool} {held : Bool} {fuel : Nat} {cs : List Value} {x : DataW H × List MemPlace} (hsz : cs.length = 5) (hf : DataW.trod enc Tryz.prog w base spare held fuel 35 cs = some x) :
    ∃ t : RT, cs = t.cells ∧ x = (t.dat, []) ∧ t.wf := by
  have c3 : Tryz.prog.cellsOf 3 = 1 := by kernel_rfl
  have c9 : Tryz.prog.cellsOf 9 = 1 := by kernel_rfl
  obtain ⟨xs, n, _, hx, _, hlen, hfs⟩ := DataW.trod_struct Tryz.underlying35 hf
  match cs, hsz with
  | [x0, x1, x2, x3, x4], _ =>
  match xs, hlen with
  | [y0, y1, y2, y3, y4], _ =>
  have h0 : DataW.trod enc Tryz.prog w base spare held n 3 ([x0, x1, x2, x3, x4].take (Tryz.prog.cellsOf 3)) = some y0 := hfs 0 _ rfl
  have h1 : DataW.trod enc Tryz.prog w base spare held n 3 ([x1, x2, x3, x4].take (Tryz.prog.cellsOf 3)) = some y1 := hfs 1 _ rfl
  have h2 : DataW.trod enc Tryz.prog w base spare held n 9 ([x2, x3, x4].take (Tryz.prog.cellsOf 9)) = some y2 := hfs 2 _ rfl
  have h3 : DataW.trod enc Tryz.prog w base spare held n 3 ([x3, x4].take (Tryz.prog.cellsOf 3)) = some y3 := hfs 3 _ rfl
  have h4 : DataW.trod enc Tryz.prog w base spare held n 3 ([x4].take (Tryz.prog.cellsOf 3)) = some y4 := hfs 4 _ rfl
  rw [c3] at h0 h1 h3 h4
  rw [c9] at h2
  obtain ⟨k, e0, e1, wa⟩ := DataW.trod_int Tryz.underlying3 h0
  obtain ⟨m, e2, e3, wb⟩ := DataW.trod_int Tryz.underlying3 h1
  obtain ⟨S, e4, e5, wc⟩ := DataW.trod_string Tryz.underlying9 h2
  obtain ⟨p, e6, e7, wd⟩ := DataW.trod_int Tryz.underlying3 h3
  obtain ⟨q, e8, e9, we⟩ := DataW.trod_int Tryz.underlying3 h4
  simp at e0 e2 e4 e6 e8
  subst e0 e2 e4 e6 e8 e1 e3 e5 e7 e9
  exact ⟨⟨k, m, S, p, q⟩, rfl, by rw [hx]; rfl, wa, wb, wc, wd, we⟩
set_option maxRecDepth 100000 in
theorem open_toks {H : Type} {enc : TypeId × Value → H} {w : World} {base b0 : Nat} {spare : Nat → Bool} {held : Bool} {r : Reach} {v : Value} {d : DataW H} {ps : List MemPlace} (hval : Value.okWide Tryz.prog w r b0 22 v) (hd : DataW.Trod enc Tryz.prog w base spare held 22 v d ps) :
    ∃ oa n cap rs, v = .slice oa n cap ∧ rs.length = n ∧ n ≤ cap ∧ n ≤ maxLen ∧ TokV w oa rs ∧ (∀ x, oa = some x → x.block < w.heap.size) ∧ (∀ t ∈ rs, t.wf) ∧ (n ≠ 0 → ∃ sp, d = .slice (rs.map RT.dat) sp) := by
  have c38 : Tryz.prog.cellsOf 35 = 5 := by kernel_rfl
  have hok : Cell.ok Tryz.prog w r b0 22 v := by
    have h := hval
    simp only [Value.okWide, Tryz.underlying22, Cell.okWide] at h
    cases v <;> simp_all [Cell.ok]
  obtain ⟨fuel, hf⟩ := hd
  rcases Go.Deep.open_slice Tryz.underlying22 hf with ⟨hc, hx⟩ | ⟨a, len, cap, m, n, D, Pl, hc, _, hl, hm, hmm, hx, hel⟩
  · obtain ⟨oa, len, cap, rfl⟩ := okWide_slice Tryz.underlying22 hval
    simp only [Value.cells, List.cons.injEq, Value.slice.injEq, and_true] at hc
    obtain ⟨rfl, rfl, rfl⟩ := hc
    exact ⟨none, 0, 0, [], rfl, rfl, Nat.le_refl _, Nat.zero_le _, fun h => absurd rfl h, (fun x h => by cases h), (fun t h => by cases h), fun h => absurd rfl h⟩
  · obtain ⟨oa, len', cap', rfl⟩ := okWide_slice Tryz.underlying22 hval
    simp only [Value.cells, List.cons.injEq, Value.slice.injEq, and_true] at hc
    obtain ⟨rfl, rfl, rfl⟩ := hc
    have hlt : a.spot = none ∧ a.block < w.heap.size := by
      simp only [Cell.ok, Tryz.underlying22] at hok
      obtain ⟨_, _, _, hs, row, cells, hsh, _⟩ := hok
      refine ⟨hs, ?_⟩
      unfold World.shape? at hsh
      rcases Nat.lt_or_ge a.block w.heap.size with h | h
      · exact h
      · rw [Array.getElem?_eq_none h] at hsh; cases hsh
    have hlm : len' ≤ m := by rw [hmm]; split <;> omega
    have each : ∀ i, i < m → ∃ t : RT, (∀ j, j < 5 → w.cell? ⟨a.block, a.off + (i * 5 + j), none⟩ = t.cells[j]?) ∧ D i = t.dat ∧ t.wf := by
      intro i hi
      obtain ⟨cs, h1, h2⟩ := hel i hi
      rw [c38] at h1
      obtain ⟨_, hlen, hcell⟩ := World.cells?_some h1
      obtain ⟨t, rfl, he, hw⟩ := open_tok hlen h2
      simp only [Prod.mk.injEq] at he
      refine ⟨t, fun j hj => ?_, he.1, hw⟩
      rw [← hcell j hj]
      rw [Go.Deep.add_add]
      unfold Addr.add
      by_cases h0 : i * 5 + j = 0
      · rw [if_pos h0, h0]
        obtain ⟨b, o, s⟩ := a
        simp only at hlt
        rw [hlt.1]; rfl
      · rw [if_neg h0]
    have hinh : Inhabited RT := ⟨⟨0, 0, ⟨#[]⟩, 0, 0⟩⟩
    obtain ⟨T, hT⟩ := Go.Deep.choose_lt each
    refine ⟨some a, len', cap', (List.range len').map T, rfl, by simp, hl, by omega, fun _ => ?_, (fun x h => by cases h; exact hlt.2), ?_, fun _ => ?_⟩
    · obtain ⟨b, o, s⟩ := a
      simp only at hlt
      obtain ⟨rfl, hb⟩ := hlt
      refine ⟨b, o, rfl, hb, fun i hi j hj => ?_⟩
      have hi' : i < len' := by simpa using hi
      rw [(hT i (by omega)).1 j hj]
      simp
    · intro t ht
      obtain ⟨i, hi, rfl⟩ := List.mem_map.1 ht
      exact (hT i (by have := List.mem_range.1 hi; omega)).2.2
    · simp only [Prod.mk.injEq] at hx
      refine ⟨(List.range (m - len')).map fun j => D (len' + j), hx.1.trans ?_⟩
      congr 1
      rw [List.map_map]
      exact List.map_congr_left fun i hi => (hT i (by have := List.mem_range.1 hi; omega)).2.1
/-- A string in a token of an argument is no longer than what can be reached. -/
theorem sized_toks {H : Type} {ts : List TypeId} {ds : List (DataW H)} (h : (DataW.weightsEach Tryz.prog ts ds).all (· ≤ reachBytes) = true) {j : Nat} {rs : List RT} {sp : List (DataW H)} (ht : ts[j]? = some 22) (hd : ds[j]? = some (.slice (rs.map RT.dat) sp)) (t : RT) (hm : t ∈ rs) : t.s.size ≤ reachBytes := by
  have key : ∀ (l : List RT), t ∈ l → t.s.data.toList.length ∈ DataW.weightsAll (H := H) Tryz.prog 35 (l.map RT.dat) := by
    intro l
    induction l with
    | nil => intro h; cases h
    | cons a l ih =>
      intro hm
      rw [List.map_cons, DataW.weightsAll, List.mem_append]
      rcases List.mem_cons.1 hm with rfl | hm
      · left
        unfold RT.dat DataW.weights
        rw [Tryz.underlying35]
        simp [DataW.weightsEach, DataW.weights]
      · exact .inr (ih hm)
  have := List.all_eq_true.1 h _ (DataW.weights_mem_each ht hd t.s.data.toList.length (by
    unfold DataW.weights
    rw [Tryz.underlying22]
    simp only [List.mem_cons, List.mem_append]
    exact .inr (.inl (key rs hm))))
  have e : t.s.data.toList.length = t.s.size := bts_length t.s
  rw [← e]
  simpa using this
end Go.Proofs.YtcjdacdggklifaaGreatDoor
