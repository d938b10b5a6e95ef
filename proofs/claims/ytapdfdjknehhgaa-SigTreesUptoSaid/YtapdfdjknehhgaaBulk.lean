/- Lists of trees as arguments: opened, with what the bound says of their lengths. -/
import Derived.Test.YtapdfdjknehhgaaOpen
import Derived.Test.YtapdfdjknehhgaaRows
import Derived.Test.YtapdfdjknehhgaaLc
namespace Go.Proofs.Ytapdfdjknehhgaa
open Go.ChangeShapes Go.ChangeMaps Go.WideShapes Go.RowKit Go.Tr

theorem bulk_one {H : Type} (d : DataW H) : 1 ≤ Rows.uptoBulk d := by
  cases d with
  | lit l => cases l <;> simp [Rows.uptoBulk]
  | nil => simp [Rows.uptoBulk]
  | ptr d => simp [Rows.uptoBulk]
  | slice elems spare => simp [Rows.uptoBulk]
  | agg parts => simp [Rows.uptoBulk]
  | iface t d => simp [Rows.uptoBulk]
  | map entries => simp [Rows.uptoBulk]
  | held h => simp [Rows.uptoBulk]
theorem bulk_len {H : Type} (l : List (DataW H)) : l.length ≤ Rows.uptoBulkAll l := by
  induction l with
  | nil => simp [Rows.uptoBulkAll]
  | cons x r ih => have := bulk_one x; simp only [Rows.uptoBulkAll, List.length_cons]; omega
theorem bulk_part {H : Type} {d : DataW H} {l : List (DataW H)} (h : d ∈ l) : Rows.uptoBulk d ≤ Rows.uptoBulkAll l := by
  induction l with
  | nil => cases h
  | cons x r ih =>
    simp only [Rows.uptoBulkAll]
    cases List.mem_cons.1 h with
    | inl e => subst e; omega
    | inr e => have := ih e; omega
theorem bulk_append {H : Type} (l r : List (DataW H)) : Rows.uptoBulkAll (l ++ r) = Rows.uptoBulkAll l + Rows.uptoBulkAll r := by
  induction l with
  | nil => simp [Rows.uptoBulkAll]
  | cons x l ih => simp only [List.cons_append, Rows.uptoBulkAll, ih]; omega
set_option maxRecDepth 100000 in
/-- A list of trees as an argument: it reads as one, is nil or points somewhere, and has no more elements than its bulk. -/
theorem open_termsN {H : Type} {enc : TypeId × Value → H} {w : World} {base b0 : Nat} {spare : Nat → Bool} {held : Bool} {r : Reach} {v : Value} {d : DataW H} {ps : List MemPlace} (hval : Value.okWide Try.prog w r b0 22 v) (hd : DataW.Trod enc Try.prog w base spare held 22 v d ps) :
    ∃ l : List Tm, TrS w (· < w.heap.size) l v ∧ NilS v ∧ l.length ≤ Rows.uptoBulk d := by
  obtain ⟨l, hl⟩ := open_terms hval hd
  refine ⟨l, hl, ?_⟩
  obtain ⟨oa, cap, b, o, rfl, -⟩ := hl
  obtain ⟨fuel, hf⟩ := hd
  rcases DataW.trod_slice Try.underlying22 hf with ⟨h1, h2⟩ | ⟨a, len, c, elems, rest, n, hn, h1, h2, -, -, -, hel, -, -⟩
  · have h1' : Value.slice oa l.length cap = .slice none 0 0 := by simpa [Value.cells] using h1
    simp only [Value.slice.injEq] at h1'
    obtain ⟨rfl, h0, rfl⟩ := h1'
    refine ⟨.inl (by rw [h0]), ?_⟩
    rw [h0]; omega
  · have h1' : Value.slice oa l.length cap = .slice (some a) len c := by simpa [Value.cells] using h1
    simp only [Value.slice.injEq] at h1'
    obtain ⟨rfl, h0, rfl⟩ := h1'
    refine ⟨.inr ⟨a, _, _, rfl⟩, ?_⟩
    have hx := congrArg Prod.fst h2
    simp only at hx
    rw [hx, h0, ← hel]
    have := bulk_len (elems.map (·.1))
    simp only [Rows.uptoBulk]
    rw [List.length_map] at this
    omega
end Go.Proofs.Ytapdfdjknehhgaa
