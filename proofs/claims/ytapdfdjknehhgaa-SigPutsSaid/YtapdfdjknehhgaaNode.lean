/- The node at a place. -/
import Derived.Test.YtapdfdjknehhgaaRpl
namespace Go.Proofs.Ytapdfdjknehhgaa
open Go.RowKit Go.Tr

def nodeT : Tm → List Int → Option Tm
  | t, [] => some t
  | t, i :: r => if h : 0 ≤ i ∧ i.toNat < t.l.length then nodeT t.l[i.toNat] r else none
/-- A tree lies where a pointer points to. -/
def PtrT (w : World) (P : Nat → Prop) (t : Tm) (b o : Nat) : Prop := ∃ oa cap, w.cell? ⟨b, o, none⟩ = some (.int .i64 t.k) ∧ w.cell? ⟨b, o + 1, none⟩ = some (.int .i64 t.n) ∧ w.cell? ⟨b, o + 2, none⟩ = some (.slice oa t.l.length cap) ∧ TrV w P t (.agg #[.int .i64 t.k, .int .i64 t.n, .slice oa t.l.length cap])
def NodeP (t : Tm) (l : List Int) (w : World) (P : Nat → Prop) (e : Ending) (w' : World) : Prop :=
  w' = w ∧ ((nodeT t l = none ∧ e = .returned (.pointer none)) ∨ ∃ u b o, nodeT t l = some u ∧ e = .returned (.pointer (some ⟨b, o, none⟩)) ∧ PtrT w P u b o)
set_option maxRecDepth 100000 in
theorem node_any {P P2 : Nat → Prop} (t : Tm) (l : List Int) (b o : Nat) (s : Value) (w : World) (ht : PtrT w P t b o) (hs : IntS w P2 l s) (hl : ∀ n ∈ l, inI n) :
    Calls Try.prog 75 #[.pointer (some ⟨b, o, none⟩), s] w (NodeP t l w P) := by
  obtain ⟨oi, capi, bi, oj, rfl, hil, him, hio, hie⟩ := hs
  have H := Lib.hid (And.intro ht (And.intro hio (And.intro hie hl)))
  clear ht hio hie hl
  go_enter Try.func75, Try.ntmps75
  go_wp2_with fail
  go_loopw [0, 9] (fun p i wr => ∃ (k : Nat) (tk : Tm) (bk ok : Nat), k ≤ l.length ∧ p = .pointer (some ⟨bk, ok, none⟩) ∧ i = .int .i64 k ∧ wr = w ∧ Hid (nodeT t l = nodeT tk (l.drop k) ∧ PtrT w P tk bk ok)) (fun _ i _ => l.length - (intOf i).toNat)
  case atStart => exact ⟨0, t, b, o, by omega, rfl, rfl, rfl, rfl, H.out.1⟩
  case round =>
    obtain ⟨k, tk, bk, ok, hk, rfl, rfl, rfl, HI⟩ := hrel
    obtain ⟨oa, cap, c0, c1, c2, hv⟩ := HI.out.2
    obtain ⟨oa', cap', b1, o1, he, hlc, hcm, hoa, hel⟩ := trS_at (by obtain ⟨sl, h1, -, -, h2⟩ := trV_iff.1 hv; cases h1; exact h2)
    cases he
    have HEL := Lib.hid (And.intro hoa hel)
    clear hv hoa hel
    by_cases hlt : k < l.length
    · have hdr : l.drop k = l[k] :: l.drop (k + 1) := List.drop_eq_getElem_cons hlt
      obtain ⟨rfl, -⟩ := H.out.2.1 (by omega)
      have d0 := H.out.2.2.1 k hlt
      have hin := H.out.2.2.2 _ (List.getElem_mem hlt)
      unfold inI at hin
      have j0 : (0 : Int) ≤ (k : Int) := Int.natCast_nonneg _
      have j1 : (k : Int) < (l.length : Int) := by omega
      obtain ⟨m, hm⟩ : ∃ m, m = l[k] := ⟨_, rfl⟩
      rw [← hm] at d0 hdr hin
      have HM := Lib.hid (And.intro hdr hm)
      clear hdr hm
      by_cases hneg : m < 0
      · have hno : nodeT t l = none := by rw [HI.out.1, HM.out.1, nodeT, dif_neg (by omega)]
        have HN := Lib.hid hno
        clear hno
        go_wp2_with fail
        go_ret
        exact ⟨rfl, .inl ⟨HN.out, rfl⟩⟩
      · have hnn : ¬ m < 0 := hneg
        have hnn2 : (0 : Int) ≤ m := by omega
        by_cases hge : (tk.l.length : Int) ≤ m
        · have hno : nodeT t l = none := by rw [HI.out.1, HM.out.1, nodeT, dif_neg (by omega)]
          have HN := Lib.hid hno
          clear hno
          go_wp2_with fail
          go_ret
          exact ⟨rfl, .inl ⟨HN.out, rfl⟩⟩
        · have hlm : m < (tk.l.length : Int) := by omega
          obtain ⟨i, rfl⟩ : ∃ i : Nat, m = i := ⟨m.toNat, by omega⟩
          have hi : i < tk.l.length := by omega
          obtain ⟨rfl, -⟩ := HEL.out.1 (by omega)
          obtain ⟨oa3, cap3, x0, x1, x2, x3⟩ := HEL.out.2 i hi
          have hyes : nodeT t l = nodeT tk.l[i] (l.drop (k + 1)) := by
            rw [HI.out.1, HM.out.1, nodeT, dif_pos ⟨by omega, by simpa using hi⟩]; simp
          have HN := Lib.hid (And.intro hyes (And.intro x0 (And.intro x1 (And.intro x2 x3))))
          clear hyes x0 x1 x2 x3
          go_wp2_with fail
          go_roundw
          case rel => exact ⟨k + 1, tk.l[i], b1, o1 + i * 3, by omega, by first | rfl | trivial, by go_num, by first | rfl | trivial, HN.out.1, oa3, cap3, HN.out.2.1, HN.out.2.2.1, HN.out.2.2.2.1, HN.out.2.2.2.2⟩
          case measure => simp [intOf]; omega
    · have hyes : nodeT t l = some tk := by rw [HI.out.1, List.drop_eq_nil_of_le (by omega), nodeT]
      have HN := Lib.hid hyes
      clear hyes
      go_wp2_with fail
      go_ret
      exact ⟨rfl, .inr ⟨tk, bk, ok, HN.out, rfl, HI.out.2⟩⟩
end Go.Proofs.Ytapdfdjknehhgaa
