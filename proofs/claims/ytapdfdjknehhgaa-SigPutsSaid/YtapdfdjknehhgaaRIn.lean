/- The reference's In and Most. -/
import Derived.Test.YtapdfdjknehhgaaVars
import Derived.Test.YtapdfdjknehhgaaTx
namespace Go.Proofs.Ytapdfdjknehhgaa
open Go.RowKit Go.Tr

set_option maxRecDepth 100000 in
theorem RIn_any {P : Nat → Prop} (l : List Int) (n : Int) (s : Value) (w : World) (h : IntS w P l s) :
    Calls Try.prog 40 #[s, .int .i64 n] w fun e w' => e = .returned (.bool (decide (n ∈ l))) ∧ w' = w := by
  obtain ⟨oa, cap, b, o, rfl, hlc, hcm, hoa, hel⟩ := h
  have H := Lib.hid (And.intro hoa hel)
  clear hoa hel
  go_enter Try.func40, Try.ntmps40
  go_wp2_with fail
  go_loopw [5] (fun i wr => ∃ k : Nat, k ≤ l.length ∧ i = .int .i64 k ∧ wr = w ∧ Hid (decide (n ∈ l) = decide (n ∈ l.drop k))) (fun i _ => l.length - (intOf i).toNat)
  case atStart => exact ⟨0, by omega, rfl, rfl, rfl⟩
  case round =>
    obtain ⟨k, hk, rfl, rfl, HI⟩ := hrel
    by_cases hlt : k < l.length
    · obtain ⟨rfl, -⟩ := H.out.1 (by omega)
      have d0 := H.out.2 k hlt
      have i0 : (0 : Int) ≤ (k : Int) := Int.natCast_nonneg _
      have i1 : (k : Int) < (l.length : Int) := by omega
      have hdr : decide (n ∈ l.drop k) = (decide (n = l[k]) || decide (n ∈ l.drop (k + 1))) := by
        rw [List.drop_eq_getElem_cons hlt, ← Bool.decide_or]; simp only [List.mem_cons]
      obtain ⟨x, hx⟩ : ∃ x, x = l[k] := ⟨_, rfl⟩
      rw [← hx] at d0 hdr
      have HX := Lib.hid (And.intro hdr hx)
      clear hdr hx
      by_cases he : x = n
      · have hb1 : (x == n) = true := by simp [he]
        have hres : decide (n ∈ l) = true := by rw [HI.out, HX.out.1]; simp [he]
        have HR := Lib.hid hres
        clear hres he
        go_wp2_with fail
        go_ret
        rw [HR.out]
        exact ⟨rfl, rfl⟩
      · have hb1 : (x == n) = false := by simp [he]
        have hres : decide (n ∈ l) = decide (n ∈ l.drop (k + 1)) := by
          rw [HI.out, HX.out.1, show decide (n = x) = false from decide_eq_false (fun e => he e.symm), Bool.false_or]
        have HR := Lib.hid hres
        clear hres he
        go_wp2_with fail
        go_roundw
        case rel => exact ⟨k + 1, by omega, by go_num, by first | rfl | trivial, HR.out⟩
        case measure => simp [intOf]; omega
    · have hres : decide (n ∈ l) = false := by rw [HI.out, List.drop_eq_nil_of_le (by omega)]; rfl
      have HR := Lib.hid hres
      clear hres
      go_wp2_with fail
      go_ret
      rw [HR.out]
      exact ⟨rfl, rfl⟩
theorem most_drop (l : List Int) (k : Nat) (hk : k < l.length) : most (l.take (k + 1)) = max (most (l.take k)) l[k] := by
  rw [List.take_succ_eq_append_getElem hk]
  unfold most
  rw [List.foldl_append]; rfl
set_option maxRecDepth 100000 in
theorem RMost_any {P : Nat → Prop} (l : List Int) (s : Value) (w : World) (h : IntS w P l s) :
    Calls Try.prog 65 #[s] w fun e w' => e = .returned (.int .i64 (most l)) ∧ w' = w := by
  obtain ⟨oa, cap, b, o, rfl, hlc, hcm, hoa, hel⟩ := h
  have H := Lib.hid (And.intro hoa hel)
  clear hoa hel
  go_enter Try.func65, Try.ntmps65
  go_wp2_with fail
  go_loopw [3, 4] (fun m i wr => ∃ k : Nat, k ≤ l.length ∧ m = .int .i64 (most (l.take k)) ∧ i = .int .i64 k ∧ wr = w) (fun _ i _ => l.length - (intOf i).toNat)
  case atStart => exact ⟨0, by omega, rfl, rfl, rfl⟩
  case round =>
    obtain ⟨k, hk, rfl, rfl, rfl⟩ := hrel
    by_cases hlt : k < l.length
    · obtain ⟨rfl, -⟩ := H.out.1 (by omega)
      have d0 := H.out.2 k hlt
      have i0 : (0 : Int) ≤ (k : Int) := Int.natCast_nonneg _
      have i1 : (k : Int) < (l.length : Int) := by omega
      have HD := Lib.hid (most_drop l k hlt)
      go_wp2_with fail
      go_roundw
      case rel => exact ⟨k + 1, by omega, by rw [HD.out]; congr 1; split <;> omega, by go_num, by first | rfl | trivial⟩
      case measure => simp [intOf]; omega
    · have hk2 : k = l.length := by omega
      subst hk2
      go_wp2_with fail
      go_ret
      exact ⟨by rw [List.take_length]; rfl, rfl⟩
end Go.Proofs.Ytapdfdjknehhgaa
