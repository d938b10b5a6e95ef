/- LexLongest: the walk. -/
import Derived.Test.YtkghbecfjeldcaaDoorRef9
import Derived.Test.YtkghbecfjeldcaaDoorPlace1
import Derived.Test.YtkghbecfjeldcaaDoorBoth
namespace Go.Proofs.YtkghbecfjeldcaaDoor
open Go.RowKit

theorem belowA2 {w W : World} (o : Obj) (h : Below w.heap.size w W) : Below w.heap.size w (W.alloc o) := h.alloc h.size o
theorem belowN2 {B : Nat} {w W : World} (n : Nat) (h : Below B w W) : Below B w (W.drewN n) := ⟨h.os, h.tape, h.output, h.size, h.block⟩
theorem belowD2 {B : Nat} {w W : World} (h : Below B w W) : Below B w W.drew := ⟨h.os, h.tape, h.output, h.size, h.block⟩
set_option maxRecDepth 100000 in
set_option maxHeartbeats 2000000 in
theorem LexLongest_any (a : ByteArray) (ha : a.size ≤ 140737488355328) (w : World) : Calls Tryd.prog 5 #[.string a] w fun e w' => e = .returned (.bool true) ∧ Below w.heap.size w w' := by
  go_enter Tryd.func5, Tryd.ntmps5
  go_wp2_with fail
  refine (sane_any _).mono ?_
  rintro e w1 ⟨rfl, hb1⟩
  have hsh := short_any [a] 1 rfl (by omega) (by intro s hs; simp only [List.mem_cons, List.not_mem_nil, or_false] at hs; subst hs; assumption) w1.heap.size 1 9 (w1.alloc (.cells #[.string a] 9)) (heap_alloc_new w1 _)
  have hb2 : Below w.heap.size w (w1.alloc (.cells #[.string a] 9)) := hb1.alloc hb1.size _
  have HSH := Lib.hid hsh
  have HB2 := Lib.hid hb2
  clear hb1 hsh hb2 ha
  go_wp2_with fail
  refine HSH.out.mono ?_
  rintro e w' ⟨rfl, rfl⟩
  generalize (w1.alloc (.cells #[.string a] 9)) = w2 at *
  clear HSH
  by_cases hd : total [a] ≤ 20000
  · rw [show decide (total [a] ≤ 20000) = true from by simpa using hd]
    have hsz : a.size ≤ 20000 := by simpa [total] using hd
    clear hd
    have HTK := Lib.hid (tokens_s a hsz w2)
    go_wp2_with fail
    refine HTK.out.mono ?_
    rintro e w3 ⟨hb3, h⟩
    have HB3 := Lib.hid (below_le HB2.out hb3 HB2.out.size)
    clear hb3 HTK
    rcases h with ⟨p, hT, rfl⟩ | ⟨l, hT, hl, v, rfl, hown⟩
    · clear hT
      unfold three
      go_wp2_with fail
      go_ret
      exact ⟨rfl, HB3.out⟩
    · obtain ⟨a0, cap0, rfl, hcap⟩ := owns_form hown
      have htv := tokV_owned hown
      have HT := Lib.hid (And.intro hT (And.intro hl htv))
      clear hT hown htv
      unfold three
      obtain ⟨n, hn⟩ : ∃ n, l.length = n := ⟨_, rfl⟩
      rw [hn] at hl hcap ⊢
      have HN := Lib.hid hn
      clear hn
      go_wp2_with fail
      go_loopw [24] (fun v wr => ∃ k : Nat, k ≤ n ∧ v = .int .i64 k ∧ Below w3.heap.size w3 wr) (fun v _ => n - (intOf v).toNat)
      case atStart => exact ⟨0, by omega, rfl, Below.refl _ _⟩
      case round =>
        obtain ⟨k, hk, rfl, hbw⟩ := hrel
        have HBW := Lib.hid hbw
        by_cases hlt : k < n
        · have hkl : k < l.length := by have := HN.out; omega
          have hkm : k < (l.map rt).length := by rw [List.length_map]; exact hkl
          obtain ⟨g, off, rfl, hgl, hce⟩ := HT.out.2.2 (by rw [List.length_map]; omega)
          have e1 : ∀ j, j < 5 → wr.cell? ⟨g, off + (k * 5 + j), none⟩ = (rt l[k]).cells[j]? := fun j hj => by
            have h1 := hce k hkm j hj
            rw [List.getElem_map] at h1
            exact (World.cell?_of_block (w := w3) (a := ⟨g, off + (k * 5 + j), none⟩) (hbw.block g hgl)).trans h1
          obtain ⟨f1, f2, f3, f4, -, -, -, f5⟩ := tok_facts a l HT.out.1 k hkl _ rfl
          generalize l[k] = t at *
          obtain ⟨tk, tn, tst, ta, tf⟩ := t
          simp only at f1 f2 f3 f4 f5
          have a0' := e1 0 (by omega)
          have a1 := e1 1 (by omega)
          have a2 := e1 2 (by omega)
          have a3 := e1 3 (by omega)
          have a4 := e1 4 (by omega)
          simp only [rt, RT.cells, List.getElem?_cons_zero, List.getElem?_cons_succ, Nat.add_zero, ← Nat.add_assoc] at a0' a1 a2 a3 a4
          have F := Lib.hid (And.intro f4 f5)
          clear e1 hce hbw f1 f4 f5 hkm
          have i1 : (ta : Int) < (tf : Int) := by omega
          have i2 : (tf : Int) ≤ (a.size : Int) := by omega
          have i3 : (0 : Int) ≤ (ta : Int) := Int.natCast_nonneg _
          have i4 : (0 : Int) ≤ (tf : Int) := Int.natCast_nonneg _
          have i5 : (ta : Int) ≤ (tf : Int) := by omega
          by_cases h300 : 300 < k
          · have h301 : (300 : Int) < (k : Int) := by omega
            go_wp2_with fail
            go_ret
            exact ⟨rfl, below_le HB3.out (HBW.out.alloc HBW.out.size _) HB3.out.size⟩
          · have h301 : (k : Int) ≤ (300 : Int) := by omega
            by_cases hf : tf < a.size
            · have hf2 : (tf : Int) < (a.size : Int) := by omega
              obtain ⟨q, hq⟩ : ∃ q, tf + 1 = q := ⟨_, rfl⟩
              have q1 : (tf : Int) + 1 = (q : Int) := by omega
              have q2 : (ta : Int) ≤ (q : Int) := by omega
              have q3 : (q : Int) ≤ (a.size : Int) := by omega
              have q4 : (0 : Int) ≤ (q : Int) := by omega
              have hrk := fun w => rKind_any (a.extract ta q) (by simp; omega) w
              rw [← hq, F.out.2 hf] at hrk
              rw [hq] at hrk
              have HRK := Lib.hid hrk
              have hne : ((0 : Int) == (tk : Int)) = false := by rw [beq_eq_false_iff_ne]; have := F.out.1; omega
              have hwq : IntKind.i64.wrap (q : Int) = (q : Int) := IntWalk.i64_in _ (by omega)
              clear hrk hq
              go_wp2_with fail
              generalize hWt : (wr.alloc (.cells #[.int .i64 tk, .int .i64 tn, .string (ofB tst), .int .i64 ta, .int .i64 tf] 31)) = Wt
              have hh : Wt.heap[wr.heap.size]? = some (.cells #[.int .i64 tk, .int .i64 tn, .string (ofB tst), .int .i64 ta, .int .i64 tf] 31) := by subst hWt; exact heap_alloc_new wr _
              have hbt : Below w3.heap.size w3 Wt := by subst hWt; exact HBW.out.alloc HBW.out.size _
              have hkeep : ∀ W, Below Wt.heap.size Wt W → W.cell? ⟨wr.heap.size, 0, none⟩ = some (.int .i64 tk) ∧ W.cell? ⟨wr.heap.size, 3, none⟩ = some (.int .i64 ta) ∧ W.cell? ⟨wr.heap.size, 4, none⟩ = some (.int .i64 tf) := fun W hb => by
                have hx : W.heap[wr.heap.size]? = some (.cells #[.int .i64 tk, .int .i64 tn, .string (ofB tst), .int .i64 ta, .int .i64 tf] 31) := (hb.block wr.heap.size (Array.getElem?_eq_some_iff.1 hh).1).trans hh
                exact ⟨by rw [(cells_of hx 0).1]; rfl, by rw [(cells_of hx 3).1]; rfl, by rw [(cells_of hx 4).1]; rfl⟩
              have HK := Lib.hid hkeep
              have HBT := Lib.hid hbt
              clear hWt hh hbt hkeep a0' a1 a2 a3 a4
              generalize wr.heap.size = gb at *
              refine wp_region_held_drew (S := fun W => W.cell? ⟨gb, 0, none⟩ = some (.int .i64 tk) ∧ W.cell? ⟨gb, 3, none⟩ = some (.int .i64 ta) ∧ W.cell? ⟨gb, 4, none⟩ = some (.int .i64 tf)) (by kernel_rfl) ?_ (fun hHeld => ?_)
              · exact HK.out _ (belowD2 (Below.refl _ _))
              refine wpAnyH_take (i := 0) (v := ?_) rfl (by kernel_rfl) (by kernel_rfl) (by kernel_rfl) (fun _ _ _ h => h) (Or.inl ⟨rfl, ?_⟩) (by assumption) ?_
              rotate_left
              · (intro w hSw; (try dsimp only at hSw); go_simp; try with_reducible rfl)
              simp only [Act.put, List.setIfInBounds_toArray, List.set_cons_zero, List.set_cons_succ, List.getElem_toArray, List.getElem_cons_zero]
              refine wpAnyH_take (i := 1) (v := ?_) rfl (by kernel_rfl) (by kernel_rfl) (by kernel_rfl) (fun _ _ _ h => h) (Or.inl ⟨rfl, ?_⟩) (by assumption) ?_
              rotate_left
              · (intro w hSw; (try dsimp only at hSw); go_simp; try with_reducible rfl)
              simp only [Act.put, List.setIfInBounds_toArray, List.set_cons_zero, List.set_cons_succ, List.getElem_toArray, List.getElem_cons_zero, List.getElem_cons_succ]
              refine wpAnyH_take (i := 2) (v := ?_) rfl (by kernel_rfl) (by kernel_rfl) (by kernel_rfl) (fun _ _ _ h => h) (Or.inl ⟨rfl, ?_⟩) (by assumption) ?_
              rotate_left
              · (intro w hSw; (try dsimp only at hSw); go_simp; try with_reducible rfl)
              simp only [Act.put, List.setIfInBounds_toArray, List.set_cons_zero, List.set_cons_succ, List.getElem_toArray, List.getElem_cons_zero, List.getElem_cons_succ]
              refine wpAnyH_take (i := 3) (v := ?_) rfl (by kernel_rfl) (by kernel_rfl) (by kernel_rfl) (fun _ _ _ h => h) (Or.inl ⟨rfl, ?_⟩) (by assumption) ?_
              rotate_left
              · (intro w hSw; (try dsimp only at hSw); go_simp; try with_reducible rfl)
              simp only [Act.put, List.setIfInBounds_toArray, List.set_cons_zero, List.set_cons_succ, List.getElem_toArray, List.getElem_cons_zero, List.getElem_cons_succ]
              refine wpAnyH_take (i := 4) (v := ?_) rfl (by kernel_rfl) (by kernel_rfl) (by kernel_rfl) (fun _ _ _ h => h) (Or.inl ⟨rfl, ?_⟩) (by assumption) ?_
              rotate_left
              · (intro w hSw; (try dsimp only at hSw); go_simp; try with_reducible rfl)
              simp only [Act.put, List.setIfInBounds_toArray, List.set_cons_zero, List.set_cons_succ, List.getElem_toArray, List.getElem_cons_zero, List.getElem_cons_succ]
              refine wpAnyH_take (i := 5) (v := ?_) rfl (by kernel_rfl) (by kernel_rfl) (by kernel_rfl) (fun _ _ _ h => h) (Or.inl ⟨rfl, ?_⟩) (by assumption) ?_
              rotate_left
              · (intro w hSw; (try dsimp only at hSw); go_simp; try with_reducible rfl)
              simp only [Act.put, List.setIfInBounds_toArray, List.set_cons_zero, List.set_cons_succ, List.getElem_toArray, List.getElem_cons_zero, List.getElem_cons_succ]
              refine wpAnyH_take (i := 6) (v := ?_) rfl (by kernel_rfl) (by kernel_rfl) (by kernel_rfl) (fun _ _ _ h => h) (Or.inl ⟨rfl, ?_⟩) (by assumption) ?_
              rotate_left
              · (intro w hSw; (try dsimp only at hSw); go_simp; try with_reducible rfl)
              simp only [Act.put, List.setIfInBounds_toArray, List.set_cons_zero, List.set_cons_succ, List.getElem_toArray, List.getElem_cons_zero, List.getElem_cons_succ]
              refine wpAnyH_take (i := 7) (v := ?_) rfl (by kernel_rfl) (by kernel_rfl) (by kernel_rfl) (fun _ _ _ h => h) (Or.inl ⟨rfl, ?_⟩) (by assumption) ?_
              rotate_left
              · (intro w hSw; (try dsimp only at hSw); go_simp; try with_reducible rfl)
              simp only [Act.put, List.setIfInBounds_toArray, List.set_cons_zero, List.set_cons_succ, List.getElem_toArray, List.getElem_cons_zero, List.getElem_cons_succ]
              refine wpAnyH_take (i := 8) (v := ?_) rfl (by kernel_rfl) (by kernel_rfl) (by kernel_rfl) (fun _ _ _ h => h) (Or.inl ⟨rfl, ?_⟩) (by assumption) ?_
              rotate_left
              · (intro w hSw; (try dsimp only at hSw); go_simp; try with_reducible rfl)
              simp only [Act.put, List.setIfInBounds_toArray, List.set_cons_zero, List.set_cons_succ, List.getElem_toArray, List.getElem_cons_zero, List.getElem_cons_succ]
              refine wpAnyH_take (i := 9) (v := ?_) rfl (by kernel_rfl) (by kernel_rfl) (by kernel_rfl) (fun _ _ _ h => h) (Or.inl ⟨rfl, ?_⟩) (by assumption) ?_
              rotate_left
              · (intro w hSw; (try dsimp only at hSw); go_simp; try with_reducible rfl)
              simp only [Act.put, List.setIfInBounds_toArray, List.set_cons_zero, List.set_cons_succ, List.getElem_toArray, List.getElem_cons_zero, List.getElem_cons_succ]
              refine wpAnyH_take (i := 10) (v := ?_) rfl (by kernel_rfl) (by kernel_rfl) (by kernel_rfl) (fun _ _ _ h => h) (Or.inl ⟨rfl, ?_⟩) (by assumption) ?_
              rotate_left
              · (intro w hSw; (try dsimp only at hSw); go_simp; try with_reducible rfl)
              simp only [Act.put, List.setIfInBounds_toArray, List.set_cons_zero, List.set_cons_succ, List.getElem_toArray, List.getElem_cons_zero, List.getElem_cons_succ]
              refine wpAnyH_take (i := 11) (v := ?_) rfl (by kernel_rfl) (by kernel_rfl) (by kernel_rfl) (fun _ _ _ h => h) (Or.inl ⟨rfl, ?_⟩) (by assumption) ?_
              rotate_left
              · (intro w hSw; (try dsimp only at hSw); go_simp; try with_reducible rfl)
              simp only [Act.put, List.setIfInBounds_toArray, List.set_cons_zero, List.set_cons_succ, List.getElem_toArray, List.getElem_cons_zero, List.getElem_cons_succ]
              refine wpAnyH_take (i := 12) (v := ?_) rfl (by kernel_rfl) (by kernel_rfl) (by kernel_rfl) (fun _ _ _ h => h) (Or.inl ⟨rfl, ?_⟩) (by assumption) ?_
              rotate_left
              · (intro w hSw; (try dsimp only at hSw); go_simp; try with_reducible rfl)
              simp only [Act.put, List.setIfInBounds_toArray, List.set_cons_zero, List.set_cons_succ, List.getElem_toArray, List.getElem_cons_zero, List.getElem_cons_succ]
              refine wpAnyH_take (i := 14) (v := ?_) rfl (by kernel_rfl) (by kernel_rfl) (by kernel_rfl) (fun _ _ _ h => h) (Or.inl ⟨rfl, ?_⟩) (by assumption) ?_
              rotate_left
              · (intro w hSw; (try dsimp only at hSw); go_simp; try with_reducible rfl)
              simp only [Act.put, List.setIfInBounds_toArray, List.set_cons_zero, List.set_cons_succ, List.getElem_toArray, List.getElem_cons_zero, List.getElem_cons_succ]
              refine wpAnyH_take (i := 15) (v := ?_) rfl (by kernel_rfl) (by kernel_rfl) (by kernel_rfl) (fun _ _ _ h => h) (Or.inl ⟨rfl, ?_⟩) (by assumption) ?_
              rotate_left
              · (intro w hSw; (try dsimp only at hSw); go_simp; try with_reducible rfl)
              simp only [Act.put, List.setIfInBounds_toArray, List.set_cons_zero, List.set_cons_succ, List.getElem_toArray, List.getElem_cons_zero, List.getElem_cons_succ]
              refine wpAnyH_ready (rs := [13]) (by kernel_rfl) (by simp) ?_
              refine AllReadyH.cons rfl (fun K hK => ?_) AllReadyH.nil
              go_simp
              go_at_call 17
              refine (HRK.out _).mono ?_
              rintro e w' ⟨rfl, hb'⟩
              go_wp2_with fail
              refine hK.out _ _ ?_ (fun hHeld => ?_)
              · exact HK.out _ (below_le (B := Wt.heap.size) (a := Wt) (belowD2 (Below.refl _ _)) hb' (Nat.le_refl _))
              clear hK K
              try simp only [Act.put, List.setIfInBounds_toArray, List.set_cons_zero, List.set_cons_succ, List.getElem_toArray, List.getElem_cons_zero, List.getElem_cons_succ]
              refine wpAnyH_take (i := 16) (v := ?_) rfl (by kernel_rfl) (by kernel_rfl) (by kernel_rfl) (fun _ _ _ h => h) (Or.inl ⟨rfl, ?_⟩) (by assumption) ?_
              rotate_left
              · (intro w hSw; (try dsimp only at hSw); go_simp; try with_reducible rfl)
              simp only [Act.put, List.setIfInBounds_toArray, List.set_cons_zero, List.set_cons_succ, List.getElem_toArray, List.getElem_cons_zero, List.getElem_cons_succ]
              refine wpAnyH_take (i := 17) (v := ?_) rfl (by kernel_rfl) (by kernel_rfl) (by kernel_rfl) (fun _ _ _ h => h) (Or.inl ⟨rfl, ?_⟩) (by assumption) ?_
              rotate_left
              · (intro w hSw; (try dsimp only at hSw); go_simp; try with_reducible rfl)
              simp only [Act.put, List.setIfInBounds_toArray, List.set_cons_zero, List.set_cons_succ, List.getElem_toArray, List.getElem_cons_zero, List.getElem_cons_succ]
              refine wpAnyH_take (i := 18) (v := ?_) rfl (by kernel_rfl) (by kernel_rfl) (by kernel_rfl) (fun _ _ _ h => h) (Or.inl ⟨rfl, ?_⟩) (by assumption) ?_
              rotate_left
              · (intro w hSw; (try dsimp only at hSw); go_simp; try with_reducible rfl)
              simp only [Act.put, List.setIfInBounds_toArray, List.set_cons_zero, List.set_cons_succ, List.getElem_toArray, List.getElem_cons_zero, List.getElem_cons_succ]
              refine wpAnyH_take (i := 19) (v := undef) rfl (by kernel_rfl) (by kernel_rfl) (by kernel_rfl) (fun _ _ _ h => h) (Or.inr ⟨rfl, rfl⟩) (by assumption) ?_
              simp only [Act.put, List.setIfInBounds_toArray, List.set_cons_zero, List.set_cons_succ, List.getElem_toArray, List.getElem_cons_zero, List.getElem_cons_succ]
              refine wpAnyH_take (i := 20) (v := undef) rfl (by kernel_rfl) (by kernel_rfl) (by kernel_rfl) (fun _ _ _ h => h) (Or.inr ⟨rfl, rfl⟩) (by assumption) ?_
              simp only [Act.put, List.setIfInBounds_toArray, List.set_cons_zero, List.set_cons_succ, List.getElem_toArray, List.getElem_cons_zero, List.getElem_cons_succ]
              refine wpAnyH_take (i := 21) (v := undef) rfl (by kernel_rfl) (by kernel_rfl) (by kernel_rfl) (fun _ _ _ h => h) (Or.inr ⟨rfl, rfl⟩) (by assumption) ?_
              simp only [Act.put, List.setIfInBounds_toArray, List.set_cons_zero, List.set_cons_succ, List.getElem_toArray, List.getElem_cons_zero, List.getElem_cons_succ]
              refine wpAnyH_take (i := 22) (v := undef) rfl (by kernel_rfl) (by kernel_rfl) (by kernel_rfl) (fun _ _ _ h => h) (Or.inr ⟨rfl, rfl⟩) (by assumption) ?_
              simp only [Act.put, List.setIfInBounds_toArray, List.set_cons_zero, List.set_cons_succ, List.getElem_toArray, List.getElem_cons_zero, List.getElem_cons_succ]
              refine wpAnyH_take (i := 23) (v := undef) rfl (by kernel_rfl) (by kernel_rfl) (by kernel_rfl) (fun _ _ _ h => h) (Or.inr ⟨rfl, rfl⟩) (by assumption) ?_
              simp only [Act.put, List.setIfInBounds_toArray, List.set_cons_zero, List.set_cons_succ, List.getElem_toArray, List.getElem_cons_zero, List.getElem_cons_succ]
              refine wpAnyH_take (i := 24) (v := undef) rfl (by kernel_rfl) (by kernel_rfl) (by kernel_rfl) (fun _ _ _ h => h) (Or.inr ⟨rfl, rfl⟩) (by assumption) ?_
              simp only [Act.put, List.setIfInBounds_toArray, List.set_cons_zero, List.set_cons_succ, List.getElem_toArray, List.getElem_cons_zero, List.getElem_cons_succ]
              refine wpAnyH_take (i := 25) (v := undef) rfl (by kernel_rfl) (by kernel_rfl) (by kernel_rfl) (fun _ _ _ h => h) (Or.inr ⟨rfl, rfl⟩) (by assumption) ?_
              simp only [Act.put, List.setIfInBounds_toArray, List.set_cons_zero, List.set_cons_succ, List.getElem_toArray, List.getElem_cons_zero, List.getElem_cons_succ]
              refine wpAnyH_take (i := 26) (v := undef) rfl (by kernel_rfl) (by kernel_rfl) (by kernel_rfl) (fun _ _ _ h => h) (Or.inr ⟨rfl, rfl⟩) (by assumption) ?_
              simp only [Act.put, List.setIfInBounds_toArray, List.set_cons_zero, List.set_cons_succ, List.getElem_toArray, List.getElem_cons_zero, List.getElem_cons_succ]
              refine wpAnyH_take (i := 27) (v := undef) rfl (by kernel_rfl) (by kernel_rfl) (by kernel_rfl) (fun _ _ _ h => h) (Or.inr ⟨rfl, rfl⟩) (by assumption) ?_
              simp only [Act.put, List.setIfInBounds_toArray, List.set_cons_zero, List.set_cons_succ, List.getElem_toArray, List.getElem_cons_zero, List.getElem_cons_succ]
              refine wpAnyH_take (i := 28) (v := ?_) rfl (by kernel_rfl) (by kernel_rfl) (by kernel_rfl) (fun _ _ _ h => h) (Or.inl ⟨rfl, ?_⟩) (by assumption) ?_
              rotate_left
              · (intro w hSw; (try dsimp only at hSw); go_simp; try with_reducible rfl)
              simp only [Act.put, List.setIfInBounds_toArray, List.set_cons_zero, List.set_cons_succ, List.getElem_toArray, List.getElem_cons_zero, List.getElem_cons_succ]
              refine wpAnyH_done (by kernel_rfl) ?_ _
              go_wp2_with fail
              go_roundw
              case rel => exact ⟨k + 1, by omega, by go_num, below_le HBT.out (below_le (B := Wt.heap.size) (a := Wt) (belowD2 (Below.refl _ _)) hb' (Nat.le_refl _)) HBT.out.size⟩
              case measure => simp [intOf]; omega
            · have hf2 : ¬ (tf : Int) < (a.size : Int) := by omega
              go_wp2_with fail
              generalize hWt : (wr.alloc (.cells #[.int .i64 tk, .int .i64 tn, .string (ofB tst), .int .i64 ta, .int .i64 tf] 31)) = Wt
              have hh : Wt.heap[wr.heap.size]? = some (.cells #[.int .i64 tk, .int .i64 tn, .string (ofB tst), .int .i64 ta, .int .i64 tf] 31) := by subst hWt; exact heap_alloc_new wr _
              have hbt : Below w3.heap.size w3 Wt := by subst hWt; exact HBW.out.alloc HBW.out.size _
              have hkeep : ∀ W, Below Wt.heap.size Wt W → W.cell? ⟨wr.heap.size, 0, none⟩ = some (.int .i64 tk) ∧ W.cell? ⟨wr.heap.size, 3, none⟩ = some (.int .i64 ta) ∧ W.cell? ⟨wr.heap.size, 4, none⟩ = some (.int .i64 tf) := fun W hb => by
                have hx : W.heap[wr.heap.size]? = some (.cells #[.int .i64 tk, .int .i64 tn, .string (ofB tst), .int .i64 ta, .int .i64 tf] 31) := (hb.block wr.heap.size (Array.getElem?_eq_some_iff.1 hh).1).trans hh
                exact ⟨by rw [(cells_of hx 0).1]; rfl, by rw [(cells_of hx 3).1]; rfl, by rw [(cells_of hx 4).1]; rfl⟩
              have HK := Lib.hid hkeep
              have HBT := Lib.hid hbt
              clear hWt hh hbt hkeep a0' a1 a2 a3 a4
              generalize wr.heap.size = gb at *
              have c0 := (HK.out Wt (Below.refl _ _)).1
              have c3 := (HK.out Wt (Below.refl _ _)).2.1
              have c4 := (HK.out Wt (Below.refl _ _)).2.2
              go_quiet (fail)
              go_wp2_with fail
              go_roundw
              case rel => exact ⟨k + 1, by omega, by go_num, belowN2 _ HBT.out⟩
              case measure => simp [intOf]; omega
        · have hkn : n = k := by omega
          subst hkn
          clear hbw
          go_wp2_with fail
          go_ret
          exact ⟨rfl, below_le HB3.out HBW.out HB3.out.size⟩
  · rw [show decide (total [a] ≤ 20000) = false from by simpa using hd]
    clear hd
    go_wp2_with fail
    go_ret
    exact ⟨rfl, HB2.out⟩
end Go.Proofs.YtkghbecfjeldcaaDoor
