/- The law's examples: has. -/
import Derived.Test.YtcjdacdggklifaaGreatDoorJoin6
namespace Go.Proofs.YtcjdacdggklifaaGreatDoor
open Go.RowKit

set_option maxRecDepth 100000 in
theorem Text_any (t : RT) (h : t.small) (w : World) : Calls Tryz.prog 24 #[t.v] w fun e w' => e = .returned (.string t.text) ∧ w' = w.alloc (.cells t.cells.toArray 35) := by
  obtain ⟨k, n, s, a, f⟩ := t
  simp only [RT.v, RT.text, RT.small, RT.cells] at *
  by_cases hk : k = 3
  · subst hk
    obtain ⟨h0, h1⟩ := h rfl
    rw [if_pos rfl]
    obtain ⟨m, rfl⟩ : ∃ m : Nat, n = m := ⟨n.toNat, by omega⟩
    rw [itoa_nat]
    clear h
    go_enter Tryz.func24, Tryz.ntmps24
    go_wp2_with (go_at_call 53; refine (Tryz.strconv_Itoa_small m (by omega) _).mono ?_; rintro e w' ⟨rfl, rfl⟩)
    go_ret
    exact ⟨rfl, rfl⟩
  · rw [if_neg hk]
    have hk' : (k == 3) = false := by simpa using hk
    clear h
    go_enter Tryz.func24, Tryz.ntmps24
    go_wp2
    all_goals go_ret
    all_goals exact ⟨rfl, rfl⟩

set_option maxRecDepth 100000 in
set_option maxHeartbeats 1000000 in
theorem has_any (text : ByteArray) (ts : List Lx.Tok) (ws : List ByteArray) (n g1 g2 : Nat) (w : World) (hs : text.size ≤ 100000) (hT : Lx.T (bts text) 0 = .good ts) (hn : ts.length = n) (hn0 : n ≠ 0) (hn2 : n ≤ 20000) (hw : ws.length = n)
    (hsm : ∀ t ∈ ts, (rt t).small) (hws : ∀ i (h : i < ts.length) (h' : i < ws.length), (rt ts[i]).text = ws[i])
    (hc1 : ∀ i (h : i < ws.length), w.cell? ⟨g1, i, none⟩ = some (.string ws[i])) (hc2 : ∀ i (h : i < ts.length), w.cell? ⟨g2, i, none⟩ = some (.int .i64 (ts[i]).at_)) (hg1 : g1 < w.heap.size) (hg2 : g2 < w.heap.size) :
    Calls Tryz.prog 25 #[.string text, .slice (some ⟨g1, 0, none⟩) n n, .slice (some ⟨g2, 0, none⟩) n n] w fun e w' => e = .returned (.bool true) ∧ Below w.heap.size w w' := by
  have hk := Tokens_any text w
  have HK := Lib.hid hk
  have H := Lib.hid (And.intro hT (And.intro hn (And.intro hw (And.intro hsm (And.intro hws (And.intro hc1 hc2))))))
  clear hT hn hw hsm hws hc1 hc2 hk
  go_enter Tryz.func25, Tryz.ntmps25
  go_wp2_with fail
  refine HK.out.mono ?_
  rintro e w1 ⟨hb, hc⟩
  rcases hc with ⟨hbig, _⟩ | ⟨_, hc⟩
  · exact absurd hs (by omega)
  rw [H.out.1] at hc
  simp only at hc
  rw [if_neg (by have := H.out.2.1; omega)] at hc
  obtain ⟨v, rfl, hown⟩ := hc
  obtain ⟨a0, cap0, rfl, hcap⟩ := owns_form hown
  obtain ⟨g, rfl, hrow, hgB⟩ := rowAt_owned hown (by have := H.out.2.1; omega)
  rw [H.out.2.1]
  have HROW := Lib.hid hrow
  have HB := Lib.hid hb
  clear hown hcap hrow hb HK
  unfold three
  go_wp2_with fail
  go_loopw [36] (fun v wr => ∃ k : Nat, k ≤ n ∧ v = .int .i64 k ∧ w1.grownBy wr none) (fun v _ => n - (intOf v).toNat)
  case atStart => exact ⟨0, by omega, rfl, grownZ _ _⟩
  case round =>
    obtain ⟨k, hk, rfl, hg⟩ := hrel
    by_cases hlt : k < n
    · have hkt : k < ts.length := by have := H.out.2.1; omega
      have hkw : k < ws.length := by have := H.out.2.2.1; omega
      have hkm : k < (ts.map rt).length := by rw [List.length_map]; exact hkt
      have e1 : ∀ j, j < 5 → wr.cell? ⟨g, k * 5 + j, none⟩ = (rt ts[k]).cells[j]? := fun j hj => by
        have := (HROW.out.kept (hg.block g HROW.out.lt (by simp))).cell k hkm j hj
        rwa [List.getElem_map] at this
      have old : ∀ b i, b < w.heap.size → ∀ o, (wr.alloc o).cell? ⟨b, i, none⟩ = w.cell? ⟨b, i, none⟩ := fun b i hb o => by
        have hz1 := HB.out.size
        have hz2 := hg.size
        have h0 : w1.heap[b]? = w.heap[b]? := HB.out.block b hb
        have h1 : wr.heap[b]? = w1.heap[b]? := hg.block b (by omega) (by simp)
        have h2 : (wr.alloc o).heap[b]? = wr.heap[b]? := heap_alloc_old wr o (by omega)
        exact World.cell?_of_block (w := w) (h2.trans (h1.trans h0))
      have x1 : ∀ o, (wr.alloc o).cell? ⟨g1, k, none⟩ = some (.string ws[k]) := fun o => by rw [old g1 k hg1 o]; exact H.out.2.2.2.2.2.1 k hkw
      have x2 : ∀ o, (wr.alloc o).cell? ⟨g2, k, none⟩ = some (.int .i64 (rt ts[k]).a) := fun o => by rw [old g2 k hg2 o]; exact H.out.2.2.2.2.2.2 k hkt
      have htx := fun W => Text_any (rt ts[k]) (H.out.2.2.2.1 _ (List.getElem_mem hkt)) W
      have hww := H.out.2.2.2.2.1 k hkt hkw
      rw [hww] at htx
      clear hww old
      generalize ws[k] = x at *
      generalize rt ts[k] = t at *
      obtain ⟨xk, xn, xs, xa, xf⟩ := t
      have a0 := e1 0 (by omega)
      have a1 := e1 1 (by omega)
      have a2 := e1 2 (by omega)
      have a3 := e1 3 (by omega)
      have a4 := e1 4 (by omega)
      simp only [RT.v, RT.cells, List.getElem?_cons_zero, List.getElem?_cons_succ, Nat.add_zero] at a0 a1 a2 a3 a4 htx x2
      have HTX := Lib.hid htx
      have HG := Lib.hid hg
      clear e1 htx hg hkt hkw hkm
      go_wp2_with fail
      have hnew := heap_alloc_new wr (.cells #[.int .i64 xk, .int .i64 xn, .string xs, .int .i64 xa, .int .i64 xf] 35)
      have y1 := x1 (.cells #[.int .i64 xk, .int .i64 xn, .string xs, .int .i64 xa, .int .i64 xf] 35)
      have y2 := x2 (.cells #[.int .i64 xk, .int .i64 xn, .string xs, .int .i64 xa, .int .i64 xf] 35)
      have hgb : wr.grownBy (wr.alloc (.cells #[.int .i64 xk, .int .i64 xn, .string xs, .int .i64 xa, .int .i64 xf] 35)) none := World.grownBy_alloc _ _ _
      have HGB := Lib.hid hgb
      have lq1 : wr.heap.size < (wr.alloc (.cells #[.int .i64 xk, .int .i64 xn, .string xs, .int .i64 xa, .int .i64 xf] 35)).heap.size := by simp
      have lq2 : g1 < (wr.alloc (.cells #[.int .i64 xk, .int .i64 xn, .string xs, .int .i64 xa, .int .i64 xf] 35)).heap.size := by have := HB.out.size; have := HG.out.size; simp; omega
      have lq3 : g2 < (wr.alloc (.cells #[.int .i64 xk, .int .i64 xn, .string xs, .int .i64 xa, .int .i64 xf] 35)).heap.size := by have := HB.out.size; have := HG.out.size; simp; omega
      generalize (wr.alloc (.cells #[.int .i64 xk, .int .i64 xn, .string xs, .int .i64 xa, .int .i64 xf] 35)) = wx at *
      clear x1 x2 a0 a1 a2 a3 a4 hgb
      have c0 := (cells_of hnew 0).1
      have c1 := (cells_of hnew 1).1
      have c2 := (cells_of hnew 2).1
      have c3 := (cells_of hnew 3).1
      have c4 := (cells_of hnew 4).1
      simp only [List.getElem?_toArray, List.getElem?_cons_zero, List.getElem?_cons_succ] at c0 c1 c2 c3 c4
      have hkk : ∀ W : World, wx.grownBy W none → W.cell? ⟨wr.heap.size, 0, none⟩ = some (.int .i64 xk) ∧ W.cell? ⟨wr.heap.size, 1, none⟩ = some (.int .i64 xn) ∧ W.cell? ⟨wr.heap.size, 2, none⟩ = some (.string xs) ∧ W.cell? ⟨wr.heap.size, 3, none⟩ = some (.int .i64 xa) ∧ W.cell? ⟨wr.heap.size, 4, none⟩ = some (.int .i64 xf) ∧
          W.cell? ⟨g1, k, none⟩ = some (.string x) ∧ W.cell? ⟨g2, k, none⟩ = some (.int .i64 xa) := fun W hg => by
        have f : ∀ b, b < wx.heap.size → ∀ j, W.cell? ⟨b, j, none⟩ = wx.cell? ⟨b, j, none⟩ := fun b hb j => World.cell?_of_block (w := wx) (hg.block b hb (by simp))
        rw [f _ lq1, f _ lq1, f _ lq1, f _ lq1, f _ lq1, f _ lq2, f _ lq3]
        exact ⟨c0, c1, c2, c3, c4, y1, y2⟩
      have HKK := Lib.hid hkk
      clear hkk hnew
      go_region_held3 (fun W => W.cell? ⟨wr.heap.size, 0, none⟩ = some (.int .i64 xk) ∧ W.cell? ⟨wr.heap.size, 1, none⟩ = some (.int .i64 xn) ∧ W.cell? ⟨wr.heap.size, 2, none⟩ = some (.string xs) ∧ W.cell? ⟨wr.heap.size, 3, none⟩ = some (.int .i64 xa) ∧ W.cell? ⟨wr.heap.size, 4, none⟩ = some (.int .i64 xf) ∧
          W.cell? ⟨g1, k, none⟩ = some (.string x) ∧ W.cell? ⟨g2, k, none⟩ = some (.int .i64 xa))
        (first | (refine HKK.out _ ?_; (repeat (first | with_reducible exact grownZ _ _ | with_reducible apply grownA | with_reducible apply grownD)); done))
        (first | (go_at_call 24; refine (HTX.out _).mono ?_; rintro e w' ⟨rfl, rfl⟩))
      all_goals
        go_wp2_with fail
        go_roundw
        case rel => exact ⟨k + 1, by omega, by go_num, grown_trans HG.out (grown_trans HGB.out (by repeat (first | with_reducible exact grownZ _ _ | with_reducible apply grownA | with_reducible apply grownD)))⟩
        case measure => simp [intOf]; omega
    · have hkn : n = k := by omega
      subst hkn
      have HG := Lib.hid hg
      clear hg
      go_wp2_with fail
      go_ret
      exact ⟨rfl, HB.out.grown HG.out HB.out.size (fun j hj => by simp at hj)⟩
end Go.Proofs.YtcjdacdggklifaaGreatDoor
