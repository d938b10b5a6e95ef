/- Merged: Uni1, Uni2. -/
import Derived.Test.YtapdfdjknehhgaaMat
import Derived.Test.YtapdfdjknehhgaaTx

/- Unification: what variables became, in memory; the root of a tree. -/
namespace Go.Proofs.Ytapdfdjknehhgaa
open Go.RowKit Go.Tr Go.Maps

theorem zeroTerm (w : World) : (zeroValue 24).run Try.prog w = .ok vzero w := by kernel_rfl
/-- The values read as the trees. -/
def BRel (w : World) (B : Nat) : Bec → List (Int × Value) → Prop
  | [], [] => True
  | x :: r, y :: r' => (x.1 = y.1 ∧ inI x.1 ∧ TrV w (· < B) x.2 y.2) ∧ BRel w B r r'
  | _, _ => False
theorem BRel.none {w : World} {B : Nat} {n : Int} : ∀ {b : Bec} {v : List (Int × Value)}, BRel w B b v → fndT n b = none → fndI n v = none
  | [], [], _, _ => rfl
  | x :: r, y :: r', h, hf => by
    simp only [fndT] at hf
    simp only [fndI, ← h.1.1]
    split at hf
    · cases hf
    · rename_i hn; rw [if_neg hn]; exact BRel.none h.2 hf
theorem BRel.some {w : World} {B : Nat} {n : Int} {t : Tm} : ∀ {b : Bec} {v : List (Int × Value)}, BRel w B b v → fndT n b = some t → ∃ u, fndI n v = some u ∧ TrV w (· < B) t u
  | x :: r, y :: r', h, hf => by
    simp only [fndT] at hf
    simp only [fndI, ← h.1.1]
    split at hf
    · rename_i hn; rw [if_pos hn]; cases hf; exact ⟨_, rfl, h.1.2.2⟩
    · rename_i hn; rw [if_neg hn]; exact BRel.some h.2 hf
theorem BRel.snoc {w : World} {B : Nat} {n : Int} {t : Tm} {u : Value} (hn : inI n) (ht : TrV w (· < B) t u) : ∀ {b : Bec} {v : List (Int × Value)}, BRel w B b v → BRel w B (b ++ [(n, t)]) (v ++ [(n, u)])
  | [], [], _ => ⟨⟨rfl, hn, ht⟩, trivial⟩
  | _ :: _, _ :: _, h => ⟨h.1, BRel.snoc hn ht h.2⟩
theorem BRel.up {w w' : World} {B : Nat} (hw : ∀ b, b < B → w'.heap[b]? = w.heap[b]?) : ∀ {b : Bec} {v : List (Int × Value)}, BRel w B b v → BRel w' B b v
  | [], [], _ => trivial
  | _ :: _, _ :: _, h => ⟨⟨h.1.1, h.1.2.1, trV_mono (fun _ h => h) (fun b hb => hw b hb) _ h.1.2.2⟩, BRel.up hw h.2⟩
/-- The unifier in memory. -/
structure UniI (B pu bm : Nat) (b : Bec) (n : Int) (w : World) : Prop where
  hu : w.heap[pu]? = some (.cells #[.map (some bm), .int .i64 n] 94)
  hb : ∃ v, IMap w bm v ∧ BRel w B b v
  bu : B ≤ pu
  bb : B ≤ bm
  ne : pu ≠ bm
theorem uniI_kp {B pu bm : Nat} {b : Bec} {n : Int} {w w' : World} (h : UniI B pu bm b n w) (hB : B ≤ w.heap.size) (hk : ∀ b, b < w.heap.size → w'.heap[b]? = w.heap[b]?) : UniI B pu bm b n w' := by
  obtain ⟨v, h1, h2⟩ := h.hb
  exact ⟨(hk pu (block_lt h.hu)).trans h.hu, ⟨v, h1.of_block (hk bm h1.lt), BRel.up (fun b hb => hk b (by omega)) h2⟩, h.bu, h.bb, h.ne⟩
theorem uniI_below {B pu bm : Nat} {b : Bec} {n : Int} {w w' : World} (h : UniI B pu bm b n w) (hB : B ≤ w.heap.size) (hk : Below w.heap.size w w') : UniI B pu bm b n w' := uniI_kp h hB hk.block
theorem uniI_B {B pu bm : Nat} {b : Bec} {n : Int} {w : World} (h : UniI B pu bm b n w) : B ≤ w.heap.size := by have := block_lt h.hu; have := h.bu; omega
/-- What a look-up finds. -/
theorem uniI_look {B pu bm : Nat} {b : Bec} {n : Int} {w : World} (h : UniI B pu bm b n w) {m : Int} (hm : inI m) (c : Bool) :
    ∃ u, (∀ W, Below w.heap.size w W → (Instr.lookup 92 (.map (some bm)) (.int .i64 m) c).run Try.prog W = .ok (if c then .tuple #[u, .bool (fndT m b).isSome] else u) W) ∧
      (fndT m b = none → u = vzero) ∧ ∀ t, fndT m b = some t → TrV w (· < B) t u := by
  obtain ⟨v, h1, h2⟩ := h.hb
  cases hf : fndT m b with
  | none =>
    have h3 := h2.none hf
    refine ⟨vzero, fun W hW => ?_, fun _ => rfl, fun t ht => by cases ht⟩
    rw [look_int Try.underlying92 zeroTerm (h1.of_block (hW.block bm h1.lt)) m hm c, h3]
    rfl
  | some t =>
    obtain ⟨u, h3, h4⟩ := h2.some hf
    refine ⟨u, fun W hW => ?_, (fun h => by cases h), fun t' ht => by cases ht; exact h4⟩
    rw [look_int Try.underlying92 zeroTerm (h1.of_block (hW.block bm h1.lt)) m hm c, h3]
    rfl
theorem bS {a w : World} (h : Below a.heap.size a w) {p : Addr} (hp : a.heap.size ≤ p.block) (u : Value) : Below a.heap.size a (w.setCell p u) := h.setCell hp u
end Go.Proofs.Ytapdfdjknehhgaa

/- The root of a tree. -/
namespace Go.Proofs.Ytapdfdjknehhgaa
open Go.RowKit Go.Tr Go.Maps

set_option maxRecDepth 100000 in
set_option maxHeartbeats 800000 in
theorem root_any {B pu bm : Nat} {b : Bec} {n : Int} (f : Nat) (t r : Tm) (hr : rootF b f t = some r) (v : Value) (w : World) (h : UniI B pu bm b n w) (hv : TrV w (· < B) t v) :
    Calls Try.prog 95 #[.pointer (some ⟨pu, 0, none⟩), v] w fun e w' => ∃ v', e = .returned v' ∧ TrV w' (· < B) r v' ∧ Below w.heap.size w w' := by
  obtain ⟨sl, rfl, hk1, hk2, hsl⟩ := trV_iff.1 hv
  obtain ⟨oa, cap, b1, o1, rfl, hlc, hcm, -, -⟩ := trS_at hsl
  have hgr : ∀ o1 o2, Below w.heap.size w ((w.alloc o1).alloc o2) := fun o1 o2 => bA (bA (bZ w) _) _
  have hB := uniI_B h
  have HH := Lib.hid (And.intro hr (And.intro h (And.intro hv hgr)))
  clear hr h hv hgr hsl hk1 hk2
  have hl1 : w.heap.size ≠ w.heap.size + 1 := by omega
  go_enter Try.func95, Try.ntmps95
  go_wp2_with fail
  go_loopg [6] f (fun gk _ wr => Hid (∃ (tk : Tm) (oa : Option Addr) (cap : Nat), rootF b gk tk = some r ∧ wr.heap[w.heap.size]? = some (.cells #[.int .i64 tk.k, .int .i64 tk.n, .slice oa tk.l.length cap] 24) ∧ TrV wr (· < B) tk (.agg #[.int .i64 tk.k, .int .i64 tk.n, .slice oa tk.l.length cap]) ∧
      wr.heap[w.heap.size + 1]? = some (.cells #[.int .i64 0, .int .i64 0, .slice none 0 0] 24) ∧ UniI B pu bm b n wr ∧ Below w.heap.size w wr))
  case atStart =>
    refine ⟨t, oa, cap, HH.out.1, by (simp only [heap_alloc, alloc_size]; repeat (first | rw [if_pos trivial] | rw [if_pos (by omega)] | rw [if_neg (by omega)])), trV_mono (fun _ h => h) (fun b hb => (HH.out.2.2.2 _ _).block b (by omega)) _ HH.out.2.2.1, by (simp only [heap_alloc, alloc_size]; repeat (first | rw [if_pos trivial] | rw [if_pos (by omega)] | rw [if_neg (by omega)])), uniI_below HH.out.2.1 hB (HH.out.2.2.2 _ _), HH.out.2.2.2 _ _⟩
  case round =>
    obtain ⟨tk, oa2, cap2, hrk, q1, hvk, q2, hI, hbw⟩ := hrel.out
    have c0 := (cells_of q1 0).1
    have c1 := (cells_of q1 1).1
    have c2 := (cells_of q1 2).1
    have fc := fun j => (cells_of q1 j).2
    have d0 := (cells_of q2 0).1
    have d1 := (cells_of q2 1).1
    have d2 := (cells_of q2 2).1
    have fd := fun j => (cells_of q2 j).2
    simp only [List.getElem?_toArray, List.getElem?_cons_zero, List.getElem?_cons_succ] at c0 c1 c2 d0 d1 d2
    have hfin : ∀ (W : World), Below wr.heap.size wr W → rootF b gk tk = some tk → (∃ v', Ending.returned (.agg #[.int .i64 tk.k, .int .i64 tk.n, .slice oa2 tk.l.length cap2]) = .returned v' ∧ TrV (((W.setCell ⟨w.heap.size + 1, 0, none⟩ (.int .i64 tk.k)).setCell ⟨w.heap.size + 1, 1, none⟩ (.int .i64 tk.n)).setCell ⟨w.heap.size + 1, 2, none⟩ (.slice oa2 tk.l.length cap2)) (· < B) r v' ∧ Below w.heap.size w (((W.setCell ⟨w.heap.size + 1, 0, none⟩ (.int .i64 tk.k)).setCell ⟨w.heap.size + 1, 1, none⟩ (.int .i64 tk.n)).setCell ⟨w.heap.size + 1, 2, none⟩ (.slice oa2 tk.l.length cap2))) ∧
        (((W.setCell ⟨w.heap.size + 1, 0, none⟩ (.int .i64 tk.k)).setCell ⟨w.heap.size + 1, 1, none⟩ (.int .i64 tk.n)).setCell ⟨w.heap.size + 1, 2, none⟩ (.slice oa2 tk.l.length cap2)).heap[w.heap.size + 1]? = some (.cells #[.int .i64 tk.k, .int .i64 tk.n, .slice oa2 tk.l.length cap2] 24) := fun W hW heq => by
      have hr : r = tk := by rw [hrk] at heq; exact Option.some.inj heq
      have hBw := uniI_B hI
      refine ⟨⟨_, rfl, ?_, ?_⟩, three_set ((hW.block _ (block_lt q2)).trans q2)⟩
      · rw [hr]
        refine trV_mono (fun _ h => h) (fun b hb => ?_) _ hvk
        rw [Below.heap_setCell _ _ _ _ (by simp; omega), Below.heap_setCell _ _ _ _ (by simp; omega), Below.heap_setCell _ _ _ _ (by simp; omega)]
        exact hW.block b (by omega)
      · exact (((below_le hbw hW hbw.size).setCell (p := ⟨w.heap.size + 1, 0, none⟩) (by simp) _).setCell (p := ⟨w.heap.size + 1, 1, none⟩) (by simp) _).setCell (p := ⟨w.heap.size + 1, 2, none⟩) (by simp) _
    have HF := Lib.hid hfin
    cases gk with
    | zero => cases hrk
    | succ gk =>
      by_cases hk : tk.k = 1
      · have hb1 : (tk.k == 1) = true := by simp [hk]
        obtain ⟨u, hlk, hnone, hsome⟩ := uniI_look hI (trV_int hvk) true
        have cu0 := (cells_of hI.hu 0).1
        simp only [List.getElem?_toArray, List.getElem?_cons_zero] at cu0
        have hS : ∀ W, Below wr.heap.size wr W → W.cell? ⟨pu, 0, none⟩ = some (.map (some bm)) ∧ W.cell? ⟨w.heap.size, 1, none⟩ = some (.int .i64 tk.n) ∧ (Instr.lookup 92 (.map (some bm)) (.int .i64 tk.n) true).run Try.prog W = .ok (.tuple #[u, .bool (fndT tk.n b).isSome]) W := fun W hW =>
          ⟨(World.cell?_of_block (w := wr) (a := ⟨pu, 0, none⟩) (hW.block _ (block_lt hI.hu))).trans cu0, (World.cell?_of_block (w := wr) (a := ⟨w.heap.size, 1, none⟩) (hW.block _ (block_lt q1))).trans c1, hlk W hW⟩
        cases hf : fndT tk.n b with
        | none =>
          have hfr := HF.out
          have heq := rootF_none (f := gk) hk hf
          obtain rfl := hnone hf
          rw [hf] at hS
          have HX := Lib.hid (And.intro hS (fun W hW => hfin W hW heq))
          have HQ := Lib.hid (And.intro q1 q2)
          obtain ⟨s1, s2, s3⟩ := hS wr (bZ wr)
          clear hfin HF hfr heq hS hlk hnone hsome hk hf hrk hvk hI hbw q1 q2
          unfold vzero at *
          go_wp2_with fail
          go_region_held3 (fun W => W.cell? ⟨pu, 0, none⟩ = some (.map (some bm)) ∧ W.cell? ⟨w.heap.size, 1, none⟩ = some (.int .i64 tk.n) ∧ (Instr.lookup 92 (.map (some bm)) (.int .i64 tk.n) true).run Try.prog W = .ok (.tuple #[.agg #[.int .i64 0, .int .i64 0, .slice none 0 0], .bool false]) W)
            (first | (refine HX.out.1 _ ?_; (repeat (first | with_reducible assumption | with_reducible exact bZ _ | with_reducible apply bA | with_reducible apply bD)); done))
            (fail)
          all_goals
            have hb5 : Below wr.heap.size wr (wr.alloc (.cells #[.int .i64 0, .int .i64 0, .slice none 0 0] 24)).drew := bD (bA (bZ wr) _)
            generalize (wr.alloc (.cells #[.int .i64 0, .int .i64 0, .slice none 0 0] 24)).drew = W5 at *
            clear c0 c1 c2 d0 d1 d2 fc fd
            have r1 := (hb5.block _ (block_lt HQ.out.1)).trans HQ.out.1
            have r2 := (hb5.block _ (block_lt HQ.out.2)).trans HQ.out.2
            have a0 := (cells_of r1 0).1
            have a1 := (cells_of r1 1).1
            have a2 := (cells_of r1 2).1
            have b0 := (cells_of r2 0).1
            have b1' := (cells_of r2 1).1
            have b2 := (cells_of r2 2).1
            have f2 := fun j => (cells_of r2 j).2
            simp only [List.getElem?_toArray, List.getElem?_cons_zero, List.getElem?_cons_succ] at a0 a1 a2 b0 b1' b2
            have H5 := Lib.hid hb5
            clear r1 r2 hb5
            go_wp2_with fail
            refine bodyPost_ret (results_cell_row rfl _ _ (w.heap.size + 1) 24 _ _ _ rfl (HX.out.2 W5 H5.out).2 Try.underlying24 rfl infoTk) rfl ?_
            exact (HX.out.2 W5 H5.out).1
        | some u' =>
          have heq := rootF_some (f := gk) hk hf
          have hvu := hsome u' hf
          obtain ⟨slu, rfl, hu1, hu2, hslu⟩ := trV_iff.1 hvu
          obtain ⟨oa3, cap3, b3, o3, rfl, q3, q4, -, -⟩ := trS_at hslu
          rw [hf] at hS
          have hBw := uniI_B hI
          have hnx : ∀ W5, Below wr.heap.size wr W5 → ∃ (tk : Tm) (oa : Option Addr) (cap : Nat), rootF b gk tk = some r ∧ (((W5.setCell ⟨w.heap.size, 0, none⟩ (.int .i64 u'.k)).setCell ⟨w.heap.size, 1, none⟩ (.int .i64 u'.n)).setCell ⟨w.heap.size, 2, none⟩ (.slice oa3 u'.l.length cap3)).heap[w.heap.size]? = some (.cells #[.int .i64 tk.k, .int .i64 tk.n, .slice oa tk.l.length cap] 24) ∧ TrV (((W5.setCell ⟨w.heap.size, 0, none⟩ (.int .i64 u'.k)).setCell ⟨w.heap.size, 1, none⟩ (.int .i64 u'.n)).setCell ⟨w.heap.size, 2, none⟩ (.slice oa3 u'.l.length cap3)) (· < B) tk (.agg #[.int .i64 tk.k, .int .i64 tk.n, .slice oa tk.l.length cap]) ∧
              (((W5.setCell ⟨w.heap.size, 0, none⟩ (.int .i64 u'.k)).setCell ⟨w.heap.size, 1, none⟩ (.int .i64 u'.n)).setCell ⟨w.heap.size, 2, none⟩ (.slice oa3 u'.l.length cap3)).heap[w.heap.size + 1]? = some (.cells #[.int .i64 0, .int .i64 0, .slice none 0 0] 24) ∧ UniI B pu bm b n (((W5.setCell ⟨w.heap.size, 0, none⟩ (.int .i64 u'.k)).setCell ⟨w.heap.size, 1, none⟩ (.int .i64 u'.n)).setCell ⟨w.heap.size, 2, none⟩ (.slice oa3 u'.l.length cap3)) ∧ Below w.heap.size w (((W5.setCell ⟨w.heap.size, 0, none⟩ (.int .i64 u'.k)).setCell ⟨w.heap.size, 1, none⟩ (.int .i64 u'.n)).setCell ⟨w.heap.size, 2, none⟩ (.slice oa3 u'.l.length cap3)) := fun W5 hb5 => by
            have oth : ∀ b, b ≠ w.heap.size → (((W5.setCell ⟨w.heap.size, 0, none⟩ (.int .i64 u'.k)).setCell ⟨w.heap.size, 1, none⟩ (.int .i64 u'.n)).setCell ⟨w.heap.size, 2, none⟩ (.slice oa3 u'.l.length cap3)).heap[b]? = W5.heap[b]? := fun b hb =>
              (Below.heap_setCell _ _ _ _ hb).trans ((Below.heap_setCell _ _ _ _ hb).trans (Below.heap_setCell _ _ _ _ hb))
            have hl := block_lt q1
            have hlu := block_lt HH.out.2.1.hu
            have hlm : bm < w.heap.size := by obtain ⟨v, v1, -⟩ := HH.out.2.1.hb; exact v1.lt
            refine ⟨u', oa3, cap3, by rw [← heq]; exact hrk, three_set ((hb5.block _ hl).trans q1), trV_mono (fun _ h => h) (fun b hb => (oth b (by omega)).trans (hb5.block b (by omega))) _ hvu, (oth _ (by omega)).trans ((hb5.block _ (block_lt q2)).trans q2), ?_, (((below_le hbw hb5 hbw.size).setCell (p := ⟨w.heap.size, 0, none⟩) (Nat.le_refl _) _).setCell (p := ⟨w.heap.size, 1, none⟩) (Nat.le_refl _) _).setCell (p := ⟨w.heap.size, 2, none⟩) (Nat.le_refl _) _⟩
            obtain ⟨v, v1, v2⟩ := hI.hb
            exact ⟨(oth pu (by omega)).trans ((hb5.block _ (block_lt hI.hu)).trans hI.hu), ⟨v, v1.of_block ((oth bm (by omega)).trans (hb5.block bm v1.lt)), BRel.up (fun b hb => (oth b (by omega)).trans (hb5.block b (by omega))) v2⟩, hI.bu, hI.bb, hI.ne⟩
          have HX := Lib.hid (And.intro hS hnx)
          have HQ := Lib.hid (And.intro q1 q2)
          obtain ⟨s1, s2, s3⟩ := hS wr (bZ wr)
          clear hfin HF heq hS hlk hnone hsome hk hf hrk hvk hI hbw hnx hvu hslu hu1 hu2 q1 q2 q3 q4
          go_wp2_with fail
          go_region_held3 (fun W => W.cell? ⟨pu, 0, none⟩ = some (.map (some bm)) ∧ W.cell? ⟨w.heap.size, 1, none⟩ = some (.int .i64 tk.n) ∧ (Instr.lookup 92 (.map (some bm)) (.int .i64 tk.n) true).run Try.prog W = .ok (.tuple #[.agg #[.int .i64 u'.k, .int .i64 u'.n, .slice oa3 u'.l.length cap3], .bool true]) W)
            (first | (refine HX.out.1 _ ?_; (repeat (first | with_reducible assumption | with_reducible exact bZ _ | with_reducible apply bA | with_reducible apply bD)); done))
            (fail)
          all_goals
            have hb5 : Below wr.heap.size wr (wr.alloc (.cells #[.int .i64 u'.k, .int .i64 u'.n, .slice oa3 u'.l.length cap3] 24)).drew := bD (bA (bZ wr) _)
            have hq5 : (wr.alloc (.cells #[.int .i64 u'.k, .int .i64 u'.n, .slice oa3 u'.l.length cap3] 24)).drew.heap[wr.heap.size]? = some (.cells #[.int .i64 u'.k, .int .i64 u'.n, .slice oa3 u'.l.length cap3] 24) := heap_alloc_new wr _
            generalize (wr.alloc (.cells #[.int .i64 u'.k, .int .i64 u'.n, .slice oa3 u'.l.length cap3] 24)).drew = W5 at *
            clear c0 c1 c2 d0 d1 d2 fc fd
            have r1 := (hb5.block _ (block_lt HQ.out.1)).trans HQ.out.1
            have a0 := (cells_of r1 0).1
            have a1 := (cells_of r1 1).1
            have a2 := (cells_of r1 2).1
            have f1 := fun j => (cells_of r1 j).2
            have b0 := (cells_of hq5 0).1
            have b1' := (cells_of hq5 1).1
            have b2 := (cells_of hq5 2).1
            simp only [List.getElem?_toArray, List.getElem?_cons_zero, List.getElem?_cons_succ] at a0 a1 a2 b0 b1' b2
            have H5 := Lib.hid hb5
            clear r1 hb5 hq5
            go_wp2_with fail
            go_roundg gk
            case measure => omega
            case rel => exact HX.out.2 W5 H5.out
      · have hb1 : (tk.k == 1) = false := by simp [hk]
        have heq := rootF_op (b := b) (f := gk) hk
        have HX := Lib.hid (And.intro True.intro (fun W hW => hfin W hW heq))
        have HQ := Lib.hid (And.intro q1 q2)
        clear hfin HF heq hk hrk hvk hI hbw q1 q2
        go_wp2_with fail
        refine bodyPost_ret (results_cell_row rfl _ _ (w.heap.size + 1) 24 _ _ _ rfl (HX.out.2 wr (bZ wr)).2 Try.underlying24 rfl infoTk) rfl ?_
        exact (HX.out.2 wr (bZ wr)).1
end Go.Proofs.Ytapdfdjknehhgaa
