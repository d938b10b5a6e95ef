/- Shift. -/
import Derived.Test.YtapdfdjknehhgaaSub
namespace Go.Proofs.Ytapdfdjknehhgaa
open Go.RowKit Go.Tr

theorem occ_int {w : World} {P : Nat → Prop} (t : Tm) : ∀ {v : Value}, TrV w P t v → ∀ n, occ n t = true → inI n := by
  induction t using Tm.ind with
  | h k m l ih =>
    intro v h n hn
    obtain ⟨s, rfl, h1, h2, h3⟩ := trV_iff.1 h
    obtain ⟨oa, cap, b, o, rfl, -, -, -, hel⟩ := trS_at h3
    simp only [occ, Bool.or_eq_true, Bool.and_eq_true, beq_iff_eq] at hn
    rcases hn with ⟨-, rfl⟩ | hn
    · exact h2
    · obtain ⟨x, hx, hxn⟩ := (occL_iff n l).1 hn
      obtain ⟨i, hi, rfl⟩ := List.getElem_of_mem hx
      obtain ⟨oa', cap', -, -, -, h⟩ := hel i hi
      exact ih _ hx h n hxn
theorem trV_var {w : World} {P : Nat → Prop} {n : Int} (h : inI n) : TrV w P (var n) (.agg #[.int .i64 1, .int .i64 n, .slice none 0 0]) :=
  trV_iff.2 ⟨_, rfl, by unfold inI; simp [var, Tm.k], h, none, 0, 0, 0, rfl, Nat.le_refl _, by decide, fun h => absurd rfl h, trivial⟩
theorem shift1_puts {pf pb : Nat} {from_ by_ : Int} {w : World} (hf : w.heap[pf]? = some (.cells #[.int .i64 from_] 3)) (hb : w.heap[pb]? = some (.cells #[.int .i64 by_] 3)) (h0 : 0 ≤ from_) :
    Puts 87 #[.pointer (some ⟨pf, 0, none⟩), .pointer (some ⟨pb, 0, none⟩)] (fun n => var (shiftN from_ by_ n)) (shiftP from_ by_) w := by
  refine ⟨fun _ _ => by go_simp, fun n hn => by rw [sz_var]; omega, fun n hn hi W hW => ?_⟩
  simp only [shiftP, Bool.or_eq_true, Bool.and_eq_true, decide_eq_true_eq] at hn
  have l1 := Nat.lt_of_lt_of_le (block_lt hf) hW.size
  have l2 := Nat.lt_of_lt_of_le (block_lt hb) hW.size
  have df := cell_of_one ((hW.block pf (block_lt hf)).trans hf)
  have db := cell_of_one ((hW.block pb (block_lt hb)).trans hb)
  unfold inI at hi
  clear hf hb hW
  show Calls Try.prog 87 #[.int .i64 n, .pointer (some ⟨pf, 0, none⟩), .pointer (some ⟨pb, 0, none⟩)] W _
  have HB := Lib.hid (fun (o1 o2 : Obj) => bA (bA (bZ W) o1) o2)
  by_cases hlt : n < from_
  · have hs : shiftN from_ by_ n = n := by simp [shiftN, hlt]
    rw [hs]
    clear hs hn
    go_enter Try.func87, Try.ntmps87
    go_wp2_with fail
    refine (variable_any _ _).mono ?_
    rintro e w2 ⟨rfl, rfl⟩
    go_wp2_with fail
    refine bodyPost_ret (results_cell_row rfl _ _ W.heap.size 24 _ _ _ rfl ((Below.heap_alloc _ _ _ (by simp)).trans (heap_alloc_new W _)) Try.underlying24 rfl infoTk) rfl ?_
    exact ⟨_, rfl, trV_var (by unfold inI; omega), HB.out _ _⟩
  · have hs : shiftN from_ by_ n = n + by_ := by simp [shiftN, hlt]
    have hm : from_ ≤ n + by_ ∧ n + by_ ≤ 1000000 := by omega
    obtain ⟨hm1, hm2⟩ := hm
    rw [hs]
    have hlt' : from_ ≤ n := by omega
    clear hs hn hlt
    go_enter Try.func87, Try.ntmps87
    go_wp2_with fail
    refine (variable_any _ _).mono ?_
    rintro e w2 ⟨rfl, rfl⟩
    go_wp2_with fail
    refine bodyPost_ret (results_cell_row rfl _ _ W.heap.size 24 _ _ _ rfl ((Below.heap_alloc _ _ _ (by simp)).trans (heap_alloc_new W _)) Try.underlying24 rfl infoTk) rfl ?_
    exact ⟨_, rfl, trV_var (by unfold inI; omega), HB.out _ _⟩

set_option maxRecDepth 100000 in
set_option maxHeartbeats 400000 in
theorem Shift_any (t : Tm) (v : Value) (from_ by_ : Int) (hfi : inI from_) (hbi : inI by_) (w : World) (hv : TrV w (· < w.heap.size) t v) :
    Calls Try.prog 44 #[v, .int .i64 from_, .int .i64 by_] w fun e w' => ∃ v', e = .returned (.tuple #[v', .int .i64 (shiftE t from_ by_)]) ∧ (shiftE t from_ by_ = 0 → TrV w' (Nw w w') (shiftT from_ by_ t) v') ∧ (shiftE t from_ by_ ≠ 0 → v' = vzero) ∧ Below w.heap.size w w' := by
  obtain ⟨sl, rfl, hk1, hk2, hsl⟩ := trV_iff.1 hv
  obtain ⟨oa, cap, b, o, rfl, hlc, hcm, -, -⟩ := trS_at hsl
  unfold inI at hfi hbi
  clear hk1 hk2 hsl
  obtain ⟨o1, ho1⟩ : ∃ o : Obj, o = .cells #[.int .i64 t.k, .int .i64 t.n, .slice oa t.l.length cap] 24 := ⟨_, rfl⟩
  obtain ⟨o2, ho2⟩ : ∃ o : Obj, o = .cells #[.int .i64 from_] 3 := ⟨_, rfl⟩
  obtain ⟨o3, ho3⟩ : ∃ o : Obj, o = .cells #[.int .i64 by_] 3 := ⟨_, rfl⟩
  obtain ⟨o4, ho4⟩ : ∃ o : Obj, o = .cells #[.int .i64 0, .int .i64 0, .slice none 0 0] 24 := ⟨_, rfl⟩
  have hgr : Below w.heap.size w ((((w.alloc o1).alloc o2).alloc o3).alloc o4) := bA (bA (bA (bA (bZ w) _) _) _) _
  have hq1 : ((((w.alloc o1).alloc o2).alloc o3).alloc o4).heap[w.heap.size]? = some o1 := by (simp only [heap_alloc, alloc_size]; repeat (first | rw [if_pos trivial] | rw [if_pos (by omega)] | rw [if_neg (by omega)]))
  have hq2 : ((((w.alloc o1).alloc o2).alloc o3).alloc o4).heap[w.heap.size + 1]? = some o2 := by (simp only [heap_alloc, alloc_size]; repeat (first | rw [if_pos trivial] | rw [if_pos (by omega)] | rw [if_neg (by omega)]))
  have hq3 : ((((w.alloc o1).alloc o2).alloc o3).alloc o4).heap[w.heap.size + 1 + 1]? = some o3 := by (simp only [heap_alloc, alloc_size]; repeat (first | rw [if_pos trivial] | rw [if_pos (by omega)] | rw [if_neg (by omega)]))
  have hq4 : ((((w.alloc o1).alloc o2).alloc o3).alloc o4).heap[w.heap.size + 1 + 1 + 1]? = some o4 := by (simp only [heap_alloc, alloc_size]; repeat (first | rw [if_pos trivial] | rw [if_pos (by omega)] | rw [if_neg (by omega)]))
  have hT := Tree_any t _ _ (trV_up hgr hv)
  have HH := Lib.hid (And.intro hgr (And.intro hq1 (And.intro hq2 (And.intro hq3 (And.intro hq4 hv)))))
  have HC := Lib.hid hT
  clear hgr hq1 hq2 hq3 hq4 hT hv
  cases hg : good t with
  | false =>
    have he : shiftE t from_ by_ = 4 := by simp [shiftE, hg]
    have HG := Lib.hid hg
    rw [he]
    clear he hg
    subst ho1 ho2 ho3 ho4
    go_enter Try.func44, Try.ntmps44
    go_wp2_with fail
    refine HC.out.mono ?_
    rintro e w2 ⟨rfl, hb2⟩
    rw [HG.out]
    have r3 := (hb2.block _ (block_lt HH.out.2.2.2.2.1)).trans HH.out.2.2.2.2.1
    have b0 := (cells_of r3 0).1
    have b1 := (cells_of r3 1).1
    have b2 := (cells_of r3 2).1
    have f2 := fun j => (cells_of r3 j).2
    simp only [List.getElem?_toArray, List.getElem?_cons_zero, List.getElem?_cons_succ] at b0 b1 b2
    have HR := Lib.hid (And.intro (below_next HH.out.1 hb2) r3)
    clear r3
    unfold errT
    go_wp2_with fail
    have hfin := three_set (a' := .int .i64 0) (b' := .int .i64 0) (c' := .slice none 0 0) HR.out.2
    have e0 := (cells_of hfin 0).1
    have e1 := (cells_of hfin 1).1
    have e2 := (cells_of hfin 2).1
    simp only [List.getElem?_toArray, List.getElem?_cons_zero, List.getElem?_cons_succ] at e0 e1 e2
    refine bodyPost_ret (v := .tuple #[vzero, .int .i64 4]) (by simp [results, Try.results44, go_sem, e0, e1, e2, vzero]) rfl ?_
    exact ⟨_, rfl, (fun h => by cases h), fun _ => rfl, ((HR.out.1.setCell (p := ⟨w.heap.size + 1 + 1 + 1, 0, none⟩) (by simp; omega) _).setCell (p := ⟨w.heap.size + 1 + 1 + 1, 1, none⟩) (by simp; omega) _).setCell (p := ⟨w.heap.size + 1 + 1 + 1, 2, none⟩) (by simp; omega) _⟩
  | true =>
    have HG := Lib.hid hg
    by_cases hf0 : from_ < 0
    · have he : shiftE t from_ by_ = 1 := by simp [shiftE, hg, hf0]
      rw [he]
      clear he hg
      subst ho1 ho2 ho3 ho4
      go_enter Try.func44, Try.ntmps44
      go_wp2_with fail
      refine HC.out.mono ?_
      rintro e w2 ⟨rfl, hb2⟩
      rw [HG.out]
      have r3 := (hb2.block _ (block_lt HH.out.2.2.2.2.1)).trans HH.out.2.2.2.2.1
      have b0 := (cells_of r3 0).1
      have b1 := (cells_of r3 1).1
      have b2 := (cells_of r3 2).1
      have f2 := fun j => (cells_of r3 j).2
      simp only [List.getElem?_toArray, List.getElem?_cons_zero, List.getElem?_cons_succ] at b0 b1 b2
      have HR := Lib.hid (And.intro (below_next HH.out.1 hb2) r3)
      clear r3
      have x2 := cell_of_one ((hb2.block _ (block_lt HH.out.2.2.1)).trans HH.out.2.2.1)
      unfold errT
      go_wp2_with fail
      have hfin := three_set (a' := .int .i64 0) (b' := .int .i64 0) (c' := .slice none 0 0) HR.out.2
      have e0 := (cells_of hfin 0).1
      have e1 := (cells_of hfin 1).1
      have e2 := (cells_of hfin 2).1
      simp only [List.getElem?_toArray, List.getElem?_cons_zero, List.getElem?_cons_succ] at e0 e1 e2
      refine bodyPost_ret (v := .tuple #[vzero, .int .i64 1]) (by simp [results, Try.results44, go_sem, e0, e1, e2, vzero]) rfl ?_
      exact ⟨_, rfl, (fun h => by cases h), fun _ => rfl, ((HR.out.1.setCell (p := ⟨w.heap.size + 1 + 1 + 1, 0, none⟩) (by simp; omega) _).setCell (p := ⟨w.heap.size + 1 + 1 + 1, 1, none⟩) (by simp; omega) _).setCell (p := ⟨w.heap.size + 1 + 1 + 1, 2, none⟩) (by simp; omega) _⟩
    · have hf1 : 0 ≤ from_ := by omega
      have he : shiftE t from_ by_ = if (vars [t]).all (shiftP from_ by_) then 0 else 1 := by simp [shiftE, hg, hf0]
      have HE := Lib.hid he
      clear he hg hf0
      subst ho1 ho2 ho3 ho4
      have hmf : ∀ (fn : Fn) (first cap : Array Value) (w : World), (Instr.makeFunc fn first cap).run Try.prog w = .ok (.func fn first cap) w := fun _ _ _ _ => rfl
      go_enter Try.func44, Try.ntmps44
      go_wp2_with fail
      refine HC.out.mono ?_
      rintro e w2 ⟨rfl, hb2⟩
      rw [HG.out]
      have r1 := (hb2.block _ (block_lt HH.out.2.1)).trans HH.out.2.1
      have x2 := cell_of_one ((hb2.block _ (block_lt HH.out.2.2.1)).trans HH.out.2.2.1)
      have a0 := (cells_of r1 0).1
      have a1 := (cells_of r1 1).1
      have a2 := (cells_of r1 2).1
      simp only [List.getElem?_toArray, List.getElem?_cons_zero, List.getElem?_cons_succ] at a0 a1 a2
      have hsz : szL [t] ≤ 2000 := by have := trV_sz HG.out; simpa [szL] using this
      have hdp : dpL [t] ≤ 2000 := by have := ((good_iff t).1 HG.out).2.1; simp [dpL]; omega
      have hbw := below_next HH.out.1 hb2
      have hvr := variables_any [t] _ (w2.alloc (.cells #[.int .i64 t.k, .int .i64 t.n, .slice oa t.l.length cap] 24)) (trS_one (trV_up hbw HH.out.2.2.2.2.2) rfl) (by omega) (by omega)
      have HV := Lib.hid (And.intro hvr hbw)
      have HB2 := Lib.hid hb2
      clear hvr hbw r1 hsz hdp hb2
      unfold errT
      go_wp2_with fail
      refine HV.out.1.mono ?_
      rintro e w3 ⟨vv, rfl, hi, hb3⟩
      obtain ⟨oa2, cap2, b2, o2, rfl, g1, g2, g3, g4⟩ := hi
      have hocc : ∀ n ∈ vars [t], inI n ∧ 0 ≤ n := fun n hn => ⟨occ_int t HH.out.2.2.2.2.2 n ((vars_one t n).1 hn), occ_nonneg t ((good_iff t).1 HG.out).2.2 n ((vars_one t n).1 hn)⟩
      have hb3 := below_next (below_alloc w2 _) hb3
      have hx : ∀ W, Below w2.heap.size w2 W → W.heap[w.heap.size]? = some (.cells #[.int .i64 t.k, .int .i64 t.n, .slice oa t.l.length cap] 24) ∧ W.heap[w.heap.size + 1]? = some (.cells #[.int .i64 from_] 3) ∧ W.heap[w.heap.size + 1 + 1]? = some (.cells #[.int .i64 by_] 3) ∧ W.heap[w.heap.size + 1 + 1 + 1]? = some (.cells #[.int .i64 0, .int .i64 0, .slice none 0 0] 24) := fun W hW =>
        have hB := below_next HB2.out hW
        ⟨(hB.block _ (block_lt HH.out.2.1)).trans HH.out.2.1, (hB.block _ (block_lt HH.out.2.2.1)).trans HH.out.2.2.1, (hB.block _ (block_lt HH.out.2.2.2.1)).trans HH.out.2.2.2.1, (hB.block _ (block_lt HH.out.2.2.2.2.1)).trans HH.out.2.2.2.2.1⟩
      obtain ⟨r1, r2, r3, r4⟩ := hx w3 hb3
      have x2 := cell_of_one r2
      have x3 := cell_of_one r3
      have a0 := (cells_of r1 0).1
      have a1 := (cells_of r1 1).1
      have a2 := (cells_of r1 2).1
      have b0 := (cells_of r4 0).1
      have b1 := (cells_of r4 1).1
      have b2' := (cells_of r4 2).1
      have f2 := fun j => (cells_of r4 j).2
      simp only [List.getElem?_toArray, List.getElem?_cons_zero, List.getElem?_cons_succ] at a0 a1 a2 b0 b1 b2'
      have hbw3 := below_next HV.out.2 hb3
      have HW := Lib.hid (And.intro hbw3 (And.intro r1 (And.intro r2 (And.intro r3 (And.intro r4 (And.intro hocc (And.intro g3 g4)))))))
      clear r1 r2 r3 r4 hb3 hbw3 hx hocc g3 g4
      go_wp2_with fail
      go_loop [24] (fun i => ∃ k : Nat, k ≤ (vars [t]).length ∧ i = .int .i64 k ∧ Hid ((vars [t]).all (shiftP from_ by_) = ((vars [t]).drop k).all (shiftP from_ by_))) (fun i => (vars [t]).length - (intOf i).toNat)
      case atStart => exact ⟨0, by omega, rfl, rfl⟩
      case round =>
        obtain ⟨k, hk, rfl, HR⟩ := hrel
        by_cases hlt : k < (vars [t]).length
        · obtain ⟨rfl, hQb⟩ := HW.out.2.2.2.2.2.2.1 (by omega)
          have d0 := HW.out.2.2.2.2.2.2.2 k hlt
          obtain ⟨hi1, hi2⟩ := HW.out.2.2.2.2.2.1 _ (List.getElem_mem hlt)
          have hdr : ((vars [t]).drop k).all (shiftP from_ by_) = (shiftP from_ by_ (vars [t])[k] && ((vars [t]).drop (k + 1)).all (shiftP from_ by_)) := by rw [List.drop_eq_getElem_cons hlt]; rfl
          have HD := Lib.hid (HR.out.trans hdr)
          clear hdr
          unfold inI at hi1
          generalize (vars [t])[k] = n at *
          by_cases hn : n < from_
          · have hp : shiftP from_ by_ n = true := by simp [shiftP, hn]
            have HDD := Lib.hid (show (vars [t]).all (shiftP from_ by_) = ((vars [t]).drop (k + 1)).all (shiftP from_ by_) by rw [HD.out, hp]; rfl)
            clear hp
            go_wp2_with fail
            go_round
            case rel => exact ⟨k + 1, by omega, by go_num, HDD.out⟩
            case measure => simp [intOf]; omega
          · have hn' : from_ ≤ n := by omega
            clear hn
            by_cases hq : from_ - n ≤ by_ ∧ by_ ≤ 1000000 - n
            · have hp : shiftP from_ by_ n = true := by simp [shiftP, hq.1, hq.2]
              have HDD := Lib.hid (show (vars [t]).all (shiftP from_ by_) = ((vars [t]).drop (k + 1)).all (shiftP from_ by_) by rw [HD.out, hp]; rfl)
              obtain ⟨hq1, hq2⟩ := hq
              clear hp
              go_wp2_with fail
              all_goals (try (exfalso; omega))
              go_round
              case rel => exact ⟨k + 1, by omega, by go_num, HDD.out⟩
              case measure => simp [intOf]; omega
            · have hp : shiftP from_ by_ n = false := by
                rw [Bool.eq_false_iff]; simp only [shiftP, ne_eq, Bool.or_eq_true, Bool.and_eq_true, decide_eq_true_eq]; omega
              have he1 : shiftE t from_ by_ = 1 := by rw [HE.out, HD.out, hp]; rfl
              have HE1 := Lib.hid he1
              clear hp he1
              by_cases hq1 : by_ < from_ - n
              · clear hq
                go_wp2_with fail
                all_goals (try (exfalso; omega))
                rw [HE1.out]
                have hfin := three_set (a' := .int .i64 0) (b' := .int .i64 0) (c' := .slice none 0 0) HW.out.2.2.2.2.1
                have e0 := (cells_of hfin 0).1
                have e1 := (cells_of hfin 1).1
                have e2 := (cells_of hfin 2).1
                simp only [List.getElem?_toArray, List.getElem?_cons_zero, List.getElem?_cons_succ] at e0 e1 e2
                refine bodyPost_ret (v := .tuple #[vzero, .int .i64 1]) (by simp [results, Try.results44, go_sem, e0, e1, e2, vzero]) rfl ?_
                exact ⟨_, rfl, (fun h => by cases h), fun _ => rfl, ((HW.out.1.setCell (p := ⟨w.heap.size + 1 + 1 + 1, 0, none⟩) (by simp; omega) _).setCell (p := ⟨w.heap.size + 1 + 1 + 1, 1, none⟩) (by simp; omega) _).setCell (p := ⟨w.heap.size + 1 + 1 + 1, 2, none⟩) (by simp; omega) _⟩
              · have hq2 : 1000000 - n < by_ := by omega
                clear hq
                go_wp2_with fail
                all_goals (try (exfalso; omega))
                rw [HE1.out]
                have hfin := three_set (a' := .int .i64 0) (b' := .int .i64 0) (c' := .slice none 0 0) HW.out.2.2.2.2.1
                have e0 := (cells_of hfin 0).1
                have e1 := (cells_of hfin 1).1
                have e2 := (cells_of hfin 2).1
                simp only [List.getElem?_toArray, List.getElem?_cons_zero, List.getElem?_cons_succ] at e0 e1 e2
                refine bodyPost_ret (v := .tuple #[vzero, .int .i64 1]) (by simp [results, Try.results44, go_sem, e0, e1, e2, vzero]) rfl ?_
                exact ⟨_, rfl, (fun h => by cases h), fun _ => rfl, ((HW.out.1.setCell (p := ⟨w.heap.size + 1 + 1 + 1, 0, none⟩) (by simp; omega) _).setCell (p := ⟨w.heap.size + 1 + 1 + 1, 1, none⟩) (by simp; omega) _).setCell (p := ⟨w.heap.size + 1 + 1 + 1, 2, none⟩) (by simp; omega) _⟩
        · have hres : (vars [t]).all (shiftP from_ by_) = true := by rw [HR.out, List.drop_eq_nil_of_le (by omega)]; rfl
          have he0 : shiftE t from_ by_ = 0 := by rw [HE.out, hres]; rfl
          have hrep := replaced_any t _ w3 (by have := trV_sz HG.out; omega) (allN_vars hres) (shift1_puts HW.out.2.2.1 HW.out.2.2.2.1 hf1) (trV_up HW.out.1 HH.out.2.2.2.2.2)
          have HRP := Lib.hid (And.intro hrep he0)
          clear hres he0 hrep
          go_wp2_with fail
          refine HRP.out.1.mono ?_
          rintro e w4 ⟨v', rfl, hv', hb'⟩
          obtain ⟨sl', rfl, q1, q2, hsl'⟩ := trV_iff.1 hv'
          obtain ⟨oa4, cap4, b4, o4, rfl, q3, q4, -, -⟩ := trS_at hsl'
          have r4 := (hb'.block _ (block_lt HW.out.2.2.2.2.1)).trans HW.out.2.2.2.2.1
          have y0 := (cells_of r4 0).1
          have y1 := (cells_of r4 1).1
          have y2 := (cells_of r4 2).1
          have f3 := fun j => (cells_of r4 j).2
          simp only [List.getElem?_toArray, List.getElem?_cons_zero, List.getElem?_cons_succ] at y0 y1 y2
          have HS := Lib.hid (And.intro r4 (And.intro hv' hb'))
          clear hv' hb' hsl' q1 q2 r4
          go_wp2_with fail
          rw [HRP.out.2]
          have hfin := three_set (a' := .int .i64 (shiftT from_ by_ t).k) (b' := .int .i64 (shiftT from_ by_ t).n) (c' := .slice oa4 (shiftT from_ by_ t).l.length cap4) HS.out.1
          have e0 := (cells_of hfin 0).1
          have e1 := (cells_of hfin 1).1
          have e2 := (cells_of hfin 2).1
          simp only [List.getElem?_toArray, List.getElem?_cons_zero, List.getElem?_cons_succ, shiftT] at e0 e1 e2
          refine bodyPost_ret (v := .tuple #[.agg #[.int .i64 (shiftT from_ by_ t).k, .int .i64 (shiftT from_ by_ t).n, .slice oa4 (shiftT from_ by_ t).l.length cap4], .int .i64 0]) (by simp [results, Try.results44, go_sem, e0, e1, e2, shiftT]) rfl ?_
          have hs1 := HW.out.1.size
          have hl4 := block_lt HW.out.2.2.2.2.1
          refine ⟨_, rfl, fun _ => trV_mono (fun b (hb : Nw _ _ b) => ⟨by have := hb.1; omega, by have := hb.2; simpa [World.setCell] using this⟩) (fun b (hb : Nw _ _ b) => ?_) _ HS.out.2.1, (fun h => absurd rfl h), (((below_next HW.out.1 HS.out.2.2).setCell (p := ⟨w.heap.size + 1 + 1 + 1, 0, none⟩) (by simp; omega) _).setCell (p := ⟨w.heap.size + 1 + 1 + 1, 1, none⟩) (by simp; omega) _).setCell (p := ⟨w.heap.size + 1 + 1 + 1, 2, none⟩) (by simp; omega) _⟩
          have h1 := hb.1
          rw [Below.heap_setCell _ _ _ _ (by simp; omega), Below.heap_setCell _ _ _ _ (by simp; omega), Below.heap_setCell _ _ _ _ (by simp; omega)]
end Go.Proofs.Ytapdfdjknehhgaa
