/- Normal. -/
import Derived.Test.YtapdfdjknehhgaaShift
import Derived.Test.YtapdfdjknehhgaaTx
namespace Go.Proofs.Ytapdfdjknehhgaa
open Go.RowKit Go.Tr Go.Maps

def entN (vs : List Int) (j : Nat) : List (Int × Value) := (vs.zipIdx j).map fun x => (x.1, .int .i64 x.2)
theorem fndI_entN (n : Int) (vs : List Int) : ∀ j, fndI n (entN vs j) = if n ∈ vs then some (.int .i64 ((j + vs.idxOf n : Nat) : Int)) else none := by
  induction vs with
  | nil => intro j; rfl
  | cons a r ih =>
    intro j
    have h := ih (j + 1)
    simp only [entN, List.zipIdx_cons, List.map_cons, fndI] at h ⊢
    by_cases hn : n = a
    · subst hn; simp
    · have hb : (n == a) = false := by simpa using hn
      rw [hb]
      simp only [Bool.false_eq_true, if_false, List.mem_cons, hn, false_or]
      rw [h]
      have hb2 : (a == n) = false := by simpa using fun e => hn e.symm
      by_cases hm : n ∈ r
      · simp only [hm, if_true, List.idxOf_cons, hb2, cond_false]
        congr 2; omega
      · simp [hm]
theorem entN_snoc (vs : List Int) (k : Nat) (h : k < vs.length) : entN (vs.take (k + 1)) 0 = entN (vs.take k) 0 ++ [(vs[k], .int .i64 k)] := by
  unfold entN
  rw [List.take_succ_eq_append_getElem h, List.zipIdx_append, List.map_append]
  simp [List.length_take, Nat.min_eq_left (Nat.le_of_lt h)]
set_option maxRecDepth 100000 in
theorem normal11_puts {pm bm : Nat} {vs : List Int} {w : World} (hm : w.heap[pm]? = some (.cells #[.map (some bm)] 110)) (hM : IMap w bm (entN vs 0)) (hlen : vs.length ≤ 1000000000000) :
    Puts 85 #[.pointer (some ⟨pm, 0, none⟩)] (fun n => var (idx vs n)) (fun n => vs.contains n) w := by
  refine ⟨fun _ _ => by go_simp, fun n hn => by rw [sz_var]; omega, fun n hn hi W hW => ?_⟩
  have hmem : n ∈ vs := by simpa using hn
  have hb1 := below_next hW (below_alloc W (.cells #[.int .i64 0, .int .i64 0, .slice none 0 0] 24))
  have dm := cell_of_one ((hb1.block pm (block_lt hm)).trans hm)
  have hlk := look_int Try.underlying110 zeroInt (hM.of_block (hb1.block bm hM.lt)) n hi false
  rw [fndI_entN, if_pos hmem] at hlk
  simp only [Bool.false_eq_true, if_false, Option.getD_some, Nat.zero_add] at hlk
  have hix : idx vs n = ((vs.idxOf n : Nat) : Int) := rfl
  have hle : vs.idxOf n < vs.length := List.idxOf_lt_length_of_mem hmem
  have HB := Lib.hid (fun (o1 o2 : Obj) => bA (bA (bZ W) o1) o2)
  simp only [hix]
  clear hm hM hW hb1 hmem hn hix
  generalize vs.idxOf n = j at *
  show Calls Try.prog 85 #[.int .i64 n, .pointer (some ⟨pm, 0, none⟩)] W _
  go_enter Try.func85, Try.ntmps85
  go_wp2_with fail
  refine (variable_any _ _).mono ?_
  rintro e w2 ⟨rfl, rfl⟩
  go_wp2_with fail
  refine bodyPost_ret (results_cell_row rfl _ _ W.heap.size 24 _ _ _ rfl ((Below.heap_alloc _ _ _ (by simp)).trans (heap_alloc_new W _)) Try.underlying24 rfl infoTk) rfl ?_
  exact ⟨_, rfl, trV_var (by unfold inI; omega), HB.out _ _⟩
set_option maxRecDepth 100000 in
theorem normal1_makes {pm bm : Nat} {vs : List Int} {t : Tm} {w : World} (hm : w.heap[pm]? = some (.cells #[.map (some bm)] 110)) (hM : IMap w bm (entN vs 0)) (hlen : vs.length ≤ 1000000000000)
    (ht : sz t ≤ 2000) (hocc : ∀ n, occ n t = true → n ∈ vs) : Makes 83 #[.pointer (some ⟨pm, 0, none⟩)] (numT vs) w t := by
  intro v W hW hv
  obtain ⟨sl, rfl, hk1, hk2, hsl⟩ := trV_iff.1 hv
  obtain ⟨oa, cap, b, o, rfl, hlc, hcm, -, -⟩ := trS_at hsl
  have hgr : Below W.heap.size W ((W.alloc (.cells #[.int .i64 t.k, .int .i64 t.n, .slice oa t.l.length cap] 24)).alloc (.cells #[.int .i64 0, .int .i64 0, .slice none 0 0] 24)) := bA (bA (bZ W) _) _
  have hq2 : ((W.alloc (.cells #[.int .i64 t.k, .int .i64 t.n, .slice oa t.l.length cap] 24)).alloc (.cells #[.int .i64 0, .int .i64 0, .slice none 0 0] 24)).heap[W.heap.size + 1]? = some (.cells #[.int .i64 0, .int .i64 0, .slice none 0 0] 24) := by (simp only [heap_alloc, alloc_size]; repeat (first | rw [if_pos trivial] | rw [if_pos (by omega)] | rw [if_neg (by omega)]))
  have hcall := replaced_any t _ _ (by omega) (allN_occ (p := fun n => vs.contains n) t (fun n hn => by simpa using hocc n hn)) (puts_up (normal11_puts hm hM hlen) (below_next hW hgr)) (trV_up hgr hv)
  have HC := Lib.hid hcall
  have HG := Lib.hid (And.intro hgr hq2)
  have hmf : ∀ (fn : Fn) (first cap : Array Value) (w : World), (Instr.makeFunc fn first cap).run Try.prog w = .ok (.func fn first cap) w := fun _ _ _ _ => rfl
  clear hcall hgr hq2 hv hsl hW hk1 hk2 hm hM ht hocc
  show Calls Try.prog 83 #[.agg #[.int .i64 t.k, .int .i64 t.n, .slice oa t.l.length cap], .pointer (some ⟨pm, 0, none⟩)] W _
  go_enter Try.func83, Try.ntmps83
  go_wp2_with fail
  refine HC.out.mono ?_
  rintro e w3 ⟨v', rfl, hv', hb'⟩
  obtain ⟨sl', rfl, q1, q2, hsl'⟩ := trV_iff.1 hv'
  obtain ⟨oa3, cap3, b3, o3, rfl, q3, q4, -, -⟩ := trS_at hsl'
  have r2 := (hb'.block _ (block_lt HG.out.2)).trans HG.out.2
  have b0 := (cells_of r2 0).1
  have b1 := (cells_of r2 1).1
  have b2 := (cells_of r2 2).1
  have f2 := fun j => (cells_of r2 j).2
  simp only [List.getElem?_toArray, List.getElem?_cons_zero, List.getElem?_cons_succ] at b0 b1 b2
  have HR := Lib.hid (And.intro r2 (And.intro hv' hb'))
  clear r2 hv' hb' hsl' q1 q2
  go_wp2_with fail
  have hfin := three_set (a' := .int .i64 (numT vs t).k) (b' := .int .i64 (numT vs t).n) (c' := .slice oa3 (numT vs t).l.length cap3) HR.out.1
  refine bodyPost_ret (results_cell_row rfl _ _ (W.heap.size + 1) 24 _ _ _ rfl hfin Try.underlying24 rfl infoTk) rfl ?_
  have hsz := HG.out.1.size
  have ha2 : ∀ o1 o2 : Obj, ((W.alloc o1).alloc o2).heap.size = W.heap.size + 1 + 1 := fun _ _ => by simp
  refine ⟨_, rfl, trV_mono (fun b (hb : Nw _ _ b) => ⟨Nat.le_trans hsz hb.1, by have := hb.2; simpa [World.setCell] using this⟩) (fun b (hb : Nw _ _ b) => ?_) _ HR.out.2.1, (((below_next HG.out.1 HR.out.2.2).setCell (p := ⟨W.heap.size + 1, 0, none⟩) (by simp) _).setCell (p := ⟨W.heap.size + 1, 1, none⟩) (by simp) _).setCell (p := ⟨W.heap.size + 1, 2, none⟩) (by simp) _⟩
  have h1 := hb.1
  rw [ha2] at h1
  rw [Below.heap_setCell _ _ _ _ (by simp; omega), Below.heap_setCell _ _ _ _ (by simp; omega), Below.heap_setCell _ _ _ _ (by simp; omega)]

/-- What Normal leaves. -/
def NormP (l : List Tm) (w : World) (e : Ending) (w' : World) : Prop :=
  ∃ v1 v2, e = .returned (.tuple #[v1, v2, .int .i64 (errT (l.all good))]) ∧ (l.all good = true → TrS w' (Nw w w') (l.map (numT (vars l))) v1 ∧ IntS w' (Nw w w') (vars l) v2) ∧ (l.all good = false → v1 = .slice none 0 0 ∧ v2 = .slice none 0 0) ∧ Below w.heap.size w w'
set_option maxRecDepth 100000 in
set_option maxHeartbeats 400000 in
theorem Normal_any (l : List Tm) (s : Value) (w : World) (hs : TrS w (· < w.heap.size) l s) (hsz : szL l ≤ 1000000000) :
    Calls Try.prog 42 #[s] w (NormP l w) := by
  have hA := areTrees_any l s w hs
  obtain ⟨oa, cap, b, o, rfl, hlc, hcm, -, -⟩ := trS_at hs
  cases hg : l.all good with
  | false =>
    rw [hg] at hA
    have HA := Lib.hid hA
    have HGG := Lib.hid hg
    clear hA hs hg
    unfold errT at *
    go_enter Try.func42, Try.ntmps42
    go_wp2_with fail
    refine HA.out.mono ?_
    rintro e w2 ⟨rfl, hb2⟩
    have HB := Lib.hid hb2
    clear hb2
    go_wp2_with fail
    go_ret3
    exact ⟨_, _, by rw [HGG.out]; rfl, (fun h => by rw [HGG.out] at h; cases h), fun _ => ⟨rfl, rfl⟩, HB.out⟩
  | true =>
    rw [hg] at hA
    have hdp := good_dpL hg
    have hlen := len_szL l
    have HA := Lib.hid (And.intro hA (And.intro hs (And.intro hg hdp)))
    have hmm := @run_makeMap Try.prog
    have hmf : ∀ (fn : Fn) (first cap : Array Value) (w : World), (Instr.makeFunc fn first cap).run Try.prog w = .ok (.func fn first cap) w := fun _ _ _ _ => rfl
    clear hA hs hg hdp
    unfold errT at *
    go_enter Try.func42, Try.ntmps42
    go_wp2_with fail
    refine HA.out.1.mono ?_
    rintro e w2 ⟨rfl, hb2⟩
    have hvr := variables_any l _ w2 (trS_up hb2 HA.out.2.1) (by omega) (by have := HA.out.2.2.2; omega)
    have HB := Lib.hid (And.intro hb2 hvr)
    clear hb2 hvr
    go_wp2_with fail
    refine HB.out.2.mono ?_
    rintro e w3 ⟨vv, rfl, hi, hb3⟩
    have hnd := vars_nodup l
    have hocc : ∀ n ∈ vars l, inI n := fun n hn => by
      obtain ⟨x, hx, hxn⟩ := (occL_iff n l).1 ((vars_mem l n).1 hn)
      obtain ⟨i, hil, rfl⟩ := List.getElem_of_mem hx
      obtain ⟨oa, cap, b, o, -, -, -, -, hel⟩ := trS_at HA.out.2.1
      obtain ⟨oa', cap', -, -, -, h⟩ := hel i hil
      exact occ_int _ h n hxn
    have hbw3 := below_next HB.out.1 hb3
    have hi0 := hi
    obtain ⟨oa2, cap2, b2, o2, rfl, g1, g2, g3, g4⟩ := hi
    have hvl : (vars l).length ≤ 1000000000000 := by have := vars_len l; omega
    have HV := Lib.hid (And.intro hbw3 (And.intro hi0 (And.intro hnd (And.intro hocc (And.intro g3 (And.intro g4 hvl))))))
    have HB3 := Lib.hid hb3
    clear hi0 hnd hocc g3 g4 hbw3 hb3 hvl
    go_wp2_with fail
    go_loopw [20] (fun i wr => ∃ k : Nat, k ≤ (vars l).length ∧ i = .int .i64 k ∧ Hid (IMap wr w3.heap.size (entN ((vars l).take k) 0) ∧ wr.heap[w3.heap.size + 1]? = some (.cells #[.map (some w3.heap.size)] 110) ∧ Below w3.heap.size w3 wr)) (fun i _ => (vars l).length - (intOf i).toNat)
    case atStart => exact ⟨0, by omega, rfl, ⟨#[], 0, by (simp only [heap_alloc, alloc_size]; repeat (first | rw [if_pos trivial] | rw [if_pos (by omega)] | rw [if_neg (by omega)])), rfl⟩, by (simp only [heap_alloc, alloc_size]; repeat (first | rw [if_pos trivial] | rw [if_pos (by omega)] | rw [if_neg (by omega)])), bA (bA (bZ w3) _) _⟩
    case round =>
      obtain ⟨k, hk, rfl, HI⟩ := hrel
      by_cases hlt : k < (vars l).length
      · obtain ⟨rfl, hQb⟩ := HV.out.2.2.2.2.1 (by omega)
        have d0 := (World.cell?_of_block (w := w3) (a := ⟨b2, o2 + k, none⟩) (HI.out.2.2.block b2 hQb.2)).trans (HV.out.2.2.2.2.2.1 k hlt)
        have dm := cell_of_one HI.out.2.1
        have hfr : fndI (vars l)[k] (entN ((vars l).take k) 0) = none := by
          rw [fndI_entN, if_neg]
          intro hm
          have hnd := HV.out.2.2.1
          rw [← List.take_append_drop k (vars l), List.nodup_append] at hnd
          exact hnd.2.2 _ hm _ (by rw [List.drop_eq_getElem_cons hlt]; exact List.mem_cons_self) rfl
        obtain ⟨w4, hrun, hm4, hg4⟩ := put_int Try.underlying110 HI.out.1 (vars l)[k] (HV.out.2.2.2.1 _ (List.getElem_mem hlt)) (.int .i64 k) hfr
        rw [← entN_snoc _ _ hlt] at hm4
        have hp4 := (hg4.block (w3.heap.size + 1) (block_lt HI.out.2.1) (by simp)).trans HI.out.2.1
        have hb4 : Below w3.heap.size w3 w4 := HI.out.2.2.grown hg4 HI.out.2.2.size (fun k hk => by cases hk; exact Nat.le_refl _)
        have HN := Lib.hid (And.intro hm4 (And.intro hp4 hb4))
        clear hfr hm4 hg4 hp4 hb4
        go_wp2_with fail
        go_roundw
        case rel => exact ⟨k + 1, by omega, by go_num, HN.out⟩
        case measure => simp [intOf]; omega
      · have hke : k = (vars l).length := by omega
        have hIk := HI.out
        rw [hke, List.take_length] at hIk
        have hbw := below_next HV.out.1 hIk.2.2
        have hcall := each_any (F := 83) (caps := #[.pointer (some ⟨w3.heap.size + 1, 0, none⟩)]) (f := numT (vars l)) l _ wr (trS_up hbw HA.out.2.1) (by omega) (fun _ _ => by go_simp)
          (fun x hx => normal1_makes hIk.2.1 hIk.1 HV.out.2.2.2.2.2.2 (trV_sz ((List.all_eq_true.1 HA.out.2.2.1) x hx)) (fun n hn => vars_occ hx hn))
        have HC := Lib.hid (And.intro hcall (And.intro hbw hIk.2.2))
        clear hcall hbw hIk hke
        go_wp2_with fail
        refine HC.out.1.mono ?_
        rintro e w5 ⟨v', rfl, hv', hb5⟩
        have HD := Lib.hid (And.intro hv' hb5)
        clear hv' hb5
        go_wp2_with fail
        go_ret3
        have hs5 := HC.out.2.1.size
        have hs6 := (below_next HC.out.2.2 HD.out.2).size
        have hw2 := HB.out.1.size
        exact ⟨_, _, by rw [HA.out.2.2.1]; rfl, fun _ => ⟨trS_mono (fun b (hb : Nw _ _ b) => ⟨by have := hb.1; omega, hb.2⟩) (fun _ _ => rfl) HD.out.1, intS_mono (fun b (hb : Nw _ _ b) => ⟨by have := hb.1; omega, by have := hb.2; omega⟩) (fun b (hb : Nw _ _ b) => (below_next HC.out.2.2 HD.out.2).block b hb.2) HV.out.2.1⟩, (fun h => by rw [HA.out.2.2.1] at h; cases h), below_next HC.out.2.1 HD.out.2⟩
end Go.Proofs.Ytapdfdjknehhgaa
