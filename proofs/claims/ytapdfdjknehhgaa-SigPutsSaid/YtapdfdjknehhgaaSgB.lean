/- Merged: Sig7, Sig8, Sig9, SigA, SigB, SigC, SigD, SigE, SigF, SigG. -/
import Derived.Test.YtapdfdjknehhgaaSgA
import Derived.Deep.RegionLaw
import Derived.Test.YtapdfdjknehhgaaOpen
import Derived.Test.YtapdfdjknehhgaaRpl
import Derived.Deep.QuietTactic
import Derived.BigQuiet
import Derived.Deep.RegionHeld3
import Derived.Maps.RangeRun

/- The operations of a signature. -/
namespace Go.Proofs.Ytapdfdjknehhgaa
open Go.RowKit Go.Tr Go.Maps

def setO (l : List Op1) : List (Value × Value) := l.map fun o => (.agg (pf o).toArray, .bool true)
/-- An operation that can be a key. -/
def OkO (o : Op1) : Prop := o.nm.size ≤ 9223372036854775807 ∧ inI o.rs ∧ (∀ n ∈ o.ar, inI n)
theorem setO_key {l : List Op1} (h : ∀ o ∈ l, OkO o) (h8 : ∀ o ∈ l, o.ar.length ≤ 8) : ∀ e ∈ setO l, ∃ k, keyOf Try.prog 128 e.1 = some k := by
  intro e he
  obtain ⟨o, ho, rfl⟩ := List.mem_map.1 he
  exact key_pf o (h o ho).1 (h o ho).2.1 (h o ho).2.2 (h8 o ho)
theorem opGo_cons (m : Nat) (s : List Op1) (x : Op1) (r : List Op1) : opGo m s (x :: r) = (opOk m x && !memB x s && opGo m (s ++ [x]) r) := rfl
theorem opOk_len {m : Nat} {o : Op1} (h : opOk m o = true) : o.ar.length ≤ 8 := by
  unfold opOk at h; simp only [Bool.and_eq_true, decide_eq_true_eq] at h; exact h.1.1.1.2
theorem eleven {l : List Value} (h : l.length = 11) : ∃ a b c d e f g i j k m, l = [a, b, c, d, e, f, g, i, j, k, m] := by
  match l, h with
  | [a, b, c, d, e, f, g, i, j, k, m], _ => exact ⟨_, _, _, _, _, _, _, _, _, _, _, rfl⟩
theorem infoInt1 : (Try.prog.info? 3).map (·.size) = some 1 := by kernel_rfl
set_option maxRecDepth 100000 in
theorem areOps_any (l : List Op1) (k c : Nat) (a : Option Addr) (s : Value) (w : World) (hs : OpsS w (· < w.heap.size) l s) (hok : ∀ o ∈ l, OkO o) :
    Calls Try.prog 89 #[.agg #[.slice a k c, s]] w fun e w' => e = .returned (.bool (opGo k [] l)) ∧ Below w.heap.size w w' := by
  obtain ⟨oa, cap, b, o, rfl, hlc, hcm, hoa, hel⟩ := hs
  have H := Lib.hid (And.intro hoa (And.intro hel hok))
  clear hoa hel hok
  obtain ⟨R, hR⟩ : ∃ R : Bool, R = opGo k [] l := ⟨_, rfl⟩
  rw [← hR]
  have HR0 := Lib.hid hR
  clear hR
  obtain ⟨n, hn⟩ : ∃ n, n = l.length := ⟨_, rfl⟩
  rw [← hn] at hlc ⊢
  have HN := Lib.hid hn
  clear hn
  obtain ⟨ob, hob⟩ : ∃ o : Obj, o = .cells #[.slice a k c, .slice oa n cap] 56 := ⟨_, rfl⟩
  have hM : GMap ((w.alloc ob).alloc (.map #[] 0)) (w.heap.size + 1) [] := ⟨#[], 0, by (simp only [heap_alloc, alloc_size]; repeat (first | rw [if_pos trivial] | rw [if_pos (by omega)] | rw [if_neg (by omega)])), rfl, by simp, by simp⟩
  have hq : ((w.alloc ob).alloc (.map #[] 0)).heap[w.heap.size]? = some ob := by (simp only [heap_alloc, alloc_size]; repeat (first | rw [if_pos trivial] | rw [if_pos (by omega)] | rw [if_neg (by omega)]))
  have hb : Below w.heap.size w ((w.alloc ob).alloc (.map #[] 0)) := bA (bA (bZ w) _) _
  have HM := Lib.hid (And.intro hM (And.intro hb (And.intro hq hob)))
  clear hM hb hq
  subst hob
  have hmm := make_hint Try.underlying124
  go_enter Try.func89, Try.ntmps89
  go_wp2_with fail
  clear hmm
  go_loopw [14] (fun i wr => ∃ j : Nat, j ≤ n ∧ i = .int .i64 j ∧ Hid (R = opGo k (l.take j) (l.drop j) ∧ Below w.heap.size w wr ∧ GMap wr (w.heap.size + 1) (setO (l.take j)) ∧ wr.heap[w.heap.size]? = some (.cells #[.slice a k c, .slice oa n cap] 56) ∧ ∀ x ∈ l.take j, x.ar.length ≤ 8)) (fun i _ => n - (intOf i).toNat)
  case atStart => exact ⟨0, by omega, rfl, HR0.out, HM.out.2.1, HM.out.1, HM.out.2.2.1, by simp⟩
  case round =>
    obtain ⟨j, hj, rfl, HI⟩ := hrel
    by_cases hlt : j < n
    · have hl1 : j < l.length := by have := HN.out; omega
      obtain ⟨rfl, hb1⟩ := H.out.1 (by omega)
      obtain ⟨sa, c0, c1, c2, ci⟩ := H.out.2.1 j hl1
      have hbl := HI.out.2.1.block b hb1
      have d0 := (World.cell?_of_block (w := w) (a := ⟨b, o + j * 3, none⟩) hbl).trans c0
      have d1 := (World.cell?_of_block (w := w) (a := ⟨b, o + j * 3 + 1, none⟩) hbl).trans c1
      have d2 := (World.cell?_of_block (w := w) (a := ⟨b, o + j * 3 + 2, none⟩) hbl).trans c2
      have i0 : (0 : Int) ≤ (j : Int) := Int.natCast_nonneg _
      have i1 : (j : Int) < (n : Int) := by omega
      have hdr : R = opGo k (l.take j) (l[j] :: l.drop (j + 1)) := by rw [HI.out.1, List.drop_eq_getElem_cons hl1]
      have htk : l.take (j + 1) = l.take j ++ [l[j]] := List.take_succ_eq_append_getElem hl1
      have hokx := H.out.2.2 l[j] (List.getElem_mem hl1)
      have hkeys := setO_key (l := l.take j) (fun s hs => H.out.2.2 s (List.mem_of_mem_take hs)) HI.out.2.2.2.2
      rw [opGo_cons] at hdr
      have hi := intS_up HI.out.2.1 ci
      have hstep := HI.out.2.2.1
      have hsg := (cells_of HI.out.2.2.2.1 0).1
      have hwl : w.heap.size < wr.heap.size := block_lt HI.out.2.2.2.1
      have hsg1 := (cells_of HI.out.2.2.2.1 1).1
      simp only [List.getElem?_toArray, List.getElem?_cons_zero, List.getElem?_cons_succ] at hsg hsg1
      generalize l[j] = x at *
      obtain ⟨V, hV⟩ : ∃ V, V = l.take j := ⟨_, rfl⟩
      have h8V : ∀ x ∈ V, x.ar.length ≤ 8 := by rw [hV]; exact HI.out.2.2.2.2
      rw [← hV] at hkeys hdr htk hstep
      clear hV c0 c1 c2 ci hbl
      obtain ⟨oo, hoo⟩ : ∃ o : Obj, o = .cells #[.string x.nm, sa, .int .i64 x.rs] 107 := ⟨_, rfl⟩
      have hw1 : Below w.heap.size w (wr.alloc oo) := HI.out.2.1.alloc HI.out.2.1.size _
      have hq1 := heap_alloc_new wr oo
      have hs1 : (wr.alloc oo).heap[w.heap.size]? = some (.cells #[.slice a k c, .slice (some ⟨b, o, none⟩) n cap] 56) := (below_alloc wr oo).block _ (block_lt HI.out.2.2.2.1) |>.trans HI.out.2.2.2.1
      have hm1 : GMap (wr.alloc oo) (w.heap.size + 1) (setO V) := hstep.of_block ((below_alloc wr oo).block _ hstep.lt)
      have hcall := isOp_any x k c a (.slice (some ⟨b, o, none⟩) n cap) sa (wr.alloc oo) (intS_up (below_alloc wr oo) hi)
      have HC := Lib.hid hcall
      have HD := Lib.hid (And.intro hdr (And.intro htk (And.intro hkeys (And.intro hokx (And.intro h8V hi)))))
      have H1 := Lib.hid (And.intro hw1 (And.intro hq1 (And.intro hs1 (And.intro hm1 hoo))))
      clear hdr htk hkeys hokx h8V hi hw1 hq1 hs1 hm1 hcall hstep
      subst hoo
      have hsa : ∃ oa' cap' b' o', sa = .slice oa' x.ar.length cap' ∧ x.ar.length ≤ cap' ∧ cap' ≤ 9223372036854775807 ∧ (0 < x.ar.length → oa' = some ⟨b', o', none⟩ ∧ b' < wr.heap.size) ∧ ∀ i (h : i < x.ar.length), wr.cell? ⟨b', o' + i, none⟩ = some (.int .i64 x.ar[i]) := HD.out.2.2.2.2.2
      obtain ⟨oa', cap', b', o', rfl, hlc', hcm', hoa', hel'⟩ := hsa
      have HE := Lib.hid (And.intro hoa' hel')
      clear hoa' hel'
      go_wp2_with fail
      refine HC.out.mono ?_
      rintro e w2 ⟨rfl, hb2⟩
      have hw2 := below_le H1.out.1 hb2 H1.out.1.size
      have hq2 := (hb2.block _ (block_lt H1.out.2.1)).trans H1.out.2.1
      have hs2 := (hb2.block _ (block_lt H1.out.2.2.1)).trans H1.out.2.2.1
      have hm2 := H1.out.2.2.2.1.of_block (hb2.block _ H1.out.2.2.2.1.lt)
      have hz2 := hb2.size
      have H2 := Lib.hid (And.intro hw2 (And.intro hq2 (And.intro hs2 (And.intro hm2 (And.intro hb2 hz2)))))
      have e0 := (cells_of hq2 0).1
      have e1 := (cells_of hq2 1).1
      have e2 := (cells_of hq2 2).1
      simp only [List.getElem?_toArray, List.getElem?_cons_zero, List.getElem?_cons_succ] at e0 e1 e2
      clear hw2 hq2 hs2 hm2 hb2 hz2 hsg hsg1 d0 d1 d2
      cases hop : opOk k x with
      | false =>
        have hres : R = false := by rw [HD.out.1, hop]; rfl
        have HR := Lib.hid hres
        clear hres hop
        go_wp2_with fail
        go_ret
        rw [HR.out]
        exact ⟨rfl, H2.out.1⟩
      | true =>
        have h8 := opOk_len hop
        have HOP := Lib.hid hop
        clear hop
        go_wp2_with fail
        obtain ⟨op, hop⟩ : ∃ o : Obj, o = .cells #[.string x.nm, .int .i64 0, .int .i64 0, .int .i64 0, .int .i64 0, .int .i64 0, .int .i64 0, .int .i64 0, .int .i64 0, .int .i64 x.ar.length, .int .i64 x.rs] 128 := ⟨_, rfl⟩
        have hg0 := heap_alloc_new w2 op
        have hb3 : Below w.heap.size w (w2.alloc op) := H2.out.1.alloc H2.out.1.size _
        have hsrc : ∀ j v, (x.ar.map (Value.int .i64))[j]? = some v → (w2.alloc op).cell? ((⟨b', o', none⟩ : Addr).add j) = some v := by
          intro j v hv
          rw [List.getElem?_map] at hv
          obtain ⟨y, hy, rfl⟩ := Option.map_eq_some_iff.1 hv
          obtain ⟨hj, hy⟩ := List.getElem?_eq_some_iff.1 hy
          have hbb := (HE.out.1 (by omega)).2
          rw [add_at rfl]
          have hbl : (w2.alloc op).heap[b']? = wr.heap[b']? := by
            rw [Below.heap_alloc _ _ _ (by have := H2.out.2.2.2.2.2; simp at this; omega)]
            rw [H2.out.2.2.2.2.1.block _ (by simp; omega)]
            exact (below_alloc wr _).block _ hbb
          rw [World.cell?_of_block (w := wr) (a := ⟨b', o' + j, none⟩) hbl, HE.out.2 j hj, hy]
        have e3 : ∀ k v, w2.cell? ⟨wr.heap.size, k, none⟩ = some v → (w2.alloc op).cell? ⟨wr.heap.size, k, none⟩ = some v := fun k v h => (World.cell?_of_block (w := w2) (a := ⟨wr.heap.size, k, none⟩) (Below.heap_alloc _ _ _ (block_lt H2.out.2.1))).trans h
        have e3a := e3 1 _ e1
        have HP := Lib.hid (And.intro hg0 (And.intro hb3 (And.intro hsrc (And.intro h8 e3a))))
        have hwl2 : wr.heap.size < w2.heap.size := block_lt H2.out.2.1
        clear hg0 hb3 hsrc e3
        subst hop
        go_wp2_with fail
        go_region_law (refine step_copy_splice rfl (.tmp 31) (.tmp 33) 32 32 rfl 3 Try.underlying32 infoInt1 _ _ _ _ _ _ rfl rfl w2.heap.size 1 _ 128 HP.out.1 (x.ar.map (Value.int .i64)) (by rw [List.length_map]; exact (Nat.min_eq_left HP.out.2.2.2.1).symm) (fun h => ⟨rfl, _, (HE.out.1 (by simpa using h)).1, HP.out.2.2.1⟩) (by simp only [List.length_map, List.length_cons, List.length_nil]; omega) (by intro v hv; obtain ⟨y, -, rfl⟩ := List.mem_map.1 hv; rfl) w2.heap.size w2 (below_alloc w2 _).drew (Nat.le_refl _) ?_; intro w4 hg4 hb4)
        have hg5 := hg4.out
        rw [splice_pf x HP.out.2.2.2.1] at hg5
        obtain ⟨p0, p1, p2, p3, p4, p5, p6, p7, p8, p9, p10, hpf⟩ := eleven (pf_len x)
        rw [hpf] at hg5
        have q0 := (cells_of hg5 0).1
        have q1 := (cells_of hg5 1).1
        have q2 := (cells_of hg5 2).1
        have q3 := (cells_of hg5 3).1
        have q4 := (cells_of hg5 4).1
        have q5 := (cells_of hg5 5).1
        have q6 := (cells_of hg5 6).1
        have q7 := (cells_of hg5 7).1
        have q8 := (cells_of hg5 8).1
        have q9 := (cells_of hg5 9).1
        have q10 := (cells_of hg5 10).1
        simp only [List.getElem?_toArray, List.getElem?_cons_zero, List.getElem?_cons_succ] at q0 q1 q2 q3 q4 q5 q6 q7 q8 q9 q10
        have hm4 : GMap w4 (w.heap.size + 1) (setO V) := H2.out.2.2.2.1.of_block (hb4.block _ H2.out.2.2.2.1.lt)
        have hs4 := (hb4.block _ (block_lt H2.out.2.2.1)).trans H2.out.2.2.1
        have hw4 := below_le H2.out.1 hb4 H2.out.1.size
        obtain ⟨lk, hlk⟩ := key_pf x HD.out.2.2.2.1.1 HD.out.2.2.2.1.2.1 HD.out.2.2.2.1.2.2 HP.out.2.2.2.1
        have hx : (Value.agg (pf x).toArray) = .agg #[p0, p1, p2, p3, p4, p5, p6, p7, p8, p9, p10] := by rw [hpf]
        rw [hx] at hlk
        have hgl := block_lt hg5
        by_cases hc : x ∈ V
        · have hl := look_hit keyedP Try.underlying124 hm4 HD.out.2.2.1 hlk ⟨(.agg (pf x).toArray, .bool true), List.mem_map.2 ⟨x, hc, rfl⟩, hx⟩ (v := .bool true) (fun e he _ => by obtain ⟨y, -, rfl⟩ := List.mem_map.1 he; rfl) false
          simp only [Bool.false_eq_true, if_false] at hl
          have hres : R = false := by rw [HD.out.1, (memB_iff _ _).2 hc]; simp
          have HR := Lib.hid (And.intro hres hw4)
          clear hres hc hpf hx hlk hg5 hm4 hs4 hw4 hb4 hg4
          go_wp2_with fail
          go_ret
          rw [HR.out.1]
          exact ⟨rfl, HR.out.2⟩
        · have hne : ∀ e ∈ setO V, e.1 ≠ .agg #[p0, p1, p2, p3, p4, p5, p6, p7, p8, p9, p10] := by
            intro e he h
            obtain ⟨y, hy, rfl⟩ := List.mem_map.1 he
            rw [← hx] at h
            simp only [Value.agg.injEq] at h
            have h := congrArg Array.toList h
            have hyx := pf_inj (HD.out.2.2.2.2.1 y hy) HP.out.2.2.2.1 h
            subst hyx
            exact hc hy
          have hl := look_miss keyedP Try.underlying124 zeroBool hm4 HD.out.2.2.1 hlk hne false
          simp only [Bool.false_eq_true, if_false] at hl
          obtain ⟨w5, hrun, hm5, hg6⟩ := put_miss keyedP Try.underlying124 hm4 HD.out.2.2.1 hlk hne (.bool true)
          have hw5 : Below w.heap.size w w5 := hw4.grown hg6 hw4.size (fun j hj => by cases hj; omega)
          have hs5 := (hg6.block _ (block_lt hs4) (by simp)).trans hs4
          have hres : R = opGo k (V ++ [x]) (l.drop (j + 1)) := by rw [HD.out.1, HOP.out, memB_false hc]; rfl
          have hset : setO (V ++ [x]) = setO V ++ [(.agg #[p0, p1, p2, p3, p4, p5, p6, p7, p8, p9, p10], .bool true)] := by unfold setO; rw [List.map_append, ← hx]; rfl
          rw [← hset] at hm5
          have h8V : ∀ y ∈ V ++ [x], y.ar.length ≤ 8 := by
            intro y hy
            rcases List.mem_append.1 hy with hy | hy
            · exact HD.out.2.2.2.2.1 y hy
            · rw [List.mem_singleton.1 hy]; exact HP.out.2.2.2.1
          have HR := Lib.hid (And.intro hres (And.intro hw5 (And.intro hm5 (And.intro hs5 h8V))))
          clear hres hc hpf hx hlk hg5 hm4 hs4 hw4 hb4 hg4 hset hm5 hs5 hw5 hg6 h8V hne
          go_wp2_with fail
          go_roundw
          case rel => exact ⟨j + 1, by omega, by go_num, by rw [HD.out.2.1]; exact HR.out⟩
          case measure => simp [intOf]; omega
    · have hres : R = true := by rw [HI.out.1, List.drop_eq_nil_of_le (by have := HN.out; omega)]; rfl
      have HR := Lib.hid hres
      clear hres
      go_wp2_with fail
      go_ret
      rw [HR.out]
      exact ⟨rfl, HI.out.2.1⟩
end Go.Proofs.Ytapdfdjknehhgaa

/- What is a signature: Check; Find. -/
namespace Go.Proofs.Ytapdfdjknehhgaa
open Go.RowKit Go.Tr Go.Maps

theorem sgOk_op {S : Sg} (h : SgOk S) : ∀ o ∈ S.op, OkO o := fun o ho => ⟨h.nm o ho, h.rs o ho, h.ar o ho⟩
set_option maxRecDepth 100000 in
theorem Check_any (S : Sg) (v : Value) (w : World) (hv : SgV w (· < w.heap.size) S v) :
    Calls Try.prog 48 #[v] w fun e w' => e = .returned (.int .i64 (chk S)) ∧ Below w.heap.size w w' := by
  obtain ⟨a, b, rfl, hso, hop, hok⟩ := hv
  obtain ⟨oa, ca, ba, pa, rfl, hla, hma, -⟩ := id hso
  obtain ⟨ob, cb, bb, pb, rfl, hlb, hmb, -⟩ := id hop
  obtain ⟨n, hn⟩ : ∃ n, n = S.so.length := ⟨_, rfl⟩
  obtain ⟨m, hm⟩ : ∃ m, m = S.op.length := ⟨_, rfl⟩
  rw [← hn] at hso hla ⊢
  rw [← hm] at hop hlb ⊢
  obtain ⟨o1, ho1⟩ : ∃ o : Obj, o = .cells #[.slice oa n ca, .slice ob m cb] 56 := ⟨_, rfl⟩
  have hb : Below w.heap.size w (w.alloc o1) := bA (bZ w) _
  have hq := heap_alloc_new w o1
  have hc1 := areSorts_any S.so _ (w.alloc o1) (strS_mono (fun b (hb : b < w.heap.size) => by simp; omega) (fun b hb => (below_alloc w o1).block b hb) hso) hok.so
  have hc2 := fun W (hW : Below w.heap.size w W) => areOps_any S.op n ca oa _ W (opsS_mono (Q := (· < W.heap.size)) (fun b (hb : b < w.heap.size) => Nat.lt_of_lt_of_le hb hW.size) (fun b hb => hW.block b hb) hop) (sgOk_op hok)
  obtain ⟨R, hR⟩ : ∃ R : Int, R = chk S := ⟨_, rfl⟩
  rw [← hR]
  have HH := Lib.hid (And.intro hb (And.intro hq (And.intro hc1 (And.intro hc2 (And.intro hR (And.intro hn hm))))))
  clear hb hq hc1 hc2 hR hn hm hso hop hok
  subst ho1
  by_cases c1 : 64 < (n : Int)
  · have hres : R = 40 := by
      rw [HH.out.2.2.2.2.1]
      have : ¬ S.so.length ≤ 64 := by have := HH.out.2.2.2.2.2.1; omega
      simp [chk, this]
    have HR := Lib.hid hres
    clear hres
    go_enter Try.func48, Try.ntmps48
    go_wp2_with fail
    go_ret
    rw [HR.out]
    exact ⟨rfl, HH.out.1⟩
  · by_cases c2 : 256 < (m : Int)
    · have hres : R = 40 := by
        rw [HH.out.2.2.2.2.1]
        have : ¬ S.op.length ≤ 256 := by have := HH.out.2.2.2.2.2.2; omega
        simp [chk, this]
      have HR := Lib.hid hres
      clear hres
      go_enter Try.func48, Try.ntmps48
      go_wp2_with fail
      go_ret
      rw [HR.out]
      exact ⟨rfl, HH.out.1⟩
    · have hl1 : decide (S.so.length ≤ 64) = true := decide_eq_true (by have := HH.out.2.2.2.2.2.1; omega)
      have hl2 : decide (S.op.length ≤ 256) = true := decide_eq_true (by have := HH.out.2.2.2.2.2.2; omega)
      have HL := Lib.hid (And.intro hl1 hl2)
      clear hl1 hl2
      go_enter Try.func48, Try.ntmps48
      go_wp2_with fail
      refine HH.out.2.2.1.mono ?_
      rintro e w2 ⟨rfl, hb2⟩
      have hw2 := below_next HH.out.1 hb2
      have hq2 := (hb2.block _ (block_lt HH.out.2.1)).trans HH.out.2.1
      have e0 := (cells_of hq2 0).1
      have e1 := (cells_of hq2 1).1
      simp only [List.getElem?_toArray, List.getElem?_cons_zero, List.getElem?_cons_succ] at e0 e1
      have H2 := Lib.hid hw2
      clear hq2 hb2 hw2
      cases c3 : soGo [] S.so with
      | false =>
        have hres : R = 40 := by rw [HH.out.2.2.2.2.1]; simp [chk, c3]
        have HR := Lib.hid hres
        clear hres c3
        go_wp2_with fail
        go_ret
        rw [HR.out]
        exact ⟨rfl, H2.out⟩
      | true =>
        have HC := Lib.hid c3
        have hcall := HH.out.2.2.2.1 w2 H2.out
        have HCA := Lib.hid hcall
        clear c3 hcall
        go_wp2_with fail
        refine HCA.out.mono ?_
        rintro e w3 ⟨rfl, hb3⟩
        have H3 := Lib.hid (below_next H2.out hb3)
        clear hb3
        cases c4 : opGo n [] S.op with
        | false =>
          have hres : R = 40 := by
            rw [HH.out.2.2.2.2.1]
            have hn := HH.out.2.2.2.2.2.1
            rw [hn] at c4
            simp [chk, c4]
          have HR := Lib.hid hres
          clear hres c4
          go_wp2_with fail
          go_ret
          rw [HR.out]
          exact ⟨rfl, H3.out⟩
        | true =>
          have hres : R = 0 := by
            rw [HH.out.2.2.2.2.1]
            have hn := HH.out.2.2.2.2.2.1
            rw [hn] at c4
            unfold chk
            rw [HL.out.1, HL.out.2, HC.out, c4]; rfl
          have HR := Lib.hid hres
          clear hres c4
          go_wp2_with fail
          go_ret
          rw [HR.out]
          exact ⟨rfl, H3.out⟩
end Go.Proofs.Ytapdfdjknehhgaa

/- The operation of a root: opOf. -/
namespace Go.Proofs.Ytapdfdjknehhgaa
open Go.RowKit Go.Tr Go.Maps

theorem bDN {B : Nat} {a w : World} (h : Below B a w) (n : Nat) : Below B a (w.drewN n) := ⟨h.os, h.tape, h.output, h.size, h.block⟩
def opVal (o : Op1) (s : Value) : Value := .agg #[.string o.nm, s, .int .i64 o.rs]
def OpOfP (S : Sg) (t : Tm) (P : Nat → Prop) (w : World) (e : Ending) (w' : World) : Prop :=
  Below w.heap.size w w' ∧ match opAtT S t.n t.l.length with
    | none => e = .returned (.tuple #[.agg #[.string ⟨#[]⟩, .slice none 0 0, .int .i64 0], .bool false])
    | some o => ∃ oa c, e = .returned (.tuple #[opVal o (.slice oa o.ar.length c), .bool true]) ∧ IntS w P o.ar (.slice oa o.ar.length c)
set_option maxRecDepth 100000 in
theorem opOf_any {P : Nat → Prop} (S : Sg) (t : Tm) (v vt : Value) (w : World) (hP : ∀ b, P b → b < w.heap.size) (hv : SgV w P S v) (hvt : TrV w (· < w.heap.size) t vt) (h0 : 0 ≤ t.n) :
    Calls Try.prog 105 #[v, vt] w fun e w' => OpOfP S t P w e w' := by
  obtain ⟨a, b, rfl, hso, hop, hok⟩ := hv
  obtain ⟨oa, ca, ba, pa, rfl, hla, hma, -⟩ := id hso
  obtain ⟨ob, cb, bb, pb, rfl, hlb, hmb, hbb, hel⟩ := hop
  obtain ⟨sl, rfl, hk1, hk2, hsl⟩ := trV_iff.1 hvt
  obtain ⟨oc, cc, bc, pc, rfl, hlc, hmc, -, -⟩ := trS_at hsl
  obtain ⟨tk, tn, tl⟩ := t
  simp only [Tm.k, Tm.n, Tm.l] at *
  obtain ⟨j, rfl⟩ : ∃ j : Nat, tn = (j : Int) := ⟨tn.toNat, by omega⟩
  have hw3 : ∀ (o1 o2 o3 : Obj), Below w.heap.size w (((w.alloc o1).alloc o2).alloc o3) ∧ (((w.alloc o1).alloc o2).alloc o3).heap[w.heap.size]? = some o1 ∧ (((w.alloc o1).alloc o2).alloc o3).heap[w.heap.size + 1]? = some o2 ∧ (((w.alloc o1).alloc o2).alloc o3).heap[w.heap.size + 1 + 1]? = some o3 := by
    intro o1 o2 o3
    exact ⟨bA (bA (bA (bZ w) _) _) _, by (simp only [heap_alloc, alloc_size]; repeat (first | rw [if_pos trivial] | rw [if_pos (by omega)] | rw [if_neg (by omega)])), by (simp only [heap_alloc, alloc_size]; repeat (first | rw [if_pos trivial] | rw [if_pos (by omega)] | rw [if_neg (by omega)])), by (simp only [heap_alloc, alloc_size]; repeat (first | rw [if_pos trivial] | rw [if_pos (by omega)] | rw [if_neg (by omega)]))⟩
  have hh := hw3 (.cells #[.slice oa S.so.length ca, .slice ob S.op.length cb] 56) (.cells #[.int .i64 tk, .int .i64 j, .slice oc tl.length cc] 24) (.cells #[.string ⟨#[]⟩, .slice none 0 0, .int .i64 0] 107)
  have hi : ∀ (h : j < S.op.length), ∃ oa c, w.cell? ⟨bb, pb + j * 3, none⟩ = some (.string S.op[j].nm) ∧ w.cell? ⟨bb, pb + j * 3 + 1, none⟩ = some (.slice oa S.op[j].ar.length c) ∧ w.cell? ⟨bb, pb + j * 3 + 2, none⟩ = some (.int .i64 S.op[j].rs) ∧ IntS w P S.op[j].ar (.slice oa S.op[j].ar.length c) := by
    intro h
    obtain ⟨s, c0, c1, c2, ci⟩ := hel _ h
    obtain ⟨oa', c', b', o', rfl, h1, h2, h3⟩ := ci
    exact ⟨oa', c', c0, c1, c2, oa', c', b', o', rfl, h1, h2, h3⟩
  obtain ⟨R, hR⟩ : ∃ R, R = opAtT S (j : Int) tl.length := ⟨_, rfl⟩
  unfold OpOfP
  simp only [Tm.n, Tm.l]
  rw [← hR]
  have HH := Lib.hid (And.intro hh (And.intro hi (And.intro hbb hR)))
  clear hw3 hh hi hbb hR hel hso hok hsl hvt hla hma
  have a0 := (cells_of HH.out.1.2.1 0).1
  have a1 := (cells_of HH.out.1.2.1 1).1
  have b0 := (cells_of HH.out.1.2.2.1 0).1
  have b1 := (cells_of HH.out.1.2.2.1 1).1
  have b2 := (cells_of HH.out.1.2.2.1 2).1
  simp only [List.getElem?_toArray, List.getElem?_cons_zero, List.getElem?_cons_succ] at a0 a1 b0 b1 b2
  clear h0 hk1 hk2
  have i0 : (0 : Int) ≤ (j : Int) := Int.natCast_nonneg _
  by_cases c1 : (S.op.length : Int) ≤ (j : Int)
  · have hres : R = none := by
      rw [HH.out.2.2.2]; unfold opAtT
      rw [List.getElem?_eq_none (by omega)]
    subst hres
    have hd : decide ((S.op.length : Int) ≤ (j : Int)) = true := decide_eq_true c1
    go_enter Try.func105, Try.ntmps105
    go_wp2_with fail
    go_quiet (fail)
    go_wp2_with fail
    generalize hw : ((w.alloc _).alloc _).alloc _ = w3 at *
    have hr : (w3.drewN nq).heap[w.heap.size + 1 + 1]? = some (.cells #[.string ⟨#[]⟩, .slice none 0 0, .int .i64 0] 107) := HH.out.1.2.2.2
    have hfin := three_set (a' := .string ⟨#[]⟩) (b' := .slice none 0 0) (c' := .int .i64 0) hr
    have e0 := (cells_of hfin 0).1
    have e1 := (cells_of hfin 1).1
    have e2 := (cells_of hfin 2).1
    simp only [List.getElem?_toArray, List.getElem?_cons_zero, List.getElem?_cons_succ] at e0 e1 e2
    refine bodyPost_ret (v := .tuple #[.agg #[.string ⟨#[]⟩, .slice none 0 0, .int .i64 0], .bool false]) (by simp [results, Try.results105, go_sem, e0, e1, e2]) rfl ?_
    exact ⟨(((bDN HH.out.1.1 nq).setCell (p := ⟨w.heap.size + 1 + 1, 0, none⟩) (by simp; omega) _).setCell (p := ⟨w.heap.size + 1 + 1, 1, none⟩) (by simp; omega) _).setCell (p := ⟨w.heap.size + 1 + 1, 2, none⟩) (by simp; omega) _, rfl⟩
  · have i1 : (j : Int) < (S.op.length : Int) := by omega
    obtain ⟨rfl, hPb⟩ := HH.out.2.2.1 (by omega)
    have hbw := hP bb hPb
    obtain ⟨oe, ce, f0, f1, f2, fi⟩ := HH.out.2.1 (by omega)
    have hat : S.op[j]? = some S.op[j] := List.getElem?_eq_getElem (by omega)
    have hbl := HH.out.1.1.block bb hbw
    have g0 := (World.cell?_of_block (a := ⟨bb, pb + j * 3, none⟩) hbl).trans f0
    have g1 := (World.cell?_of_block (a := ⟨bb, pb + j * 3 + 1, none⟩) hbl).trans f1
    have g2 := (World.cell?_of_block (a := ⟨bb, pb + j * 3 + 2, none⟩) hbl).trans f2
    have hRR := HH.out.2.2.2
    unfold opAtT at hRR
    rw [show (j : Int).toNat = j from rfl, hat] at hRR
    generalize S.op[j] = O at *
    have HF := Lib.hid (And.intro hRR fi)
    clear hRR fi hat hbl c1 f0 f1 f2
    have hd : decide (S.op.length ≤ j) = false := decide_eq_false (by omega)
    by_cases c2 : O.ar.length = tl.length
    · have hres : R = some O := by rw [HF.out.1]; simp [c2]
      subst hres
      have hd2 : ((O.ar.length : Int) != (tl.length : Int)) = false := by simp [c2]
      clear c2
      go_enter Try.func105, Try.ntmps105
      go_wp2_with fail
      go_quiet (fail)
      go_wp2_with fail
      generalize hw : ((w.alloc _).alloc _).alloc _ = w3 at *
      have hr : (w3.drewN nq).heap[w.heap.size + 1 + 1]? = some (.cells #[.string ⟨#[]⟩, .slice none 0 0, .int .i64 0] 107) := HH.out.1.2.2.2
      have hfin := three_set (a' := .string O.nm) (b' := .slice oe O.ar.length ce) (c' := .int .i64 O.rs) hr
      have e0 := (cells_of hfin 0).1
      have e1 := (cells_of hfin 1).1
      have e2 := (cells_of hfin 2).1
      simp only [List.getElem?_toArray, List.getElem?_cons_zero, List.getElem?_cons_succ] at e0 e1 e2
      refine bodyPost_ret (v := .tuple #[.agg #[.string O.nm, .slice oe O.ar.length ce, .int .i64 O.rs], .bool true]) (by simp [results, Try.results105, go_sem, e0, e1, e2]) rfl ?_
      have hall := (((bDN HH.out.1.1 nq).setCell (p := ⟨w.heap.size + 1 + 1, 0, none⟩) (by simp; omega) (.string O.nm)).setCell (p := ⟨w.heap.size + 1 + 1, 1, none⟩) (by simp; omega) (.slice oe O.ar.length ce)).setCell (p := ⟨w.heap.size + 1 + 1, 2, none⟩) (by simp; omega) (.int .i64 O.rs)
      exact ⟨hall, oe, ce, rfl, HF.out.2⟩
    · have hres : R = none := by rw [HF.out.1]; simp [c2]
      subst hres
      have hd2 : ((O.ar.length : Int) != (tl.length : Int)) = true := by simp; omega
      clear c2
      go_enter Try.func105, Try.ntmps105
      go_wp2_with fail
      go_quiet (fail)
      go_wp2_with fail
      generalize hw : ((w.alloc _).alloc _).alloc _ = w3 at *
      have hr : (w3.drewN nq).heap[w.heap.size + 1 + 1]? = some (.cells #[.string ⟨#[]⟩, .slice none 0 0, .int .i64 0] 107) := HH.out.1.2.2.2
      have hfin := three_set (a' := .string ⟨#[]⟩) (b' := .slice none 0 0) (c' := .int .i64 0) hr
      have e0 := (cells_of hfin 0).1
      have e1 := (cells_of hfin 1).1
      have e2 := (cells_of hfin 2).1
      simp only [List.getElem?_toArray, List.getElem?_cons_zero, List.getElem?_cons_succ] at e0 e1 e2
      refine bodyPost_ret (v := .tuple #[.agg #[.string ⟨#[]⟩, .slice none 0 0, .int .i64 0], .bool false]) (by simp [results, Try.results105, go_sem, e0, e1, e2]) rfl ?_
      have hall := (((bDN HH.out.1.1 nq).setCell (p := ⟨w.heap.size + 1 + 1, 0, none⟩) (by simp; omega) (.string ⟨#[]⟩)).setCell (p := ⟨w.heap.size + 1 + 1, 1, none⟩) (by simp; omega) (.slice none 0 0)).setCell (p := ⟨w.heap.size + 1 + 1, 2, none⟩) (by simp; omega) (.int .i64 0)
      exact ⟨hall, rfl⟩
end Go.Proofs.Ytapdfdjknehhgaa

/- The sort of a term: sortOf. -/
namespace Go.Proofs.Ytapdfdjknehhgaa
open Go.RowKit Go.Tr Go.Maps

theorem sortsT_cons (S : Sg) (vs : List Int) (t : Tm) (r : List Tm) (a : Int) (l : List Int) : sortsT S vs (t :: r) (a :: l) = (decide (sortT S vs t = some a) && sortsT S vs r l) := rfl
theorem intS_at {w : World} {P : Nat → Prop} {l : List Int} {oa : Option Addr} {n c : Nat} (h : IntS w P l (.slice oa n c)) {k : Nat} (hk : k < l.length) : n = l.length ∧ ∃ b o, oa = some ⟨b, o, none⟩ ∧ P b ∧ w.cell? ⟨b, o + k, none⟩ = some (.int .i64 l[k]) := by
  obtain ⟨oa', cap', b', o', e, h1, h2, h3, h4⟩ := h
  simp only [Value.slice.injEq] at e
  obtain ⟨rfl, rfl, rfl⟩ := e
  exact ⟨rfl, b', o', (h3 (by omega)).1, (h3 (by omega)).2, h4 k hk⟩
def SortOfP (S : Sg) (vs : List Int) (t : Tm) (w : World) (e : Ending) (w' : World) : Prop :=
  e = .returned (.tuple #[.int .i64 ((sortT S vs t).getD 0), .bool (sortT S vs t).isSome]) ∧ Below w.heap.size w w'
set_option maxRecDepth 100000 in
set_option maxHeartbeats 400000 in
theorem sortOf_n (S : Sg) (vs : List Int) (N : Nat) : ∀ t, sz t ≤ N → allN okN t = true → ∀ v s vt w, SgV w (· < w.heap.size) S v → IntS w (· < w.heap.size) vs s → TrV w (· < w.heap.size) t vt →
    Calls Try.prog 78 #[v, s, vt] w fun e w' => SortOfP S vs t w e w' := by
  induction N with
  | zero => intro t ht; have := sz_pos t; omega
  | succ N ih =>
    intro t ht hall v s vt w hv hs hvt
    have hkids : ∀ x ∈ t.l, sz x ≤ N ∧ allN okN x = true := by
      intro x hx
      rw [allN_t, Bool.and_eq_true] at hall
      exact ⟨by have h1 := sz_mem hx; have h2 := sz_l t; omega, (allNL_iff _ _).1 hall.2 x hx⟩
    have hok : okN t = true := by rw [allN_t, Bool.and_eq_true] at hall; exact hall.1
    have hn0 : 0 ≤ t.n := by
      unfold okN at hok
      simp only [Bool.or_eq_true, Bool.and_eq_true, decide_eq_true_eq] at hok
      rcases hok with h | h <;> omega
    have hop := fun W hP hv => opOf_any (P := (· < w.heap.size)) S t v vt W hP hv
    have HOP := Lib.hid hop
    have HK := Lib.hid (And.intro hkids (And.intro hv (And.intro hs (And.intro hvt ih))))
    unfold SortOfP
    obtain ⟨R, hR⟩ : ∃ R, R = sortT S vs t := ⟨_, rfl⟩
    rw [← hR]
    rw [sortT_t] at hR
    have HR0 := Lib.hid hR
    clear hR
    obtain ⟨a, b, rfl, hso, hop', -⟩ := id hv
    obtain ⟨oa, ca, ba, pa, rfl, hla, hma, -⟩ := hso
    obtain ⟨ob, cb, bb, pb, rfl, hlb, hmb, -⟩ := hop'
    obtain ⟨sl, rfl, hk1, hk2, hsl⟩ := trV_iff.1 hvt
    obtain ⟨oc, cc, bc, pc, rfl, hlc, hmc, htl, htel⟩ := trS_at hsl
    obtain ⟨od, cd, bd, pd, rfl, hld, hmd, hvl, hvel⟩ := hs
    have HT := Lib.hid (And.intro htl (And.intro htel (And.intro hvl hvel)))
    have hw2 : ∀ (o1 o2 : Obj), Below w.heap.size w ((w.alloc o1).alloc o2) ∧ ((w.alloc o1).alloc o2).heap[w.heap.size]? = some o1 ∧ ((w.alloc o1).alloc o2).heap[w.heap.size + 1]? = some o2 := by
      intro o1 o2
      exact ⟨bA (bA (bZ w) _) _, by (simp only [heap_alloc, alloc_size]; repeat (first | rw [if_pos trivial] | rw [if_pos (by omega)] | rw [if_neg (by omega)])), by (simp only [heap_alloc, alloc_size]; repeat (first | rw [if_pos trivial] | rw [if_pos (by omega)] | rw [if_neg (by omega)]))⟩
    have HW := Lib.hid (hw2 (.cells #[.slice oa S.so.length ca, .slice ob S.op.length cb] 56) (.cells #[.int .i64 t.k, .int .i64 t.n, .slice oc t.l.length cc] 24))
    clear hw2 htl htel hvl hvel hkids hv hvt ih hop hsl hall ht hok
    by_cases hk : t.k = 1
    · have hres : R = vs[t.n.toNat]? := by rw [HR0.out, if_pos hk]
      have hb1 : (t.k == 1) = true := by simp [hk]
      by_cases c1 : (vs.length : Int) ≤ t.n
      · rw [List.getElem?_eq_none (by omega)] at hres
        subst hres
        clear hk
        go_enter Try.func78, Try.ntmps78
        go_wp2_with fail
        go_ret2
        exact ⟨rfl, HW.out.1⟩
      · have hjl : t.n.toNat < vs.length := by omega
        obtain ⟨rfl, hbd⟩ := HT.out.2.2.1 (by omega)
        have d0 := HT.out.2.2.2 _ hjl
        rw [List.getElem?_eq_getElem hjl] at hres
        generalize vs[t.n.toNat] = y at *
        have h1 : t.n < (vs.length : Int) := by omega
        clear hk c1 hjl
        subst hres
        go_enter Try.func78, Try.ntmps78
        go_wp2_with fail
        go_ret2
        exact ⟨rfl, HW.out.1⟩
    · have HR1 := Lib.hid hk
      have hb1 : (t.k == 1) = false := by simp [hk]
      have hcall := HOP.out _ (fun b hb => Nat.lt_of_lt_of_le hb HW.out.1.size) (sgV_mono (fun _ h => h) (fun b hb => HW.out.1.block b hb) HK.out.2.1) (trV_up HW.out.1 HK.out.2.2.2.1) hn0
      have HC := Lib.hid hcall
      clear hcall hk
      go_enter Try.func78, Try.ntmps78
      go_wp2_with fail
      refine HC.out.mono ?_
      rintro e w2 ⟨hb2, hc⟩
      have q1 := (hb2.block _ (block_lt HW.out.2.1)).trans HW.out.2.1
      have q2 := (hb2.block _ (block_lt HW.out.2.2)).trans HW.out.2.2
      have hbw := below_next HW.out.1 hb2
      have a0 := (cells_of q1 0).1
      have a1 := (cells_of q1 1).1
      have b0 := (cells_of q2 0).1
      have b1 := (cells_of q2 1).1
      have b2 := (cells_of q2 2).1
      simp only [List.getElem?_toArray, List.getElem?_cons_zero, List.getElem?_cons_succ] at a0 a1 b0 b1 b2
      have H2 := Lib.hid (And.intro hbw (And.intro q1 q2))
      have z1 : w.heap.size < w2.heap.size := block_lt q1
      have z2 : w.heap.size + 1 < w2.heap.size := block_lt q2
      clear q1 q2 hbw hb2
      cases hat : opAtT S t.n t.l.length with
      | none =>
        rw [hat] at hc
        simp only at hc
        subst hc
        have hres : R = none := by rw [HR0.out, if_neg HR1.out, hat]
        subst hres
        clear hat
        go_wp2_with fail
        go_ret2
        exact ⟨rfl, below_next H2.out.1 (below_alloc w2 _)⟩
      | some O =>
        rw [hat] at hc
        simp only at hc
        obtain ⟨oe, ce, rfl, hi⟩ := hc
        have hlen := (opAtT_some hat).2
        have hres : R = if sortsT S vs t.l O.ar then some O.rs else none := by rw [HR0.out, if_neg HR1.out, hat]
        have HO := Lib.hid (And.intro hlen (And.intro hi hres))
        clear hat hi hres
        unfold opVal
        go_wp2_with fail
        have hlen := HO.out.1
        have hq3 := heap_alloc_new w2 (.cells #[.string O.nm, .slice oe t.l.length ce, .int .i64 O.rs] 107)
        have hb3 : Below w.heap.size w (w2.alloc (.cells #[.string O.nm, .slice oe t.l.length ce, .int .i64 O.rs] 107)) := below_next H2.out.1 (below_alloc w2 _)
        have hs3 : (w2.alloc (.cells #[.string O.nm, .slice oe t.l.length ce, .int .i64 O.rs] 107)).heap[w.heap.size]? = some (.cells #[.slice oa S.so.length ca, .slice ob S.op.length cb] 56) := ((below_alloc w2 _).block _ z1).trans H2.out.2.1
        have HI0 := Lib.hid (And.intro hq3 (And.intro hb3 hs3))
        have HLEN := Lib.hid hlen
        clear hq3 hb3 hs3 hlen a0 a1 b0 b1 b2
        generalize hw3 : w2.alloc (.cells #[.string O.nm, .slice oe t.l.length ce, .int .i64 O.rs] 107) = w3 at *
        clear hw3
        go_loopw [38] (fun i wr => ∃ j : Nat, j ≤ t.l.length ∧ i = .int .i64 j ∧ Hid (R = (if sortsT S vs (t.l.drop j) (O.ar.drop j) then some O.rs else none) ∧ Below w.heap.size w wr ∧ wr.heap[w.heap.size]? = some (.cells #[.slice oa S.so.length ca, .slice ob S.op.length cb] 56) ∧ wr.heap[w2.heap.size]? = some (.cells #[.string O.nm, .slice oe t.l.length ce, .int .i64 O.rs] 107))) (fun i _ => t.l.length - (intOf i).toNat)
        case atStart => exact ⟨0, by omega, rfl, HO.out.2.2, HI0.out.2.1, HI0.out.2.2, HI0.out.1⟩
        case round =>
          obtain ⟨j, hj, rfl, HI⟩ := hrel
          by_cases hlt : j < t.l.length
          · obtain ⟨rfl, hQb⟩ := HT.out.1 (by omega)
            obtain ⟨oa2, cap2, e0, e1, e2, e3⟩ := HT.out.2.1 j hlt
            have hbl := HI.out.2.1.block bc hQb
            have d0 := (World.cell?_of_block (w := w) (a := ⟨bc, pc + j * 3, none⟩) hbl).trans e0
            have d1 := (World.cell?_of_block (w := w) (a := ⟨bc, pc + j * 3 + 1, none⟩) hbl).trans e1
            have d2 := (World.cell?_of_block (w := w) (a := ⟨bc, pc + j * 3 + 2, none⟩) hbl).trans e2
            have s0 := (cells_of HI.out.2.2.1 0).1
            have s1 := (cells_of HI.out.2.2.1 1).1
            simp only [List.getElem?_toArray, List.getElem?_cons_zero, List.getElem?_cons_succ] at s0 s1
            have i0 : (0 : Int) ≤ (j : Int) := Int.natCast_nonneg _
            have i1 : (j : Int) < (t.l.length : Int) := by omega
            have y1 : w.heap.size < wr.heap.size := block_lt HI.out.2.2.1
            have y2 : w2.heap.size < wr.heap.size := block_lt HI.out.2.2.2
            have hjo : j < O.ar.length := by have := HLEN.out; omega
            obtain ⟨-, b7, o7, he7, hP7, c7⟩ := intS_at HO.out.2.1 hjo
            subst he7
            have hdr : R = (if sortsT S vs (t.l[j] :: t.l.drop (j + 1)) (O.ar[j] :: O.ar.drop (j + 1)) then some O.rs else none) := by
              rw [HI.out.1, List.drop_eq_getElem_cons hlt, List.drop_eq_getElem_cons hjo]
            rw [sortsT_cons] at hdr
            have hkid := HK.out.1 t.l[j] (List.getElem_mem hlt)
            have hwx := HI.out.2.1.alloc HI.out.2.1.size (.cells #[.int .i64 t.l[j].k, .int .i64 t.l[j].n, .slice oa2 t.l[j].l.length cap2] 24)
            have hcall := HK.out.2.2.2.2 t.l[j] hkid.1 hkid.2 _ _ _ _ (sgV_up hwx HK.out.2.1) (intS_up hwx HK.out.2.2.1) (trV_up hwx e3)
            have HX := Lib.hid (And.intro hdr (And.intro hwx (And.intro hcall (And.intro hP7 c7))))
            clear hdr hkid hwx hcall hP7 c7 e0 e1 e2 e3 hbl
            go_wp2_with fail
            refine HX.out.2.2.1.mono ?_
            rintro e w4 ⟨rfl, hb4⟩
            have hbw4 := below_le HX.out.2.1 hb4 HX.out.2.1.size
            have hs4 : w4.heap[w.heap.size]? = some (.cells #[.slice oa S.so.length ca, .slice ob S.op.length cb] 56) := ((hb4.block _ (by simp; omega)).trans ((below_alloc wr _).block _ y1)).trans HI.out.2.2.1
            have ho4 : w4.heap[w2.heap.size]? = some (.cells #[.string O.nm, .slice (some ⟨b7, o7, none⟩) t.l.length ce, .int .i64 O.rs] 107) := ((hb4.block _ (by simp; omega)).trans ((below_alloc wr _).block _ y2)).trans HI.out.2.2.2
            have p0 := (cells_of ho4 0).1
            have p1 := (cells_of ho4 1).1
            have p2 := (cells_of ho4 2).1
            simp only [List.getElem?_toArray, List.getElem?_cons_zero, List.getElem?_cons_succ] at p0 p1 p2
            have k7 : w4.cell? ⟨b7, o7 + j, none⟩ = some (.int .i64 O.ar[j]) := by
              rw [World.cell?_of_block (w := w) (a := ⟨b7, o7 + j, none⟩) (hbw4.block b7 HX.out.2.2.2.1)]
              rw [← World.cell?_of_block (w := w) (w' := ((w.alloc (.cells #[.slice oa S.so.length ca, .slice ob S.op.length cb] 56)).alloc (.cells #[.int .i64 t.k, .int .i64 t.n, .slice (some ⟨bc, pc, none⟩) t.l.length cc] 24))) (a := ⟨b7, o7 + j, none⟩) (HW.out.1.block b7 HX.out.2.2.2.1)]
              exact HX.out.2.2.2.2
            have H4 := Lib.hid (And.intro hbw4 (And.intro hs4 ho4))
            clear hbw4 hs4 ho4 hb4 s0 s1 d0 d1 d2
            have hx := HX.out.1
            generalize O.ar[j] = q at *
            cases hc : sortT S vs t.l[j] with
            | none =>
              rw [hc] at hx
              have hres : R = none := by rw [hx]; rfl
              subst hres
              clear hx hc
              go_wp2_with fail
              go_ret2
              exact ⟨rfl, H4.out.1⟩
            | some a =>
              rw [hc] at hx
              by_cases hq : a = q
              · subst hq
                have hres : R = (if sortsT S vs (t.l.drop (j + 1)) (O.ar.drop (j + 1)) then some O.rs else none) := by rw [hx]; simp
                have HR := Lib.hid hres
                have z9 : (a != a) = false := by simp
                clear hres hx hc
                simp only [Option.getD_some, Option.isSome_some]
                go_wp2_with fail
                go_roundw
                case rel => exact ⟨j + 1, by omega, by go_num, HR.out, H4.out.1, H4.out.2.1, H4.out.2.2⟩
                case measure => simp [intOf]; omega
              · have hres : R = none := by rw [hx]; simp [hq]
                subst hres
                have z9 : (a != q) = true := by simp [hq]
                clear hx hc
                simp only [Option.getD_some, Option.isSome_some]
                go_wp2_with fail
                go_ret2
                exact ⟨rfl, H4.out.1⟩
          · have hres : R = some O.rs := by rw [HI.out.1, List.drop_eq_nil_of_le (by omega)]; rfl
            have p0 := (cells_of HI.out.2.2.2 0).1
            have p1 := (cells_of HI.out.2.2.2 1).1
            have p2 := (cells_of HI.out.2.2.2 2).1
            simp only [List.getElem?_toArray, List.getElem?_cons_zero, List.getElem?_cons_succ] at p0 p1 p2
            subst hres
            go_wp2_with fail
            go_ret2
            exact ⟨rfl, HI.out.2.1⟩
end Go.Proofs.Ytapdfdjknehhgaa

/- Sort. -/
namespace Go.Proofs.Ytapdfdjknehhgaa
open Go.RowKit Go.Tr Go.Maps

theorem chk_two (S : Sg) : chk S = 0 ∨ chk S = 40 := by unfold chk; split <;> simp
set_option maxRecDepth 100000 in
set_option maxHeartbeats 400000 in
theorem Sort_any (S : Sg) (vs : List Int) (t : Tm) (v s vt : Value) (w : World) (hv : SgV w (· < w.heap.size) S v) (hs : IntS w (· < w.heap.size) vs s) (hvt : TrV w (· < w.heap.size) t vt) :
    Calls Try.prog 38 #[v, s, vt] w fun e w' => e = .returned (.tuple #[.int .i64 (sortE S vs t).1, .int .i64 (sortE S vs t).2]) ∧ Below w.heap.size w w' := by
  obtain ⟨R1, R2, hR⟩ : ∃ a b, sortE S vs t = (a, b) := ⟨_, _, rfl⟩
  rw [hR]
  obtain ⟨a, b, rfl, hso, hop, -⟩ := id hv
  obtain ⟨oa, ca, ba, pa, rfl, hla, hma, -⟩ := hso
  obtain ⟨ob, cb, bb, pb, rfl, hlb, hmb, -⟩ := hop
  obtain ⟨sl, rfl, hk1, hk2, hsl⟩ := trV_iff.1 hvt
  obtain ⟨oc, cc, bc, pc, rfl, hlc, hmc, -, -⟩ := trS_at hsl
  obtain ⟨od, cd, bd, pd, rfl, hld, hmd, -, -⟩ := id hs
  have hw2 : ∀ (o1 o2 : Obj), Below w.heap.size w ((w.alloc o1).alloc o2) ∧ ((w.alloc o1).alloc o2).heap[w.heap.size]? = some o1 ∧ ((w.alloc o1).alloc o2).heap[w.heap.size + 1]? = some o2 := by
    intro o1 o2
    exact ⟨bA (bA (bZ w) _) _, by (simp only [heap_alloc, alloc_size]; repeat (first | rw [if_pos trivial] | rw [if_pos (by omega)] | rw [if_neg (by omega)])), by (simp only [heap_alloc, alloc_size]; repeat (first | rw [if_pos trivial] | rw [if_pos (by omega)] | rw [if_neg (by omega)]))⟩
  have hw := hw2 (.cells #[.slice oa S.so.length ca, .slice ob S.op.length cb] 56) (.cells #[.int .i64 t.k, .int .i64 t.n, .slice oc t.l.length cc] 24)
  have hcells : ∀ W, Below ((w.alloc (.cells #[.slice oa S.so.length ca, .slice ob S.op.length cb] 56)).alloc (.cells #[.int .i64 t.k, .int .i64 t.n, .slice oc t.l.length cc] 24)).heap.size ((w.alloc (.cells #[.slice oa S.so.length ca, .slice ob S.op.length cb] 56)).alloc (.cells #[.int .i64 t.k, .int .i64 t.n, .slice oc t.l.length cc] 24)) W →
      W.cell? ⟨w.heap.size, 0, none⟩ = some (.slice oa S.so.length ca) ∧ W.cell? ⟨w.heap.size, 1, none⟩ = some (.slice ob S.op.length cb) ∧ W.cell? ⟨w.heap.size + 1, 0, none⟩ = some (.int .i64 t.k) ∧ W.cell? ⟨w.heap.size + 1, 1, none⟩ = some (.int .i64 t.n) ∧ W.cell? ⟨w.heap.size + 1, 2, none⟩ = some (.slice oc t.l.length cc) := by
    intro W hW
    have q1 := (hW.block _ (block_lt hw.2.1)).trans hw.2.1
    have q2 := (hW.block _ (block_lt hw.2.2)).trans hw.2.2
    exact ⟨(cells_of q1 0).1, (cells_of q1 1).1, (cells_of q2 0).1, (cells_of q2 1).1, (cells_of q2 2).1⟩
  generalize hW0 : (w.alloc (.cells #[.slice oa S.so.length ca, .slice ob S.op.length cb] 56)).alloc (.cells #[.int .i64 t.k, .int .i64 t.n, .slice oc t.l.length cc] 24) = w0 at hw hcells
  have h1 := Check_any S _ w0 (sgV_up hw.1 hv)
  have h2 := fun W (hW : Below w.heap.size w W) => haveSorts_any vs S.so.length ca oa (.slice ob S.op.length cb) (.slice od vs.length cd) W (intS_up hW hs)
  have h3 := fun W (hW : Below w.heap.size w W) => Tree_any t _ W (trV_up hW hvt)
  have h4 := fun W (hW : Below w.heap.size w W) (hg : allN okN t = true) => sortOf_n S vs (sz t) t (Nat.le_refl _) hg _ _ _ W (sgV_up hW hv) (intS_up hW hs) (trV_up hW hvt)
  have HH := Lib.hid (And.intro hw.1 (And.intro hcells (And.intro h1 (And.intro h2 (And.intro h3 (And.intro h4 hR))))))
  subst hW0
  clear hw2 hw hcells h1 h2 h3 h4 hR hv hs hvt hsl
  go_enter Try.func38, Try.ntmps38
  go_wp2_with fail
  refine HH.out.2.2.1.mono ?_
  rintro e w2 ⟨rfl, hb2⟩
  obtain ⟨a0, a1, b0, b1, b2⟩ := HH.out.2.1 w2 hb2
  have hw2 := below_next HH.out.1 hb2
  have H2 := Lib.hid (And.intro hb2 hw2)
  clear hb2 hw2
  rcases chk_two S with hc | hc
  · rw [hc]
    have h5 := HH.out.2.2.2.1 w2 H2.out.2
    have HC := Lib.hid h5
    have HCK := Lib.hid hc
    clear hc h5
    go_wp2_with fail
    refine HC.out.mono ?_
    rintro e w3 ⟨rfl, hb3⟩
    have hb4 := below_next H2.out.1 hb3
    clear a0 a1 b0 b1 b2
    obtain ⟨a0, a1, b0, b1, b2⟩ := HH.out.2.1 w3 hb4
    have hw3 := below_next HH.out.1 hb4
    have H3 := Lib.hid (And.intro hb4 hw3)
    clear hb3 hb4 hw3
    cases hso : sortsOk S.so.length vs with
    | false =>
      have hres : (0, 1) = (R1, R2) := by rw [← HH.out.2.2.2.2.2.2]; simp [sortE, HCK.out, hso]
      obtain ⟨rfl, rfl⟩ := Prod.mk.inj hres
      clear hres hso
      go_wp2_with fail
      go_ret2
      exact ⟨rfl, H3.out.2⟩
    | true =>
      have HSO := Lib.hid hso
      have h5 := HH.out.2.2.2.2.1 w3 H3.out.2
      have HC2 := Lib.hid h5
      clear hso h5
      go_wp2_with fail
      refine HC2.out.mono ?_
      rintro e w4 ⟨rfl, hb4⟩
      have hb5 := below_next H3.out.1 hb4
      clear a0 a1 b0 b1 b2
      obtain ⟨a0, a1, b0, b1, b2⟩ := HH.out.2.1 w4 hb5
      have hw4 := below_next HH.out.1 hb5
      have H4 := Lib.hid (And.intro hb5 hw4)
      clear hb4 hb5 hw4
      cases hg : good t with
      | false =>
        have hres : (0, 4) = (R1, R2) := by rw [← HH.out.2.2.2.2.2.2]; simp [sortE, HCK.out, HSO.out, hg]
        obtain ⟨rfl, rfl⟩ := Prod.mk.inj hres
        clear hres hg
        unfold errT
        go_wp2_with fail
        go_ret2
        exact ⟨rfl, H4.out.2⟩
      | true =>
        have hal : allN okN t = true := by unfold good at hg; simp only [Bool.and_eq_true] at hg; exact hg.2
        have h5 := HH.out.2.2.2.2.2.1 w4 H4.out.2 hal
        have HG := Lib.hid hg
        unfold SortOfP at h5
        have HC3 := Lib.hid h5
        clear hg h5 hal
        unfold errT
        go_wp2_with fail
        refine HC3.out.mono ?_
        rintro e w5 ⟨rfl, hb5⟩
        have H5 := Lib.hid (below_next H4.out.2 hb5)
        clear hb5 a0 a1 b0 b1 b2
        cases hst : sortT S vs t with
        | none =>
          have hres : (0, 4) = (R1, R2) := by rw [← HH.out.2.2.2.2.2.2]; simp [sortE, HCK.out, HSO.out, HG.out, hst]
          obtain ⟨rfl, rfl⟩ := Prod.mk.inj hres
          clear hres hst
          go_wp2_with fail
          go_ret2
          exact ⟨rfl, H5.out⟩
        | some n =>
          have hres : (n, 0) = (R1, R2) := by rw [← HH.out.2.2.2.2.2.2]; simp [sortE, HCK.out, HSO.out, HG.out, hst]
          obtain ⟨rfl, rfl⟩ := Prod.mk.inj hres
          clear hres hst
          simp only [Option.getD_some, Option.isSome_some]
          go_wp2_with fail
          go_ret2
          exact ⟨rfl, H5.out⟩
  · have hres : (0, 40) = (R1, R2) := by rw [← HH.out.2.2.2.2.2.2]; simp [sortE, hc]
    obtain ⟨rfl, rfl⟩ := Prod.mk.inj hres
    rw [hc]
    clear hres hc
    go_wp2_with fail
    go_ret2
    exact ⟨rfl, H2.out.2⟩
end Go.Proofs.Ytapdfdjknehhgaa

/- What a variable's sort is known to be. -/
namespace Go.Proofs.Ytapdfdjknehhgaa
open Go.RowKit Go.Tr Go.Maps

/-- The numbers of variables and their sorts, as a map has them. -/
def kV (f : List (Int × Int)) : List (Value × Value) := f.map fun x => (.int .i64 x.1, .int .i64 x.2)
structure KOk (f : List (Int × Int)) : Prop where
  lo : ∀ x ∈ f, 0 ≤ x.1
  hi : ∀ x ∈ f, x.1 < 4000
  nd : (f.map (·.1)).Nodup
theorem kV_key {f : List (Int × Int)} (h : KOk f) : ∀ e ∈ kV f, ∃ k, keyOf Try.prog 3 e.1 = some k := by
  intro e he
  obtain ⟨x, hx, rfl⟩ := List.mem_map.1 he
  exact ⟨_, keyOf3 x.1 (by have := h.lo x hx; have := h.hi x hx; unfold inI; omega)⟩
theorem getK_none {f : List (Int × Int)} {n : Int} (h : getK f n = none) : ∀ x ∈ f, x.1 ≠ n := by
  intro x hx hn
  unfold getK at h
  rw [Option.map_eq_none_iff, List.find?_eq_none] at h
  exact h x hx (by simp [hn])
theorem getK_some {f : List (Int × Int)} {n a : Int} (h : getK f n = some a) : (n, a) ∈ f := by
  unfold getK at h
  obtain ⟨x, hx, rfl⟩ := Option.map_eq_some_iff.1 h
  have h1 := List.mem_of_find?_eq_some hx
  have h2 := List.find?_some hx
  have h3 : x.1 = n := by simpa using h2
  rw [← h3]; exact h1
theorem kok_one {f : List (Int × Int)} (h : KOk f) {n a b : Int} (ha : (n, a) ∈ f) (hb : (n, b) ∈ f) : a = b := by
  have hnd := h.nd
  clear h
  induction f with
  | nil => cases ha
  | cons x r ih =>
    simp only [List.map_cons, List.nodup_cons] at hnd
    rcases List.mem_cons.1 ha with h1 | h1
    · rcases List.mem_cons.1 hb with h2 | h2
      · rw [← h1] at h2; exact (Prod.mk.inj h2).2.symm
      · exact absurd (show x.1 ∈ r.map (·.1) from List.mem_map.2 ⟨(n, b), h2, by rw [← h1]⟩) hnd.1
    · rcases List.mem_cons.1 hb with h2 | h2
      · exact absurd (show x.1 ∈ r.map (·.1) from List.mem_map.2 ⟨(n, a), h1, by rw [← h2]⟩) hnd.1
      · exact ih h1 h2 hnd.2
theorem kok_snoc {f : List (Int × Int)} (h : KOk f) {n a : Int} (h0 : 0 ≤ n) (h1 : n < 4000) (hn : getK f n = none) : KOk (f ++ [(n, a)]) := by
  refine ⟨fun x hx => ?_, fun x hx => ?_, ?_⟩
  · rcases List.mem_append.1 hx with hx | hx
    · exact h.lo x hx
    · rw [List.mem_singleton.1 hx]; exact h0
  · rcases List.mem_append.1 hx with hx | hx
    · exact h.hi x hx
    · rw [List.mem_singleton.1 hx]; exact h1
  · rw [List.map_append, List.nodup_append]
    refine ⟨h.nd, by simp, fun x hx y hy => ?_⟩
    obtain ⟨z, hz, rfl⟩ := List.mem_map.1 hx
    have : y = n := by simpa using hy
    rw [this]
    exact getK_none hn z hz
theorem infsT_kok {S : Sg} : ∀ (l : List Tm), (∀ x ∈ l, ∀ so f g, allN okN x = true → KOk f → infT S x so f = some g → KOk g) → ∀ (as_ : List Int) (f g : List (Int × Int)), (∀ x ∈ l, allN okN x = true) → KOk f → infsT S l as_ f = some g → KOk g
  | [], _, _, f, g, _, hf, h => by unfold infsT at h; cases h; exact hf
  | t :: r, _, [], f, g, _, hf, h => by unfold infsT at h; cases h
  | t :: r, hx, a :: q, f, g, hl, hf, h => by
    unfold infsT at h
    split at h
    · cases h
    · rename_i g' hg'
      exact infsT_kok r (fun x hm => hx x (by simp [hm])) q g' g (fun x hm => hl x (by simp [hm])) (hx t (by simp) a f g' (hl t (by simp)) hf hg') h
theorem infT_kok {S : Sg} (t : Tm) : ∀ so f g, allN okN t = true → KOk f → infT S t so f = some g → KOk g := by
  induction t using Tm.ind with
  | h k n l ih =>
    intro so f g hal hf h
    rw [allN_t, Bool.and_eq_true, allNL_iff] at hal
    unfold infT at h
    simp only [Tm.l] at hal
    by_cases hk : k = 1
    · rw [if_pos hk] at h
      by_cases h4 : n < 4000
      · rw [if_pos h4] at h
        have h0 : 0 ≤ n := by
          have := hal.1
          unfold okN at this
          simp only [Bool.or_eq_true, Bool.and_eq_true, decide_eq_true_eq] at this
          rcases this with ⟨⟨-, h⟩, -⟩ | ⟨⟨-, h⟩, -⟩ <;> exact h
        cases hn : getK f n with
        | none =>
          rw [hn] at h
          cases h
          exact kok_snoc hf h0 h4 hn
        | some a =>
          rw [hn] at h
          by_cases ha : a = so
          · simp only [ha, if_true] at h; cases h; exact hf
          · simp only [ha, if_false] at h; cases h
      · rw [if_neg h4] at h; cases h
    · rw [if_neg hk] at h
      cases ho : opAtT S n l.length with
      | none => rw [ho] at h; cases h
      | some o =>
        rw [ho] at h
        by_cases hr : o.rs = so
        · simp only [hr, if_true] at h
          exact infsT_kok l ih _ _ _ hal.2 hf h
        · simp only [hr, if_false] at h; cases h
end Go.Proofs.Ytapdfdjknehhgaa

/- infer. -/
namespace Go.Proofs.Ytapdfdjknehhgaa
open Go.RowKit Go.Tr Go.Maps

theorem kp_grown {Q : Nat → Prop} {w w' : World} {m : Nat} (h : w.grownBy w' (some m)) (hq : ∀ b, Q b → b < w.heap.size ∧ b ≠ m) : Kp Q w w' :=
  ⟨h.os, h.tape, h.output, h.size, fun b hb => h.block b (hq b hb).1 (fun e => (hq b hb).2 (by cases e; rfl))⟩
theorem kpDw {Q : Nat → Prop} {a w : World} (h : Kp Q a w) : Kp Q a w.drew := ⟨h.os, h.tape, h.output, h.size, h.block⟩
theorem kpUw {Q : Nat → Prop} {a w : World} (h : Kp Q a.drew w) : Kp Q a w := ⟨h.os, h.tape, h.output, h.size, h.block⟩
theorem kpAw {Q : Nat → Prop} {a w : World} (h : Kp Q a w) (hq : ∀ b, Q b → b < a.heap.size) (o : Obj) : Kp Q a (w.alloc o) :=
  h.trans (kp_alloc (fun b hb => Nat.lt_of_lt_of_le (hq b hb) h.size) o)
def InfP (S : Sg) (t : Tm) (so : Int) (f : List (Int × Int)) (bm : Nat) (w : World) (e : Ending) (w' : World) : Prop :=
  Kp (fun b => b < w.heap.size ∧ b ≠ bm) w w' ∧ match infT S t so f with
    | none => e = .returned (.bool false)
    | some g => e = .returned (.bool true) ∧ GMap w' bm (kV g)
theorem infsT_none {S : Sg} {t : Tm} (r : List Tm) {a : Int} (q : List Int) {f : List (Int × Int)} (h : infT S t a f = none) : infsT S (t :: r) (a :: q) f = none := by rw [infsT, h]
theorem infsT_some {S : Sg} {t : Tm} (r : List Tm) {a : Int} (q : List Int) {f g : List (Int × Int)} (h : infT S t a f = some g) : infsT S (t :: r) (a :: q) f = infsT S r q g := by rw [infsT, h]
theorem zeroI (w : World) : (zeroValue 3).run Try.prog w = .ok (.int .i64 0) w := zeroInt w
set_option maxRecDepth 100000 in
set_option maxHeartbeats 800000 in
theorem infer_n {P : Nat → Prop} (S : Sg) (bm N : Nat) : ∀ t, sz t ≤ N → allN okN t = true → ∀ so f v vt w, SgV w P S v → TrV w P t vt → (∀ b, P b → b < w.heap.size ∧ b ≠ bm) → GMap w bm (kV f) → KOk f →
    Calls Try.prog 79 #[v, vt, .int .i64 so, .map (some bm)] w fun e w' => InfP S t so f bm w e w' := by
  induction N with
  | zero => intro t ht; have := sz_pos t; omega
  | succ N ih =>
    intro t ht hall so f v vt w hv hvt hP hM hf
    have hkids : ∀ x ∈ t.l, sz x ≤ N ∧ allN okN x = true := by
      intro x hx
      rw [allN_t, Bool.and_eq_true] at hall
      exact ⟨by have h1 := sz_mem hx; have h2 := sz_l t; omega, (allNL_iff _ _).1 hall.2 x hx⟩
    have hok : okN t = true := by rw [allN_t, Bool.and_eq_true] at hall; exact hall.1
    have hn0 : 0 ≤ t.n := by
      unfold okN at hok
      simp only [Bool.or_eq_true, Bool.and_eq_true, decide_eq_true_eq] at hok
      rcases hok with h | h <;> omega
    have hop := fun W hP hv => opOf_any (P := P) S t v vt W hP hv
    have HOP := Lib.hid hop
    have hbm := hM.lt
    have HK := Lib.hid (And.intro hkids (And.intro hv (And.intro hvt (And.intro ih (And.intro hP (And.intro hM (And.intro hf hall)))))))
    unfold InfP
    obtain ⟨R, hR⟩ : ∃ R, R = infT S t so f := ⟨_, rfl⟩
    rw [← hR]
    rw [infT_t] at hR
    have HR0 := Lib.hid hR
    clear hR
    obtain ⟨a, b, rfl, hso, hop', -⟩ := id hv
    obtain ⟨oa, ca, ba, pa, rfl, hla, hma, -⟩ := hso
    obtain ⟨ob, cb, bb, pb, rfl, hlb, hmb, -⟩ := hop'
    obtain ⟨sl, rfl, hk1, hk2, hsl⟩ := trV_iff.1 hvt
    obtain ⟨oc, cc, bc, pc, rfl, hlc, hmc, htl, htel⟩ := trS_at hsl
    have HT := Lib.hid (And.intro htl htel)
    have hw2 : ∀ (o1 o2 : Obj), Below w.heap.size w ((w.alloc o1).alloc o2) ∧ ((w.alloc o1).alloc o2).heap[w.heap.size]? = some o1 ∧ ((w.alloc o1).alloc o2).heap[w.heap.size + 1]? = some o2 := by
      intro o1 o2
      exact ⟨bA (bA (bZ w) _) _, by (simp only [heap_alloc, alloc_size]; repeat (first | rw [if_pos trivial] | rw [if_pos (by omega)] | rw [if_neg (by omega)])), by (simp only [heap_alloc, alloc_size]; repeat (first | rw [if_pos trivial] | rw [if_pos (by omega)] | rw [if_neg (by omega)]))⟩
    have HW := Lib.hid (hw2 (.cells #[.slice oa S.so.length ca, .slice ob S.op.length cb] 56) (.cells #[.int .i64 t.k, .int .i64 t.n, .slice oc t.l.length cc] 24))
    clear hw2 htl htel hkids hv hvt ih hop hsl hall ht hok hM hf hP
    by_cases hk : t.k = 1
    · have hb1 : (t.k == 1) = true := by simp [hk]
      have hM0 : GMap ((w.alloc (.cells #[.slice oa S.so.length ca, .slice ob S.op.length cb] 56)).alloc (.cells #[.int .i64 t.k, .int .i64 t.n, .slice oc t.l.length cc] 24)) bm (kV f) := HK.out.2.2.2.2.2.1.of_block (HW.out.1.block bm hbm)
      have hkey := keyOf3 t.n hk2
      have hkf := kV_key HK.out.2.2.2.2.2.2.1
      have hkp : ∀ W, ((w.alloc (.cells #[.slice oa S.so.length ca, .slice ob S.op.length cb] 56)).alloc (.cells #[.int .i64 t.k, .int .i64 t.n, .slice oc t.l.length cc] 24)).grownBy W (some bm) → Kp (fun b => b < w.heap.size ∧ b ≠ bm) w W := by
        intro W hW
        exact (below_kp HW.out.1 (fun b hb => hb.1)).trans (kp_grown hW (fun b hb => ⟨Nat.lt_of_lt_of_le hb.1 HW.out.1.size, hb.2⟩))
      have hcell : ∀ W, ((w.alloc (.cells #[.slice oa S.so.length ca, .slice ob S.op.length cb] 56)).alloc (.cells #[.int .i64 t.k, .int .i64 t.n, .slice oc t.l.length cc] 24)).grownBy W (some bm) → W.cell? ⟨w.heap.size + 1, 1, none⟩ = some (.int .i64 t.n) := by
        intro W hW
        have q := (hW.block _ (block_lt HW.out.2.2) (fun e => by have e' := Option.some.inj e; omega)).trans HW.out.2.2
        exact (cells_of q 1).1
      have HKP := Lib.hid hkp
      clear hkp
      cases hg : getK f t.n with
      | none =>
        have hne : ∀ e ∈ kV f, e.1 ≠ .int .i64 t.n := by
          intro e he h
          obtain ⟨x, hx, rfl⟩ := List.mem_map.1 he
          exact getK_none hg x hx (by simpa using h)
        have hlk := look_miss keyed3 Try.underlying110 zeroI hM0 hkf hkey hne true
        simp only [if_true] at hlk
        obtain ⟨w2, hrun, hm2, hg2⟩ := put_miss keyed3 Try.underlying110 hM0 hkf hkey hne (.int .i64 so)
        have c1 := hcell w2 hg2
        have hset : kV f ++ [(.int .i64 t.n, .int .i64 so)] = kV (f ++ [(t.n, so)]) := by unfold kV; rw [List.map_append]; rfl
        rw [hset] at hm2
        by_cases h4 : t.n < 4000
        · have hres : R = some (f ++ [(t.n, so)]) := by rw [HR0.out, if_pos hk, if_pos h4, hg]
          have HF := Lib.hid (And.intro (HKP.out w2 hg2) hm2)
          subst hres
          clear hset hg hne hM0 hkey hkf hcell hm2 hg2 hk
          go_enter Try.func79, Try.ntmps79
          go_wp2_with fail
          go_ret
          exact ⟨HF.out.1, rfl, HF.out.2⟩
        · have hres : R = none := by rw [HR0.out, if_pos hk, if_neg h4]
          have HF := Lib.hid (HKP.out w2 hg2)
          subst hres
          clear hset hg hne hM0 hkey hkf hcell hm2 hg2 hk
          go_enter Try.func79, Try.ntmps79
          go_wp2_with fail
          go_ret
          exact ⟨HF.out, rfl⟩
      | some a =>
        have hin := getK_some hg
        have hmm : ∃ e ∈ kV f, e.1 = .int .i64 t.n := ⟨_, List.mem_map.2 ⟨_, hin, rfl⟩, rfl⟩
        have hval : ∀ e ∈ kV f, e.1 = .int .i64 t.n → e.2 = .int .i64 a := by
          intro e he h
          obtain ⟨x, hx, rfl⟩ := List.mem_map.1 he
          have hxn : x.1 = t.n := by simpa using h
          have := kok_one HK.out.2.2.2.2.2.2.1 (n := t.n) (a := x.2) (b := a) (by rw [← hxn]; exact hx) hin
          rw [this]
        have h4 : t.n < 4000 := HK.out.2.2.2.2.2.2.1.hi _ hin
        have hlk := look_hit keyed3 Try.underlying110 hM0 hkf hkey hmm hval true
        simp only [if_true] at hlk
        obtain ⟨w2, hrun, hm2, hg2⟩ := put_hit keyed3 Try.underlying110 hM0 hkf hkey hmm (.int .i64 so)
        have c1 := hcell w2 hg2
        by_cases ha : a = so
        · subst ha
          have hres : R = some f := by rw [HR0.out, if_pos hk, if_pos h4, hg]; simp
          have HF := Lib.hid (And.intro (HKP.out w2 hg2) (hm2 hval))
          subst hres
          clear hin hmm hval hg hM0 hkey hkf hcell hm2 hg2 hk
          go_enter Try.func79, Try.ntmps79
          go_wp2_with fail
          go_ret
          exact ⟨HF.out.1, rfl, HF.out.2⟩
        · have hres : R = none := by rw [HR0.out, if_pos hk, if_pos h4, hg]; simp [ha]
          have HF := Lib.hid (HKP.out w2 hg2)
          have hb9 : (a == so) = false := by simp [ha]
          subst hres
          clear hin hmm hval hg hM0 hkey hkf hcell hm2 hg2 hk ha
          go_enter Try.func79, Try.ntmps79
          go_wp2_with fail
          go_ret
          exact ⟨HF.out, rfl⟩
    · have hb1 : (t.k == 1) = false := by simp [hk]
      have hcall := HOP.out _ (fun b hb => Nat.lt_of_lt_of_le (HK.out.2.2.2.2.1 b hb).1 HW.out.1.size) (sgV_mono (fun _ h => h) (fun b hb => HW.out.1.block b (HK.out.2.2.2.2.1 b hb).1) HK.out.2.1) (trV_mono (Q := (· < _)) (fun b hb => Nat.lt_of_lt_of_le (HK.out.2.2.2.2.1 b hb).1 HW.out.1.size) (fun b hb => HW.out.1.block b (HK.out.2.2.2.2.1 b hb).1) _ HK.out.2.2.1) hn0
      have HC := Lib.hid hcall
      have HNK := Lib.hid hk
      clear hcall hk
      go_enter Try.func79, Try.ntmps79
      go_wp2_with fail
      refine HC.out.mono ?_
      rintro e w2 ⟨hb2, hc⟩
      have q1 := (hb2.block _ (block_lt HW.out.2.1)).trans HW.out.2.1
      have q2 := (hb2.block _ (block_lt HW.out.2.2)).trans HW.out.2.2
      have hbw := below_next HW.out.1 hb2
      have a0 := (cells_of q1 0).1
      have a1 := (cells_of q1 1).1
      have b0 := (cells_of q2 0).1
      have b1 := (cells_of q2 1).1
      have b2 := (cells_of q2 2).1
      simp only [List.getElem?_toArray, List.getElem?_cons_zero, List.getElem?_cons_succ] at a0 a1 b0 b1 b2
      have H2 := Lib.hid (And.intro hbw (And.intro q1 q2))
      have z1 : w.heap.size < w2.heap.size := block_lt q1
      have z2 : w.heap.size + 1 < w2.heap.size := block_lt q2
      clear q1 q2 hbw hb2
      cases hat : opAtT S t.n t.l.length with
      | none =>
        rw [hat] at hc
        simp only at hc
        subst hc
        have hres : R = none := by rw [HR0.out, if_neg HNK.out, hat]
        subst hres
        clear hat
        go_wp2_with fail
        go_ret
        exact ⟨below_kp (below_next H2.out.1 (below_alloc w2 _)) (fun b hb => hb.1), rfl⟩
      | some O =>
        rw [hat] at hc
        simp only at hc
        obtain ⟨oe, ce, rfl, hi⟩ := hc
        have hlen := (opAtT_some hat).2
        have hres : R = if O.rs = so then infsT S t.l O.ar f else none := by rw [HR0.out, if_neg HNK.out, hat]
        have HO := Lib.hid (And.intro hlen (And.intro hi hres))
        clear hat hi hres hlen
        unfold opVal
        by_cases hrs : O.rs = so
        · have z9 : (O.rs != so) = false := by simp [hrs]
          have hres : R = infsT S t.l O.ar f := by rw [HO.out.2.2, if_pos hrs]
          have HRR := Lib.hid hres
          clear hres hrs
          go_wp2_with fail
          have hq3 := heap_alloc_new w2 (.cells #[.string O.nm, .slice oe O.ar.length ce, .int .i64 O.rs] 107)
          have hb3 : Below w.heap.size w (w2.alloc (.cells #[.string O.nm, .slice oe O.ar.length ce, .int .i64 O.rs] 107)) := below_next H2.out.1 (below_alloc w2 _)
          have hs3 : (w2.alloc (.cells #[.string O.nm, .slice oe O.ar.length ce, .int .i64 O.rs] 107)).heap[w.heap.size]? = some (.cells #[.slice oa S.so.length ca, .slice ob S.op.length cb] 56) := ((below_alloc w2 _).block _ z1).trans H2.out.2.1
          have hm3 : GMap (w2.alloc (.cells #[.string O.nm, .slice oe O.ar.length ce, .int .i64 O.rs] 107)) bm (kV f) := HK.out.2.2.2.2.2.1.of_block (hb3.block bm hbm)
          have HI0 := Lib.hid (And.intro hq3 (And.intro hb3 (And.intro hs3 hm3)))
          clear hq3 hb3 hs3 hm3 a0 a1 b0 b1 b2
          generalize hw3 : w2.alloc (.cells #[.string O.nm, .slice oe O.ar.length ce, .int .i64 O.rs] 107) = w3 at *
          clear hw3
          go_loopw [58] (fun i wr => ∃ (j : Nat) (g : List (Int × Int)), j ≤ t.l.length ∧ i = .int .i64 j ∧ Hid (R = infsT S (t.l.drop j) (O.ar.drop j) g ∧ KOk g ∧ GMap wr bm (kV g) ∧ Kp (fun b => b < w.heap.size ∧ b ≠ bm) w wr ∧ wr.heap[w.heap.size]? = some (.cells #[.slice oa S.so.length ca, .slice ob S.op.length cb] 56) ∧ wr.heap[w2.heap.size]? = some (.cells #[.string O.nm, .slice oe O.ar.length ce, .int .i64 O.rs] 107))) (fun i _ => t.l.length - (intOf i).toNat)
          case atStart => exact ⟨0, f, by omega, rfl, HRR.out, HK.out.2.2.2.2.2.2.1, HI0.out.2.2.2, below_kp HI0.out.2.1 (fun b hb => hb.1), HI0.out.2.2.1, HI0.out.1⟩
          case round =>
            obtain ⟨j, g, hj, rfl, HI⟩ := hrel
            by_cases hlt : j < t.l.length
            · obtain ⟨rfl, hQb⟩ := HT.out.1 (by omega)
              obtain ⟨oa2, cap2, e0, e1, e2, e3⟩ := HT.out.2 j hlt
              have hPw := HK.out.2.2.2.2.1
              have hbl := HI.out.2.2.2.1.block bc (hPw bc hQb)
              have d0 := (World.cell?_of_block (w := w) (a := ⟨bc, pc + j * 3, none⟩) hbl).trans e0
              have d1 := (World.cell?_of_block (w := w) (a := ⟨bc, pc + j * 3 + 1, none⟩) hbl).trans e1
              have d2 := (World.cell?_of_block (w := w) (a := ⟨bc, pc + j * 3 + 2, none⟩) hbl).trans e2
              have i0 : (0 : Int) ≤ (j : Int) := Int.natCast_nonneg _
              have i1 : (j : Int) < (t.l.length : Int) := by omega
              have y1 : w.heap.size < wr.heap.size := block_lt HI.out.2.2.2.2.1
              have y2 : w2.heap.size < wr.heap.size := block_lt HI.out.2.2.2.2.2
              have hjo : j < O.ar.length := by have := HO.out.1; omega
              obtain ⟨-, b7, o7, he7, hP7, c7⟩ := intS_at HO.out.2.1 hjo
              subst he7
              obtain ⟨oo, hoo⟩ : ∃ o : Obj, o = .cells #[.int .i64 t.l[j].k, .int .i64 t.l[j].n, .slice oa2 t.l[j].l.length cap2] 24 := ⟨_, rfl⟩
              have hkW : ∀ W, Kp (fun b => b < (wr.alloc oo).heap.size ∧ b ≠ bm) (wr.alloc oo) W → Kp (fun b => b < w.heap.size ∧ b ≠ bm) w W := by
                intro W hW
                exact HI.out.2.2.2.1.trans ((kp_alloc (fun b hb => Nat.lt_of_lt_of_le hb.1 HI.out.2.2.2.1.size) oo).trans (hW.mono (fun b hb => ⟨by have := hb.1; have := HI.out.2.2.2.1.size; simp; omega, hb.2⟩)))
              have hbmr : bm < wr.heap.size := HI.out.2.2.1.lt
              have hcells : ∀ W, Kp (fun b => b < (wr.alloc oo).heap.size ∧ b ≠ bm) (wr.alloc oo) W → W.heap[w.heap.size]? = some (.cells #[.slice oa S.so.length ca, .slice ob S.op.length cb] 56) ∧ W.heap[w2.heap.size]? = some (.cells #[.string O.nm, .slice (some ⟨b7, o7, none⟩) O.ar.length ce, .int .i64 O.rs] 107) ∧ W.heap[wr.heap.size]? = some oo ∧ W.cell? ⟨b7, o7 + j, none⟩ = some (.int .i64 O.ar[j]) := by
                intro W hW
                refine ⟨?_, ?_, ?_, ?_⟩
                · exact ((hW.block _ ⟨by simp; omega, by omega⟩).trans ((below_alloc wr _).block _ y1)).trans HI.out.2.2.2.2.1
                · exact ((hW.block _ ⟨by simp; omega, by omega⟩).trans ((below_alloc wr _).block _ y2)).trans HI.out.2.2.2.2.2
                · exact (hW.block _ ⟨by simp, by omega⟩).trans (heap_alloc_new wr oo)
                · rw [World.cell?_of_block (w := w) (a := ⟨b7, o7 + j, none⟩) ((hkW W hW).block b7 (hPw b7 hP7))]
                  rw [← World.cell?_of_block (w := w) (w' := ((w.alloc (.cells #[.slice oa S.so.length ca, .slice ob S.op.length cb] 56)).alloc (.cells #[.int .i64 t.k, .int .i64 t.n, .slice (some ⟨bc, pc, none⟩) t.l.length cc] 24))) (a := ⟨b7, o7 + j, none⟩) (HW.out.1.block b7 (hPw b7 hP7).1)]
                  exact c7
              have hkid := HK.out.1 t.l[j] (List.getElem_mem hlt)
              have hcall := fun W (hW : Kp (fun b => b < (wr.alloc oo).heap.size ∧ b ≠ bm) (wr.alloc oo) W) (hm : GMap W bm (kV g)) => HK.out.2.2.2.1 t.l[j] hkid.1 hkid.2 O.ar[j] g _ _ W (sgV_mono (fun _ h => h) (fun b hb => (hkW W hW).block b (hPw b hb)) HK.out.2.1) (trV_mono (fun _ h => h) (fun b hb => (hkW W hW).block b (hPw b hb)) _ e3) (fun b hb => ⟨Nat.lt_of_lt_of_le (hPw b hb).1 (hkW W hW).size, (hPw b hb).2⟩) hm HI.out.2.1
              have hdr : R = infsT S (t.l[j] :: t.l.drop (j + 1)) (O.ar[j] :: O.ar.drop (j + 1)) g := by
                rw [HI.out.1, List.drop_eq_getElem_cons hlt, List.drop_eq_getElem_cons hjo]
              have hm1 : GMap (wr.alloc oo) bm (kV g) := HI.out.2.2.1.of_block ((below_alloc wr _).block _ hbmr)
              have hKOk := infT_kok (S := S) t.l[j] O.ar[j] g
              have HX := Lib.hid (And.intro hdr (And.intro hcells (And.intro hcall (And.intro hm1 (And.intro hkW (fun g' h => hKOk g' hkid.2 HI.out.2.1 h))))))
              have i2 : (j : Int) < (O.ar.length : Int) := by omega
              clear hdr hkid hcall hP7 c7 e0 e1 e2 e3 hbl hcells hm1 hkW hKOk hQb
              obtain ⟨g0, g1, g2, g3⟩ := HX.out.2.1 (wr.alloc oo) (Kp.refl _ _)
              subst hoo
              have hS : ∀ W, Kp (fun b => b < (wr.alloc (.cells #[.int .i64 t.l[j].k, .int .i64 t.l[j].n, .slice oa2 t.l[j].l.length cap2] 24)).heap.size ∧ b ≠ bm) (wr.alloc (.cells #[.int .i64 t.l[j].k, .int .i64 t.l[j].n, .slice oa2 t.l[j].l.length cap2] 24)) W →
                  W.cell? ⟨w.heap.size, 0, none⟩ = some (.slice oa S.so.length ca) ∧ W.cell? ⟨w.heap.size, 1, none⟩ = some (.slice ob S.op.length cb) ∧ W.cell? ⟨wr.heap.size, 0, none⟩ = some (.int .i64 t.l[j].k) ∧ W.cell? ⟨wr.heap.size, 1, none⟩ = some (.int .i64 t.l[j].n) ∧ W.cell? ⟨wr.heap.size, 2, none⟩ = some (.slice oa2 t.l[j].l.length cap2) ∧ W.cell? ⟨w2.heap.size, 1, none⟩ = some (.slice (some ⟨b7, o7, none⟩) O.ar.length ce) ∧ W.cell? ⟨b7, o7 + j, none⟩ = some (.int .i64 O.ar[j]) := by
                intro W hW
                obtain ⟨g0, g1, g2, g3⟩ := HX.out.2.1 W hW
                exact ⟨(cells_of g0 0).1, (cells_of g0 1).1, (cells_of g2 0).1, (cells_of g2 1).1, (cells_of g2 2).1, (cells_of g1 1).1, g3⟩
              have HS := Lib.hid hS
              clear hS g0 g1 g2 g3
              cases hin : infT S t.l[j] O.ar[j] g with
              | none =>
                have hres : R = none := by rw [HX.out.1, infsT_none _ _ hin]
                subst hres
                have hcall := HX.out.2.2.1
                unfold InfP at hcall
                rw [hin] at hcall
                have HC := Lib.hid hcall
                clear hcall hin
                go_wp2_with fail
                generalize hx0 : wr.alloc _ = w0 at *
                go_region_held3 (fun W => W.cell? ⟨w.heap.size, 0, none⟩ = some (.slice oa S.so.length ca) ∧ W.cell? ⟨w.heap.size, 1, none⟩ = some (.slice ob S.op.length cb) ∧ W.cell? ⟨wr.heap.size, 0, none⟩ = some (.int .i64 t.l[j].k) ∧ W.cell? ⟨wr.heap.size, 1, none⟩ = some (.int .i64 t.l[j].n) ∧ W.cell? ⟨wr.heap.size, 2, none⟩ = some (.slice oa2 t.l[j].l.length cap2) ∧ W.cell? ⟨w2.heap.size, 1, none⟩ = some (.slice (some ⟨b7, o7, none⟩) O.ar.length ce) ∧ W.cell? ⟨b7, o7 + j, none⟩ = some (.int .i64 O.ar[j]))
                  (first | exact HS.out _ (Kp.refl _ _) | exact HS.out _ (kpDw (Kp.refl _ _)) | exact HS.out _ (kpUw hk4))
                  (first
                    | (go_at_call 79; (with_reducible refine (HC.out _ ?_ ?_).mono ?_); (first | exact Kp.refl _ _ | exact kpDw (Kp.refl _ _)); exact HX.out.2.2.2.1; rintro e w4 ⟨hk4, rfl⟩))
                all_goals
                  go_wp2_with fail
                  go_ret
                  exact ⟨HX.out.2.2.2.2.1 _ (kpUw hk4), rfl⟩
              | some g' =>
                have hres : R = infsT S (t.l.drop (j + 1)) (O.ar.drop (j + 1)) g' := by rw [HX.out.1, infsT_some _ _ hin]
                have hkg := HX.out.2.2.2.2.2 g' hin
                have HR := Lib.hid (And.intro hres hkg)
                clear hres hkg
                have hcall := HX.out.2.2.1
                unfold InfP at hcall
                rw [hin] at hcall
                have HC := Lib.hid hcall
                clear hcall hin
                go_wp2_with fail
                generalize hx0 : wr.alloc _ = w0 at *
                go_region_held3 (fun W => W.cell? ⟨w.heap.size, 0, none⟩ = some (.slice oa S.so.length ca) ∧ W.cell? ⟨w.heap.size, 1, none⟩ = some (.slice ob S.op.length cb) ∧ W.cell? ⟨wr.heap.size, 0, none⟩ = some (.int .i64 t.l[j].k) ∧ W.cell? ⟨wr.heap.size, 1, none⟩ = some (.int .i64 t.l[j].n) ∧ W.cell? ⟨wr.heap.size, 2, none⟩ = some (.slice oa2 t.l[j].l.length cap2) ∧ W.cell? ⟨w2.heap.size, 1, none⟩ = some (.slice (some ⟨b7, o7, none⟩) O.ar.length ce) ∧ W.cell? ⟨b7, o7 + j, none⟩ = some (.int .i64 O.ar[j]))
                  (first | exact HS.out _ (Kp.refl _ _) | exact HS.out _ (kpDw (Kp.refl _ _)) | exact HS.out _ (kpUw hk4))
                  (first
                    | (go_at_call 79; (with_reducible refine (HC.out _ ?_ ?_).mono ?_); (first | exact Kp.refl _ _ | exact kpDw (Kp.refl _ _)); exact HX.out.2.2.2.1; rintro e w4 ⟨hk4, rfl, hm4⟩))
                all_goals
                  go_wp2_with fail
                  go_roundw
                  case rel => exact ⟨j + 1, g', by omega, by go_num, HR.out.1, HR.out.2, hm4, HX.out.2.2.2.2.1 _ (kpUw hk4), (HX.out.2.1 _ (kpUw hk4)).1, (HX.out.2.1 _ (kpUw hk4)).2.1⟩
                  case measure => simp [intOf]; omega
            · have hres : R = some g := by rw [HI.out.1, List.drop_eq_nil_of_le (by omega)]; rfl
              subst hres
              go_wp2_with fail
              go_ret
              exact ⟨HI.out.2.2.2.1, rfl, HI.out.2.2.1⟩
        · have z9 : (O.rs != so) = true := by simp [hrs]
          have hres : R = none := by rw [HO.out.2.2, if_neg hrs]
          subst hres
          clear hrs
          go_wp2_with fail
          go_ret
          exact ⟨below_kp (below_next H2.out.1 (below_alloc w2 _)) (fun b hb => hb.1), rfl⟩
end Go.Proofs.Ytapdfdjknehhgaa

/- listed. -/
namespace Go.Proofs.Ytapdfdjknehhgaa
open Go.RowKit Go.Tr Go.Maps Go.ChangeMaps

/-- Block r is an iterator over block bm, which has the entries es; seen have been handed out. -/
structure Rng (r bm since clock : Nat) (es : Array MapEntry) (seen : Array Nat) (w : World) : Prop where
  hr : ∃ c0, since ≤ c0 ∧ w.heap[r]? = some (.mapIter (some bm) since seen c0)
  hb : w.heap[bm]? = some (.map es clock)
  hold : ∀ x ∈ es.toList, x.born < since
  nd : (es.toList.map (·.born)).Nodup
theorem sb_same {w : World} {r : Nat} {o : Obj} (h : w.heap[r]? = some o) (o' : Obj) : (setBlock w r o').heap[r]? = some o' := by
  have hl := block_lt h
  unfold setBlock
  simp [hl]
theorem sb_other {w : World} {r i : Nat} (h : i ≠ r) (o' : Obj) : (setBlock w r o').heap[i]? = w.heap[i]? := by
  have h' : ¬ r = i := fun e => h e.symm
  unfold setBlock
  simp [h']
theorem rng_next {r bm since clock : Nat} {es : Array MapEntry} {seen : Array Nat} {w : World} (h : Rng r bm since clock es seen w) (hc : since ≤ clock) (hne : bm ≠ r) :
    ((leftOf es seen).size = 0 ∧ (Instr.next (.pointer (some ⟨r, 0, none⟩)) false 0).run Try.prog w = .ok (.tuple #[.bool false]) w) ∨
    ∃ e ∈ (leftOf es seen).toList, ∃ w1, (Instr.next (.pointer (some ⟨r, 0, none⟩)) false 0).run Try.prog w = .ok (.tuple #[.bool true, e.key, e.val]) w1 ∧ Rng r bm since clock es (seen.push e.born) w1 ∧ Kp (· ≠ r) w w1 ∧ (Instr.entry (.pointer (some ⟨r, 0, none⟩))).run Try.prog w1 = .ok (.tuple #[e.key, e.val]) w1 := by
  obtain ⟨c0, hsc, hr⟩ := h.hr
  rcases run_next_at (P := Try.prog) w 0 r bm since c0 seen es clock hr h.hb h.hold hsc with h1 | ⟨e, he, w1, hw1, hrun⟩
  · exact .inl h1
  · right
    have hr1 : w1.heap[r]? = some (.mapIter (some bm) since seen c0) := by rcases hw1 with rfl | rfl <;> exact hr
    have hb1 : w1.heap[bm]? = some (.map es clock) := by rcases hw1 with rfl | rfl <;> exact h.hb
    have hr2 := sb_same hr1 (.mapIter (some bm) since (seen.push e.born) clock)
    have hb2 := (sb_other hne (.mapIter (some bm) since (seen.push e.born) clock)).trans hb1
    refine ⟨e, he, _, hrun, ⟨⟨clock, hc, hr2⟩, hb2, h.hold, h.nd⟩, ?_, run_entry_at _ r bm since seen es clock e hr2 hb2 (mem_left he).1 h.nd⟩
    have hk : Kp (· ≠ r) w w1 := by rcases hw1 with rfl | rfl; exact Kp.refl _ _; exact kpDw (Kp.refl _ _)
    exact hk.trans ⟨rfl, rfl, rfl, by simp [setBlock], fun b hb => sb_other hb _⟩
/-- What the entries of a map of numbers are. -/
theorem kV_entry {f : List (Int × Int)} {es : Array MapEntry} (h : kvs es.toList = kV f) {e : MapEntry} (he : e ∈ es.toList) : ∃ a b, (a, b) ∈ f ∧ e.key = .int .i64 a ∧ e.val = .int .i64 b := by
  have := kvs_mem he
  rw [h] at this
  obtain ⟨x, hx, hxe⟩ := List.mem_map.1 this
  simp only [Prod.mk.injEq] at hxe
  exact ⟨x.1, x.2, hx, hxe.1.symm, hxe.2.symm⟩
theorem kV_back {f : List (Int × Int)} {es : Array MapEntry} (h : kvs es.toList = kV f) {a b : Int} (hm : (a, b) ∈ f) : ∃ e ∈ es.toList, e.key = .int .i64 a ∧ e.val = .int .i64 b := by
  have : (Value.int .i64 a, Value.int .i64 b) ∈ kvs es.toList := by rw [h]; exact List.mem_map.2 ⟨_, hm, rfl⟩
  obtain ⟨e, he, hee⟩ := List.mem_map.1 this
  simp only [Prod.mk.injEq] at hee
  exact ⟨e, he, hee.1, hee.2⟩
/-- The greatest number, as far as it has been looked at. -/
structure Mx (f : List (Int × Int)) (es : Array MapEntry) (seen : Array Nat) (m : Int) : Prop where
  lo : -1 ≤ m
  is : m = -1 ∨ ∃ b, (m, b) ∈ f
  le : ∀ e ∈ es.toList, seen.contains e.born = true → ∀ a, e.key = .int .i64 a → a ≤ m
theorem mx_start (f : List (Int × Int)) (es : Array MapEntry) : Mx f es #[] (-1) := ⟨by omega, .inl rfl, fun e _ h => by simp at h⟩
theorem mx_next {f : List (Int × Int)} {es : Array MapEntry} {seen : Array Nat} {m a b : Int} {e : MapEntry} (h : Mx f es seen m) (hnd : (es.toList.map (·.born)).Nodup) (he : e ∈ es.toList) (hk : e.key = .int .i64 a) (hin : (a, b) ∈ f) : Mx f es (seen.push e.born) (max m a) := by
  refine ⟨by have := h.lo; omega, ?_, fun e' he' hs c hc => ?_⟩
  · rcases Int.le_total m a with hle | hle
    · right; exact ⟨b, by rw [Int.max_eq_right hle]; exact hin⟩
    · rw [Int.max_eq_left hle]; exact h.is
  · rw [contains_push] at hs
    cases hq : seen.contains e'.born with
    | true => have := h.le e' he' hq c hc; omega
    | false =>
      rw [hq] at hs
      have hbb : e'.born = e.born := by simpa using hs
      have hee : e' = e := by
        have h1 := find_born e es.toList hnd he
        have h2 := find_born e' es.toList hnd he'
        rw [hbb] at h2
        rw [h1] at h2
        exact (Option.some.inj h2).symm
      subst hee
      rw [hk] at hc
      have : a = c := by simpa using hc
      omega
theorem left_none {es : Array MapEntry} {seen : Array Nat} (h : (leftOf es seen).size = 0) {e : MapEntry} (he : e ∈ es.toList) : seen.contains e.born = true := by
  cases hc : seen.contains e.born with
  | true => rfl
  | false =>
    have : e ∈ leftOf es seen := Array.mem_filter.2 ⟨Array.mem_toList_iff.1 he, by rw [hc]; rfl⟩
    rw [Array.eq_empty_of_size_eq_zero h] at this
    simp at this
theorem foldl_max_is (l : List Int) : ∀ m, -1 ≤ m → (l.foldl max m = m ∨ l.foldl max m ∈ l) ∧ m ≤ l.foldl max m ∧ ∀ x ∈ l, x ≤ l.foldl max m := by
  induction l with
  | nil => intro m _; exact ⟨.inl rfl, Int.le_refl _, fun x h => by cases h⟩
  | cons a r ih =>
    intro m hm
    obtain ⟨h1, h2, h3⟩ := ih (max m a) (by omega)
    simp only [List.foldl_cons]
    refine ⟨?_, by omega, fun x hx => ?_⟩
    · rcases h1 with h1 | h1
      · rcases Int.le_total m a with hle | hle
        · right; rw [h1, Int.max_eq_right hle]; simp
        · left; rw [h1, Int.max_eq_left hle]
      · right; exact List.mem_cons_of_mem _ h1
    · rcases List.mem_cons.1 hx with rfl | hx
      · omega
      · exact h3 x hx
theorem mx_end {f : List (Int × Int)} {es : Array MapEntry} {seen : Array Nat} {m : Int} (h : Mx f es seen m) (hk : kvs es.toList = kV f) (h0 : (leftOf es seen).size = 0) : (f.map (·.1)).foldl max (-1) = m := by
  obtain ⟨h1, h2, h3⟩ := foldl_max_is (f.map (·.1)) (-1) (by omega)
  have hle : (f.map (·.1)).foldl max (-1) ≤ m := by
    rcases h1 with h1 | h1
    · rw [h1]; exact h.lo
    · obtain ⟨x, hx, hxe⟩ := List.mem_map.1 h1
      obtain ⟨e, he, hek, -⟩ := kV_back hk (a := x.1) (b := x.2) hx
      rw [← hxe]
      exact h.le e he (left_none h0 he) _ hek
  have hge : m ≤ (f.map (·.1)).foldl max (-1) := by
    rcases h.is with h1 | ⟨b, hb⟩
    · omega
    · exact h3 m (List.mem_map.2 ⟨_, hb, rfl⟩)
  omega
/-- The row of sorts, as far as it has been filled. -/
structure Fl (f : List (Int × Int)) (es : Array MapEntry) (seen : Array Nat) (n : Nat) (xs : Array Value) : Prop where
  sz : xs.size = n
  is : ∀ i, i < n → ∃ y : Int, xs[i]? = some (.int .i64 y) ∧ (y = -1 ∨ ((i : Int), y) ∈ f)
  has : ∀ e ∈ es.toList, seen.contains e.born = true → ∀ (i : Nat) b, e.key = .int .i64 i → e.val = .int .i64 b → i < n → xs[i]? = some (.int .i64 b)
theorem fl_next {f : List (Int × Int)} {es : Array MapEntry} {seen : Array Nat} {n : Nat} {xs : Array Value} {a : Nat} {b : Int} {e : MapEntry} (h : Fl f es seen n xs) (hnd : (es.toList.map (·.born)).Nodup) (hf : KOk f) (hkv : kvs es.toList = kV f) (he : e ∈ es.toList) (hk : e.key = .int .i64 a) (hin : ((a : Int), b) ∈ f) (ha : a < n) : Fl f es (seen.push e.born) n (xs.setIfInBounds a (.int .i64 b)) := by
  refine ⟨by simp [h.sz], fun i hi => ?_, fun e' he' hs i c hc hv hi => ?_⟩
  · by_cases hia : i = a
    · subst hia
      exact ⟨b, by rw [Array.getElem?_setIfInBounds_self_of_lt (by rw [h.sz]; exact hi)], .inr hin⟩
    · obtain ⟨y, h1, h2⟩ := h.is i hi
      exact ⟨y, by rw [Array.getElem?_setIfInBounds_ne (fun e => hia e.symm)]; exact h1, h2⟩
  · obtain ⟨p, q, hpq, hpk, hpv⟩ := kV_entry hkv he'
    by_cases hia : i = a
    · subst hia
      have hp : p = (i : Int) := by rw [hc] at hpk; simpa using hpk.symm
      have hq : q = c := by rw [hv] at hpv; simpa using hpv.symm
      subst hp hq
      have := kok_one hf hpq hin
      rw [this, Array.getElem?_setIfInBounds_self_of_lt (by rw [h.sz]; exact hi)]
    · rw [Array.getElem?_setIfInBounds_ne (fun e => hia e.symm)]
      rw [contains_push] at hs
      cases hq : seen.contains e'.born with
      | true => exact h.has e' he' hq i c hc hv hi
      | false =>
        exfalso
        rw [hq] at hs
        have hbb : e'.born = e.born := by simpa using hs
        have h1 := find_born e es.toList hnd he
        have h2 := find_born e' es.toList hnd he'
        rw [hbb, h1] at h2
        have hee := Option.some.inj h2
        rw [← hee, hk] at hc
        have : (a : Int) = i := by simpa using hc
        omega
theorem fl_end {f : List (Int × Int)} {es : Array MapEntry} {seen : Array Nat} {n : Nat} {xs : Array Value} (h : Fl f es seen n xs) (_ : KOk f) (hk : kvs es.toList = kV f) (h0 : (leftOf es seen).size = 0) (hn : n = ((f.map (·.1)).foldl max (-1) + 1).toNat) :
    n = (listK f).length ∧ ∀ i (hi : i < (listK f).length), xs[i]? = some (.int .i64 (listK f)[i]) := by
  have hl : (listK f).length = n := by unfold listK; simp [hn]
  refine ⟨hl.symm, fun i hi => ?_⟩
  have hin : i < n := by omega
  have hv : (listK f)[i]? = some ((getK f (i : Int)).getD (-1)) := by unfold listK; rw [List.getElem?_map, List.getElem?_range (by omega)]; rfl
  rw [(List.getElem?_eq_some_iff.1 hv).2]
  cases hg : getK f (i : Int) with
  | none =>
    obtain ⟨y, h1, h2⟩ := h.is i hin
    rcases h2 with rfl | h2
    · exact h1
    · exact absurd rfl (getK_none hg _ h2)
  | some b =>
    obtain ⟨e, he, hek, hev⟩ := kV_back hk (getK_some hg)
    exact h.has e he (left_none h0 he) i b hek hev hin
theorem make_ints (n : Nat) (hn : n ≤ 1000000000) (w : World) : (Instr.makeSlice 32 (.int .i64 n) (.int .i64 n)).run Try.prog w = .ok (.slice (some ⟨w.heap.size, 0, none⟩) n n) (w.alloc (.cells (madeCells #[.int .i64 0] n) 3)) := by
  obtain ⟨i0, hi0, hz0, hz1, hz2⟩ := info_parts infoInt
  have h := run_make (P := Try.prog) w 32 3 i0 _ Try.underlying32 hi0 hz0 .i64 .i64 (n : Int) (n : Int) (by omega) (by omega) (by rw [hz2]; omega) (by omega)
  rw [hz1] at h
  simp only [Int.toNat_natCast, Nat.mul_one] at h
  exact h
theorem made_int (n i : Nat) (h : i < n) : (madeCells #[.int .i64 0] n)[i]? = some (.int .i64 0) := by
  simp [madeCells, h, Nat.mod_one]
theorem foldl_bound {f : List (Int × Int)} (hf : KOk f) : -1 ≤ (f.map (·.1)).foldl max (-1) ∧ (f.map (·.1)).foldl max (-1) < 4000 := by
  obtain ⟨h1, h2, h3⟩ := foldl_max_is (f.map (·.1)) (-1) (by omega)
  refine ⟨h2, ?_⟩
  rcases h1 with h1 | h1
  · omega
  · obtain ⟨x, hx, hxe⟩ := List.mem_map.1 h1
    have := hf.hi x hx
    omega
/-- How many entries are left. -/
def World.leftN (w : World) (r : Nat) (es : Array MapEntry) : Nat := match w.heap[r]? with | some (.mapIter _ _ s _) => (leftOf es s).size | _ => 0
theorem rng_left {r bm since clock : Nat} {es : Array MapEntry} {seen : Array Nat} {w : World} (h : Rng r bm since clock es seen w) : World.leftN w r es = (leftOf es seen).size := by
  obtain ⟨c0, -, hr⟩ := h.hr
  unfold World.leftN
  rw [hr]
set_option maxRecDepth 100000 in
theorem listed_any (f : List (Int × Int)) (bm : Nat) (w : World) (hM : GMap w bm (kV f)) (hf : KOk f) :
    Calls Try.prog 80 #[.map (some bm)] w fun e w' => ∃ v, e = .returned v ∧ IntS w' (Nw w w') (listK f) v ∧ Below w.heap.size w w' := by
  obtain ⟨es, clock, hb, hkv, hold, hnd⟩ := hM
  have hbm := block_lt hb
  have hrg := run_range_map (P := Try.prog) w 110 3 3 bm es clock Try.underlying110 hb
  have hR0 : Rng w.heap.size bm clock clock es #[] (w.alloc (.mapIter (some bm) clock #[] clock)) := ⟨⟨clock, Nat.le_refl _, heap_alloc_new w _⟩, ((below_alloc w _).block bm hbm).trans hb, hold, hnd⟩
  have HH := Lib.hid (And.intro hb (And.intro hkv (And.intro hold (And.intro hnd (And.intro hR0 (And.intro (below_alloc w (.mapIter (some bm) clock #[] clock)) hf))))))
  clear hb hkv hold hnd hR0 hf
  go_enter Try.func80, Try.ntmps80
  go_wp2_with fail
  clear hrg
  go_loopw [3] (fun v wr => ∃ (m : Int) (seen : Array Nat), v = .int .i64 m ∧ Hid (Mx f es seen m ∧ Rng w.heap.size bm clock clock es seen wr ∧ Below w.heap.size w wr)) (fun _ wr => World.leftN wr w.heap.size es)
  case atStart => exact ⟨-1, #[], rfl, mx_start f es, HH.out.2.2.2.2.1, HH.out.2.2.2.2.2.1⟩
  case round =>
    obtain ⟨m, seen, rfl, HI⟩ := hrel
    rcases rng_next HI.out.2.1 (Nat.le_refl _) (by omega) with ⟨h0, hrun⟩ | ⟨e, he, w1, hrun, hr1, hk1, hen⟩
    · have hm := mx_end HI.out.1 HH.out.2.1 h0
      have hbd := foldl_bound HH.out.2.2.2.2.2.2
      rw [hm] at hbd
      obtain ⟨n, hn⟩ : ∃ n : Nat, m + 1 = (n : Int) := ⟨(m + 1).toNat, by omega⟩
      have hnl : n = ((f.map (·.1)).foldl max (-1) + 1).toNat := by rw [hm]; omega
      have hmk := make_ints n (by omega) wr
      have hb4 : Below w.heap.size w (wr.alloc (.cells (madeCells #[.int .i64 0] n) 3)) := HI.out.2.2.alloc HI.out.2.2.size _
      have hq4 := heap_alloc_new wr (.cells (madeCells #[.int .i64 0] n) 3)
      have hz4 := size_madeCells #[Value.int .i64 0] n
      have hwr := HI.out.2.2.size
      have HN := Lib.hid (And.intro hnl (And.intro hb4 (And.intro hq4 (And.intro hz4 (And.intro hm hwr)))))
      clear hnl hb4 hq4 hz4 hm hwr h0
      go_wp2_with fail
      obtain ⟨g, hg⟩ : ∃ g, g = wr.heap.size := ⟨_, rfl⟩
      rw [← hg] at HN ⊢
      have HG := Lib.hid hg
      clear hg
      go_loopw [23] (fun i w5 => ∃ (j : Nat) (xs : Array Value), j ≤ n ∧ i = .int .i64 j ∧ Hid (w5.heap[g]? = some (.cells xs 3) ∧ xs.size = n ∧ (∀ i, i < n → xs[i]? = some (.int .i64 (if i < j then -1 else 0))) ∧ Below w.heap.size w w5)) (fun i _ => n - (intOf i).toNat)
      case atStart => exact ⟨0, _, by omega, rfl, HN.out.2.2.1, HN.out.2.2.2.1, fun i hi => by rw [made_int n i hi]; simp, HN.out.2.1⟩
      case round =>
        obtain ⟨j, xs, hj, rfl, HJ⟩ := hrel
        by_cases hlt : j < n
        · have d0 : wr.cell? ⟨g, j, none⟩ = some (.int .i64 0) := by rw [(cells_of HJ.out.1 j).1, HJ.out.2.2.1 j hlt]; simp
          have d1 : wr.frozen? ⟨g, j, none⟩ = false := (cells_of HJ.out.1 j).2
          have i0 : (0 : Int) ≤ (j : Int) := Int.natCast_nonneg _
          have i1 : (j : Int) < (n : Int) := by omega
          have hs := heap_setCell_same wr g j xs 3 (.int .i64 (-1)) HJ.out.1
          have hb5 : Below w.heap.size w (wr.setCell ⟨g, j, none⟩ (.int .i64 (-1))) := HJ.out.2.2.2.setCell (p := ⟨g, j, none⟩) (by have := HG.out; have := HN.out.2.2.2.2.2; simp; omega) _
          have hnew : ∀ i, i < n → (xs.setIfInBounds j (.int .i64 (-1)))[i]? = some (.int .i64 (if i < j + 1 then -1 else 0)) := by
            intro i hi
            by_cases hij : i = j
            · subst hij
              rw [Array.getElem?_setIfInBounds_self_of_lt (by rw [HJ.out.2.1]; exact hi), if_pos (by omega)]
            · rw [Array.getElem?_setIfInBounds_ne (fun e => hij e.symm), HJ.out.2.2.1 i hi]
              by_cases hlt2 : i < j
              · rw [if_pos hlt2, if_pos (by omega)]
              · rw [if_neg hlt2, if_neg (by omega)]
          have HS := Lib.hid (And.intro hs (And.intro hb5 hnew))
          clear hs hb5 hnew
          go_wp2_with fail
          go_roundw
          case rel => exact ⟨j + 1, _, by omega, by go_num, HS.out.1, by simp [HJ.out.2.1], HS.out.2.2, HS.out.2.1⟩
          case measure => simp [intOf]; omega
        · have hxs : Fl f es #[] n xs := by
            refine ⟨HJ.out.2.1, fun i hi => ⟨-1, ?_, .inl rfl⟩, fun e _ h => by simp at h⟩
            rw [HJ.out.2.2.1 i hi, if_pos (by omega)]
          have hb5 : wr.heap[bm]? = some (.map es clock) := (HJ.out.2.2.2.block bm hbm).trans HH.out.1
          have hrg := run_range_map (P := Try.prog) wr 110 3 3 bm es clock Try.underlying110 hb5
          have hg5 := block_lt HJ.out.1
          have hR1 : Rng wr.heap.size bm clock clock es #[] (wr.alloc (.mapIter (some bm) clock #[] clock)) := ⟨⟨clock, Nat.le_refl _, heap_alloc_new wr _⟩, ((below_alloc wr _).block bm (block_lt hb5)).trans hb5, HH.out.2.2.1, HH.out.2.2.2.1⟩
          have hb6 : Below w.heap.size w (wr.alloc (.mapIter (some bm) clock #[] clock)) := HJ.out.2.2.2.alloc HJ.out.2.2.2.size _
          have hq6 := ((below_alloc wr (.mapIter (some bm) clock #[] clock)).block g hg5).trans HJ.out.1
          have hsz5 := HJ.out.2.2.2.size
          have HK := Lib.hid (And.intro hxs (And.intro hR1 (And.intro hb6 (And.intro hq6 (And.intro hg5 hsz5)))))
          clear hxs hb5 hg5 hR1 hb6 hq6 hsz5
          go_wp2_with fail
          clear hrg
          obtain ⟨r, hr⟩ : ∃ r, r = wr.heap.size := ⟨_, rfl⟩
          rw [← hr] at HK ⊢
          have HRR := Lib.hid hr
          clear hr
          go_loopw [32] (fun _ w7 => ∃ (seen : Array Nat) (ys : Array Value), Hid (Fl f es seen n ys ∧ Rng r bm clock clock es seen w7 ∧ Below w.heap.size w w7 ∧ w7.heap[g]? = some (.cells ys 3))) (fun _ w7 => World.leftN w7 r es)
          case atStart => exact ⟨#[], xs, HK.out.1, HK.out.2.1, HK.out.2.2.1, HK.out.2.2.2.1⟩
          case round =>
            obtain ⟨seen2, ys, HL⟩ := hrel
            have hgr : g < r := HK.out.2.2.2.2.1
            have hgw : w.heap.size ≤ g := by have := HG.out; have := HN.out.2.2.2.2.2; omega
            rcases rng_next HL.out.2.1 (Nat.le_refl _) (by have := HK.out.2.2.2.2.2; omega) with ⟨h0, hrun⟩ | ⟨e, he, w1, hrun, hr1, hk1, hen⟩
            · have hfin := fl_end HL.out.1 HH.out.2.2.2.2.2.2 HH.out.2.1 h0 HN.out.1
              have hint : IntS wr (Nw w wr) (listK f) (.slice (some ⟨g, 0, none⟩) n n) := by
                rw [hfin.1]
                refine ⟨_, _, g, 0, rfl, Nat.le_refl _, ?_, fun _ => ⟨rfl, hgw, block_lt HL.out.2.2.2⟩, fun i hi => ?_⟩
                · rw [← hfin.1]; omega
                · rw [(cells_of HL.out.2.2.2 (0 + i)).1, Nat.zero_add]
                  exact hfin.2 i hi
              have HF := Lib.hid hint
              clear hint hfin h0
              go_wp2_with fail
              go_ret
              exact ⟨_, rfl, HF.out, HL.out.2.2.1⟩
            · obtain ⟨a, b, hab, hek, hev⟩ := kV_entry HH.out.2.1 (mem_left he).1
              have ha0 := HH.out.2.2.2.2.2.2.lo _ hab
              simp only at ha0
              obtain ⟨k, rfl⟩ : ∃ k : Nat, a = (k : Int) := ⟨a.toNat, by omega⟩
              have hkn : k < n := by
                have h3 := (foldl_max_is (f.map (·.1)) (-1) (by omega)).2.2 (k : Int) (List.mem_map.2 ⟨_, hab, rfl⟩)
                have := HN.out.1
                omega
              rw [hek, hev] at hrun hen
              have hfl := fl_next HL.out.1 HH.out.2.2.2.1 HH.out.2.2.2.2.2.2 HH.out.2.1 (mem_left he).1 hek hab hkn
              have hq1 : w1.heap[g]? = some (.cells ys 3) := (hk1.block g (by omega)).trans HL.out.2.2.2
              obtain ⟨y, hy, -⟩ := HL.out.1.is k hkn
              have d0 : w1.cell? ⟨g, k, none⟩ = some (.int .i64 y) := by rw [(cells_of hq1 k).1]; exact hy
              have d1 : w1.frozen? ⟨g, k, none⟩ = false := (cells_of hq1 k).2
              have hs := heap_setCell_same w1 g k ys 3 (.int .i64 b) hq1
              have hb1 : Below w.heap.size w w1 := HL.out.2.2.1.trans (hk1.mono (fun b hb => by have := HK.out.2.2.2.2.2; omega)).below
              have hb2 : Below w.heap.size w (w1.setCell ⟨g, k, none⟩ (.int .i64 b)) := hb1.setCell (p := ⟨g, k, none⟩) hgw _
              have hr2 : Rng r bm clock clock es (seen2.push e.born) (w1.setCell ⟨g, k, none⟩ (.int .i64 b)) := by
                obtain ⟨c0, hc0, hrr⟩ := hr1.hr
                exact ⟨⟨c0, hc0, (Below.heap_setCell _ _ _ _ (show r ≠ g by omega)).trans hrr⟩, (Below.heap_setCell _ _ _ _ (show bm ≠ g by omega)).trans hr1.hb, hr1.hold, hr1.nd⟩
              have hlt2 : World.leftN (w1.setCell ⟨g, k, none⟩ (.int .i64 b)) r es < World.leftN wr r es := by rw [rng_left hr2, rng_left HL.out.2.1]; exact left_shrinks es seen2 e he
              have i0 : (0 : Int) ≤ (k : Int) := Int.natCast_nonneg _
              have i1 : (k : Int) < (n : Int) := by omega
              have HM2 := Lib.hid (And.intro hfl (And.intro hr2 (And.intro hb2 (And.intro hs hlt2))))
              clear hfl hr2 hb2 hs hlt2 hb1 hr1 hk1 he hek hev hab hy hq1 ha0 hkn hgr hgw
              go_wp2_with fail
              go_roundw
              case rel => exact ⟨_, _, HM2.out.1, HM2.out.2.1, HM2.out.2.2.1, HM2.out.2.2.2.1⟩
              case measure => exact HM2.out.2.2.2.2
    · obtain ⟨a, b, hab, hek, hev⟩ := kV_entry HH.out.2.1 (mem_left he).1
      rw [hek, hev] at hrun hen
      have hmx := mx_next HI.out.1 HH.out.2.2.2.1 (mem_left he).1 hek hab
      have hb1 : Below w.heap.size w w1 := HI.out.2.2.trans (hk1.mono (fun b hb => by intro e; omega)).below
      have hlt : World.leftN w1 w.heap.size es < World.leftN wr w.heap.size es := by rw [rng_left hr1, rng_left HI.out.2.1]; exact left_shrinks es seen e he
      have HN := Lib.hid (And.intro hmx (And.intro hr1 (And.intro hb1 hlt)))
      clear hmx hr1 hb1 hlt hk1 he hek hev hab
      go_wp2_with fail
      go_roundw
      case rel => exact ⟨_, _, rfl, HN.out.1, HN.out.2.1, HN.out.2.2.1⟩
      case measure => exact HN.out.2.2.2
end Go.Proofs.Ytapdfdjknehhgaa

/- Infer, where it finds sorts. -/
namespace Go.Proofs.Ytapdfdjknehhgaa
open Go.RowKit Go.Tr Go.Maps

theorem infsA_cons {S : Sg} {t : Tm} {r : List Tm} {a : Int} {q : List Int} {f g : List (Int × Int)} (h : infsA S (t :: r) (a :: q) f = some g) : good t = true ∧ ∃ f', infT S t a f = some f' ∧ infsA S r q f' = some g := by
  unfold infsA at h
  cases hg : good t with
  | false => rw [hg] at h; cases h
  | true =>
    rw [hg] at h
    simp only [if_true] at h
    cases hi : infT S t a f with
    | none => rw [hi] at h; cases h
    | some f' => rw [hi] at h; exact ⟨rfl, f', rfl, h⟩
theorem good_all {t : Tm} (h : good t = true) : allN okN t = true := by unfold good at h; simp only [Bool.and_eq_true] at h; exact h.2
set_option maxRecDepth 100000 in
set_option maxHeartbeats 800000 in
theorem Infer_ok (S : Sg) (l : List Tm) (so : List Int) (f : List (Int × Int)) (v s sv : Value) (w : World) (hv : SgV w (· < w.heap.size) S v) (hs : TrS w (· < w.heap.size) l s) (hso : IntS w (· < w.heap.size) so sv)
    (hc : chk S = 0) (hlen : so.length = l.length) (hss : sortsOk S.so.length so = true) (hf : infsA S l so [] = some f) :
    Calls Try.prog 39 #[v, s, sv] w fun e w' => ∃ r, e = .returned (.tuple #[r, .int .i64 0]) ∧ IntS w' (Nw w w') (listK f) r ∧ Below w.heap.size w w' := by
  obtain ⟨a, b, rfl, hso', hop, -⟩ := id hv
  obtain ⟨oa, ca, ba, pa, rfl, hla, hma, -⟩ := hso'
  obtain ⟨ob, cb, bb, pb, rfl, hlb, hmb, -⟩ := hop
  obtain ⟨oc, cc, bc, pc, rfl, hlc, hmc, htl, htel⟩ := trS_at hs
  obtain ⟨od, cd, bd, pd, rfl, hld, hmd, hvl, hvel⟩ := id hso
  rw [hlen] at hld ⊢
  obtain ⟨n, hn⟩ : ∃ n, n = l.length := ⟨_, rfl⟩
  have hq0 := heap_alloc_new w (.cells #[.slice oa S.so.length ca, .slice ob S.op.length cb] 56)
  have hb0 := below_alloc w (.cells #[.slice oa S.so.length ca, .slice ob S.op.length cb] 56)
  have h1 := Check_any S _ _ (sgV_up hb0 hv)
  have h2 := fun W (hW : Below w.heap.size w W) => haveSorts_any so S.so.length ca oa (.slice ob S.op.length cb) (.slice od l.length cd) W (intS_up hW (by rw [← hlen]; exact hso))
  rw [hc] at h1
  rw [hss] at h2
  have HH := Lib.hid (And.intro hq0 (And.intro hb0 (And.intro h1 (And.intro h2 (And.intro htl (And.intro htel (And.intro hvl (And.intro hvel (And.intro hf (And.intro hv (And.intro hlen hn)))))))))))
  rw [← hn] at hlc hld ⊢
  clear hq0 hb0 h1 h2 htl htel hvl hvel hf hv hs hso hc hss hlen hn
  have hmm := @run_makeMap Try.prog
  go_enter Try.func39, Try.ntmps39
  go_wp2_with fail
  refine HH.out.2.2.1.mono ?_
  rintro e w2 ⟨rfl, hb2⟩
  have q2 := (hb2.block _ (block_lt HH.out.1)).trans HH.out.1
  have hw2 := below_next HH.out.2.1 hb2
  have a0 := (cells_of q2 0).1
  have a1 := (cells_of q2 1).1
  simp only [List.getElem?_toArray, List.getElem?_cons_zero, List.getElem?_cons_succ] at a0 a1
  have h3 := HH.out.2.2.2.1 w2 hw2
  rw [← HH.out.2.2.2.2.2.2.2.2.2.2.2] at h3
  have H2 := Lib.hid (And.intro hw2 (And.intro q2 h3))
  clear hw2 q2 hb2 h3
  go_wp2_with fail
  refine H2.out.2.2.mono ?_
  rintro e w3 ⟨rfl, hb3⟩
  have q3 := (hb3.block _ (block_lt H2.out.2.1)).trans H2.out.2.1
  have hw3 := below_next H2.out.1 hb3
  have z3 := block_lt q3
  have hM : GMap (w3.alloc (.map #[] 0)) w3.heap.size (kV []) := ⟨#[], 0, heap_alloc_new w3 _, rfl, by simp, by simp⟩
  have hw4 := below_next hw3 (below_alloc w3 (.map #[] 0))
  have q4 := ((below_alloc w3 (.map #[] 0)).block _ z3).trans q3
  have H3 := Lib.hid (And.intro hM (And.intro hw4 (And.intro q4 hw3.size)))
  clear q3 hw3 hb3 hM hw4 q4 a0 a1
  go_wp2_with fail
  clear hmm
  obtain ⟨bm, hbm⟩ : ∃ bm, bm = w3.heap.size := ⟨_, rfl⟩
  rw [← hbm] at H3 ⊢
  have z4 : w.heap.size < bm := by omega
  clear hbm z3
  generalize w3.alloc (.map #[] 0) = w4 at *
  go_loopw [31] (fun i wr => ∃ (j : Nat) (g : List (Int × Int)), j ≤ n ∧ i = .int .i64 j ∧ Hid (infsA S (l.drop j) (so.drop j) g = some f ∧ KOk g ∧ GMap wr bm (kV g) ∧ Below w.heap.size w wr ∧ wr.heap[w.heap.size]? = some (.cells #[.slice oa S.so.length ca, .slice ob S.op.length cb] 56))) (fun i _ => n - (intOf i).toNat)
  case atStart => exact ⟨0, [], by omega, rfl, HH.out.2.2.2.2.2.2.2.2.1, ⟨by simp, by simp, by simp⟩, H3.out.1, H3.out.2.1, H3.out.2.2.1⟩
  case round =>
    obtain ⟨j, g, hj, rfl, HI⟩ := hrel
    have hnl := HH.out.2.2.2.2.2.2.2.2.2.2.2
    have hll := HH.out.2.2.2.2.2.2.2.2.2.2.1
    by_cases hlt : j < n
    · have hl1 : j < l.length := by omega
      have hl2 : j < so.length := by omega
      obtain ⟨rfl, hQb⟩ := HH.out.2.2.2.2.1 (by omega)
      obtain ⟨rfl, hQd⟩ := HH.out.2.2.2.2.2.2.1 (by omega)
      obtain ⟨oa2, cap2, e0, e1, e2, e3⟩ := HH.out.2.2.2.2.2.1 j hl1
      have f0 := HH.out.2.2.2.2.2.2.2.1 j hl2
      have hbl := HI.out.2.2.2.1.block bc hQb
      have d0 := (World.cell?_of_block (w := w) (a := ⟨bc, pc + j * 3, none⟩) hbl).trans e0
      have d1 := (World.cell?_of_block (w := w) (a := ⟨bc, pc + j * 3 + 1, none⟩) hbl).trans e1
      have d2 := (World.cell?_of_block (w := w) (a := ⟨bc, pc + j * 3 + 2, none⟩) hbl).trans e2
      have i0 : (0 : Int) ≤ (j : Int) := Int.natCast_nonneg _
      have i1 : (j : Int) < (n : Int) := by omega
      have hin := HI.out.1
      rw [List.drop_eq_getElem_cons hl1, List.drop_eq_getElem_cons hl2] at hin
      obtain ⟨hgd, g', hg', hrest⟩ := infsA_cons hin
      have hKOk := infT_kok (S := S) l[j] so[j] g g' (good_all hgd) HI.out.2.1 hg'
      obtain ⟨oo, hoo⟩ : ∃ o : Obj, o = .cells #[.int .i64 l[j].k, .int .i64 l[j].n, .slice oa2 l[j].l.length cap2] 24 := ⟨_, rfl⟩
      have hbw : Below w.heap.size w (wr.alloc oo) := HI.out.2.2.2.1.alloc HI.out.2.2.2.1.size _
      have hbmr := HI.out.2.2.1.lt
      have hzr : w.heap.size < wr.heap.size := block_lt HI.out.2.2.2.2
      have hm1 : GMap (wr.alloc oo) bm (kV g) := HI.out.2.2.1.of_block ((below_alloc wr _).block _ hbmr)
      have hq1 : (wr.alloc oo).heap[w.heap.size]? = some (.cells #[.slice oa S.so.length ca, .slice ob S.op.length cb] 56) := ((below_alloc wr _).block _ hzr).trans HI.out.2.2.2.2
      have hq2 := heap_alloc_new wr oo
      have hTree := fun W (hW : Below (wr.alloc oo).heap.size (wr.alloc oo) W) => Tree_any l[j] _ W (trV_up (below_le hbw hW hbw.size) e3)
      rw [hgd] at hTree
      have hIn := fun W (hW : Below (wr.alloc oo).heap.size (wr.alloc oo) W) => infer_n (P := (· < w.heap.size)) S bm (sz l[j]) l[j] (Nat.le_refl _) (good_all hgd) so[j] g _ _ W (sgV_mono (fun _ h => h) (fun b hb => (below_le hbw hW hbw.size).block b hb) HH.out.2.2.2.2.2.2.2.2.2.1) (trV_mono (fun _ h => h) (fun b hb => (below_le hbw hW hbw.size).block b hb) _ e3) (fun b hb => ⟨Nat.lt_of_lt_of_le hb (below_le hbw hW hbw.size).size, by omega⟩) (hm1.of_block (hW.block _ hm1.lt)) HI.out.2.1
      unfold InfP at hIn
      rw [hg'] at hIn
      have hcs : ∀ W, Kp (fun b => b < (wr.alloc oo).heap.size ∧ b ≠ bm) (wr.alloc oo) W → W.cell? ⟨w.heap.size, 0, none⟩ = some (.slice oa S.so.length ca) ∧ W.cell? ⟨w.heap.size, 1, none⟩ = some (.slice ob S.op.length cb) ∧ W.cell? ⟨wr.heap.size, 0, none⟩ = some (.int .i64 l[j].k) ∧ W.cell? ⟨wr.heap.size, 1, none⟩ = some (.int .i64 l[j].n) ∧ W.cell? ⟨wr.heap.size, 2, none⟩ = some (.slice oa2 l[j].l.length cap2) ∧ W.cell? ⟨bd, pd + j, none⟩ = some (.int .i64 so[j]) := by
        intro W hW
        have r1 := (hW.block w.heap.size ⟨by simp; omega, by omega⟩).trans hq1
        have r2 := (hW.block wr.heap.size ⟨by simp, by omega⟩).trans hq2
        rw [hoo] at r2
        refine ⟨(cells_of r1 0).1, (cells_of r1 1).1, (cells_of r2 0).1, (cells_of r2 1).1, (cells_of r2 2).1, ?_⟩
        rw [World.cell?_of_block (w := w) (a := ⟨bd, pd + j, none⟩) ((hW.block bd ⟨by have := hbw.size; omega, by omega⟩).trans (hbw.block bd hQd))]
        exact f0
      have hkp : ∀ W, Kp (fun b => b < (wr.alloc oo).heap.size ∧ b ≠ bm) (wr.alloc oo) W → Below w.heap.size w W ∧ W.heap[w.heap.size]? = some (.cells #[.slice oa S.so.length ca, .slice ob S.op.length cb] 56) := by
        intro W hW
        exact ⟨hbw.trans (hW.mono (fun b hb => ⟨by have := hbw.size; omega, by omega⟩)).below, (hW.block w.heap.size ⟨by simp; omega, by omega⟩).trans hq1⟩
      have HX := Lib.hid (And.intro hTree (And.intro hIn (And.intro hcs (And.intro hkp (And.intro hrest hKOk)))))
      clear hTree hIn hcs hkp hrest hKOk hin hgd hg' hm1 hq1 hq2 hbw e0 e1 e2 e3 f0 hbl hQb hQd hnl hll
      subst hoo
      go_wp2_with fail
      generalize hx0 : wr.alloc _ = w0 at *
      go_region_held3 (fun W => W.cell? ⟨w.heap.size, 0, none⟩ = some (.slice oa S.so.length ca) ∧ W.cell? ⟨w.heap.size, 1, none⟩ = some (.slice ob S.op.length cb) ∧ W.cell? ⟨wr.heap.size, 0, none⟩ = some (.int .i64 l[j].k) ∧ W.cell? ⟨wr.heap.size, 1, none⟩ = some (.int .i64 l[j].n) ∧ W.cell? ⟨wr.heap.size, 2, none⟩ = some (.slice oa2 l[j].l.length cap2) ∧ W.cell? ⟨bd, pd + j, none⟩ = some (.int .i64 so[j]))
        (first | exact HX.out.2.2.1 _ (Kp.refl _ _) | exact HX.out.2.2.1 _ (kpDw (Kp.refl _ _)) | exact HX.out.2.2.1 _ hk8 | exact HX.out.2.2.1 _ (below_kp hb7 (fun b hb => hb.1)) )
        (first
          | (go_at_call 69; (with_reducible refine (HX.out.1 _ ?_).mono ?_); (first | exact bZ _ | exact bD (bZ _)); unfold errT; rintro e w7 ⟨rfl, hb6⟩; have hb7 : Below w0.heap.size w0 w7 := below_le (bD (bZ w0)) hb6 (Nat.le_refl _); clear hb6)
          | (go_at_call 79; (with_reducible refine (HX.out.2.1 _ ?_).mono ?_); (first | exact hb7 | exact bD hb7); rintro e w8 ⟨hk8', rfl, hm8⟩; have hk8 : Kp (fun b => b < w0.heap.size ∧ b ≠ bm) w0 w8 := (below_kp hb7 (fun b hb => hb.1)).trans (hk8'.mono (fun b hb => ⟨Nat.lt_of_lt_of_le hb.1 hb7.size, hb.2⟩)); clear hk8'))
      all_goals
        go_wp2_with fail
        go_roundw
        case rel => exact ⟨j + 1, g', by omega, by go_num, HX.out.2.2.2.2.1, HX.out.2.2.2.2.2, hm8, (HX.out.2.2.2.1 _ hk8).1, (HX.out.2.2.2.1 _ hk8).2⟩
        case measure => simp [intOf]; omega
    · have hfg : g = f := by
        have h := HI.out.1
        rw [List.drop_eq_nil_of_le (by omega)] at h
        unfold infsA at h
        exact Option.some.inj h
      subst hfg
      have hcall := listed_any g bm wr HI.out.2.2.1 HI.out.2.1
      have HC := Lib.hid hcall
      clear hcall
      go_wp2_with fail
      refine HC.out.mono ?_
      rintro e w5 ⟨r, rfl, hint, hb5⟩
      have hbw := below_le HI.out.2.2.2.1 hb5 HI.out.2.2.2.1.size
      have hint2 : IntS w5 (Nw w w5) (listK g) r := intS_mono (fun b (hb : Nw wr w5 b) => ⟨Nat.le_trans HI.out.2.2.2.1.size hb.1, hb.2⟩) (fun _ _ => rfl) hint
      have HF := Lib.hid (And.intro hint2 hbw)
      clear hint2 hint hbw hb5
      go_wp2_with fail
      go_ret2
      exact ⟨_, rfl, HF.out.1, HF.out.2⟩
end Go.Proofs.Ytapdfdjknehhgaa

/- Find. -/
namespace Go.Proofs.Ytapdfdjknehhgaa
open Go.RowKit Go.Tr Go.Maps

theorem bne_bytes {x y : ByteArray} (h : x ≠ y) : (x.toList == y.toList) = false := by
  rw [beq_eq_false_iff_ne, ByteArray.toList_eq, ByteArray.toList_eq]
  exact fun e => h (ByteArray.ext (Array.toList_inj.mp e))
theorem findN_cons (nm : ByteArray) (o : Op1) (r : List Op1) (i : Nat) : findN nm (o :: r) i = (if o.nm = nm then [(i : Int)] else []) ++ findN nm r (i + 1) := by
  rw [findN]; split <;> rfl
set_option maxRecDepth 100000 in
set_option maxHeartbeats 400000 in
theorem Find_any (S : Sg) (nm : ByteArray) (v : Value) (w : World) (hv : SgV w (· < w.heap.size) S v) (hl8 : S.op.length ≤ 1000000) :
    Calls Try.prog 47 #[v, .string nm] w fun e w' => ∃ r, e = .returned r ∧ IntS w' (Nw w w') (findN nm S.op 0) r ∧ Below w.heap.size w w' := by
  obtain ⟨a, b, rfl, hso, hop, -⟩ := hv
  obtain ⟨oa, ca, ba, pa, rfl, hla, hma, -⟩ := hso
  obtain ⟨ob, cb, bb, pb, rfl, hlb, hmb, hbb, hel⟩ := hop
  obtain ⟨n, hn⟩ : ∃ n, n = S.op.length := ⟨_, rfl⟩
  rw [← hn] at hlb hl8 ⊢
  have HH := Lib.hid (And.intro hbb (And.intro hel (And.intro hn (below_alloc w (.cells #[.slice oa S.so.length ca, .slice ob n cb] 56)))))
  clear hbb hel hn
  obtain ⟨i0, hi0, hz0, hz1, hz2⟩ := info_parts infoInt
  go_enter Try.func47, Try.ntmps47
  go_wp2_with fail
  go_loopw [5, 11] (fun fv i wr => ∃ (j : Nat) (fd : List Int), j ≤ n ∧ i = .int .i64 j ∧ Hid (findN nm S.op 0 = fd ++ findN nm (S.op.drop j) j ∧ fd.length ≤ j ∧ wr.ownsRow 0 3 1 fv fd.length (fd.map (Value.int .i64)) ∧ (∀ g, fv.ownBlock = some g → w.heap.size ≤ g) ∧ Below w.heap.size w wr)) (fun _ i _ => n - (intOf i).toNat)
  case atStart => exact ⟨0, [], by omega, rfl, rfl, by simp, ⟨rfl, .inl ⟨rfl, rfl⟩⟩, (fun g hg => by cases hg), HH.out.2.2.2⟩
  case round =>
    obtain ⟨j, fd, hj, rfl, HI⟩ := hrel
    have hnl := HH.out.2.2.1
    obtain ⟨va, vc, rfl⟩ := owns_slice HI.out.2.2.1
    by_cases hlt : j < n
    · have hl1 : j < S.op.length := by omega
      obtain ⟨rfl, hb1⟩ := HH.out.1 (by omega)
      obtain ⟨s, c0, c1, c2, ci⟩ := HH.out.2.1 j hl1
      have hbl := HI.out.2.2.2.2.block bb hb1
      have d0 := (World.cell?_of_block (w := w) (a := ⟨bb, pb + j * 3, none⟩) hbl).trans c0
      have d1 := (World.cell?_of_block (w := w) (a := ⟨bb, pb + j * 3 + 1, none⟩) hbl).trans c1
      have d2 := (World.cell?_of_block (w := w) (a := ⟨bb, pb + j * 3 + 2, none⟩) hbl).trans c2
      have i1 : (0 : Int) ≤ (j : Int) := Int.natCast_nonneg _
      have i2 : (j : Int) < (n : Int) := by omega
      have hdr : findN nm S.op 0 = fd ++ ((if S.op[j].nm = nm then [(j : Int)] else []) ++ findN nm (S.op.drop (j + 1)) (j + 1)) := by
        rw [HI.out.1, List.drop_eq_getElem_cons hl1, findN_cons]
      have hb2 : Below w.heap.size w (wr.alloc (.cells #[.string S.op[j].nm, s, .int .i64 S.op[j].rs] 107)) := HI.out.2.2.2.2.alloc HI.out.2.2.2.2.size _
      have hown2 := HI.out.2.2.1.alloc (.cells #[.string S.op[j].nm, s, .int .i64 S.op[j].rs] 107)
      obtain ⟨os, cs, -, -, rfl, -, -, -, -⟩ := ci
      clear c0 c1 c2 hbl
      obtain ⟨O, hO⟩ : ∃ O, O = S.op[j] := ⟨_, rfl⟩
      rw [← hO] at hdr hb2 hown2 d0 d1 d2
      have HD := Lib.hid (And.intro hdr (And.intro hb2 (And.intro hown2 hO)))
      clear hdr hb2 hown2 hO
      clear hnl
      by_cases hq : O.nm = nm
      · have hres : findN nm S.op 0 = (fd ++ [(j : Int)]) ++ findN nm (S.op.drop (j + 1)) (j + 1) := by rw [HD.out.1, if_pos hq, List.append_assoc]
        have HR := Lib.hid hres
        have hq1 : (O.nm.toList == nm.toList) = true := by rw [hq]; simp
        have hfl := HI.out.2.1
        clear hres hq
        go_wp2_with (at_builtin; refine wpList_append_lies _ rfl _ _ 32 rfl 0 3 i0 (.int .i64 0) 1 8 Try.underlying32 hi0 hz0 hz1 hz2 rfl (by decide) _ _ _ rfl (HD.out.2.2.1.alloc _) ⟨wr.heap.size + 1, 0, none⟩ 1 1 [.int .i64 j] rfl rfl ?c1 ?c2 ?c3 ?c4 ?c5 ?c6 (wr.heap.size + 1 + 1) ?c7 ?_)
        case c2 => simp [Value.oneCell']
        case c4 => unfold maxLen; omega
        case c5 => omega
        intro g cap' w3 hown3 hgrow hat hlt3
        have hb3 : Below w.heap.size w w3 := (HD.out.2.1.alloc HD.out.2.1.size (.cells #[.int .i64 j] 3)).grown hgrow (by have := HD.out.2.1.size; simp at this ⊢; omega) (fun k hk => HI.out.2.2.2.1 k hk)
        have hnew : ∀ g', (Value.slice (some ⟨g, 0, none⟩) (fd.length + 1) cap').ownBlock = some g' → w.heap.size ≤ g' := by
          intro g' hg'
          have hgg : g' = g := by simpa [Value.ownBlock] using hg'.symm
          rw [hgg]
          rcases hat with h | h
          · exact HI.out.2.2.2.1 g h
          · have := HD.out.2.1.size; simp at this; omega
        have HF := Lib.hid (And.intro hown3 (And.intro hb3 hnew))
        clear hown3 hb3 hnew hgrow hat hlt3
        go_wp2_with fail
        go_roundw
        case rel => exact ⟨j + 1, fd ++ [(j : Int)], by omega, by go_num, HR.out, by simp; omega, by simpa using HF.out.1, by simpa using HF.out.2.2, HF.out.2.1⟩
        case measure => simp [intOf]; omega
      · have hres : findN nm S.op 0 = fd ++ findN nm (S.op.drop (j + 1)) (j + 1) := by rw [HD.out.1, if_neg hq, List.nil_append]
        have HR := Lib.hid hres
        have hq1 := bne_bytes hq
        clear hres
        go_wp2_with fail
        go_roundw
        case rel => exact ⟨j + 1, fd, by omega, by go_num, HR.out, by have := HI.out.2.1; omega, HD.out.2.2.1, HI.out.2.2.2.1, HD.out.2.1⟩
        case measure => simp [intOf]; omega
    · have hfd : findN nm S.op 0 = fd := by rw [HI.out.1, List.drop_eq_nil_of_le (by omega)]; simp [findN]
      have hint := intS_of_owns HI.out.2.2.1 (P := Nw w wr) (fun g hg => ⟨HI.out.2.2.2.1 g hg, owns_lt HI.out.2.2.1 hg⟩)
      have HF := Lib.hid (And.intro hfd hint)
      clear hfd hint
      go_wp2_with fail
      go_ret
      exact ⟨_, rfl, by rw [HF.out.1]; exact HF.out.2, HI.out.2.2.2.2⟩
end Go.Proofs.Ytapdfdjknehhgaa
