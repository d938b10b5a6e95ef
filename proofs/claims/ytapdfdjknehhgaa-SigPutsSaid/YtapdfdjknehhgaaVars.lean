/- The variables of trees. -/
import Derived.Test.YtapdfdjknehhgaaMp
import Derived.Test.YtapdfdjknehhgaaTx
import Derived.Deep.AppendLies
namespace Go.Proofs.Ytapdfdjknehhgaa
open Go.RowKit Go.Tr Go.Maps

theorem infoInt : (Try.prog.info? 3).map (fun i => (i.zero, i.size, i.bytes)) = some (some (.int .i64 0), 1, 8) := by kernel_rfl
theorem zeroBool (w : World) : (zeroValue 4).run Try.prog w = .ok (.bool false) w := by kernel_rfl
theorem zeroInt (w : World) : (zeroValue 3).run Try.prog w = .ok (.int .i64 0) w := by kernel_rfl
def setOfI (vs : List Int) : List (Int × Value) := vs.map fun n => (n, .bool true)
theorem fndI_set (n : Int) (vs : List Int) : fndI n (setOfI vs) = if vs.contains n then some (.bool true) else none := by
  induction vs with
  | nil => rfl
  | cons a r ih =>
    simp only [setOfI, List.map_cons, fndI, List.contains_cons] at ih ⊢
    cases h : n == a
    · simp only [Bool.false_eq_true, if_false, Bool.false_or]; exact ih
    · simp
theorem owns_block {w w' : World} {v : Value} {n : Nat} {xs : List Value} {e : TypeId} {size : Nat} (h : w.ownsRow 0 e size v n xs) (hb : ∀ g, v.ownBlock = some g → w'.heap[g]? = w.heap[g]?) : w'.ownsRow 0 e size v n xs := by
  obtain ⟨h1, h2⟩ := h
  refine ⟨h1, ?_⟩
  rcases h2 with h2 | ⟨g, cap, cur, hv, hg, hh, r⟩
  · exact .inl h2
  · exact .inr ⟨g, cap, cur, hv, hg, (hb g (by rw [hv]; rfl)).trans hh, r⟩
theorem owns_lt {w : World} {v : Value} {n : Nat} {xs : List Value} {e : TypeId} {size : Nat} (h : w.ownsRow 0 e size v n xs) {g : Nat} (hg : v.ownBlock = some g) : g < w.heap.size := by
  obtain ⟨h1, h2⟩ := h
  rcases h2 with ⟨h2, -⟩ | ⟨g', cap, cur, hv, -, hh, -⟩
  · rw [h2] at hg; cases hg
  · rw [hv] at hg; cases hg; exact block_lt hh

theorem owns_slice {w : World} {v : Value} {n : Nat} {xs : List Value} {e : TypeId} {size : Nat} (h : w.ownsRow 0 e size v n xs) : ∃ a c, v = .slice a n c := by
  obtain ⟨h1, h2⟩ := h
  rcases h2 with ⟨h2, h3⟩ | ⟨g', cap, cur, hv, -, hh, -⟩
  · exact ⟨none, 0, by rw [h2, h3]⟩
  · exact ⟨_, _, hv⟩
/-- What the closure of variables has in memory. -/
structure VarsI (pm pv bm : Nat) (vs : List Int) (w : World) (Q : Nat → Prop) : Prop where
  hm : w.heap[pm]? = some (.cells #[.map (some bm)] 116)
  hM : IMap w bm (setOfI vs)
  hv : ∃ v, w.heap[pv]? = some (.cells #[v] 32) ∧ w.ownsRow 0 3 1 v vs.length (vs.map (Value.int .i64)) ∧ ∀ g, v.ownBlock = some g → ¬ Q g ∧ g ≠ pm ∧ g ≠ bm ∧ g ≠ pv
  d1 : pm ≠ bm
  d2 : pv ≠ bm
  d3 : pm ≠ pv
  q1 : ¬ Q bm
  q2 : ¬ Q pv
  lt : ∀ b, Q b → b < w.heap.size
theorem varsI_grow {pm pv bm : Nat} {vs : List Int} {w w' : World} {Q Q' : Nat → Prop} (h : VarsI pm pv bm vs w Q) (hb : Below w.heap.size w w') (hq : ∀ b, Q' b → Q b ∨ (w.heap.size ≤ b ∧ b < w'.heap.size)) : VarsI pm pv bm vs w' Q' := by
  obtain ⟨v, v1, v2, v3⟩ := h.hv
  have no : ∀ b, b < w.heap.size → ¬ Q b → ¬ Q' b := fun b l n h' => by
    rcases hq b h' with h1 | h1
    · exact n h1
    · omega
  refine ⟨(hb.block pm (block_lt h.hm)).trans h.hm, h.hM.of_block (hb.block bm h.hM.lt), ⟨v, (hb.block pv (block_lt v1)).trans v1, owns_block v2 (fun g hg => hb.block g (owns_lt v2 hg)), fun g hg => ⟨no g (owns_lt v2 hg) (v3 g hg).1, (v3 g hg).2⟩⟩, h.d1, h.d2, h.d3, no _ h.hM.lt h.q1, no _ (block_lt v1) h.q2, fun b hb' => ?_⟩
  rcases hq b hb' with h1 | h1
  · have := h.lt b h1; have := hb.size; omega
  · exact h1.2
def okV (vs : List Int) (m : Nat) : Prop := vs.length + m ≤ 17000000000
theorem step_no {vs : List Int} {t : Tm} (d : Int) (h : t.k ≠ 1 ∨ vs.contains t.n = true) : stepV vs t d = (vs, true) := by
  unfold stepV
  rcases h with h | h
  · rw [if_neg (by simp [h])]
  · rw [if_neg (by rw [h]; simp)]
theorem step_yes {vs : List Int} {t : Tm} (d : Int) (h : t.k = 1) (h2 : vs.contains t.n = false) : stepV vs t d = (vs ++ [t.n], true) := by
  unfold stepV; rw [if_pos (by rw [h2]; simp [h])]

theorem vars_fin {pm pv bm : Nat} {s : List Int} {n : Int} {w w1 w2 w3 : World} {Q : Nat → Prop} {va : Option Addr} {vc g cap : Nat} {o : Obj} 
    (h : VarsI pm pv bm s w1 Q) (hk : Kp Q w w1) (hm : IMap w2 bm (setOfI s ++ [(n, .bool true)])) (hg : w1.grownBy w2 (some bm))
    (hv : ∀ g, (Value.slice va s.length vc).ownBlock = some g → ¬ Q g ∧ g ≠ pm ∧ g ≠ bm ∧ g ≠ pv)
    (hown : w3.ownsRow 0 3 1 (.slice (some ⟨g, 0, none⟩) (s.length + 1) cap) (s.length + 1) (s.map (Value.int .i64) ++ [.int .i64 n])) (hgr : (w2.alloc o).grownBy w3 (Value.slice va s.length vc).ownBlock)
    (hat : (Value.slice va s.length vc).ownBlock = some g ∨ g = w2.heap.size + 1) (e3 : w3.heap[pv]? = some (.cells #[.slice va s.length vc] 32)) :
    VarsI pm pv bm (s ++ [n]) (w3.setCell ⟨pv, 0, none⟩ (.slice (some ⟨g, 0, none⟩) (s.length + 1) cap)) Q ∧ Kp Q w (w3.setCell ⟨pv, 0, none⟩ (.slice (some ⟨g, 0, none⟩) (s.length + 1) cap)) := by
  have l1 : ∀ b, Q b → b < w1.heap.size := h.lt
  have s12 := hg.size
  have s23 : w2.heap.size + 1 ≤ w3.heap.size := by have := hgr.size; simpa using this
  have hpv : pv < w1.heap.size := by obtain ⟨v, v1, -⟩ := h.hv; exact block_lt v1
  have step : ∀ b, b < w2.heap.size → some b ≠ (Value.slice va s.length vc).ownBlock → b ≠ pv → (w3.setCell ⟨pv, 0, none⟩ (.slice (some ⟨g, 0, none⟩) (s.length + 1) cap)).heap[b]? = w2.heap[b]? := fun b hb ho hp =>
    (Below.heap_setCell _ _ _ _ hp).trans ((hgr.block b (by simp; omega) ho).trans (Below.heap_alloc _ _ _ hb))
  have stepQ : ∀ b, b < w1.heap.size → b ≠ bm → some b ≠ (Value.slice va s.length vc).ownBlock → b ≠ pv → (w3.setCell ⟨pv, 0, none⟩ (.slice (some ⟨g, 0, none⟩) (s.length + 1) cap)).heap[b]? = w1.heap[b]? := fun b hb hm ho hp =>
    (step b (by omega) ho hp).trans (hg.block b hb (by simp [hm]))
  have hQ : ∀ b, Q b → b ≠ bm ∧ some b ≠ (Value.slice va s.length vc).ownBlock ∧ b ≠ pv := fun b hb =>
    ⟨fun e => h.q1 (e ▸ hb), fun e => (hv b e.symm).1 hb, fun e => h.q2 (e ▸ hb)⟩
  have hgf : ¬ Q g ∧ g ≠ pm ∧ g ≠ bm ∧ g ≠ pv := by
    rcases hat with hat | hat
    · exact hv g hat
    · have := h.hM.lt
      have := block_lt h.hm
      refine ⟨fun hq => ?_, by omega, by omega, by omega⟩
      have := l1 g hq; omega
  have hbm : bm < w1.heap.size := h.hM.lt
  refine ⟨⟨?_, ?_, ⟨_, one_setCell e3, ?_, fun g' hg' => ?_⟩, h.d1, h.d2, h.d3, h.q1, h.q2, fun b hb => ?_⟩, ?_⟩
  · exact (stepQ pm (block_lt h.hm) h.d1 (fun e => (hv pm e.symm).2.1 rfl) h.d3).trans h.hm
  · have e : setOfI (s ++ [n]) = setOfI s ++ [(n, .bool true)] := by simp [setOfI]
    rw [e]
    exact hm.of_block (step bm (by omega) (fun e => (hv bm e.symm).2.2.1 rfl) h.d2.symm)
  · have e : (s ++ [n]).map (Value.int .i64) = s.map (Value.int .i64) ++ [.int .i64 n] := by simp
    rw [e, List.length_append, List.length_singleton]
    exact owns_block hown (fun g' hg' => by cases hg'; exact Below.heap_setCell _ _ _ _ hgf.2.2.2)
  · cases hg'; exact hgf
  · have := l1 b hb; simp [World.setCell]; omega
  · refine hk.trans ⟨?_, ?_, ?_, ?_, fun b hb => stepQ b (l1 b hb) (hQ b hb).1 (hQ b hb).2.1 (hQ b hb).2.2⟩
    · exact hgr.os.trans hg.os
    · exact hgr.tape.trans hg.tape
    · exact hgr.output.trans hg.output
    · simp [World.setCell]; omega

set_option maxRecDepth 100000 in
theorem vars1_sees {pm pv bm : Nat} :
    Sees 92 #[.pointer (some ⟨pm, 0, none⟩), .pointer (some ⟨pv, 0, none⟩)] stepV okV (VarsI pm pv bm) (fun _ => true) := by
  refine ⟨fun s t d m hs hf => ?_, fun _ _ => by go_simp, fun s w Q h => h.lt, fun s w w' Q Q' h hb hq => varsI_grow h hb hq, fun s w Q t d v m hd0 hok hnd h hv => ?_⟩
  · unfold okV at *
    simp only [stepV]
    split
    · simp; omega
    · omega
  · clear hd0 hnd
    obtain ⟨sl, rfl, hk1, hk2, hsl⟩ := trV_iff.1 hv
    obtain ⟨oa, cap, b, o, rfl, hlc, hcm, -, -⟩ := trS_at hsl
    have h1 := varsI_grow (Q' := Q) h (below_alloc w (.cells #[.int .i64 t.k, .int .i64 t.n, .slice oa t.l.length cap] 24)) (fun b hb => .inl hb)
    have hk := kp_alloc h.lt (.cells #[.int .i64 t.k, .int .i64 t.n, .slice oa t.l.length cap] 24)
    have cm := cell_of_one h1.hm
    have hlk := look_int Try.underlying116 zeroBool h1.hM t.n hk2 false
    rw [fndI_set] at hlk
    have hbw := h.hM.lt
    have HH := Lib.hid (And.intro h1 hk)
    clear hsl hk1 hv h h1 hk
    by_cases hk : t.k = 1
    · have hb1 : (t.k == 1) = true := by simp [hk]
      cases hc : s.contains t.n with
      | true =>
        rw [step_no d (.inr hc)]
        simp only [hc, if_true, Option.getD_some, Bool.false_eq_true, if_false] at hlk
        clear hk
        go_enter Try.func92, Try.ntmps92
        go_wp2_with fail
        go_ret
        exact ⟨rfl, HH.out.1, HH.out.2⟩
      | false =>
        rw [step_yes d hk hc]
        simp only [hc, Option.getD_none, Bool.false_eq_true, if_false] at hlk
        obtain ⟨w2, hrun, hm2, hg2⟩ := put_int Try.underlying116 HH.out.1.hM t.n hk2 (.bool true) (by rw [fndI_set, hc]; rfl)
        obtain ⟨v, v1, v2, v3⟩ := HH.out.1.hv
        obtain ⟨va, vc, rfl⟩ := owns_slice v2
        have hnew := heap_alloc_new w (.cells #[.int .i64 t.k, .int .i64 t.n, .slice oa t.l.length cap] 24)
        have hbmw : w.heap.size ≠ bm := by omega
        have e0 : w2.heap[w.heap.size]? = some (.cells #[.int .i64 t.k, .int .i64 t.n, .slice oa t.l.length cap] 24) := (hg2.block _ (by simp) (by simp; omega)).trans hnew
        have e1 : w2.heap[pv]? = some (.cells #[.slice va s.length vc] 32) := (hg2.block _ (block_lt v1) (by simp [HH.out.1.d2])).trans v1
        have x1 := (cells_of e0 1).1
        have cv := cell_of_one e1
        have fv := free_of_one e1
        have o2 : w2.ownsRow 0 3 1 (.slice va s.length vc) s.length (s.map (Value.int .i64)) := owns_block v2 (fun g hg => hg2.block g (owns_lt v2 hg) (by simp [(v3 g hg).2.2.1]))
        obtain ⟨i0, hi0, hz0, hz1, hz2⟩ := info_parts infoInt
        have H2 := Lib.hid (And.intro hm2 (And.intro hg2 (And.intro v3 (And.intro e1 o2))))
        have hlen : s.length + 1 ≤ 17000000000 := by unfold okV at hok; omega
        clear hk hm2 hg2 v3 v1 v2 hnew e0 e1 hok o2
        go_enter Try.func92, Try.ntmps92
        go_wp2_with (at_builtin; refine wpList_append_lies _ rfl _ _ 32 rfl 0 3 i0 (.int .i64 0) 1 8 Try.underlying32 hi0 hz0 hz1 hz2 rfl (by decide) _ _ _ rfl (H2.out.2.2.2.2.alloc _) ⟨w2.heap.size, 0, none⟩ 1 1 [.int .i64 t.n] rfl rfl ?c1 ?c2 ?c3 ?c4 ?c5 ?c6 (w2.heap.size + 1) ?c7 ?_)
        case c1 => exact World.news_of_block (cs := #[.int .i64 t.n]) (t := 3) (fr := (0, 0)) (heap_alloc_new w2 _)
        case c2 => simp [Value.oneCell']
        case c3 => omega
        case c4 => unfold maxLen; omega
        case c5 => omega
        case c6 => omega
        case c7 => simp
        intro g cap' w3 hown3 hgrow hat hlt3
        have hpv : (Value.slice va s.length vc).ownBlock ≠ some pv := fun e => (H2.out.2.2.1 _ e).2.2.2 rfl
        have hbelow : Below w2.heap.size w2 (w2.alloc (.cells #[.int .i64 t.n] 3)) := below_alloc w2 _
        have hpl : pv < w2.heap.size := block_lt H2.out.2.2.2.1
        have e3 : w3.heap[pv]? = some (.cells #[.slice va s.length vc] 32) := (hgrow.block pv (by simp; omega) (fun e => hpv e.symm)).trans ((hbelow.block pv hpl).trans H2.out.2.2.2.1)
        have c3' := free_of_one e3
        have c4' := cell_of_one e3
        have H3 := Lib.hid (And.intro hown3 (And.intro hgrow (And.intro hat (And.intro hlt3 e3))))
        clear hown3 hgrow hat hlt3 e3 hpv hbelow hpl
        go_wp2_with fail
        go_ret
        exact ⟨rfl, vars_fin HH.out.1 HH.out.2 H2.out.1 H2.out.2.1 H2.out.2.2.1 H3.out.1 H3.out.2.1 H3.out.2.2.1 H3.out.2.2.2.2⟩
    · have hb1 : (t.k == 1) = false := by simp [hk]
      rw [step_no d (.inl hk)]
      clear hlk hk
      go_enter Try.func92, Try.ntmps92
      go_wp2_with fail
      go_ret
      exact ⟨rfl, HH.out.1, HH.out.2⟩
/-- The slice reads as the list of numbers. -/
def IntS (w : World) (P : Nat → Prop) (l : List Int) (v : Value) : Prop :=
  ∃ oa cap b o, v = .slice oa l.length cap ∧ l.length ≤ cap ∧ cap ≤ 9223372036854775807 ∧ (0 < l.length → oa = some ⟨b, o, none⟩ ∧ P b) ∧ ∀ i (h : i < l.length), w.cell? ⟨b, o + i, none⟩ = some (.int .i64 l[i])
theorem intS_of_owns {w : World} {P : Nat → Prop} {l : List Int} {v : Value} (h : w.ownsRow 0 3 1 v l.length (l.map (Value.int .i64))) (hP : ∀ g, v.ownBlock = some g → P g) : IntS w P l v := by
  obtain ⟨h1, h2⟩ := h
  rcases h2 with ⟨rfl, h3⟩ | ⟨g, cap, cur, rfl, -, hh, hc, hm, hs, ht⟩
  · refine ⟨none, 0, 0, 0, by rw [h3], by omega, by omega, fun h => by omega, fun i hi => by omega⟩
  · refine ⟨_, cap, g, 0, rfl, hc, by unfold maxLen at hm; omega, fun _ => ⟨rfl, hP g rfl⟩, fun i hi => ?_⟩
    rw [(cells_of hh (0 + i)).1]
    have e : (cur.toList.take (l.length * 1))[i]? = (l.map (Value.int .i64))[i]? := by rw [ht]
    rw [List.getElem?_take_of_lt (by omega), List.getElem?_map, List.getElem?_eq_getElem hi] at e
    simpa using e
theorem intS_mono {w w' : World} {P Q : Nat → Prop} (hPQ : ∀ b, P b → Q b) (hw : ∀ b, P b → w'.heap[b]? = w.heap[b]?) {l : List Int} {v : Value} (h : IntS w P l v) : IntS w' Q l v := by
  obtain ⟨oa, cap, b, o, rfl, h1, h2, h3, h4⟩ := h
  exact ⟨oa, cap, b, o, rfl, h1, h2, fun hl => ⟨(h3 hl).1, hPQ _ (h3 hl).2⟩, fun i hi => (World.cell?_of_block (w := w) (a := ⟨b, o + i, none⟩) (hw b (h3 (by omega)).2)).trans (h4 i hi)⟩
/-- New blocks. -/
def Nw (w w' : World) (b : Nat) : Prop := w.heap.size ≤ b ∧ b < w'.heap.size

set_option maxRecDepth 100000 in
theorem variables_any (l : List Tm) (s : Value) (w : World) (h : TrS w (· < w.heap.size) l s) (hsz : szL l ≤ 10000000000) (hdp : dpL l ≤ 1000000000) :
    Calls Try.prog 60 #[s] w fun e w' => ∃ v, e = .returned v ∧ IntS w' (Nw w w') (vars l) v ∧ Below w.heap.size w w' := by
  obtain ⟨oa, cap, b, o, rfl, hlc, hcm, hoa, hel⟩ := trS_at h
  have HEL := Lib.hid (And.intro hoa hel)
  clear h hoa hel
  have hI : VarsI (w.heap.size + 1 + 1) w.heap.size (w.heap.size + 1) [] (((w.alloc (.cells #[.slice none 0 0] 32)).alloc (.map #[] 0)).alloc (.cells #[.map (some (w.heap.size + 1))] 116)) (· < w.heap.size) :=
    ⟨by (simp only [heap_alloc, alloc_size]; repeat (first | rw [if_pos trivial] | rw [if_pos (by omega)] | rw [if_neg (by omega)])), ⟨#[], 0, by (simp only [heap_alloc, alloc_size]; repeat (first | rw [if_pos trivial] | rw [if_pos (by omega)] | rw [if_neg (by omega)])), rfl⟩, ⟨.slice none 0 0, by (simp only [heap_alloc, alloc_size]; repeat (first | rw [if_pos trivial] | rw [if_pos (by omega)] | rw [if_neg (by omega)])), ⟨rfl, .inl ⟨rfl, rfl⟩⟩, fun g hg => by cases hg⟩, by omega, by omega, by omega, by simp only [Nat.not_lt]; omega, by simp only [Nat.not_lt]; omega, fun b hb => by simp only [alloc_size]; omega⟩
  have hgr : Below w.heap.size w (((w.alloc (.cells #[.slice none 0 0] 32)).alloc (.map #[] 0)).alloc (.cells #[.map (some (w.heap.size + 1))] 116)) := bA (bA (bA (bZ w) _) _) _
  have HH := Lib.hid (And.intro hI hgr)
  clear hI hgr
  unfold vars varsL
  have hmm := @run_makeMap Try.prog
  have hmf : ∀ (fn : Fn) (first cap : Array Value) (w : World), (Instr.makeFunc fn first cap).run Try.prog w = .ok (.func fn first cap) w := fun _ _ _ _ => rfl
  go_enter Try.func60, Try.ntmps60
  go_wp2_with fail
  go_loopw [10] (fun i wr => ∃ (k : Nat) (vk : List Int), k ≤ l.length ∧ i = .int .i64 k ∧ Hid (wkL stepV l 1 [] = wkL stepV (l.drop k) 1 vk) ∧ Hid (okV vk (szL (l.drop k)) ∧ VarsI (w.heap.size + 1 + 1) w.heap.size (w.heap.size + 1) vk wr (· < w.heap.size) ∧ Below w.heap.size w wr)) (fun i _ => l.length - (intOf i).toNat)
  case atStart => exact ⟨0, [], by omega, rfl, rfl, by unfold okV; simp; omega, HH.out.1, HH.out.2⟩
  case round =>
    obtain ⟨k, vk, hk, rfl, HR, HI⟩ := hrel
    by_cases hlt : k < l.length
    · obtain ⟨rfl, hQb⟩ := HEL.out.1 (by omega)
      obtain ⟨oa2, cap2, e0, e1, e2, e3⟩ := HEL.out.2 k hlt
      have hbl := HI.out.2.2.block b hQb
      have d0 := (World.cell?_of_block (w := w) (a := ⟨b, o + k * 3, none⟩) hbl).trans e0
      have d1 := (World.cell?_of_block (w := w) (a := ⟨b, o + k * 3 + 1, none⟩) hbl).trans e1
      have d2 := (World.cell?_of_block (w := w) (a := ⟨b, o + k * 3 + 2, none⟩) hbl).trans e2
      have hbl' : b < wr.heap.size := Nat.lt_of_lt_of_le hQb HI.out.2.2.size
      have hgr := below_alloc wr (.cells #[.int .i64 l[k].k, .int .i64 l[k].n, .slice oa2 l[k].l.length cap2] 24)
      have hI3 := varsI_grow (Q' := (· < w.heap.size)) HI.out.2.1 hgr (fun b h => .inl h)
      have hb3 := below_le HI.out.2.2 hgr HI.out.2.2.size
      have hdr : l.drop k = l[k] :: l.drop (k + 1) := List.drop_eq_getElem_cons hlt
      have hokk : okV vk (sz l[k] + szL (l.drop (k + 1))) := by have h := HI.out.1; rw [hdr] at h; simpa [szL] using h
      have hcall := walk_any (Lib.hid vars1_sees) (sz l[k]) l[k] (Nat.le_refl _) _ 1 vk _ (· < w.heap.size) (szL (l.drop (k + 1))) (trV_below hb3 e3) hokk (allN_true _) hI3 (by omega) (.inr (by have := dp_mem (List.getElem_mem hlt); omega))
      have hw : wkL stepV l 1 [] = wkL stepV (l.drop (k + 1)) 1 (wk stepV l[k] 1 vk).1 := by rw [HR.out, hdr]; simp only [wkL]; rw [wk_stepV]; rfl
      have hok2 := wk_ok stepV (vars1_sees (pm := 0) (pv := 0) (bm := 0)).next l[k] 1 vk _ hokk (wk_stepV _ _ _)
      have HC := Lib.hid hcall
      have HK := Lib.hid (And.intro hb3 (And.intro hw hok2))
      clear e0 e1 e2 e3 hbl hgr hI3 hb3 hcall hokk hw hok2 hdr
      go_wp2_with fail
      refine HC.out.mono ?_
      rintro e w3 ⟨rfl, hI3, hk3⟩
      have HF := Lib.hid (And.intro HK.out.2.2 (And.intro hI3 (HK.out.1.trans hk3.below)))
      clear hI3 hk3
      go_wp2_with fail
      go_roundw
      case rel => exact ⟨k + 1, _, by omega, by go_num, HK.out.2.1, HF.out⟩
      case measure => simp [intOf]; omega
    · have hw : (wkL stepV l 1 []).1 = vk := by rw [HR.out, List.drop_eq_nil_of_le (by omega)]; rfl
      obtain ⟨v, v1, v2, v3⟩ := HI.out.2.1.hv
      have hv := intS_of_owns v2 (P := Nw w wr) (fun g hg => ⟨Nat.le_of_not_lt (v3 g hg).1, owns_lt v2 hg⟩)
      have cv := cell_of_one v1
      have HV := Lib.hid (And.intro hw hv)
      clear hw hv v1 v2 v3
      go_wp2_with fail
      go_ret
      exact ⟨_, rfl, by rw [HV.out.1]; exact HV.out.2, HI.out.2.2⟩
end Go.Proofs.Ytapdfdjknehhgaa
