/- The law's few. -/
import Derived.Test.YtapdfdjknehhgaaRSame
namespace Go.Proofs.Ytapdfdjknehhgaa
open Go.RowKit Go.Tr

/-- What few's closure has in memory. -/
structure FewI (c p : Nat) (left : Int) (w : World) : Prop where
  hc : w.heap[c]? = some (.cells #[.int .i64 left] 3)
  hp : w.heap[p]? = some (.cells #[.func (.func 49) #[] #[.pointer (some ⟨c, 0, none⟩), .pointer (some ⟨p, 0, none⟩)]] 76)
  ne : p ≠ c
theorem fewI_kp {c p : Nat} {left : Int} {w w' : World} (h : FewI c p left w) (hb : Below w.heap.size w w') : FewI c p left w' :=
  ⟨(hb.block c (block_lt h.hc)).trans h.hc, (hb.block p (block_lt h.hp)).trans h.hp, h.ne⟩
theorem fewI_set {c p : Nat} {left : Int} {w : World} (h : FewI c p left w) (u : Int) : FewI c p u (w.setCell ⟨c, 0, none⟩ (.int .i64 u)) :=
  ⟨one_setCell h.hc, (Below.heap_setCell _ _ _ _ h.ne).trans h.hp, h.ne⟩
theorem fewS_ok (s : Int) (t : Tm) (d : Int) (hs : okL s) (hf : (fewS s t d).2 = true) : okL (fewS s t d).1 := by
  simp only [fewS, Bool.and_eq_true, decide_eq_true_eq] at hf
  unfold okL at *
  simp only [fewS]
  omega

set_option maxRecDepth 100000 in
set_option maxHeartbeats 400000 in
theorem few1_n (c p : Nat) (N : Nat) : ∀ (t : Tm), sz t ≤ N → ∀ (v : Value) (d left : Int) (w : World) (Q : Nat → Prop), TrV w Q t v → (∀ b, Q b → b < w.heap.size ∧ b ≠ c) → okL left → FewI c p left w → 0 ≤ d → d ≤ 1001 →
    Calls Try.prog 49 #[v, .int .i64 d, .pointer (some ⟨c, 0, none⟩), .pointer (some ⟨p, 0, none⟩)] w fun e w' => e = .returned (.bool (wk fewS t d left).2) ∧ FewI c p (wk fewS t d left).1 w' ∧ Kp (fun b => b < w.heap.size ∧ b ≠ c) w w' := by
  induction N with
  | zero => intro t ht; have := sz_pos t; omega
  | succ N ih =>
    intro t ht v d left w Q hv hQ hok hI hd0 hd1
    have IH := Lib.hid ih
    clear ih
    obtain ⟨sl, rfl, -, -, hsl⟩ := trV_iff.1 hv
    obtain ⟨oa, cap, b, o, rfl, hlc, hcm, hoa, hel⟩ := trS_at hsl
    have hal := below_alloc w (.cells #[.int .i64 t.k, .int .i64 t.n, .slice oa t.l.length cap] 24)
    have hI1 := fewI_kp hI hal
    have hI2 := fewI_set hI1 (left - 1)
    have f0 := free_of_one hI1.hc
    have a0 := cell_of_one hI1.hc
    have a1 := cell_of_one hI2.hc
    have hnew := heap_alloc_new w (.cells #[.int .i64 t.k, .int .i64 t.n, .slice oa t.l.length cap] 24)
    have hcs : w.heap.size ≠ c := by have := block_lt hI.hc; omega
    have hk2 : Kp (fun b => b < w.heap.size ∧ b ≠ c) w ((w.alloc (.cells #[.int .i64 t.k, .int .i64 t.n, .slice oa t.l.length cap] 24)).setCell ⟨c, 0, none⟩ (.int .i64 (left - 1))) :=
      (kp_alloc (fun b h => h.1) _).trans (kp_set (fun h => h.2 rfl) 0 _)
    have hnew2 := (Below.heap_setCell _ ⟨c, 0, none⟩ (.int .i64 (left - 1)) _ hcs).trans hnew
    have c0 := (cells_of hnew2 0).1
    have c1 := (cells_of hnew2 1).1
    have c2 := (cells_of hnew2 2).1
    simp only [List.getElem?_toArray, List.getElem?_cons_zero, List.getElem?_cons_succ] at c0 c1 c2
    have HH := Lib.hid (And.intro hI2 (And.intro hk2 (And.intro hv hQ)))
    have HEL := Lib.hid (And.intro hoa hel)
    have hw := wk_t fewS t d left
    have HOK := Lib.hid hok
    have hlb : -1 ≤ left - 1 ∧ left ≤ 9000 := by unfold okL at hok; omega
    obtain ⟨hl1, hl2⟩ := hlb
    clear hv hQ hI hI1 hI2 hk2 hnew hnew2 hoa hel hsl hok hal
    by_cases hf : 0 ≤ left - 1 ∧ d ≤ 1000
    · have hf2 : (fewS left t d).2 = true := by simp only [fewS, Bool.and_eq_true, decide_eq_true_eq]; exact hf
      have hw' : wk fewS t d left = wkL fewS t.l (d + 1) (left - 1) := by rw [hw, hf2]; rfl
      have hok1 : okL (left - 1) := fewS_ok left t d HOK.out hf2
      rw [hw']
      have HO1 := Lib.hid hok1
      obtain ⟨hf3, hf4⟩ := hf
      have g1 : 1 ≤ left := by omega
      have g2 : ¬ 1000 < d := by omega
      clear hf2 hw hw' hok1 hf3
      go_enter Try.func49, Try.ntmps49
      go_wp2_with fail
      go_loopw [20] (fun i wr => ∃ (k : Nat) (sk : Int), k ≤ t.l.length ∧ i = .int .i64 k ∧ Hid (wkL fewS t.l (d + 1) (left - 1) = wkL fewS (t.l.drop k) (d + 1) sk) ∧ Hid (okL sk ∧ FewI c p sk wr ∧ Kp (fun b => b < w.heap.size ∧ b ≠ c) w wr)) (fun i _ => t.l.length - (intOf i).toNat)
      case atStart => exact ⟨0, left - 1, by omega, rfl, rfl, HO1.out, HH.out.1, HH.out.2.1⟩
      case round =>
        obtain ⟨k, sk, hk, rfl, HR, HI⟩ := hrel
        by_cases hlt : k < t.l.length
        · obtain ⟨rfl, hQb⟩ := HEL.out.1 (by omega)
          obtain ⟨oa2, cap2, e0, e1, e2, e3⟩ := HEL.out.2 k hlt
          have hbl := HI.out.2.2.block b (HH.out.2.2.2 b hQb)
          have d0 := (World.cell?_of_block (w := w) (a := ⟨b, o + k * 3, none⟩) hbl).trans e0
          have d1 := (World.cell?_of_block (w := w) (a := ⟨b, o + k * 3 + 1, none⟩) hbl).trans e1
          have d2 := (World.cell?_of_block (w := w) (a := ⟨b, o + k * 3 + 2, none⟩) hbl).trans e2
          have hbl' : b < wr.heap.size := Nat.lt_of_lt_of_le (HH.out.2.2.2 b hQb).1 HI.out.2.2.size
          have hgr := below_alloc wr (.cells #[.int .i64 t.l[k].k, .int .i64 t.l[k].n, .slice oa2 t.l[k].l.length cap2] 24)
          have hI3 := fewI_kp HI.out.2.1 hgr
          have cp := cell_of_one hI3.hp
          have hkp : Kp (fun b => b < w.heap.size ∧ b ≠ c) w (wr.alloc (.cells #[.int .i64 t.l[k].k, .int .i64 t.l[k].n, .slice oa2 t.l[k].l.length cap2] 24)) := HI.out.2.2.trans (kp_alloc (fun b h => Nat.lt_of_lt_of_le h.1 HI.out.2.2.size) _)
          have hcall := IH.out t.l[k] (by have := sz_l t; have := sz_mem (List.getElem_mem hlt); omega) _ (d + 1) sk _ Q (trV_mono (fun _ h => h) (fun b h => hkp.block b (HH.out.2.2.2 b h)) _ e3) (fun b h => ⟨Nat.lt_of_lt_of_le (HH.out.2.2.2 b h).1 hkp.size, (HH.out.2.2.2 b h).2⟩) HI.out.1 hI3 (by omega) (by omega)
          have HC := Lib.hid hcall
          have HK := Lib.hid hkp
          have hdr : t.l.drop k = t.l[k] :: t.l.drop (k + 1) := List.drop_eq_getElem_cons hlt
          have ee : ∀ (args : Array Value) (w : World), (callFunc 49 args).run Try.prog w = .ok (.enter 49 args) w := fun _ _ => by go_simp
          clear e0 e1 e2 e3 hbl hgr hI3 hkp hcall
          cases hb : (wk fewS t.l[k] (d + 1) sk).2 with
          | false =>
            have hw : wkL fewS t.l (d + 1) (left - 1) = ((wk fewS t.l[k] (d + 1) sk).1, false) := by rw [HR.out, hdr]; simp only [wkL]; rw [hb]; rfl
            have HW := Lib.hid hw
            have HB := Lib.hid hb
            clear hw hb hdr
            go_wp2_with fail
            refine HC.out.mono ?_
            rintro e w3 ⟨rfl, hI3, hk3⟩
            rw [HB.out]
            have HF := Lib.hid (And.intro hI3 (HK.out.trans (hk3.mono fun b h => ⟨Nat.lt_of_lt_of_le h.1 HK.out.size, h.2⟩)))
            clear hI3 hk3
            go_wp2_with fail
            go_ret
            rw [HW.out]
            exact ⟨rfl, HF.out.1, HF.out.2⟩
          | true =>
            have hw : wkL fewS t.l (d + 1) (left - 1) = wkL fewS (t.l.drop (k + 1)) (d + 1) (wk fewS t.l[k] (d + 1) sk).1 := by rw [HR.out, hdr]; simp only [wkL]; rw [hb]; rfl
            have hok2 := wk_ok (ok := fun s _ => okL s) fewS (fun s t d m => fewS_ok s t d) t.l[k] (d + 1) sk 0 HI.out.1 hb
            have HW := Lib.hid hw
            have HB := Lib.hid hb
            have HO2 := Lib.hid hok2
            clear hw hb hdr hok2
            go_wp2_with fail
            refine HC.out.mono ?_
            rintro e w3 ⟨rfl, hI3, hk3⟩
            rw [HB.out]
            have HF := Lib.hid (And.intro HO2.out (And.intro hI3 (HK.out.trans (hk3.mono fun b h => ⟨Nat.lt_of_lt_of_le h.1 HK.out.size, h.2⟩))))
            clear hI3 hk3
            go_wp2_with fail
            go_roundw
            case rel => exact ⟨k + 1, _, by omega, by go_num, HW.out, HF.out⟩
            case measure => simp [intOf]; omega
        · have hk' : k = t.l.length := by omega
          have hw : wkL fewS t.l (d + 1) (left - 1) = (sk, true) := by rw [HR.out, hk', List.drop_length]; rfl
          have HW := Lib.hid hw
          clear hw
          go_wp2_with fail
          go_ret
          rw [HW.out]
          exact ⟨rfl, HI.out.2.1, HI.out.2.2⟩
    · have hf2 : (fewS left t d).2 = false := by
        rw [Bool.eq_false_iff]
        simp only [fewS, ne_eq, Bool.and_eq_true, decide_eq_true_eq]; exact hf
      have hw' : wk fewS t d left = (left - 1, false) := by rw [hw, hf2]; rfl
      rw [hw']
      clear hf2 hw hw'
      by_cases g1 : 1 ≤ left
      · have g2 : 1000 < d := by omega
        clear hf
        go_enter Try.func49, Try.ntmps49
        go_wp2_with fail
        go_ret
        exact ⟨rfl, HH.out.1, HH.out.2.1⟩
      · clear hf
        go_enter Try.func49, Try.ntmps49
        go_wp2_with fail
        all_goals go_ret
        all_goals exact ⟨rfl, HH.out.1, HH.out.2.1⟩

set_option maxRecDepth 100000 in
theorem few_any (l : List Tm) (s : Value) (w : World) (h : TrS w (· < w.heap.size) l s) :
    Calls Try.prog 14 #[s] w fun e w' => e = .returned (.bool (few l)) ∧ Below w.heap.size w w' := by
  obtain ⟨oa, cap, b, o, rfl, hlc, hcm, hoa, hel⟩ := trS_at h
  have HEL := Lib.hid (And.intro hoa hel)
  clear h hoa hel
  unfold few
  have hI : FewI w.heap.size (w.heap.size + 1) 6000 ((w.alloc (.cells #[.int .i64 6000] 3)).alloc (.cells #[.func (.func 49) #[] #[.pointer (some ⟨w.heap.size, 0, none⟩), .pointer (some ⟨w.heap.size + 1, 0, none⟩)]] 76)) :=
    ⟨by simp only [heap_alloc, alloc_size]; simp, by simp only [heap_alloc, alloc_size]; simp, by omega⟩
  have hgr : Below w.heap.size w ((w.alloc (.cells #[.int .i64 6000] 3)).alloc (.cells #[.func (.func 49) #[] #[.pointer (some ⟨w.heap.size, 0, none⟩), .pointer (some ⟨w.heap.size + 1, 0, none⟩)]] 76)) := bA (bA (bZ w) _) _
  have HH := Lib.hid (And.intro hI hgr)
  have ee : ∀ (args : Array Value) (w : World), (callFunc 49 args).run Try.prog w = .ok (.enter 49 args) w := fun _ _ => by go_simp
  clear hI hgr
  go_enter Try.func14, Try.ntmps14
  go_wp2_with fail
  go_loopw [10] (fun i wr => ∃ (k : Nat) (sk : Int), k ≤ l.length ∧ i = .int .i64 k ∧ Hid (wkL fewS l 1 6000 = wkL fewS (l.drop k) 1 sk) ∧ Hid (okL sk ∧ FewI w.heap.size (w.heap.size + 1) sk wr ∧ Below w.heap.size w wr)) (fun i _ => l.length - (intOf i).toNat)
  case atStart => exact ⟨0, 6000, by omega, rfl, rfl, by unfold okL; omega, HH.out.1, HH.out.2⟩
  case round =>
    obtain ⟨k, sk, hk, rfl, HR, HI⟩ := hrel
    by_cases hlt : k < l.length
    · obtain ⟨rfl, hQb⟩ := HEL.out.1 (by omega)
      obtain ⟨oa2, cap2, e0, e1, e2, e3⟩ := HEL.out.2 k hlt
      have hbl := HI.out.2.2.block b hQb
      have d0 := (World.cell?_of_block (w := w) (a := ⟨b, o + k * 3, none⟩) hbl).trans e0
      have d1 := (World.cell?_of_block (w := w) (a := ⟨b, o + k * 3 + 1, none⟩) hbl).trans e1
      have d2 := (World.cell?_of_block (w := w) (a := ⟨b, o + k * 3 + 2, none⟩) hbl).trans e2
      have hbl' : b < wr.heap.size := Nat.lt_of_lt_of_le hQb HI.out.2.2.size
      have hgr := below_alloc wr (.cells #[.int .i64 l[k].k, .int .i64 l[k].n, .slice oa2 l[k].l.length cap2] 24)
      have hI3 := fewI_kp HI.out.2.1 hgr
      have cp := cell_of_one hI3.hp
      have hb3 := below_le HI.out.2.2 hgr HI.out.2.2.size
      have hcall := few1_n w.heap.size (w.heap.size + 1) (sz l[k]) l[k] (Nat.le_refl _) _ 1 sk _ (· < w.heap.size) (trV_below hb3 e3) (fun b h => ⟨Nat.lt_of_lt_of_le h hb3.size, by omega⟩) HI.out.1 hI3 (by omega) (by omega)
      have HC := Lib.hid hcall
      have HK := Lib.hid hb3
      have hdr : l.drop k = l[k] :: l.drop (k + 1) := List.drop_eq_getElem_cons hlt
      clear e0 e1 e2 e3 hbl hgr hI3 hb3 hcall
      cases hb : (wk fewS l[k] 1 sk).2 with
      | false =>
        have hw : (wkL fewS l 1 6000).2 = false := by rw [HR.out, hdr]; simp only [wkL]; rw [hb]; rfl
        have HW := Lib.hid hw
        have HB := Lib.hid hb
        clear hw hb hdr
        go_wp2_with fail
        refine HC.out.mono ?_
        rintro e w3 ⟨rfl, hI3, hk3⟩
        rw [HB.out]
        have HF := Lib.hid (HK.out.trans (hk3.mono (R := (· < w.heap.size)) fun b h => ⟨Nat.lt_of_lt_of_le h HK.out.size, by omega⟩).below)
        clear hI3 hk3
        go_wp2_with fail
        go_ret
        exact ⟨ret_bool HW.out.symm, HF.out⟩
      | true =>
        have hw : wkL fewS l 1 6000 = wkL fewS (l.drop (k + 1)) 1 (wk fewS l[k] 1 sk).1 := by rw [HR.out, hdr]; simp only [wkL]; rw [hb]; rfl
        have hok2 := wk_ok (ok := fun s _ => okL s) fewS (fun s t d m => fewS_ok s t d) l[k] 1 sk 0 HI.out.1 hb
        have HW := Lib.hid hw
        have HB := Lib.hid hb
        have HO2 := Lib.hid hok2
        clear hw hb hdr hok2
        go_wp2_with fail
        refine HC.out.mono ?_
        rintro e w3 ⟨rfl, hI3, hk3⟩
        rw [HB.out]
        have HF := Lib.hid (And.intro HO2.out (And.intro hI3 (HK.out.trans (hk3.mono (R := (· < w.heap.size)) fun b h => ⟨Nat.lt_of_lt_of_le h HK.out.size, by omega⟩).below)))
        clear hI3 hk3
        go_wp2_with fail
        go_roundw
        case rel => exact ⟨k + 1, _, by omega, by go_num, HW.out, HF.out⟩
        case measure => simp [intOf]; omega
    · have hk' : k = l.length := by omega
      have hw : (wkL fewS l 1 6000).2 = true := by rw [HR.out, hk', List.drop_length]; rfl
      have HW := Lib.hid hw
      clear hw
      go_wp2_with fail
      go_ret
      exact ⟨ret_bool HW.out.symm, HI.out.2.2⟩
end Go.Proofs.Ytapdfdjknehhgaa
