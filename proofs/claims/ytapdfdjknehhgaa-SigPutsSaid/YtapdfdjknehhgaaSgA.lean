/- Merged: Sig1, Sig2, Sig3, Sig4, Sig5, Sig6. -/
import Derived.Test.YtapdfdjknehhgaaVars
import Derived.Test.YtapdfdjknehhgaaTx
import Derived.Laws.IdiomStrings
import Derived.WalkSmall
import Derived.Shelf.Strings.Count
import Derived.Lib.Walk
import Derived.Lib.Strings
import Derived.Lib.Bytealg
import Derived.BigCall
import Derived.Laws.Strings3
import Derived.Test.YtapdfdjknehhgaaRInts
import Derived.Test.YtapdfdjknehhgaaMp
import Derived.DeepKeys5
import Derived.Laws.CopyOwn

/- Names: isName, and what of strings' functions they use. -/
namespace Go.Proofs.Ytapdfdjknehhgaa
open Go.RowKit Go.Tr

theorem bytesRow_cell (s : ByteArray) (cap i : Nat) (h : i < s.size) : (bytesRow s cap)[i]? = some (.int .u8 (s.data.toList[i]'(by simpa using h)).toNat) := by
  have hz : i < s.data.size := h
  unfold bytesRow
  rw [Array.getElem?_append_left (by simpa using h), Array.getElem?_map, Array.getElem?_eq_getElem hz]
  simp
theorem drop_all {l : List UInt8} {k : Nat} (h : k < l.length) : (l.drop k).all okC = (okC l[k] && (l.drop (k + 1)).all okC) := by
  rw [List.drop_eq_getElem_cons h]; rfl
theorem okC_eq (c : UInt8) : okC c = (!(decide ((c.toNat : Int) < 33)) && !(decide ((126 : Int) < (c.toNat : Int))) && !((c.toNat : Int) == 40) && !((c.toNat : Int) == 41) && !((c.toNat : Int) == 44)) := by
  unfold okC
  rw [Bool.eq_iff_iff]
  simp only [Bool.and_eq_true, decide_eq_true_eq, Bool.not_eq_true', beq_eq_false_iff_ne, ne_eq, decide_eq_false_iff_not]
  omega
set_option maxRecDepth 100000 in
theorem isName_any (s : ByteArray) (w : World) :
    Calls Try.prog 107 #[.string s] w fun e w' => e = .returned (.bool (isNm s)) ∧ Below w.heap.size w w' := by
  have kc := fun (w : World) (s : ByteArray) => run_bytes_of_string (P := Try.prog) w 9 130 5 s Try.underlying9 Try.underlying130 Try.underlying5
  by_cases h1 : s.size < 1
  · have he : isNm s = false := by unfold isNm; rw [decide_eq_false (by omega)]; rfl
    have hz : (s.size : Int) < 1 := by omega
    rw [he]
    go_enter Try.func107, Try.ntmps107
    go_wp2_with fail
    go_ret
    exact ⟨rfl, bZ w⟩
  · by_cases h2 : 32 < s.size
    · have he : isNm s = false := by unfold isNm; rw [decide_eq_false (p := s.size ≤ 32) (by omega)]; simp
      have hz : ¬ (s.size : Int) < 1 := by omega
      have hz2 : (32 : Int) < (s.size : Int) := by omega
      rw [he]
      clear h1 h2
      go_enter Try.func107, Try.ntmps107
      go_wp2_with fail
      go_ret
      exact ⟨rfl, bZ w⟩
    · have he : isNm s = s.data.toList.all okC := by unfold isNm; rw [decide_eq_true (by omega), decide_eq_true (by omega)]; rfl
      have hz : ¬ (s.size : Int) < 1 := by omega
      have hz2 : ¬ (32 : Int) < (s.size : Int) := by omega
      rw [he]
      obtain ⟨R, hR⟩ : ∃ R : Bool, R = s.data.toList.all okC := ⟨_, rfl⟩
      rw [← hR]
      have HE := Lib.hid (And.intro h1 (And.intro h2 hR))
      have hk := kc w s
      obtain ⟨q, hq⟩ : ∃ q, q = grownCap w s.size 0 5 := ⟨_, rfl⟩
      rw [← hq] at hk
      obtain ⟨o, ho⟩ : ∃ o : Obj, o = .cells (bytesRow s q) 5 ((bytesRow s q).size, (bytesRow s q).size + 1) := ⟨_, rfl⟩
      rw [← ho] at hk
      have hnew : (w.alloc o).drew.heap[w.heap.size]? = some o := heap_alloc_new w o
      have hb : Below w.heap.size w (w.alloc o).drew := bD (bA (bZ w) o)
      have HH := Lib.hid (And.intro hnew (And.intro hb ho))
      clear h1 h2 he kc hnew hb ho hq hR
      go_enter Try.func107, Try.ntmps107
      go_wp2_with fail
      generalize (w.alloc o).drew = w1 at *
      go_loopw [16] (fun i wr => ∃ k : Nat, k ≤ s.size ∧ i = .int .i64 k ∧ wr = w1 ∧ Hid (R = (s.data.toList.drop k).all okC)) (fun i _ => s.size - (intOf i).toNat)
      case atStart => exact ⟨0, by omega, rfl, rfl, HE.out.2.2⟩
      case round =>
        obtain ⟨k, hk, rfl, rfl, HI⟩ := hrel
        by_cases hlt : k < s.size
        · have hl : k < s.data.toList.length := by simpa using hlt
          have d0 : wr.cell? ⟨w.heap.size, k, none⟩ = some (.int .u8 (s.data.toList[k]).toNat) := by
            have h := HH.out.1
            rw [HH.out.2.2] at h
            unfold World.cell?
            rw [h]
            exact bytesRow_cell s q k hlt
          have i0 : (0 : Int) ≤ (k : Int) := Int.natCast_nonneg _
          have i1 : (k : Int) < (s.size : Int) := by omega
          have hd := drop_all hl
          have ho := okC_eq (s.data.toList[k])
          generalize s.data.toList[k] = c at *
          have HD := Lib.hid (And.intro hd ho)
          clear hd ho
          have u0 : (0 : Int) ≤ (c.toNat : Int) := Int.natCast_nonneg _
          have u1 : (c.toNat : Int) ≤ 255 := by have := c.toNat_lt; omega
          generalize (c.toNat : Int) = ci at *
          by_cases c1 : ci < 33
          · have hres : R = false := by rw [HI.out, HD.out.1, HD.out.2]; simp [c1]
            have HR := Lib.hid hres
            clear hres
            go_wp2_with fail
            go_ret
            rw [HR.out]
            exact ⟨rfl, HH.out.2.1⟩
          · by_cases c2 : 126 < ci
            · have hres : R = false := by rw [HI.out, HD.out.1, HD.out.2]; simp [c2]
              have HR := Lib.hid hres
              clear hres
              go_wp2_with fail
              go_ret
              rw [HR.out]
              exact ⟨rfl, HH.out.2.1⟩
            · by_cases c3 : ci = 40
              · have hres : R = false := by rw [HI.out, HD.out.1, HD.out.2]; simp [c3]
                have HR := Lib.hid hres
                clear hres
                subst c3
                go_wp2_with fail
                go_ret
                rw [HR.out]
                exact ⟨rfl, HH.out.2.1⟩
              · by_cases c4 : ci = 41
                · have hres : R = false := by rw [HI.out, HD.out.1, HD.out.2]; simp [c4]
                  have HR := Lib.hid hres
                  clear hres
                  subst c4
                  go_wp2_with fail
                  go_ret
                  rw [HR.out]
                  exact ⟨rfl, HH.out.2.1⟩
                · by_cases c5 : ci = 44
                  · have hres : R = false := by rw [HI.out, HD.out.1, HD.out.2]; simp [c5]
                    have HR := Lib.hid hres
                    clear hres
                    subst c5
                    go_wp2_with fail
                    go_ret
                    rw [HR.out]
                    exact ⟨rfl, HH.out.2.1⟩
                  · have hres : R = (s.data.toList.drop (k + 1)).all okC := by rw [HI.out, HD.out.1, HD.out.2]; simp [c1, c2, c3, c4, c5]
                    have HR := Lib.hid hres
                    clear hres
                    have b3 : (ci == 40) = false := by simp [c3]
                    have b4 : (ci == 41) = false := by simp [c4]
                    have b5 : (ci == 44) = false := by simp [c5]
                    go_wp2_with fail
                    go_roundw
                    case rel => exact ⟨k + 1, by omega, by go_num, by first | rfl | trivial, HR.out⟩
                    case measure => simp [intOf]; omega
        · have hres : R = true := by rw [HI.out, List.drop_eq_nil_of_le (by simp; omega)]; rfl
          have HR := Lib.hid hres
          clear hres
          go_wp2_with fail
          go_ret
          rw [HR.out]
          exact ⟨rfl, HH.out.2.1⟩
end Go.Proofs.Ytapdfdjknehhgaa

/- Names: whether a name has the mark, and how often. -/
namespace Go.Proofs.Ytapdfdjknehhgaa
open Go.RowKit Go.Tr

set_option maxRecDepth 100000 in
theorem sIndexByte_any (s : ByteArray) (w : World) :
    Calls Try.prog 117 #[.string s, .int .u8 95] w fun e w' => e = .returned (.int .i64 (Lib.indexByte s.data.toList 95)) ∧ w' = w := by
  go_enter Try.func117, Try.ntmps117
  go_wp2
  rw [run_callFunc_extern Try.func121 (by kernel_rfl) (by kernel_rfl) (by kernel_rfl) (e := Extern.BytealgIndexByte.indexByte) (by kernel_rfl), Lib.run_indexByteString]
  simp only [Result.andThen]
  rw [Oper.upon_value]
  go_wp2
  go_ret
  exact ⟨rfl, rfl⟩
set_option maxRecDepth 100000 in
theorem sIndexL_any (s : ByteArray) (w : World) :
    Calls Try.prog 114 #[.string s, .string ⟨#[95]⟩] w fun e w' => e = .returned (.int .i64 (Lib.indexByte s.data.toList 95)) ∧ w' = w := by
  by_cases hs : s = ⟨#[95]⟩
  · subst hs
    go_enter Try.func114, Try.ntmps114
    go_wp2_with fail
    go_ret
    exact ⟨rfl, rfl⟩
  · have hb : ([95] == s.toList) = false := by
      rw [beq_eq_false_iff_ne]
      intro h
      apply hs
      rw [ByteArray.toList_eq] at h
      have h2 := congrArg List.toArray h
      obtain ⟨d⟩ := s
      simp at h2
      rw [← h2]
    clear hs
    go_enter Try.func114, Try.ntmps114
    go_wp2_with (go_at_call 117; refine (sIndexByte_any _ _).mono ?_; rintro e w' ⟨rfl, rfl⟩)
    go_ret
    exact ⟨rfl, rfl⟩
theorem sIndex_any (s : ByteArray) (w : World) :
    Calls Try.prog 111 #[.string s, .string ⟨#[95]⟩] w fun e w' => e = .returned (.int .i64 (Lib.indexByte s.data.toList 95)) ∧ w' = w := by
  go_enter Try.func111, Try.ntmps111
  go_wp2_with (go_at_call 114; refine (sIndexL_any _ _).mono ?_; rintro e w' ⟨rfl, rfl⟩)
  go_ret
  exact ⟨rfl, rfl⟩
theorem indexByte_mem (l : List UInt8) (c : UInt8) : 0 ≤ Lib.indexByte l c ↔ c ∈ l := by
  induction l with
  | nil => simp [Lib.indexByte]
  | cons b l ih =>
    have hge := Lib.indexByte_ge l c
    unfold Lib.indexByte
    by_cases h : b = c
    · subst h; simp
    · have h' : (b == c) = false := by simp [h]
      rw [h', if_neg (by simp)]
      have h3 : c ≠ b := fun e => h e.symm
      simp only [List.mem_cons, h3, false_or]
      by_cases h2 : Lib.indexByte l c = -1
      · rw [if_pos (by simp [h2]), ← ih]; omega
      · rw [if_neg (by simpa using h2), ← ih]; omega
theorem contains_any (s : ByteArray) (w : World) :
    Calls Try.prog 108 #[.string s, .string ⟨#[95]⟩] w fun e w' => e = .returned (.bool (decide (0 < marks s))) ∧ w' = w := by
  go_enter Try.func108, Try.ntmps108
  go_wp2_with (go_at_call 111; refine (sIndex_any _ _).mono ?_; rintro e w' ⟨rfl, rfl⟩)
  go_ret
  exact ⟨ret_bool (by unfold marks; rw [decide_eq_decide, List.count_pos_iff, indexByte_mem]), rfl⟩
theorem countByte_eq (s : ByteArray) : (Lib.countByte s.data.toList 95 : Int) = (marks s : Int) := rfl
set_option maxRecDepth 100000 in
theorem sCount_any (s : ByteArray) (w : World) :
    Calls Try.prog 112 #[.string s, .string ⟨#[95]⟩] w fun e w' => e = .returned (.int .i64 (marks s)) ∧ w' = w := by
  rw [← countByte_eq]
  go_enter Try.func112, Try.ntmps112
  go_wp2
  rw [run_callFunc_extern Try.func116 (by kernel_rfl) (by kernel_rfl) (by kernel_rfl) (e := Extern.BytealgCount.count) (by kernel_rfl), Lib.run_countString]
  simp only [Result.andThen]
  rw [Oper.upon_value]
  go_wp2
  go_ret
  exact ⟨rfl, rfl⟩
end Go.Proofs.Ytapdfdjknehhgaa

/- Signatures in memory; isSort, haveSorts. -/
namespace Go.Proofs.Ytapdfdjknehhgaa
open Go.RowKit Go.Tr

/-- The slice reads as the list of texts. -/
def StrS (w : World) (P : Nat → Prop) (l : List ByteArray) (v : Value) : Prop :=
  ∃ oa cap b o, v = .slice oa l.length cap ∧ l.length ≤ cap ∧ cap ≤ 9223372036854775807 ∧ (0 < l.length → oa = some ⟨b, o, none⟩ ∧ P b) ∧ ∀ i (h : i < l.length), w.cell? ⟨b, o + i, none⟩ = some (.string l[i])
/-- The slice reads as the list of operations. -/
def OpsS (w : World) (P : Nat → Prop) (l : List Op1) (v : Value) : Prop :=
  ∃ oa cap b o, v = .slice oa l.length cap ∧ l.length ≤ cap ∧ cap ≤ 9223372036854775807 ∧ (0 < l.length → oa = some ⟨b, o, none⟩ ∧ P b) ∧
    ∀ i (h : i < l.length), ∃ s, w.cell? ⟨b, o + i * 3, none⟩ = some (.string l[i].nm) ∧ w.cell? ⟨b, o + i * 3 + 1, none⟩ = some s ∧ w.cell? ⟨b, o + i * 3 + 2, none⟩ = some (.int .i64 l[i].rs) ∧ IntS w P l[i].ar s
/-- The numbers of a signature are numbers, its texts texts. -/
structure SgOk (S : Sg) : Prop where
  so : ∀ s ∈ S.so, s.size ≤ 9223372036854775807
  nm : ∀ o ∈ S.op, o.nm.size ≤ 9223372036854775807
  rs : ∀ o ∈ S.op, inI o.rs
  ar : ∀ o ∈ S.op, ∀ n ∈ o.ar, inI n
/-- The value reads as the signature. -/
def SgV (w : World) (P : Nat → Prop) (S : Sg) (v : Value) : Prop := ∃ a b, v = .agg #[a, b] ∧ StrS w P S.so a ∧ OpsS w P S.op b ∧ SgOk S
theorem strS_mono {w w' : World} {P Q : Nat → Prop} (hPQ : ∀ b, P b → Q b) (hw : ∀ b, P b → w'.heap[b]? = w.heap[b]?) {l : List ByteArray} {v : Value} (h : StrS w P l v) : StrS w' Q l v := by
  obtain ⟨oa, cap, b, o, rfl, h1, h2, h3, h4⟩ := h
  exact ⟨oa, cap, b, o, rfl, h1, h2, fun hl => ⟨(h3 hl).1, hPQ _ (h3 hl).2⟩, fun i hi => (World.cell?_of_block (w := w) (a := ⟨b, o + i, none⟩) (hw b (h3 (by omega)).2)).trans (h4 i hi)⟩
theorem opsS_mono {w w' : World} {P Q : Nat → Prop} (hPQ : ∀ b, P b → Q b) (hw : ∀ b, P b → w'.heap[b]? = w.heap[b]?) {l : List Op1} {v : Value} (h : OpsS w P l v) : OpsS w' Q l v := by
  obtain ⟨oa, cap, b, o, rfl, h1, h2, h3, h4⟩ := h
  refine ⟨oa, cap, b, o, rfl, h1, h2, fun hl => ⟨(h3 hl).1, hPQ _ (h3 hl).2⟩, fun i hi => ?_⟩
  obtain ⟨s, c0, c1, c2, c3⟩ := h4 i hi
  have hb := hw b (h3 (by omega)).2
  exact ⟨s, (World.cell?_of_block (w := w) (a := ⟨b, o + i * 3, none⟩) hb).trans c0, (World.cell?_of_block (w := w) (a := ⟨b, o + i * 3 + 1, none⟩) hb).trans c1, (World.cell?_of_block (w := w) (a := ⟨b, o + i * 3 + 2, none⟩) hb).trans c2, intS_mono hPQ hw c3⟩
theorem sgV_mono {w w' : World} {P Q : Nat → Prop} (hPQ : ∀ b, P b → Q b) (hw : ∀ b, P b → w'.heap[b]? = w.heap[b]?) {S : Sg} {v : Value} (h : SgV w P S v) : SgV w' Q S v := by
  obtain ⟨a, b, rfl, h1, h2, h3⟩ := h
  exact ⟨a, b, rfl, strS_mono hPQ hw h1, opsS_mono hPQ hw h2, h3⟩
theorem sgV_up {w w' : World} (h : Below w.heap.size w w') {S : Sg} {v : Value} (hv : SgV w (· < w.heap.size) S v) : SgV w' (· < w'.heap.size) S v :=
  sgV_mono (fun b (hb : b < w.heap.size) => Nat.lt_of_lt_of_le hb h.size) (fun b hb => h.block b hb) hv
theorem intS_up {w w' : World} (h : Below w.heap.size w w') {l : List Int} {v : Value} (hv : IntS w (· < w.heap.size) l v) : IntS w' (· < w'.heap.size) l v :=
  intS_mono (fun b (hb : b < w.heap.size) => Nat.lt_of_lt_of_le hb h.size) (fun b hb => h.block b hb) hv

/-- What isSort is handed: the sorts' slice, whatever the operations are. -/
theorem isSort_any (n : Int) (k c : Nat) (a : Option Addr) (x : Value) (w : World) :
    Calls Try.prog 104 #[.agg #[.slice a k c, x], .int .i64 n] w fun e w' => e = .returned (.bool (sortOk k n)) ∧ Below w.heap.size w w' := by
  have hb : Below w.heap.size w (w.alloc (.cells #[.slice a k c, x] 56)) := bA (bZ w) _
  have HB := Lib.hid hb
  clear hb
  by_cases h0 : 0 ≤ n
  · by_cases h1 : n < k
    · have hr : sortOk k n = true := by simp [sortOk, h0, h1]
      rw [hr]
      clear hr
      go_enter Try.func104, Try.ntmps104
      go_wp2_with fail
      go_ret
      exact ⟨rfl, HB.out⟩
    · have hr : sortOk k n = false := by simp [sortOk, h1]
      rw [hr]
      clear hr
      go_enter Try.func104, Try.ntmps104
      go_wp2_with fail
      go_ret
      exact ⟨rfl, HB.out⟩
  · have hr : sortOk k n = false := by simp [sortOk, h0]
    rw [hr]
    clear hr
    go_enter Try.func104, Try.ntmps104
    go_wp2_with fail
    go_ret
    exact ⟨rfl, HB.out⟩
theorem sorts_drop {m : Nat} {l : List Int} {k : Nat} (h : k < l.length) : sortsOk m (l.drop k) = (sortOk m l[k] && sortsOk m (l.drop (k + 1))) := by
  unfold sortsOk; rw [List.drop_eq_getElem_cons h]; rfl
set_option maxRecDepth 100000 in
theorem haveSorts_any (l : List Int) (k c : Nat) (a : Option Addr) (x s : Value) (w : World) (hs : IntS w (· < w.heap.size) l s) :
    Calls Try.prog 77 #[.agg #[.slice a k c, x], s] w fun e w' => e = .returned (.bool (sortsOk k l)) ∧ Below w.heap.size w w' := by
  obtain ⟨oa, cap, b, o, rfl, hlc, hcm, hoa, hel⟩ := hs
  have hb : Below w.heap.size w (w.alloc (.cells #[.slice a k c, x] 56)) := bA (bZ w) _
  have hnew := heap_alloc_new w (.cells #[.slice a k c, x] 56)
  have H := Lib.hid (And.intro hoa (And.intro hel (And.intro hb hnew)))
  clear hoa hel hb hnew
  obtain ⟨R, hR⟩ : ∃ R : Bool, R = sortsOk k l := ⟨_, rfl⟩
  rw [← hR]
  have HR0 := Lib.hid hR
  clear hR
  obtain ⟨n, hn⟩ : ∃ n, n = l.length := ⟨_, rfl⟩
  rw [← hn] at hlc ⊢
  have HN := Lib.hid hn
  clear hn
  go_enter Try.func77, Try.ntmps77
  go_wp2_with fail
  go_loopw [9] (fun i wr => ∃ j : Nat, j ≤ n ∧ i = .int .i64 j ∧ Hid (R = sortsOk k (l.drop j) ∧ Below w.heap.size w wr ∧ wr.heap[w.heap.size]? = some (.cells #[.slice a k c, x] 56))) (fun i _ => n - (intOf i).toNat)
  case atStart => exact ⟨0, by omega, rfl, HR0.out, H.out.2.2.1, H.out.2.2.2⟩
  case round =>
    obtain ⟨j, hj, rfl, HI⟩ := hrel
    by_cases hlt : j < n
    · have hl1 : j < l.length := by have := HN.out; omega
      obtain ⟨rfl, hb1⟩ := H.out.1 (by omega)
      have d0 := (World.cell?_of_block (w := w) (a := ⟨b, o + j, none⟩) (HI.out.2.1.block b hb1)).trans (H.out.2.1 j hl1)
      have c0 := (cells_of HI.out.2.2 0).1
      have c1 := (cells_of HI.out.2.2 1).1
      simp only [List.getElem?_toArray, List.getElem?_cons_zero, List.getElem?_cons_succ] at c0 c1
      have i0 : (0 : Int) ≤ (j : Int) := Int.natCast_nonneg _
      have i1 : (j : Int) < (n : Int) := by omega
      have hd := sorts_drop (m := k) hl1
      generalize l[j] = y at *
      have HD := Lib.hid hd
      have hcall := isSort_any y k c a x wr
      have HC := Lib.hid hcall
      clear hd hcall
      go_wp2_with fail
      refine HC.out.mono ?_
      rintro e w2 ⟨rfl, hb2⟩
      have hb3 := below_le HI.out.2.1 hb2 HI.out.2.1.size
      have hn2 := (hb2.block _ (block_lt HI.out.2.2)).trans HI.out.2.2
      have H2 := Lib.hid (And.intro hb3 hn2)
      clear hb3 hn2 hb2 c0 c1 d0
      cases hs : sortOk k y with
      | true =>
        have hres : R = sortsOk k (l.drop (j + 1)) := by rw [HI.out.1, HD.out, hs]; rfl
        have HR := Lib.hid hres
        clear hres
        go_wp2_with fail
        go_roundw
        case rel => exact ⟨j + 1, by omega, by go_num, HR.out, H2.out.1, H2.out.2⟩
        case measure => simp [intOf]; omega
      | false =>
        have hres : R = false := by rw [HI.out.1, HD.out, hs]; rfl
        have HR := Lib.hid hres
        clear hres
        go_wp2_with fail
        go_ret
        rw [HR.out]
        exact ⟨rfl, H2.out.1⟩
    · have hres : R = true := by rw [HI.out.1, List.drop_eq_nil_of_le (by have := HN.out; omega)]; rfl
      have HR := Lib.hid hres
      clear hres
      go_wp2_with fail
      go_ret
      rw [HR.out]
      exact ⟨rfl, HI.out.2.1⟩
end Go.Proofs.Ytapdfdjknehhgaa

/- The names of sorts. -/
namespace Go.Proofs.Ytapdfdjknehhgaa
open Go.RowKit Go.Tr Go.Maps

def setS (l : List ByteArray) : List (Value × Value) := l.map fun s => (.string s, .bool true)
theorem setS_key {l : List ByteArray} (h : ∀ s ∈ l, s.size ≤ 9223372036854775807) : ∀ e ∈ setS l, ∃ k, keyOf Try.prog 9 e.1 = some k := by
  intro e he
  obtain ⟨s, hs, rfl⟩ := List.mem_map.1 he
  exact ⟨_, keyOfS s (h s hs)⟩
theorem soGo_cons (s : List ByteArray) (x : ByteArray) (r : List ByteArray) : soGo s (x :: r) = (!memB x s && isNm x && decide (marks x = 0) && soGo (s ++ [x]) r) := rfl
set_option maxRecDepth 100000 in
theorem areSorts_any (l : List ByteArray) (s : Value) (w : World) (hs : StrS w (· < w.heap.size) l s) (hsz : ∀ x ∈ l, x.size ≤ 9223372036854775807) :
    Calls Try.prog 88 #[s] w fun e w' => e = .returned (.bool (soGo [] l)) ∧ Below w.heap.size w w' := by
  obtain ⟨oa, cap, b, o, rfl, hlc, hcm, hoa, hel⟩ := hs
  have H := Lib.hid (And.intro hoa (And.intro hel hsz))
  clear hoa hel hsz
  obtain ⟨R, hR⟩ : ∃ R : Bool, R = soGo [] l := ⟨_, rfl⟩
  rw [← hR]
  have HR0 := Lib.hid hR
  clear hR
  obtain ⟨n, hn⟩ : ∃ n, n = l.length := ⟨_, rfl⟩
  rw [← hn] at hlc ⊢
  have HN := Lib.hid hn
  clear hn
  have hM : GMap (w.alloc (.map #[] 0)) w.heap.size [] := ⟨#[], 0, heap_alloc_new w _, rfl, by simp, by simp⟩
  have hb : Below w.heap.size w (w.alloc (.map #[] 0)) := bA (bZ w) _
  have HM := Lib.hid (And.intro hM hb)
  clear hM hb
  have hmm := make_hint Try.underlying121
  go_enter Try.func88, Try.ntmps88
  go_wp2_with fail
  clear hmm
  go_loopw [11] (fun i wr => ∃ j : Nat, j ≤ n ∧ i = .int .i64 j ∧ Hid (R = soGo (l.take j) (l.drop j) ∧ Below w.heap.size w wr ∧ GMap wr w.heap.size (setS (l.take j)))) (fun i _ => n - (intOf i).toNat)
  case atStart => exact ⟨0, by omega, rfl, HR0.out, HM.out.2, HM.out.1⟩
  case round =>
    obtain ⟨j, hj, rfl, HI⟩ := hrel
    by_cases hlt : j < n
    · have hl1 : j < l.length := by have := HN.out; omega
      obtain ⟨rfl, hb1⟩ := H.out.1 (by omega)
      have d0 := (World.cell?_of_block (w := w) (a := ⟨b, o + j, none⟩) (HI.out.2.1.block b hb1)).trans (H.out.2.1 j hl1)
      have i0 : (0 : Int) ≤ (j : Int) := Int.natCast_nonneg _
      have i1 : (j : Int) < (n : Int) := by omega
      have hkeys := setS_key (l := l.take j) (fun s hs => H.out.2.2 s (List.mem_of_mem_take hs))
      have hxk := keyOfS l[j] (H.out.2.2 _ (List.getElem_mem hl1))
      have hdr : R = soGo (l.take j) (l[j] :: l.drop (j + 1)) := by rw [HI.out.1, List.drop_eq_getElem_cons hl1]
      have htk : l.take (j + 1) = l.take j ++ [l[j]] := List.take_succ_eq_append_getElem hl1
      rw [soGo_cons] at hdr
      have hstep := HI.out.2.2
      generalize l[j] = x at *
      obtain ⟨V, hV⟩ : ∃ V, V = l.take j := ⟨_, rfl⟩
      rw [← hV] at hkeys hdr htk hstep
      have HD := Lib.hid (And.intro hdr (And.intro htk (And.intro hkeys hxk)))
      clear hV
      by_cases hc : x ∈ V
      · have hlk := look_hit keyedS Try.underlying121 hstep hkeys hxk ⟨(.string x, .bool true), List.mem_map.2 ⟨x, hc, rfl⟩, rfl⟩ (v := .bool true) (fun e he _ => by obtain ⟨y, -, rfl⟩ := List.mem_map.1 he; rfl) false
        simp only [Bool.false_eq_true, if_false] at hlk
        have hres : R = false := by rw [hdr, (memB_iff _ _).2 hc]; rfl
        have HR := Lib.hid hres
        clear hres hdr htk hkeys hxk hstep hc
        go_wp2_with fail
        go_ret
        rw [HR.out]
        exact ⟨rfl, HI.out.2.1⟩
      · have hne : ∀ e ∈ setS V, e.1 ≠ .string x := by
          intro e he h
          obtain ⟨y, hy, rfl⟩ := List.mem_map.1 he
          have hyx : y = x := by simpa using h
          subst hyx
          exact hc hy
        have hlk := look_miss keyedS Try.underlying121 zeroBool hstep hkeys hxk hne false
        simp only [Bool.false_eq_true, if_false] at hlk
        rw [memB_false hc] at hdr
        have HC := Lib.hid (And.intro hdr (And.intro hne hstep))
        clear hdr htk hkeys hxk hstep hc hne
        go_wp2_with fail
        refine (isName_any _ _).mono ?_
        rintro e w2 ⟨rfl, hb2⟩
        have hb3 := below_le HI.out.2.1 hb2 HI.out.2.1.size
        have hM2 : GMap w2 w.heap.size (setS V) := HC.out.2.2.of_block (hb2.block _ HC.out.2.2.lt)
        have H2 := Lib.hid (And.intro hb3 hM2)
        clear hb3 hM2 hb2 d0 hlk
        cases hnm : isNm x with
        | false =>
          have hres : R = false := by rw [HC.out.1, hnm]; rfl
          have HR := Lib.hid hres
          clear hres hnm
          go_wp2_with fail
          go_ret
          rw [HR.out]
          exact ⟨rfl, H2.out.1⟩
        | true =>
          have HNM := Lib.hid hnm
          clear hnm
          go_wp2_with fail
          refine (contains_any _ _).mono ?_
          rintro e w3 ⟨rfl, rfl⟩
          by_cases hmk : 0 < marks x
          · have hres : R = false := by rw [HC.out.1, HNM.out, decide_eq_false (by omega : ¬ marks x = 0)]; rfl
            have HR := Lib.hid hres
            clear hres
            go_wp2_with fail
            go_ret
            rw [HR.out]
            exact ⟨rfl, H2.out.1⟩
          · have hres : R = soGo (V ++ [x]) (l.drop (j + 1)) := by rw [HC.out.1, HNM.out, decide_eq_true (by omega : marks x = 0)]; rfl
            obtain ⟨w4, hrun, hm4, hg4⟩ := put_miss keyedS Try.underlying121 H2.out.2 HD.out.2.2.1 HD.out.2.2.2 HC.out.2.1 (.bool true)
            have hb4 : Below w.heap.size w w4 := H2.out.1.grown hg4 H2.out.1.size (fun j hj => by cases hj; exact Nat.le_refl _)
            have HR := Lib.hid (And.intro hres (And.intro hm4 hb4))
            clear hres hm4 hb4 hg4
            go_wp2_with fail
            go_roundw
            case rel => exact ⟨j + 1, by omega, by go_num, by rw [HD.out.2.1]; exact HR.out.1, HR.out.2.2, by rw [HD.out.2.1]; unfold setS at *; rw [List.map_append]; exact HR.out.2.1⟩
            case measure => simp [intOf]; omega
    · have hres : R = true := by rw [HI.out.1, List.drop_eq_nil_of_le (by have := HN.out; omega)]; rfl
      have HR := Lib.hid hres
      clear hres
      go_wp2_with fail
      go_ret
      rw [HR.out]
      exact ⟨rfl, HI.out.2.1⟩
end Go.Proofs.Ytapdfdjknehhgaa

/- What is an operation. -/
namespace Go.Proofs.Ytapdfdjknehhgaa
open Go.RowKit Go.Tr Go.Maps

set_option maxRecDepth 100000 in
theorem isOp_any (O : Op1) (k c : Nat) (a : Option Addr) (x s : Value) (w : World) (hs : IntS w (· < w.heap.size) O.ar s) :
    Calls Try.prog 109 #[.agg #[.slice a k c, x], .agg #[.string O.nm, s, .int .i64 O.rs]] w fun e w' => e = .returned (.bool (opOk k O)) ∧ Below w.heap.size w w' := by
  obtain ⟨o1, ho1⟩ : ∃ o : Obj, o = .cells #[.slice a k c, x] 56 := ⟨_, rfl⟩
  obtain ⟨o2, ho2⟩ : ∃ o : Obj, o = .cells #[.string O.nm, s, .int .i64 O.rs] 107 := ⟨_, rfl⟩
  have hb : Below w.heap.size w ((w.alloc o1).alloc o2) := bA (bA (bZ w) _) _
  have hq1 : ((w.alloc o1).alloc o2).heap[w.heap.size]? = some o1 := by (simp only [heap_alloc, alloc_size]; repeat (first | rw [if_pos trivial] | rw [if_pos (by omega)] | rw [if_neg (by omega)]))
  have hq2 : ((w.alloc o1).alloc o2).heap[w.heap.size + 1]? = some o2 := by (simp only [heap_alloc, alloc_size]; repeat (first | rw [if_pos trivial] | rw [if_pos (by omega)] | rw [if_neg (by omega)]))
  obtain ⟨oa, cap, b, o, rfl, hlc, hcm, hoa, hel⟩ := hs
  have hs : IntS w (· < w.heap.size) O.ar (.slice oa O.ar.length cap) := ⟨oa, cap, b, o, rfl, hlc, hcm, hoa, hel⟩
  have HH := Lib.hid (And.intro hb (And.intro hq1 (And.intro hq2 (And.intro ho1 (And.intro ho2 hs)))))
  clear hb hq1 hq2 hoa hel hs
  have hnm := fun W => isName_any O.nm W
  have HN := Lib.hid hnm
  clear hnm
  obtain ⟨R, hR⟩ : ∃ R : Bool, R = opOk k O := ⟨_, rfl⟩
  have HR := Lib.hid hR
  rw [← hR]
  clear hR
  subst ho1 ho2
  obtain ⟨nm, ar, rs⟩ := O
  simp only at *
  obtain ⟨m, hm⟩ : ∃ m, m = ar.length := ⟨_, rfl⟩
  rw [← hm] at hlc HH ⊢
  have HM := Lib.hid hm
  clear hm
  go_enter Try.func109, Try.ntmps109
  go_wp2_with fail
  refine (HN.out _).mono ?_
  rintro e w2 ⟨rfl, hb2⟩
  have r1 := (hb2.block _ (block_lt HH.out.2.1)).trans HH.out.2.1
  have r2 := (hb2.block _ (block_lt HH.out.2.2.1)).trans HH.out.2.2.1
  have hbw := below_next HH.out.1 hb2
  have H2 := Lib.hid (And.intro hbw (And.intro r1 r2))
  have a0 := (cells_of r1 0).1
  have a1 := (cells_of r1 1).1
  have b0 := (cells_of r2 0).1
  have b1 := (cells_of r2 1).1
  have b2 := (cells_of r2 2).1
  simp only [List.getElem?_toArray, List.getElem?_cons_zero, List.getElem?_cons_succ] at a0 a1 b0 b1 b2
  clear r1 r2 hbw hb2
  cases e1 : isNm nm with
  | false =>
    have hres : R = false := by rw [HR.out]; simp [opOk, e1]
    subst hres
    go_wp2_with fail
    go_ret
    exact ⟨rfl, H2.out.1⟩
  | true =>
    by_cases e2 : (8 : Int) < (m : Int)
    · have hres : R = false := by
        rw [HR.out]
        have : ¬ ar.length ≤ 8 := by have := HM.out; omega
        simp [opOk, this]
      subst hres
      clear e1
      go_wp2_with fail
      go_ret
      exact ⟨rfl, H2.out.1⟩
    · have E1 := Lib.hid (And.intro e1 e2)
      have hcall := haveSorts_any ar k c a x (.slice oa ar.length cap) w2 (intS_up H2.out.1 (by have h := HH.out.2.2.2.2.2; rw [HM.out] at h; exact h))
      rw [← HM.out] at hcall
      have HC := Lib.hid hcall
      clear e1 hcall
      go_wp2_with fail
      refine HC.out.mono ?_
      rintro e w3 ⟨rfl, hb3⟩
      have r1 := (hb3.block _ (block_lt H2.out.2.1)).trans H2.out.2.1
      have r2 := (hb3.block _ (block_lt H2.out.2.2)).trans H2.out.2.2
      have hbw := below_next H2.out.1 hb3
      have H3 := Lib.hid (And.intro hbw (And.intro r1 r2))
      clear a0 a1 b0 b1 b2
      have a0 := (cells_of r1 0).1
      have a1 := (cells_of r1 1).1
      have b0 := (cells_of r2 0).1
      have b1 := (cells_of r2 1).1
      have b2 := (cells_of r2 2).1
      simp only [List.getElem?_toArray, List.getElem?_cons_zero, List.getElem?_cons_succ] at a0 a1 b0 b1 b2
      clear r1 r2 hbw hb3
      cases e3 : sortsOk k ar with
      | false =>
        have hres : R = false := by rw [HR.out]; simp [opOk, e3]
        subst hres
        clear e3
        go_wp2_with fail
        go_ret
        exact ⟨rfl, H3.out.1⟩
      | true =>
        have E3 := Lib.hid e3
        have hcall := isSort_any rs k c a x w3
        have HC2 := Lib.hid hcall
        clear e3 hcall
        go_wp2_with fail
        refine HC2.out.mono ?_
        rintro e w4 ⟨rfl, hb4⟩
        have r1 := (hb4.block _ (block_lt H3.out.2.1)).trans H3.out.2.1
        have r2 := (hb4.block _ (block_lt H3.out.2.2)).trans H3.out.2.2
        have hbw := below_next H3.out.1 hb4
        have H4 := Lib.hid (And.intro hbw (And.intro r1 r2))
        clear a0 a1 b0 b1 b2
        have a0 := (cells_of r1 0).1
        have a1 := (cells_of r1 1).1
        have b0 := (cells_of r2 0).1
        have b1 := (cells_of r2 1).1
        have b2 := (cells_of r2 2).1
        simp only [List.getElem?_toArray, List.getElem?_cons_zero, List.getElem?_cons_succ] at a0 a1 b0 b1 b2
        clear r1 r2 hbw hb4
        cases e4 : sortOk k rs with
        | false =>
          have hres : R = false := by rw [HR.out]; simp [opOk, e4]
          subst hres
          clear e4
          go_wp2_with fail
          go_ret
          exact ⟨rfl, H4.out.1⟩
        | true =>
          have hres : R = (decide (marks nm = 0) || (decide (marks nm = m) && decide (marks nm < nm.size))) := by
            rw [HR.out]
            have : ar.length ≤ 8 := by have := HM.out; have := E1.out.2; omega
            simp [opOk, E1.out.1, E3.out, e4, this, HM.out]
          have HRR := Lib.hid hres
          clear hres e4 HR
          go_wp2_with fail
          refine (sCount_any _ _).mono ?_
          rintro e w5 ⟨rfl, rfl⟩
          obtain ⟨q, hq⟩ : ∃ q, q = marks nm := ⟨_, rfl⟩
          rw [← hq] at HRR ⊢
          have HQ := Lib.hid hq
          clear hq
          by_cases z1 : q = 0
          · have hres : R = true := by rw [HRR.out]; simp [z1]
            have HR5 := Lib.hid hres
            subst z1
            clear hres
            go_wp2_with fail
            go_ret
            rw [HR5.out]
            exact ⟨rfl, H4.out.1⟩
          · have y1 : ((q : Int) == 0) = false := by rw [beq_eq_false_iff_ne]; omega
            by_cases z2 : q = m
            · have y2 : ((q : Int) == (m : Int)) = true := by simp [z2]
              by_cases z3 : (q : Int) < (nm.size : Int)
              · have hres : R = true := by rw [HRR.out]; simp [z2]; right; omega
                have HR5 := Lib.hid hres
                clear hres z2 z1
                go_wp2_with fail
                go_ret
                rw [HR5.out]
                exact ⟨rfl, H4.out.1⟩
              · have hres : R = false := by rw [HRR.out]; simp [z1]; intro _; omega
                have HR5 := Lib.hid hres
                clear hres z2 z1
                go_wp2_with fail
                go_ret
                rw [HR5.out]
                exact ⟨ret_bool (decide_eq_false (by omega)), H4.out.1⟩
            · have y2 : ((q : Int) == (m : Int)) = false := by rw [beq_eq_false_iff_ne]; omega
              have hres : R = false := by rw [HRR.out]; simp [z1, z2]
              have HR5 := Lib.hid hres
              clear hres z2 z1
              go_wp2_with fail
              go_ret
              rw [HR5.out]
              exact ⟨rfl, H4.out.1⟩
end Go.Proofs.Ytapdfdjknehhgaa

/- Operations as keys. -/
namespace Go.Proofs.Ytapdfdjknehhgaa
open Go.RowKit Go.Tr Go.Maps

def pad (l : List Int) : List Int := (l ++ List.replicate 8 0).take 8
theorem pad_len (l : List Int) : (pad l).length = 8 := by unfold pad; simp
def pf (o : Op1) : List Value := .string o.nm :: ((pad o.ar).map (Value.int .i64) ++ [.int .i64 o.ar.length, .int .i64 o.rs])
theorem pf_len (o : Op1) : (pf o).length = 11 := by unfold pf; simp [pad_len]
theorem pf_inj {a b : Op1} (ha : a.ar.length ≤ 8) (hb : b.ar.length ≤ 8) (h : pf a = pf b) : a = b := by
  obtain ⟨na, la, ra⟩ := a
  obtain ⟨nb, lb, rb⟩ := b
  simp only [pf, List.cons.injEq, Value.string.injEq] at h ha hb
  obtain ⟨rfl, h⟩ := h
  obtain ⟨h1, h2⟩ := List.append_inj h (by simp [pad_len])
  simp only [List.cons.injEq, Value.int.injEq, true_and, and_true] at h2
  obtain ⟨hl, rfl⟩ := h2
  have hl' : la.length = lb.length := by omega
  have h3 : pad la = pad lb := by
    exact (List.map_inj_right (fun x y e => by simpa using e)).1 h1
  have h4 : la = lb := by
    unfold pad at h3
    have e1 := congrArg (List.take la.length) h3
    rw [List.take_take, List.take_take, Nat.min_eq_left ha, List.take_left' rfl, hl', List.take_left' rfl] at e1
    exact e1
  rw [h4]
theorem splice_pf (o : Op1) (h : o.ar.length ≤ 8) : splice [.string o.nm, .int .i64 0, .int .i64 0, .int .i64 0, .int .i64 0, .int .i64 0, .int .i64 0, .int .i64 0, .int .i64 0, .int .i64 o.ar.length, .int .i64 o.rs] 1 (o.ar.map (Value.int .i64)) = pf o := by
  obtain ⟨nm, l, r⟩ := o
  simp only at h ⊢
  match l, h with
  | [], _ => rfl
  | [_], _ => rfl
  | [_, _], _ => rfl
  | [_, _, _], _ => rfl
  | [_, _, _, _], _ => rfl
  | [_, _, _, _, _], _ => rfl
  | [_, _, _, _, _, _], _ => rfl
  | [_, _, _, _, _, _, _], _ => rfl
  | [_, _, _, _, _, _, _, _], _ => rfl
theorem lits_int (d : Nat) (n : Int) (h : inI n) : Try.prog.keyLits (d + 1) 3 [.int .i64 n] = some [.int .i64 n] := by
  unfold Program.keyLits
  rw [Try.underlying3]
  have hw : (Lit.int .i64 n).wf = true := WalkArith.wf_i64 (by unfold inI at h; omega)
  simp [hw]
theorem lits_string (d : Nat) (s : ByteArray) (h : s.size ≤ 9223372036854775807) : Try.prog.keyLits (d + 1) 9 [.string s] = some [.string s.data.toList] := by
  unfold Program.keyLits
  rw [Try.underlying9]
  simp [show s.size ≤ maxLen from h]
set_option maxRecDepth 100000 in
theorem lits_arr (d : Nat) (l : List Int) (hl : l.length = 8) (h : ∀ n ∈ l, inI n) : ∃ r, Try.prog.keyLits (d + 2) 126 (l.map (Value.int .i64)) = some r := by
  have c1 : Try.prog.cellsOf 3 = 1 := by kernel_rfl
  have c8 : Try.prog.cellsOf 126 = 8 := by kernel_rfl
  match l, hl with
  | [n0, n1, n2, n3, n4, n5, n6, n7], _ =>
    have e := fun n hn => lits_int d n (h n hn)
    have e0 := e n0 (by simp)
    have e1 := e n1 (by simp)
    have e2 := e n2 (by simp)
    have e3 := e n3 (by simp)
    have e4 := e n4 (by simp)
    have e5 := e n5 (by simp)
    have e6 := e n6 (by simp)
    have e7 := e n7 (by simp)
    unfold Program.keyLits
    rw [Try.underlying126]
    simp only [c1, c8]
    refine ⟨[.int .i64 n0, .int .i64 n1, .int .i64 n2, .int .i64 n3, .int .i64 n4, .int .i64 n5, .int .i64 n6, .int .i64 n7], ?_⟩
    rw [if_pos (by rfl)]
    simp only [List.range_succ, List.range_zero, List.nil_append, List.cons_append, List.mapM_cons, List.mapM_nil, List.map_cons, List.map_nil, Nat.mul_one, List.drop_zero, List.drop_succ_cons, List.take_succ_cons, List.take_zero, e0, e1, e2, e3, e4, e5, e6, e7, Option.bind_eq_bind, Option.bind_some, Option.pure_def, Option.map_some]
    rfl
set_option maxRecDepth 100000 in
theorem key_pf (o : Op1) (hn : o.nm.size ≤ 9223372036854775807) (hr : inI o.rs) (ha : ∀ n ∈ o.ar, inI n) (hl : o.ar.length ≤ 8) : ∃ l, keyOf Try.prog 128 (.agg (pf o).toArray) = some l := by
  have hp : ∀ n ∈ pad o.ar, inI n := by
    intro n hm
    unfold pad at hm
    have := List.mem_of_mem_take hm
    rcases List.mem_append.1 this with h | h
    · exact ha n h
    · rw [List.eq_of_mem_replicate h]; unfold inI; omega
  have hpl := pad_len o.ar
  obtain ⟨m, hm⟩ : ∃ m, Try.prog.types.size + 1 = m + 3 := ⟨Try.prog.types.size - 2, by kernel_rfl⟩
  obtain ⟨r, hra⟩ := lits_arr m _ hpl hp
  have hs := lits_string (m + 1) o.nm hn
  have h1 := lits_int (m + 1) o.ar.length (by unfold inI; omega)
  have h2 := lits_int (m + 1) o.rs hr
  have kt : Try.prog.keyType 128 = true := by kernel_rfl
  have c1 : Try.prog.cellsOf 3 = 1 := by kernel_rfl
  have c9 : Try.prog.cellsOf 9 = 1 := by kernel_rfl
  have c8 : Try.prog.cellsOf 126 = 8 := by kernel_rfl
  have c11 : Try.prog.cellsOf 128 = 11 := by kernel_rfl
  unfold pf
  generalize (o.ar.length : Int) = q at *
  generalize pad o.ar = l at *
  generalize o.nm = nm at *
  generalize o.rs = rs at *
  match l, hpl with
  | [n0, n1, n2, n3, n4, n5, n6, n7], _ =>
  unfold keyOf
  rw [Try.underlying128, hm]
  simp only [kt, Value.formed, Try.underlying128, c11, Bool.true_and]
  rw [if_pos (by rfl)]
  unfold Program.keyLits
  rw [Try.underlying128]
  simp only [List.map_cons, List.map_nil] at hra
  simp only [Value.cells, c11, List.map_cons, List.map_nil, List.cons_append, List.nil_append, List.mapM_cons, List.mapM_nil]
  rw [if_pos ⟨rfl, by kernel_rfl⟩]
  simp only [c1, c9, c8, List.drop_zero, List.drop_succ_cons, List.take_succ_cons, List.take_zero, hs, h1, h2, hra, Option.bind_eq_bind, Option.bind_some, Option.pure_def, Option.map_some]
  exact ⟨_, rfl⟩
theorem keyedP : Keyed Try.prog 128 := Keyed.of_law (deep_law_gate (by kernel_rfl) (of_decide_eq_true (by kernel_rfl)) (of_decide_eq_true (by kernel_rfl)) (by kernel_rfl) (by kernel_rfl))
end Go.Proofs.Ytapdfdjknehhgaa
