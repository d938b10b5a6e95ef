/- A new scanner. -/
import Derived.Test.YtcjdacdggklifaaGreatDoorMaps
namespace Go.Proofs.YtcjdacdggklifaaGreatDoor
open Go.RowKit Go.Maps

theorem ins0 (w0 : World) (b : Nat) (hb : b = w0.heap.size) : (Instr.mapUpdate 77 (.map (some b)) (.int .i64 0) (.func (.func 55) #[] #[])).run Tryz.prog (w0.alloc (.map #[] 0)) = .ok () (w0.alloc (.map #[⟨.int .i64 0, .func (.func 55) #[] #[], 0⟩] 1)) :=
  ins_steps w0 b hb #[] 0 0 (by omega) (.func (.func 55) #[] #[]) rfl
theorem ins1 (w0 : World) (b : Nat) (hb : b = w0.heap.size) : (Instr.mapUpdate 77 (.map (some b)) (.int .i64 1) (.func (.func 56) #[] #[])).run Tryz.prog (w0.alloc (.map #[⟨.int .i64 0, .func (.func 55) #[] #[], 0⟩] 1)) = .ok () (w0.alloc (.map #[⟨.int .i64 0, .func (.func 55) #[] #[], 0⟩, ⟨.int .i64 1, .func (.func 56) #[] #[], 1⟩] 2)) :=
  ins_steps w0 b hb #[⟨.int .i64 0, .func (.func 55) #[] #[], 0⟩] 1 1 (by omega) (.func (.func 56) #[] #[]) rfl
theorem ins2 (w0 : World) (b : Nat) (hb : b = w0.heap.size) : (Instr.mapUpdate 77 (.map (some b)) (.int .i64 2) (.func (.func 57) #[] #[])).run Tryz.prog (w0.alloc (.map #[⟨.int .i64 0, .func (.func 55) #[] #[], 0⟩, ⟨.int .i64 1, .func (.func 56) #[] #[], 1⟩] 2)) = .ok () (w0.alloc (.map #[⟨.int .i64 0, .func (.func 55) #[] #[], 0⟩, ⟨.int .i64 1, .func (.func 56) #[] #[], 1⟩, ⟨.int .i64 2, .func (.func 57) #[] #[], 2⟩] 3)) :=
  ins_steps w0 b hb #[⟨.int .i64 0, .func (.func 55) #[] #[], 0⟩, ⟨.int .i64 1, .func (.func 56) #[] #[], 1⟩] 2 2 (by omega) (.func (.func 57) #[] #[]) rfl
theorem ins3 (w0 : World) (b : Nat) (hb : b = w0.heap.size) : (Instr.mapUpdate 77 (.map (some b)) (.int .i64 3) (.func (.func 58) #[] #[])).run Tryz.prog (w0.alloc (.map #[⟨.int .i64 0, .func (.func 55) #[] #[], 0⟩, ⟨.int .i64 1, .func (.func 56) #[] #[], 1⟩, ⟨.int .i64 2, .func (.func 57) #[] #[], 2⟩] 3)) = .ok () (w0.alloc (.map #[⟨.int .i64 0, .func (.func 55) #[] #[], 0⟩, ⟨.int .i64 1, .func (.func 56) #[] #[], 1⟩, ⟨.int .i64 2, .func (.func 57) #[] #[], 2⟩, ⟨.int .i64 3, .func (.func 58) #[] #[], 3⟩] 4)) :=
  ins_steps w0 b hb #[⟨.int .i64 0, .func (.func 55) #[] #[], 0⟩, ⟨.int .i64 1, .func (.func 56) #[] #[], 1⟩, ⟨.int .i64 2, .func (.func 57) #[] #[], 2⟩] 3 3 (by omega) (.func (.func 58) #[] #[]) rfl
theorem ins4 (w0 : World) (b : Nat) (hb : b = w0.heap.size) : (Instr.mapUpdate 77 (.map (some b)) (.int .i64 4) (.func (.func 59) #[] #[])).run Tryz.prog (w0.alloc (.map #[⟨.int .i64 0, .func (.func 55) #[] #[], 0⟩, ⟨.int .i64 1, .func (.func 56) #[] #[], 1⟩, ⟨.int .i64 2, .func (.func 57) #[] #[], 2⟩, ⟨.int .i64 3, .func (.func 58) #[] #[], 3⟩] 4)) = .ok () (w0.alloc (.map #[⟨.int .i64 0, .func (.func 55) #[] #[], 0⟩, ⟨.int .i64 1, .func (.func 56) #[] #[], 1⟩, ⟨.int .i64 2, .func (.func 57) #[] #[], 2⟩, ⟨.int .i64 3, .func (.func 58) #[] #[], 3⟩, ⟨.int .i64 4, .func (.func 59) #[] #[], 4⟩] 5)) :=
  ins_steps w0 b hb #[⟨.int .i64 0, .func (.func 55) #[] #[], 0⟩, ⟨.int .i64 1, .func (.func 56) #[] #[], 1⟩, ⟨.int .i64 2, .func (.func 57) #[] #[], 2⟩, ⟨.int .i64 3, .func (.func 58) #[] #[], 3⟩] 4 4 (by omega) (.func (.func 59) #[] #[]) rfl
theorem ins5 (w0 : World) (b : Nat) (hb : b = w0.heap.size) : (Instr.mapUpdate 77 (.map (some b)) (.int .i64 5) (.func (.func 60) #[] #[])).run Tryz.prog (w0.alloc (.map #[⟨.int .i64 0, .func (.func 55) #[] #[], 0⟩, ⟨.int .i64 1, .func (.func 56) #[] #[], 1⟩, ⟨.int .i64 2, .func (.func 57) #[] #[], 2⟩, ⟨.int .i64 3, .func (.func 58) #[] #[], 3⟩, ⟨.int .i64 4, .func (.func 59) #[] #[], 4⟩] 5)) = .ok () (w0.alloc (.map #[⟨.int .i64 0, .func (.func 55) #[] #[], 0⟩, ⟨.int .i64 1, .func (.func 56) #[] #[], 1⟩, ⟨.int .i64 2, .func (.func 57) #[] #[], 2⟩, ⟨.int .i64 3, .func (.func 58) #[] #[], 3⟩, ⟨.int .i64 4, .func (.func 59) #[] #[], 4⟩, ⟨.int .i64 5, .func (.func 60) #[] #[], 5⟩] 6)) :=
  ins_steps w0 b hb #[⟨.int .i64 0, .func (.func 55) #[] #[], 0⟩, ⟨.int .i64 1, .func (.func 56) #[] #[], 1⟩, ⟨.int .i64 2, .func (.func 57) #[] #[], 2⟩, ⟨.int .i64 3, .func (.func 58) #[] #[], 3⟩, ⟨.int .i64 4, .func (.func 59) #[] #[], 4⟩] 5 5 (by omega) (.func (.func 60) #[] #[]) rfl
theorem ins6 (w0 : World) (b : Nat) (hb : b = w0.heap.size) : (Instr.mapUpdate 77 (.map (some b)) (.int .i64 6) (.func (.func 61) #[] #[])).run Tryz.prog (w0.alloc (.map #[⟨.int .i64 0, .func (.func 55) #[] #[], 0⟩, ⟨.int .i64 1, .func (.func 56) #[] #[], 1⟩, ⟨.int .i64 2, .func (.func 57) #[] #[], 2⟩, ⟨.int .i64 3, .func (.func 58) #[] #[], 3⟩, ⟨.int .i64 4, .func (.func 59) #[] #[], 4⟩, ⟨.int .i64 5, .func (.func 60) #[] #[], 5⟩] 6)) = .ok () (w0.alloc (.map #[⟨.int .i64 0, .func (.func 55) #[] #[], 0⟩, ⟨.int .i64 1, .func (.func 56) #[] #[], 1⟩, ⟨.int .i64 2, .func (.func 57) #[] #[], 2⟩, ⟨.int .i64 3, .func (.func 58) #[] #[], 3⟩, ⟨.int .i64 4, .func (.func 59) #[] #[], 4⟩, ⟨.int .i64 5, .func (.func 60) #[] #[], 5⟩, ⟨.int .i64 6, .func (.func 61) #[] #[], 6⟩] 7)) :=
  ins_steps w0 b hb #[⟨.int .i64 0, .func (.func 55) #[] #[], 0⟩, ⟨.int .i64 1, .func (.func 56) #[] #[], 1⟩, ⟨.int .i64 2, .func (.func 57) #[] #[], 2⟩, ⟨.int .i64 3, .func (.func 58) #[] #[], 3⟩, ⟨.int .i64 4, .func (.func 59) #[] #[], 4⟩, ⟨.int .i64 5, .func (.func 60) #[] #[], 5⟩] 6 6 (by omega) (.func (.func 61) #[] #[]) rfl

def fw (k : Nat) : List (ByteArray × Int) := (Lx.words.take k).map fun s => (ofB s, 2)
def fs (k : Nat) : List (ByteArray × Int) := fw 37 ++ (Lx.signs.take k).map fun s => (ofB s, 5)
theorem fw_free : ∀ k, k < 37 → fnd (ofB (Lx.words.getD k [])) (fw k) = none := by decide +kernel
theorem fs_free : ∀ k, k < 24 → fnd (ofB (Lx.signs.getD k [])) (fs k) = none := by decide +kernel
theorem take_snoc {α : Type} (l : List α) (d : α) (k : Nat) (h : k < l.length) : l.take (k + 1) = l.take k ++ [l.getD k d] := by
  rw [List.take_succ_eq_append_getElem h, List.getD_eq_getElem?_getD, List.getElem?_eq_getElem h]; rfl
theorem fw_succ (k : Nat) (h : k < 37) : fw (k + 1) = fw k ++ [(ofB (Lx.words.getD k []), 2)] := by
  unfold fw; rw [take_snoc Lx.words [] k h, List.map_append]; rfl
theorem fs_succ (k : Nat) (h : k < 24) : fs (k + 1) = fs k ++ [(ofB (Lx.signs.getD k []), 5)] := by
  unfold fs; rw [take_snoc Lx.signs [] k h, List.map_append, List.append_assoc]; rfl
theorem strs_cell {w : World} {b : Nat} {l : List Lx.Bs} {t : TypeId} {fr : Nat × Nat} (h : w.heap[b]? = some (.cells (strs l) t fr)) (k : Nat) (hk : k < l.length) :
    w.cell? ⟨b, k, none⟩ = some (.string (ofB (l.getD k []))) := by
  simp [World.cell?, h, strs, hk]
theorem short_lists : (∀ s ∈ Lx.words, s.length ≤ 32) ∧ ∀ s ∈ Lx.signs, s.length ≤ 32 := by decide +kernel
theorem getD_mem {α : Type} (l : List α) (d : α) (k : Nat) (h : k < l.length) : l.getD k d ∈ l := by
  rw [List.getD_eq_getElem?_getD, List.getElem?_eq_getElem h]; exact List.getElem_mem h

theorem grown_trans {a b c : World} {r : Option Nat} (h : a.grownBy b r) (k : b.grownBy c r) : a.grownBy c r :=
  ⟨k.os.trans h.os, k.tape.trans h.tape, k.output.trans h.output, Nat.le_trans h.size k.size, fun i hi hr => (k.block i (Nat.lt_of_lt_of_le hi h.size) hr).trans (h.block i hi hr)⟩
theorem alloc_at (w : World) (o : Obj) (k : Nat) : (w.alloc o).heap[k]? = if k = w.heap.size then some o else w.heap[k]? := by
  show (w.heap.push o)[k]? = _
  rw [Array.getElem?_push]

/-- The cells of a scanner. -/
def scn (text : ByteArray) (at_ : Nat) (tv cv : Value) (sg fm sm : Nat) : Array Value :=
  #[.string text, .int .i64 at_, tv, cv, .slice (some ⟨sg, 0, none⟩) 24 24, .map (some fm), .map (some sm)]

def W5 (text : ByteArray) (w : World) : World :=
  ((((w.alloc (.cells (strs Lx.signs) 9)).alloc (.map #[] 0)).alloc (.map stepsE 7)).alloc (.cells (scn text 0 (.slice none 0 0) (.slice none 0 0) w.heap.size (w.heap.size + 1) (w.heap.size + 1 + 1)) 79)).alloc (.cells (strs Lx.words) 9)
theorem alloc_hit (w : World) (o : Obj) (k : Nat) (h : k = w.heap.size) : (w.alloc o).heap[k]? = some o := by rw [alloc_at, if_pos h]
theorem alloc_miss (w : World) (o : Obj) (k : Nat) (h : k ≠ w.heap.size) : (w.alloc o).heap[k]? = w.heap[k]? := by rw [alloc_at, if_neg h]
theorem W5_facts (text : ByteArray) (w : World) : (W5 text w).heap.size = w.heap.size + 5 ∧ Below w.heap.size w (W5 text w) ∧ (W5 text w).heap[w.heap.size]? = some (.cells (strs Lx.signs) 9) ∧ (W5 text w).heap[w.heap.size + 1]? = some (.map #[] 0) ∧
      (W5 text w).heap[w.heap.size + 2]? = some (.map stepsE 7) ∧ (W5 text w).heap[w.heap.size + 3]? = some (.cells (scn text 0 (.slice none 0 0) (.slice none 0 0) w.heap.size (w.heap.size + 1) (w.heap.size + 2)) 79) ∧
      (W5 text w).heap[w.heap.size + 4]? = some (.cells (strs Lx.words) 9) := by
  unfold W5
  refine ⟨by simp, ?_, ?_, ?_, ?_, ?_, ?_⟩
  · exact ((((((Below.refl _ _).alloc (Nat.le_refl _) _).alloc (by simp) _).alloc (by simp; omega) _).alloc (by simp; omega) _).alloc (by simp; omega) _)
  · rw [alloc_miss _ _ _ (by simp; omega), alloc_miss _ _ _ (by simp; omega), alloc_miss _ _ _ (by simp; omega), alloc_miss _ _ _ (by simp), alloc_hit _ _ _ (by simp)]
  · rw [alloc_miss _ _ _ (by simp), alloc_miss _ _ _ (by simp), alloc_miss _ _ _ (by simp), alloc_hit _ _ _ (by simp)]
  · rw [alloc_miss _ _ _ (by simp), alloc_miss _ _ _ (by simp), alloc_hit _ _ _ (by simp)]
  · rw [alloc_miss _ _ _ (by simp), alloc_hit _ _ _ (by simp)]
  · rw [alloc_hit _ _ _ (by simp)]

/-- What a new scanner is. -/
structure New (text : ByteArray) (w w' : World) : Prop where
  size : w.heap.size + 5 ≤ w'.heap.size
  below : Below w.heap.size w w'
  signs : w'.heap[w.heap.size]? = some (.cells (strs Lx.signs) 9)
  fixed : StrMap w' (w.heap.size + 1) (fs 24)
  steps : w'.heap[w.heap.size + 2]? = some (.map stepsE 7)
  self : w'.heap[w.heap.size + 3]? = some (.cells (scn text 0 (.slice none 0 0) (.slice none 0 0) w.heap.size (w.heap.size + 1) (w.heap.size + 2)) 79)

set_option maxRecDepth 100000 in
set_option maxHeartbeats 1000000 in
theorem new_any (text : ByteArray) (w : World) : Calls Tryz.prog 32 #[.string text] w fun e w' =>
    e = .returned (.pointer (some ⟨w.heap.size + 3, 0, none⟩)) ∧ New text w w' := by
  have hmm := @run_makeMap Tryz.prog
  have i0 := ins0
  have i1 := ins1
  have i2 := ins2
  have i3 := ins3
  have i4 := ins4
  have i5 := ins5
  have i6 := ins6
  go_enter Tryz.func32, Tryz.ntmps32
  go_wp2_with (first | (go_at_call 31; refine (Signs_any _).mono ?_; rintro e w' ⟨rfl, rfl⟩) | (go_at_call 30; refine (Words_any _).mono ?_; rintro e w' ⟨rfl, rfl⟩))
  clear hmm i0 i1 i2 i3 i4 i5 i6
  generalize hW : World.alloc _ (Obj.cells (strs Lx.words) 9) = W5
  obtain ⟨hz, hb, h0, h1, h2, h3, h4⟩ : W5.heap.size = w.heap.size + 5 ∧ Below w.heap.size w W5 ∧ W5.heap[w.heap.size]? = some (.cells (strs Lx.signs) 9) ∧ W5.heap[w.heap.size + 1]? = some (.map #[] 0) ∧
      W5.heap[w.heap.size + 2]? = some (.map stepsE 7) ∧ W5.heap[w.heap.size + 3]? = some (.cells (scn text 0 (.slice none 0 0) (.slice none 0 0) w.heap.size (w.heap.size + 1) (w.heap.size + 2)) 79) ∧
      W5.heap[w.heap.size + 4]? = some (.cells (strs Lx.words) 9) := by
    subst hW; exact W5_facts text w
  clear hW
  generalize hq : w.heap.size + 1 + 1 + 1 + 1 = q
  generalize hp : w.heap.size + 1 + 1 + 1 = p
  generalize hsm : w.heap.size + 1 + 1 = sm
  generalize hfm : w.heap.size + 1 = fm at *
  rw [show w.heap.size + 2 = sm from by omega] at h2 h3
  rw [show w.heap.size + 3 = p from by omega] at h3
  rw [show w.heap.size + 4 = q from by omega] at h4
  have HE := Lib.hid (And.intro hq (And.intro hp (And.intro hsm hfm)))
  have HZ := Lib.hid hz
  have hlt : fm < W5.heap.size ∧ sm < W5.heap.size ∧ p < W5.heap.size ∧ q < W5.heap.size ∧ w.heap.size < W5.heap.size := by omega
  have hne : q ≠ fm ∧ p ≠ fm ∧ sm ≠ fm ∧ w.heap.size ≠ fm := by omega
  clear hq hp hsm hfm hz
  have H0 := Lib.hid h0
  have H1 := Lib.hid h1
  have H2 := Lib.hid h2
  have H3 := Lib.hid h3
  have H4 := Lib.hid h4
  have HL := Lib.hid hlt
  have HN := Lib.hid hne
  have HB := Lib.hid hb
  clear h0 h1 h2 h3 h4 hlt hne hb
  go_loopw [17] (fun v wr => ∃ k : Nat, k ≤ 37 ∧ v = .int .i64 k ∧ StrMap wr fm (fw k) ∧ W5.grownBy wr (some fm)) (fun v _ => 37 - (intOf v).toNat)
  case atStart => exact ⟨0, by omega, rfl, ⟨_, _, H1.out, rfl⟩, ⟨rfl, rfl, rfl, Nat.le_refl _, fun _ _ _ => rfl⟩⟩
  case round =>
    obtain ⟨k, hk, rfl, hm, hg⟩ := hrel
    have HM := Lib.hid hm
    have HG := Lib.hid hg
    clear hm hg
    have c3 : wr.cell? ⟨p, 5, none⟩ = some (.map (some fm)) := by
      rw [World.cell?_of_block (w := W5) (HG.out.block p HL.out.2.2.1 (by have := HN.out; simp; omega))]; simp [World.cell?, H3.out, scn]
    by_cases hlt : k < 37
    · have c4 : wr.cell? ⟨q, k, none⟩ = some (.string (ofB (Lx.words.getD k []))) := by
        rw [World.cell?_of_block (w := W5) (HG.out.block q HL.out.2.2.2.1 (by have := HN.out; simp; omega))]; exact strs_cell H4.out k hlt
      have hsz : (ofB (Lx.words.getD k [])).size ≤ maxLen := by
        have := short_lists.1 _ (getD_mem Lx.words [] k hlt); rw [ofB_size]; unfold maxLen; omega
      obtain ⟨w2, hrun, hm2, hg2⟩ := put_fixed HM.out _ hsz 2 (fw_free k hlt)
      have HM2 := Lib.hid hm2
      have HG2 := Lib.hid hg2
      clear hm2 hg2 hsz
      generalize he2 : ofB (Lx.words.getD k []) = nm at *
      have HE2 := Lib.hid he2
      clear he2
      go_wp2_with fail
      go_roundw
      case rel => exact ⟨k + 1, by omega, by go_num, by rw [fw_succ k hlt, HE2.out]; exact HM2.out, grown_trans HG.out HG2.out⟩
      case measure => simp [intOf]; omega
    · have c4 : wr.cell? ⟨p, 4, none⟩ = some (.slice (some ⟨w.heap.size, 0, none⟩) 24 24) := by
        rw [World.cell?_of_block (w := W5) (HG.out.block p HL.out.2.2.1 (by have := HN.out; simp; omega))]; simp [World.cell?, H3.out, scn]
      obtain ⟨wo, rfl⟩ : ∃ wo : World, wo = wr := ⟨_, rfl⟩
      obtain rfl : k = 37 := by omega
      go_wp2_with fail
      go_loopw [32] (fun v wr => ∃ k : Nat, k ≤ 24 ∧ v = .int .i64 k ∧ StrMap wr fm (fs k) ∧ W5.grownBy wr (some fm)) (fun v _ => 24 - (intOf v).toNat)
      case atStart => exact ⟨0, by omega, rfl, by simpa [fs] using HM.out, HG.out⟩
      case round =>
        obtain ⟨k, hk, rfl, hm, hg⟩ := hrel
        have HM := Lib.hid hm
        have HG := Lib.hid hg
        clear hm hg c3 c4
        have c3 : wr.cell? ⟨p, 5, none⟩ = some (.map (some fm)) := by
          rw [World.cell?_of_block (w := W5) (HG.out.block p HL.out.2.2.1 (by have := HN.out; simp; omega))]; simp [World.cell?, H3.out, scn]
        by_cases hlt : k < 24
        · have c4 : wr.cell? ⟨w.heap.size, k, none⟩ = some (.string (ofB (Lx.signs.getD k []))) := by
            rw [World.cell?_of_block (w := W5) (HG.out.block w.heap.size HL.out.2.2.2.2 (by have := HN.out; simp; omega))]; exact strs_cell H0.out k hlt
          have hsz : (ofB (Lx.signs.getD k [])).size ≤ maxLen := by
            have := short_lists.2 _ (getD_mem Lx.signs [] k hlt); rw [ofB_size]; unfold maxLen; omega
          obtain ⟨w2, hrun, hm2, hg2⟩ := put_fixed HM.out _ hsz 5 (fs_free k hlt)
          have HM2 := Lib.hid hm2
          have HG2 := Lib.hid hg2
          clear hm2 hg2 hsz
          generalize he2 : ofB (Lx.signs.getD k []) = nm at *
          have HE2 := Lib.hid he2
          clear he2
          go_wp2_with fail
          go_roundw
          case rel => exact ⟨k + 1, by omega, by go_num, by rw [fs_succ k hlt, HE2.out]; exact HM2.out, grown_trans HG.out HG2.out⟩
          case measure => simp [intOf]; omega
        · obtain rfl : k = 24 := by omega
          go_wp2_with fail
          go_ret
          obtain ⟨hq, hp, hsm, hfm⟩ := HE.out
          have hl := HL.out
          have hn := HN.out
          have hg := HG.out
          refine ⟨by rw [show w.heap.size + 3 = p from by omega]; rfl, ⟨?_, ?_, ?_, ?_, ?_, ?_⟩⟩
          · have := HZ.out; have := hg.size; omega
          · exact HB.out.trans ⟨hg.os, hg.tape, hg.output, hg.size, fun i hi => hg.block i (by omega) (by simp; omega)⟩
          · rw [hg.block _ hl.2.2.2.2 (by simp; omega)]; exact H0.out
          · rw [hfm]; exact HM.out
          · rw [show w.heap.size + 2 = sm from by omega, hg.block _ hl.2.1 (by simp; omega)]; exact H2.out
          · rw [show w.heap.size + 3 = p from by omega, hg.block _ hl.2.2.1 (by simp; omega), show w.heap.size + 2 = sm from by omega, hfm]; exact H3.out
end Go.Proofs.YtcjdacdggklifaaGreatDoor
