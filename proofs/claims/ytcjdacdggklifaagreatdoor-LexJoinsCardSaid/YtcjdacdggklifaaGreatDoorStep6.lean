/- The scanner's steps, six: which step is taken. -/
import Derived.Test.YtcjdacdggklifaaGreatDoorStep5
namespace Go.Proofs.YtcjdacdggklifaaGreatDoor
open Go.RowKit

section
variable {B p sg fm sm : Nat} {text : ByteArray} {st : St} {tv cv : Value} {w : World}

theorem kd_cons (c : UInt8) (r : Lx.Bs) : Lx.kd (c :: r) = if Lx.blank c then .blank else if Lx.opens (c :: r) then .comm else if Lx.letter c then .letter else if Lx.digit c then .digit else if Lx.symb c then .symb else .other := rfl

theorem kd_kindB (c : UInt8) (r : Lx.Bs) :
    (kindB c = 1 → Lx.kd (c :: r) = .blank) ∧ (kindB c = 2 → c = 40) ∧ (kindB c = 3 → Lx.kd (c :: r) = .letter) ∧ (kindB c = 4 → Lx.kd (c :: r) = .digit) ∧ (kindB c = 5 → Lx.kd (c :: r) = .other) ∧
    (kindB c = 6 → Lx.kd (c :: r) = .symb) ∧ (kindB c = 0 → Lx.kd (c :: r) = .other ∧ c ≠ 40 ∧ Lx.symb c = false ∧ [41, 91, 93, 123, 125, 44, 59, 58, 63, 33, 95, 124].contains c = false) := by
  have ho : c ≠ 40 → Lx.opens (c :: r) = false := Lx.opens_head
  by_cases h40 : c = 40
  · subst h40
    have e : kindB 40 = 2 := by decide
    rw [e]
    exact ⟨fun h => absurd h (by decide), fun _ => rfl, fun h => absurd h (by decide), fun h => absurd h (by decide), fun h => absurd h (by decide), fun h => absurd h (by decide), fun h => absurd h (by decide)⟩
  · rw [kd_cons, ho h40]
    unfold kindB
    have e40 : (c == 40) = false := by simpa using h40
    rw [e40]
    cases h1 : Lx.blank c <;> cases h2 : Lx.letter c <;> cases h3 : Lx.digit c <;> cases h4 : Lx.symb c <;> cases h5 : [41, 91, 93, 123, 125, 44, 59, 58, 63, 33, 95, 124].contains c <;> simp [h40]
theorem kindB_range (c : UInt8) : kindB c = 0 ∨ kindB c = 1 ∨ kindB c = 2 ∨ kindB c = 3 ∨ kindB c = 4 ∨ kindB c = 5 ∨ kindB c = 6 := by
  unfold kindB; repeat' split
  all_goals simp
theorem no_sign {c : UInt8} {r : Lx.Bs} (h1 : c ≠ 40) (h2 : Lx.symb c = false) (h3 : [41, 91, 93, 123, 125, 44, 59, 58, 63, 33, 95, 124].contains c = false) : Lx.sgn (c :: r) = [] := by
  refine Decidable.byContradiction fun hne => ?_
  have hm := Lx.sgn_mem hne
  have hp := Lx.sgn_pre (c :: r)
  have key : ∀ s ∈ Lx.signs, ∀ d ∈ s.head?, d = 40 ∨ Lx.symb d = true ∨ [41, 91, 93, 123, 125, 44, 59, 58, 63, 33, 95, 124].contains d = true := by decide +kernel
  cases hs : Lx.sgn (c :: r) with
  | nil => exact hne hs
  | cons d q =>
    rw [hs] at hm hp
    have hd : d = c := by obtain ⟨x, hx⟩ := hp; simp at hx; exact hx.1
    subst hd
    rcases key _ hm d (by simp) with h | h | h
    · exact h1 h
    · rw [h2] at h; cases h
    · rw [h3] at h; cases h

/-- WHICH STEP IS TAKEN, and what it comes to. -/
theorem dispatch (h : Sc B p sg fm sm text st tv cv w) (hs : text.size ≤ 2000000) (hlt : st.at_ < text.size) (hn : st.ts.length ≤ 2000000) (hc : st.cs.length ≤ 2000000) :
    ∃ F : Nat, (∀ n, (Instr.lookup 77 (.map (some sm)) (.int .i64 (kindB text[st.at_])) false).run Tryz.prog (w.drewN n) = .ok (.func (.func F) #[] #[]) (w.drewN n)) ∧
      (∀ (args : Array Value) (w : World), (callFunc F args).run Tryz.prog w = .ok (.enter F args) w) ∧
      ∀ n, Calls Tryz.prog F #[.pointer (some ⟨p, 0, none⟩)] (w.drewN n) (Ends B p sg fm sm text st tv cv w (nextSt (bts text) st)) := by
  have hd := bts_drop text st.at_ hlt
  have hat : st.at_ ≤ text.size := Nat.le_of_lt hlt
  have lk : ∀ (k F : Nat), k < 100 → kindB text[st.at_] = (k : Int) → Instr.findNow (.int .i64) (.int .i64 k) stepsE.toList 0 = some (some (k, .func (.func F) #[] #[])) →
      ∀ n, (Instr.lookup 77 (.map (some sm)) (.int .i64 (kindB text[st.at_])) false).run Tryz.prog (w.drewN n) = .ok (.func (.func F) #[] #[]) (w.drewN n) := by
    intro k F hk he hf n
    rw [he]; exact look_steps (h.drewN n).steps k hk k _ hf
  have kd := kd_kindB text[st.at_] ((bts text).drop (st.at_ + 1))
  rw [← hd] at kd
  have mv : ∀ n {F : Nat} {r : Option St}, Calls Tryz.prog F #[.pointer (some ⟨p, 0, none⟩)] (w.drewN n) (Ends B p sg fm sm text st tv cv (w.drewN n) r) → r = nextSt (bts text) st →
      Calls Tryz.prog F #[.pointer (some ⟨p, 0, none⟩)] (w.drewN n) (Ends B p sg fm sm text st tv cv w (nextSt (bts text) st)) :=
    fun n F r hc hr => hc.mono fun _ _ he => (he.then (Moved.drewN n)).as hr
  rcases kindB_range text[st.at_] with hk | hk | hk | hk | hk | hk | hk
  · refine ⟨55, lk 0 _ (by omega) hk rfl, fun _ _ => by go_simp, fun n => ?_⟩
    obtain ⟨k1, k2, k3, k4⟩ := kd.2.2.2.2.2.2 hk
    refine mv n (r := none) ((refuse_any (h.drewN n)).mono fun _ _ ⟨h1, h2⟩ => ⟨h1, h2 ▸ h.drewN n, h2 ▸ Moved.refl _ _ _ _⟩) ?_
    unfold nextSt; rw [k1]; simp only; unfold Lx.step; rw [k1]; simp only
    unfold Lx.sign; rw [hd, if_pos (no_sign k2 k3 k4)]; rfl
  · refine ⟨56, lk 1 _ (by omega) hk rfl, fun _ _ => by go_simp, fun n => ?_⟩
    refine mv n (blank_any (h.drewN n) hs hat) ?_
    unfold nextSt; rw [kd.1 hk]
  · refine ⟨57, lk 2 _ (by omega) hk rfl, fun _ _ => by go_simp, fun n => ?_⟩
    refine mv n (bracket_any (h.drewN n) hs hat hn hc) ?_
    have h40 := kd.2.1 hk
    cases ho : Lx.opens ((bts text).drop st.at_) with
    | true => unfold nextSt; rw [Lx.kd_comm ho]; rfl
    | false =>
      have hkd : Lx.kd ((bts text).drop st.at_) = .other := by rw [hd, h40] at ho ⊢; rw [kd_cons, ho]; rfl
      unfold nextSt; rw [hkd]; simp only; unfold Lx.step; rw [hkd]; rfl
  · refine ⟨58, lk 3 _ (by omega) hk rfl, fun _ _ => by go_simp, fun n => ?_⟩
    exact mv n (word_any (h.drewN n) hs hat hn (kd.2.2.1 hk)) rfl
  · refine ⟨59, lk 4 _ (by omega) hk rfl, fun _ _ => by go_simp, fun n => ?_⟩
    refine mv n (number_any (h.drewN n) hs hat hn (kd.2.2.2.1 hk)) ?_
    unfold nextSt; rw [kd.2.2.2.1 hk]; simp only; unfold Lx.step; rw [kd.2.2.2.1 hk]
  · refine ⟨60, lk 5 _ (by omega) hk rfl, fun _ _ => by go_simp, fun n => ?_⟩
    refine mv n (sign_any (h.drewN n) hs hat hn) ?_
    unfold nextSt; rw [kd.2.2.2.2.1 hk]; simp only; unfold Lx.step; rw [kd.2.2.2.2.1 hk]
  · refine ⟨61, lk 6 _ (by omega) hk rfl, fun _ _ => by go_simp, fun n => ?_⟩
    exact mv n (symbol_any (h.drewN n) hs hat hn (kd.2.2.2.2.2.1 hk)) rfl
end
end Go.Proofs.YtcjdacdggklifaaGreatDoor
