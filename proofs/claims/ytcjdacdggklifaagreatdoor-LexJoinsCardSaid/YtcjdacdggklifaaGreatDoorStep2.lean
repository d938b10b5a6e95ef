/- The scanner's steps, two: named, word, symbol. -/
import Derived.Test.YtcjdacdggklifaaGreatDoorStep1
import Derived.Lib.Strings
namespace Go.Proofs.YtcjdacdggklifaaGreatDoor
open Go.RowKit

theorem bts_extract (s : ByteArray) (a b : Nat) : bts (s.extract a b) = ((bts s).drop a).take (b - a) := Lib.extract_data s a b
theorem fnd_fs (nm : Lx.Bs) : fnd (ofB nm) (fs 24) = if Lx.words.contains nm then some 2 else if Lx.signs.contains nm then some 5 else none := by
  have key : ∀ (v : Int) (l : List Lx.Bs) (r : List (ByteArray × Int)), fnd (ofB nm) (l.map (fun s => (ofB s, v)) ++ r) = if l.contains nm then some v else fnd (ofB nm) r := by
    intro v l r
    induction l with
    | nil => simp
    | cons x l ih =>
      rw [List.map_cons, List.cons_append, fnd, ih, List.contains_cons]
      have e : (ofB nm == ofB x) = (nm == x) := by
        show (nm.toArray == x.toArray) = _
        simp
      simp only [e]
      cases nm == x <;> simp
  have h1 := key 2 Lx.words ((Lx.signs.map fun s => (ofB s, (5 : Int))) ++ [])
  rw [key 5 Lx.signs []] at h1
  have : fs 24 = Lx.words.map (fun s => (ofB s, (2 : Int))) ++ ((Lx.signs.map fun s => (ofB s, (5 : Int))) ++ []) := by
    simp only [fs, fw, List.append_nil]; rfl
  rw [this, h1]; rfl

section
variable {B p sg fm sm : Nat} {text : ByteArray} {st : St} {tv cv : Value} {w : World}

set_option maxRecDepth 100000 in
set_option maxHeartbeats 1000000 in
theorem named_any (h : Sc B p sg fm sm text st tv cv w) (k0 fin : Nat) (_hs : text.size ≤ 2000000) (h1 : st.at_ ≤ fin) (h2 : fin ≤ text.size) (hn : st.ts.length ≤ 2000000) :
    Calls Tryz.prog 91 #[.pointer (some ⟨p, 0, none⟩), .int .i64 k0, .int .i64 fin] w
      (Ends B p sg fm sm text st tv cv w (if fin - st.at_ > 32 then none else some { st with at_ := fin, ts := st.ts ++ [⟨((fnd (text.extract st.at_ fin) (fs 24)).getD k0).toNat, 0, bts (text.extract st.at_ fin), st.at_, fin⟩] })) := by
  have c0 := h.c0
  have c1 := h.c1
  have c5 := h.c5
  have H := Lib.hid h
  clear h
  have hi1 : (0 : Int) ≤ (st.at_ : Int) := Int.natCast_nonneg _
  have hx : (text.extract st.at_ fin).size = fin - st.at_ := by simp; omega
  by_cases hb : fin - st.at_ > 32
  · rw [if_pos hb]
    have hb' : ¬ (((fin - st.at_ : Nat) : Int) ≤ 32) := by omega
    generalize text.extract st.at_ fin = nm at *
    go_enter Tryz.func91, Tryz.ntmps91
    go_wp2_with fail
    go_quiet (fail)
    go_wp2_with fail
    refine (refuse_any (H.out.drewN nq)).mono ?_
    rintro e w' ⟨rfl, rfl⟩
    exact ⟨rfl, rfl, H.out.drewN nq, Moved.drewN nq⟩
  · rw [if_neg hb]
    have hsz : (text.extract st.at_ fin).size ≤ maxLen := by rw [hx]; unfold maxLen; omega
    have hb' : ((fin - st.at_ : Nat) : Int) ≤ 32 := by omega
    have hl0 := fun n => look_fixed (H.out.drewN n).fixed (text.extract st.at_ fin) hsz
    clear hsz
    cases hf : fnd (text.extract st.at_ fin) (fs 24) with
    | none =>
      rw [hf] at hl0
      simp only [Option.getD_none, Option.isSome_none] at hl0 ⊢
      clear hf
      go_enter Tryz.func91, Tryz.ntmps91
      go_wp2_with fail
      go_quiet (fail)
      go_wp2_with fail
      have ht := take_any (H.out.drewN nq) k0 0 (text.extract st.at_ fin) fin hn
      have HT := Lib.hid ht
      clear ht
      refine HT.out.mono ?_
      rintro e w' ⟨rfl, tv', cv', hsc, hmv⟩
      have HSC := Lib.hid hsc
      have HMV := Lib.hid hmv
      clear hsc hmv
      go_wp2_with fail
      go_end0
      exact ⟨rfl, tv', cv', HSC.out, (Moved.drewN nq).trans HMV.out⟩
    | some v =>
      rw [hf] at hl0
      obtain ⟨v, rfl⟩ : ∃ m : Nat, v = m := by
        have h3 := fnd_fs (bts (text.extract st.at_ fin))
        rw [ofB_bts, hf] at h3
        split at h3
        · exact ⟨2, by simpa using h3⟩
        · split at h3
          · exact ⟨5, by simpa using h3⟩
          · cases h3
      simp only [Option.getD_some, Option.isSome_some, Int.toNat_natCast] at hl0 ⊢
      clear hf
      go_enter Tryz.func91, Tryz.ntmps91
      go_wp2_with fail
      go_quiet (fail)
      go_wp2_with fail
      have ht := take_any (H.out.drewN nq) v 0 (text.extract st.at_ fin) fin hn
      have HT := Lib.hid ht
      clear ht
      refine HT.out.mono ?_
      rintro e w' ⟨rfl, tv', cv', hsc, hmv⟩
      have HSC := Lib.hid hsc
      have HMV := Lib.hid hmv
      clear hsc hmv
      go_wp2_with fail
      go_end0
      exact ⟨rfl, tv', cv', HSC.out, (Moved.drewN nq).trans HMV.out⟩


/-- The state behind a token. -/
def stTok (st : St) : Lx.Step → Option St
  | .tok k n s len => some { at_ := st.at_ + len, ts := st.ts ++ [⟨k, n, s, st.at_, st.at_ + len⟩], cs := st.cs }
  | _ => none
/-- The state behind a name. -/
def stNamed (st : St) (k0 : Int) (nm : ByteArray) (k : Nat) : Option St :=
  if k > 32 then none else some { at_ := st.at_ + k, ts := st.ts ++ [⟨((fnd nm (fs 24)).getD k0).toNat, 0, bts nm, st.at_, st.at_ + k⟩], cs := st.cs }
/-- The next state of a text's cutting. -/
def nextSt (b : Lx.Bs) (st : St) : Option St :=
  match Lx.kd (b.drop st.at_) with
  | .blank => some { st with at_ := st.at_ + Lx.run Lx.blank (b.drop st.at_) }
  | .comm => (Lx.comm 0 (b.drop st.at_)).map fun n => { at_ := st.at_ + n, ts := st.ts, cs := st.cs ++ [(st.at_, st.at_ + n)] }
  | _ => stTok st (Lx.step (b.drop st.at_))

theorem Ends.as {r r' : Option St} (e0 : r = r') {e : Ending} {w' : World} (h : Ends B p sg fm sm text st tv cv w r e w') : Ends B p sg fm sm text st tv cv w r' e w' := e0 ▸ h
/-- What a step that ends as it should hands on. -/
theorem Ends.then {w1 : World} (hm : Moved p tv cv w tv cv w1) {r : Option St} {e : Ending} {w' : World} (h : Ends B p sg fm sm text st tv cv w1 r e w') : Ends B p sg fm sm text st tv cv w r e w' := by
  cases r with
  | some st' => obtain ⟨h1, tv', cv', h2, h3⟩ := h; exact ⟨h1, tv', cv', h2, hm.trans h3⟩
  | none => obtain ⟨h1, h2, h3⟩ := h; exact ⟨h1, h2, hm.trans h3⟩

/-- The state that a named thing comes to. -/
theorem named_word (l : Lx.Bs) (k : Nat) (nm : ByteArray) (hnm : bts nm = l.take (Lx.run Lx.inw l)) (hk : Lx.kd l = .letter) (st : St) (h1 : k = Lx.run Lx.inw l) :
    stNamed st 1 nm k = stTok st (Lx.word l) := by
  subst h1
  unfold Lx.word stNamed
  by_cases hb : Lx.run Lx.inw l > 32
  · rw [if_pos hb, if_pos hb]; rfl
  · rw [if_neg hb, if_neg hb]
    have e := fnd_fs (bts nm)
    rw [ofB_bts, hnm] at e
    rw [e, hnm]
    have hsig : Lx.words.contains (l.take (Lx.run Lx.inw l)) = false → Lx.signs.contains (l.take (Lx.run Lx.inw l)) = false := by
      intro _
      cases hc : Lx.signs.contains (l.take (Lx.run Lx.inw l)) with
      | false => rfl
      | true =>
        exfalso
        cases l with
        | nil => cases hk
        | cons c r =>
          have hl := (Lx.kd_inv c r).1 hk
          have hr := Lx.run_pos (p := Lx.inw) (c := c) (r := r) (by simp [Lx.inw, hl])
          obtain ⟨j, hj⟩ : ∃ j, Lx.run Lx.inw (c :: r) = j + 1 := ⟨_, (Nat.succ_pred_eq_of_pos hr).symm⟩
          rw [hj, List.take_succ_cons] at hc
          have : ∀ s ∈ Lx.signs, ∀ d ∈ s.head?, Lx.letter d = false := by decide +kernel
          have := this _ (by simpa using hc) c (by simp)
          rw [hl] at this; cases this
    cases hw : Lx.words.contains (l.take (Lx.run Lx.inw l)) with
    | true => simp [stTok]
    | false => rw [hsig hw]; simp [stTok]
theorem named_symb (l : Lx.Bs) (k : Nat) (nm : ByteArray) (hnm : bts nm = l.take (Lx.run Lx.symb l)) (hk : Lx.kd l = .symb) (st : St) (h1 : k = Lx.run Lx.symb l) :
    stNamed st 4 nm k = stTok st (Lx.symbol l) := by
  subst h1
  unfold Lx.symbol stNamed
  by_cases hb : Lx.run Lx.symb l > 32
  · rw [if_pos hb, if_pos hb]; rfl
  · rw [if_neg hb, if_neg hb]
    have e := fnd_fs (bts nm)
    rw [ofB_bts, hnm] at e
    rw [e, hnm]
    have hwd : Lx.words.contains (l.take (Lx.run Lx.symb l)) = false := by
      cases hc : Lx.words.contains (l.take (Lx.run Lx.symb l)) with
      | false => rfl
      | true =>
        exfalso
        cases l with
        | nil => cases hk
        | cons c r =>
          have hl := (Lx.kd_inv c r).2.2 hk
          have hr := Lx.run_pos (p := Lx.symb) (c := c) (r := r) hl
          obtain ⟨j, hj⟩ : ∃ j, Lx.run Lx.symb (c :: r) = j + 1 := ⟨_, (Nat.succ_pred_eq_of_pos hr).symm⟩
          rw [hj, List.take_succ_cons] at hc
          have : ∀ s ∈ Lx.words, ∀ d ∈ s.head?, Lx.symb d = false := by decide +kernel
          have := this _ (by simpa using hc) c (by simp)
          rw [hl] at this; cases this
    rw [hwd]
    cases hw : Lx.signs.contains (l.take (Lx.run Lx.symb l)) <;> simp [stTok]

theorem word_any (h : Sc B p sg fm sm text st tv cv w) (hs : text.size ≤ 2000000) (hat : st.at_ ≤ text.size) (hn : st.ts.length ≤ 2000000) (hk : Lx.kd ((bts text).drop st.at_) = .letter) :
    Calls Tryz.prog 58 #[.pointer (some ⟨p, 0, none⟩)] w (Ends B p sg fm sm text st tv cv w (nextSt (bts text) st)) := by
  have hr := run_any Lx.inw 92 (Lib.hid isInWord_any) enter_isInWord p text st.at_ w hs hat h.c0 h.c1
  have hle := Lx.run_le Lx.inw ((bts text).drop st.at_)
  rw [List.length_drop, bts_length] at hle
  have hm := named_any h 1 (st.at_ + Lx.run Lx.inw ((bts text).drop st.at_)) hs (by omega) (by omega) hn
  have e : nextSt (bts text) st = stNamed st 1 (text.extract st.at_ (st.at_ + Lx.run Lx.inw ((bts text).drop st.at_))) (Lx.run Lx.inw ((bts text).drop st.at_)) := by
    rw [named_word _ _ _ (by rw [bts_extract, Nat.add_sub_cancel_left]) hk st rfl]
    unfold nextSt; rw [hk]; simp only; unfold Lx.step; rw [hk]
  rw [Nat.add_sub_cancel_left] at hm
  change Calls _ _ _ _ (Ends B p sg fm sm text st tv cv w (stNamed st _ _ _)) at hm
  rw [e]
  have HR := Lib.hid hr
  have HM := Lib.hid hm
  clear hr hm e h hle
  generalize stNamed st _ _ _ = r at *
  generalize st.at_ + Lx.run Lx.inw ((bts text).drop st.at_) = q at *
  go_enter Tryz.func58, Tryz.ntmps58
  go_wp2_with fail
  refine HR.out.mono ?_
  rintro e w' ⟨rfl, rfl⟩
  go_wp2_with fail
  refine HM.out.mono ?_
  cases r with
  | none =>
    rintro e w1 ⟨rfl, h1, h2⟩
    exact ⟨rfl, rfl, h1, h2⟩
  | some st' =>
    rintro e w1 ⟨rfl, tv', cv', h1, h2⟩
    have H1 := Lib.hid h1
    have H2 := Lib.hid h2
    clear h1 h2
    go_wp2_with fail
    go_end0
    exact ⟨rfl, tv', cv', H1.out, H2.out⟩
theorem symbol_any (h : Sc B p sg fm sm text st tv cv w) (hs : text.size ≤ 2000000) (hat : st.at_ ≤ text.size) (hn : st.ts.length ≤ 2000000) (hk : Lx.kd ((bts text).drop st.at_) = .symb) :
    Calls Tryz.prog 61 #[.pointer (some ⟨p, 0, none⟩)] w (Ends B p sg fm sm text st tv cv w (nextSt (bts text) st)) := by
  have hr := run_any Lx.symb 95 (Lib.hid isSymbol_any) enter_isSymbol p text st.at_ w hs hat h.c0 h.c1
  have hle := Lx.run_le Lx.symb ((bts text).drop st.at_)
  rw [List.length_drop, bts_length] at hle
  have hm := named_any h 4 (st.at_ + Lx.run Lx.symb ((bts text).drop st.at_)) hs (by omega) (by omega) hn
  have e : nextSt (bts text) st = stNamed st 4 (text.extract st.at_ (st.at_ + Lx.run Lx.symb ((bts text).drop st.at_))) (Lx.run Lx.symb ((bts text).drop st.at_)) := by
    rw [named_symb _ _ _ (by rw [bts_extract, Nat.add_sub_cancel_left]) hk st rfl]
    unfold nextSt; rw [hk]; simp only; unfold Lx.step; rw [hk]
  rw [Nat.add_sub_cancel_left] at hm
  change Calls _ _ _ _ (Ends B p sg fm sm text st tv cv w (stNamed st _ _ _)) at hm
  rw [e]
  have HR := Lib.hid hr
  have HM := Lib.hid hm
  clear hr hm e h hle
  generalize stNamed st _ _ _ = r at *
  generalize st.at_ + Lx.run Lx.symb ((bts text).drop st.at_) = q at *
  go_enter Tryz.func61, Tryz.ntmps61
  go_wp2_with fail
  refine HR.out.mono ?_
  rintro e w' ⟨rfl, rfl⟩
  go_wp2_with fail
  refine HM.out.mono ?_
  cases r with
  | none =>
    rintro e w1 ⟨rfl, h1, h2⟩
    exact ⟨rfl, rfl, h1, h2⟩
  | some st' =>
    rintro e w1 ⟨rfl, tv', cv', h1, h2⟩
    have H1 := Lib.hid h1
    have H2 := Lib.hid h2
    clear h1 h2
    go_wp2_with fail
    go_end0
    exact ⟨rfl, tv', cv', H1.out, H2.out⟩
end
end Go.Proofs.YtcjdacdggklifaaGreatDoor
