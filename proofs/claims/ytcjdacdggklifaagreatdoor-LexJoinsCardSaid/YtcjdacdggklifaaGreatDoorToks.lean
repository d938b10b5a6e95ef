/- Tokens and Kind. -/
import Derived.Test.YtcjdacdggklifaaGreatDoorRuns
import Derived.OwnWalk
namespace Go.Proofs.YtcjdacdggklifaaGreatDoor
open Go.RowKit

def three (v : Value) (a e : Int) : Ending := .returned (.tuple #[v, .int .i64 a, .int .i64 e])
/-- What 'finish' hands back. -/
def Fins (B p sg fm sm : Nat) (text : ByteArray) (st0 : St) (D : St → Bool × St) (tv cv : Value) (w : World) (e : Ending) (w' : World) : Prop :=
  (100000 < text.size ∧ e = three (.slice none 0 0) 0 2 ∧ w' = w) ∨
  (text.size ≤ 100000 ∧ ∃ r, Runs (bts text) D st0 r ∧ ∃ st' tv' cv', Sc B p sg fm sm text st' tv' cv' w' ∧ Moved p tv cv w tv' cv' w' ∧
    ((∃ a, r = .inl a ∧ e = three (.slice none 0 0) a 10) ∨ (r = .inr st' ∧ 20000 < st'.ts.length ∧ e = three (.slice none 0 0) 0 2) ∨ (r = .inr st' ∧ st'.ts.length ≤ 20000 ∧ e = three tv' 0 0)))

section
variable {B p sg fm sm : Nat} {text : ByteArray} {st0 : St} {tv cv : Value} {w : World}
set_option maxRecDepth 100000 in
set_option maxHeartbeats 1000000 in
theorem finish_any (h : Sc B p sg fm sm text st0 tv cv w) (hg : Good (bts text) st0) (D : St → Bool × St) (hD : ∀ st, (D st).1 = false → (D st).2 = st) (DF : Nat) (cap : Array Value) (hA : Asks B p sg fm sm text D DF cap tv cv w) :
    Calls Tryz.prog 42 #[.pointer (some ⟨p, 0, none⟩), .func (.func DF) #[] cap] w (Fins B p sg fm sm text st0 D tv cv w) := by
  have c0 := h.c0
  have H := Lib.hid h
  by_cases hb : 100000 < text.size
  · have hb2 : (100000 : Int) < (text.size : Int) := by omega
    clear h
    go_enter Tryz.func42, Tryz.ntmps42
    go_wp2_with fail
    go_ret3
    exact .inl ⟨hb, rfl, rfl⟩
  · have hb2 : (text.size : Int) ≤ (100000 : Int) := by omega
    have hscan := scan_any h (by omega) hg D hD DF cap hA
    have HSCAN := Lib.hid hscan
    clear h hscan hA hg hD
    go_enter Tryz.func42, Tryz.ntmps42
    go_wp2_with fail
    refine HSCAN.out.mono ?_
    rintro e w2 ⟨r, hr, st2, tv2, cv2, hsc2, hmv2, he⟩
    have c2 := hsc2.c2
    obtain ⟨a0, cap0, htv, hcap⟩ := owns_form hsc2.toks
    have HE := Lib.hid (And.intro hr (And.intro hsc2 hmv2))
    clear hr hsc2 hmv2
    cases r with
    | inl a =>
      obtain rfl := he
      clear c2 htv hcap
      go_wp2_with fail
      go_ret3
      exact .inr ⟨by omega, _, HE.out.1, st2, tv2, cv2, HE.out.2.1, HE.out.2.2, .inl ⟨a, rfl, rfl⟩⟩
    | inr s2 =>
      obtain ⟨rfl, rfl⟩ := he
      subst htv
      by_cases hn : 20000 < st2.ts.length
      · have hn2 : (20000 : Int) < (st2.ts.length : Int) := by omega
        go_wp2_with fail
        go_ret3
        exact .inr ⟨by omega, _, HE.out.1, st2, _, cv2, HE.out.2.1, HE.out.2.2, .inr (.inl ⟨rfl, hn, rfl⟩)⟩
      · have hn2 : (st2.ts.length : Int) ≤ (20000 : Int) := by omega
        go_wp2_with fail
        go_ret3
        exact .inr ⟨by omega, _, HE.out.1, st2, _, cv2, HE.out.2.1, HE.out.2.2, .inr (.inr ⟨rfl, by omega, rfl⟩)⟩
end

/-- A new scanner's state. -/
theorem new_sc {text : ByteArray} {w w' : World} (h : New text w w') : Sc (w.heap.size + 5) (w.heap.size + 3) w.heap.size (w.heap.size + 1) (w.heap.size + 2) text ⟨0, [], []⟩ (.slice none 0 0) (.slice none 0 0) w' :=
  ⟨h.self, h.signs, h.fixed, h.steps, World.ownsRow_nil _ _ _ _, World.ownsRow_nil _ _ _ _, by omega, by omega, by omega, by omega, h.size, by omega, .inl rfl⟩
theorem below_moved {w w1 w2 : World} {p : Nat} {tv' cv' : Value} (h : Below w.heap.size w w1) (hp : w.heap.size ≤ p) (hm : Moved p (.slice none 0 0) (.slice none 0 0) w1 tv' cv' w2) : Below w.heap.size w w2 :=
  h.trans ⟨hm.os, hm.tape, hm.output, hm.size, fun k hk => hm.block k (Nat.lt_of_lt_of_le hk h.size) (by omega) (by simp [Value.ownBlock]) (by simp [Value.ownBlock])⟩

/-- The tokens of a text, as 'Tokens' hands them back. -/
def TokR (text : ByteArray) (w : World) (e : Ending) (w' : World) : Prop :=
  Below w.heap.size w w' ∧
  ((100000 < text.size ∧ e = three (.slice none 0 0) 0 2) ∨
   (text.size ≤ 100000 ∧ match Lx.T (bts text) 0 with
    | .bad a => e = three (.slice none 0 0) a 10
    | .good l => if 20000 < l.length then e = three (.slice none 0 0) 0 2 else ∃ v, e = three v 0 0 ∧ w'.ownsRow w.heap.size 35 5 v l.length (tokCs l)))

theorem owns_mono {w : World} {base base' : Nat} {e : TypeId} {size : Nat} {v : Value} {n : Nat} {xs : List Value} (h : w.ownsRow base e size v n xs) (hb : base' ≤ base) : w.ownsRow base' e size v n xs := by
  refine ⟨h.1, ?_⟩
  rcases h.2 with h2 | ⟨g, cap, cur, rfl, hg, r⟩
  · exact .inl h2
  · exact .inr ⟨g, cap, cur, rfl, Nat.le_trans hb hg, r⟩

theorem fins_tokR {text : ByteArray} {w w1 w2 : World} {e : Ending} (hb : Below w.heap.size w w1)
    (h : Fins (w.heap.size + 5) (w.heap.size + 3) w.heap.size (w.heap.size + 1) (w.heap.size + 2) text ⟨0, [], []⟩ dNever (.slice none 0 0) (.slice none 0 0) w1 e w2) : TokR text w e w2 := by
  rcases h with ⟨h1, rfl, rfl⟩ | ⟨h1, r, hr, st', tv', cv', hsc, hmv, hc⟩
  · exact ⟨hb, .inl ⟨h1, rfl⟩⟩
  · refine ⟨below_moved hb (by omega) hmv, .inr ⟨h1, ?_⟩⟩
    have hcm := runs_never hr
    rw [List.drop_zero] at hcm
    rcases hc with ⟨a, rfl, rfl⟩ | ⟨rfl, hn, rfl⟩ | ⟨rfl, hn, rfl⟩
    · rw [show Lx.T (bts text) 0 = .bad a from hcm]
    · obtain ⟨new, hx, hy⟩ := hcm
      rw [hx]
      have hy : st'.ts = new := hy
      rw [hy] at hn
      show (if 20000 < new.length then _ else _)
      rw [if_pos hn]
    · obtain ⟨new, hx, hy⟩ := hcm
      rw [hx]
      have hy : st'.ts = new := hy
      rw [hy] at hn
      show (if 20000 < new.length then _ else _)
      rw [if_neg (by omega)]
      have ho := hsc.toks
      rw [hy] at ho
      exact ⟨tv', rfl, owns_mono ho (by omega)⟩
theorem tokR_three {text : ByteArray} {w w' : World} {e : Ending} (h : TokR text w e w') : ∃ v a er, e = three v a er := by
  rcases h.2 with ⟨_, rfl⟩ | ⟨_, h⟩
  · exact ⟨_, _, _, rfl⟩
  · cases hT : Lx.T (bts text) 0 with
    | bad a => rw [hT] at h; exact ⟨_, _, _, h⟩
    | good l =>
      rw [hT] at h
      simp only at h
      by_cases hn : 20000 < l.length
      · rw [if_pos hn] at h; exact ⟨_, _, _, h⟩
      · rw [if_neg hn] at h; obtain ⟨v, h, _⟩ := h; exact ⟨_, _, _, h⟩

set_option maxRecDepth 100000 in
theorem Tokens_any (text : ByteArray) (w : World) : Calls Tryz.prog 22 #[.string text] w (TokR text w) := by
  go_enter Tryz.func22, Tryz.ntmps22
  go_wp2_with fail
  refine (new_any text w).mono ?_
  rintro e w1 ⟨rfl, hnew⟩
  have hsc := new_sc hnew
  have hbl := hnew.below
  have hf := finish_any hsc ⟨Nat.zero_le _, Nat.le_refl _, Nat.le_refl _⟩ dNever (fun _ _ => rfl) 43 #[] (asks_never _ _ _)
  have HF := Lib.hid hf
  have HBL := Lib.hid hbl
  clear hnew hsc hbl hf
  go_wp2_with fail
  refine HF.out.mono ?_
  intro e w2 hfin
  have ht := fins_tokR HBL.out hfin
  obtain ⟨v, a, er, rfl⟩ := tokR_three ht
  have HT := Lib.hid ht
  clear ht hfin
  unfold three
  go_wp2_with fail
  go_ret3
  exact HT.out

/-- What 'Kind' hands back. -/
def kindG (l : Lx.Bs) : Int := match Lx.G 2 l 0 with
  | .good [t] => if t.at_ = 0 ∧ t.fin = l.length then t.k else 0
  | _ => 0
theorem kindG_eq (l : Lx.Bs) : kindG l = (Lx.kindOf l : Nat) := by
  unfold kindG Lx.kindOf
  cases hG : Lx.G 2 l 0 with
  | bad a =>
    cases hT : Lx.T l 0 with
    | bad a => rfl
    | good ts =>
      match ts with
      | [] => rfl
      | [t] => have := (Lx.G_few 2 l 0 1 [t] rfl (by omega)).2 hT; rw [hG] at this; cases this
      | _ :: _ :: _ => rfl
  | good ts =>
    match ts with
    | [] => have := (Lx.G_few 2 l 0 0 [] rfl (by omega)).1 hG; rw [this]; rfl
    | [t] =>
      have := (Lx.G_few 2 l 0 1 [t] rfl (by omega)).1 hG; rw [this]
      simp only
      split <;> rfl
    | a :: b :: r =>
      cases hT : Lx.T l 0 with
      | bad a => rfl
      | good ts' =>
        match ts' with
        | [] => have := (Lx.G_few 2 l 0 0 [] rfl (by omega)).2 hT; rw [hG] at this; cases this
        | [t] => have := (Lx.G_few 2 l 0 1 [t] rfl (by omega)).2 hT; rw [hG] at this; cases this
        | _ :: _ :: _ => rfl

set_option maxRecDepth 100000 in
set_option maxHeartbeats 1000000 in
theorem Kind_any (text : ByteArray) (w : World) (hs : text.size ≤ 2000000) : Calls Tryz.prog 26 #[.string text] w fun e w' => e = .returned (.int .i64 (Lx.kindOf (bts text) : Nat)) ∧ Below w.heap.size w w' := by
  rw [← kindG_eq]
  go_enter Tryz.func26, Tryz.ntmps26
  go_wp2_with fail
  refine (new_any ⟨#[]⟩ w).mono ?_
  rintro e w1 ⟨rfl, hnew⟩
  have hf := first_any (new_sc hnew) text 1 hs
  have HF := Lib.hid hf
  have HBL := Lib.hid hnew.below
  clear hnew hf
  go_wp2_with fail
  refine HF.out.mono ?_
  rintro e w2 ⟨v, rfl, hown, _, hgr⟩
  have hbl : Below w.heap.size w w2 := HBL.out.grown hgr HBL.out.size (fun k hk => by simp at hk; omega)
  have HB2 := Lib.hid hbl
  clear hbl hgr
  obtain ⟨a0, cap0, rfl, hcap⟩ := owns_form hown
  cases hG : Lx.G (1 + 1) (bts text) 0 with
  | bad a =>
    have hk : (0 : Int) = kindG (bts text) := by unfold kindG; rw [hG]
    rw [hG] at hown hcap
    simp only [toks, List.length_nil] at hown hcap ⊢
    clear hown hcap hG
    have HK := Lib.hid hk
    clear hk
    go_wp2_with fail
    go_ret
    exact ⟨ret_i64 HK.out, HB2.out⟩
  | good ts =>
    rw [hG] at hown hcap
    simp only [toks] at hown hcap ⊢
    by_cases h1 : ts.length = 1
    · obtain ⟨t, rfl⟩ : ∃ t, ts = [t] := List.length_eq_one_iff.1 h1
      rcases hown.2 with ⟨_, h0⟩ | ⟨g, cap, cur, hv, hgB, hcur, hnc, hcm, hcsz, htk⟩
      · simp at h0
      have hv' : Value.slice a0 1 cap0 = .slice (some ⟨g, 0, none⟩) 1 cap := hv
      have hce : ∀ j, j < 5 → w2.cell? ⟨g, j, none⟩ = (tokC t)[j]? := by
        intro j hj
        rw [(cells_of hcur j).1, ← Array.getElem?_toList]
        have : (tokC t)[j]? = (cur.toList.take (1 * 5))[j]? := by
          have e : cur.toList.take (1 * 5) = tokC t := by have := htk; simpa [tokCs] using this
          rw [e]
        rw [this, List.getElem?_take, if_pos (by omega)]
      have e0 : w2.cell? ⟨g, 0, none⟩ = some (.int .i64 t.k) := by rw [hce 0 (by omega)]; rfl
      have e3 : w2.cell? ⟨g, 3, none⟩ = some (.int .i64 t.at_) := by rw [hce 3 (by omega)]; rfl
      have e4 : w2.cell? ⟨g, 4, none⟩ = some (.int .i64 t.fin) := by rw [hce 4 (by omega)]; rfl
      have hk : kindG (bts text) = if t.at_ = 0 ∧ t.fin = text.size then (t.k : Int) else 0 := by unfold kindG; rw [hG, bts_length]
      have HK := Lib.hid hk
      simp only [List.length_singleton] at *
      rw [hv']
      clear hown hv hv' hcur htk hce hk hG hcap hcsz hcm hgB
      by_cases z1 : t.at_ = 0
      · have z1' : ((t.at_ : Int) == 0) = true := by rw [beq_iff_eq]; omega
        by_cases z2 : t.fin = text.size
        · have z2' : ((t.fin : Int) == (text.size : Int)) = true := by rw [beq_iff_eq]; omega
          have HZ := Lib.hid (And.intro z1 z2)
          clear z1 z2
          go_wp2_with fail
          go_ret
          exact ⟨ret_i64 (by rw [HK.out, if_pos HZ.out]), HB2.out⟩
        · have z2' : ((t.fin : Int) == (text.size : Int)) = false := by rw [beq_eq_false_iff_ne]; omega
          have HZ := Lib.hid z2
          clear z1 z2
          go_wp2_with fail
          go_ret
          exact ⟨ret_i64 (by rw [HK.out, if_neg (fun h => HZ.out h.2)]), HB2.out⟩
      · have z1' : ((t.at_ : Int) == 0) = false := by rw [beq_eq_false_iff_ne]; omega
        have HZ := Lib.hid z1
        clear z1
        go_wp2_with fail
        go_ret
        exact ⟨ret_i64 (by rw [HK.out, if_neg (fun h => HZ.out h.1)]), HB2.out⟩
    · have hk : (0 : Int) = kindG (bts text) := by
        unfold kindG; rw [hG]
        match ts, h1 with
        | [], _ => rfl
        | _ :: _ :: _, _ => rfl
      have HK := Lib.hid hk
      clear hk
      have hne : ((ts.length : Int) == 1) = false := by rw [beq_eq_false_iff_ne]; omega
      clear hown hcap hG
      generalize ts.length = n at *
      go_wp2_with fail
      go_ret
      exact ⟨ret_i64 HK.out, HB2.out⟩

end Go.Proofs.YtcjdacdggklifaaGreatDoor
