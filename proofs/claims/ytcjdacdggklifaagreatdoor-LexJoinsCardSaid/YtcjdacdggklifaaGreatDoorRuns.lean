/- What the scanner's loop comes to, in the words of the cutting of texts. -/
import Derived.Test.YtcjdacdggklifaaGreatDoorFirst
namespace Go.Proofs.YtcjdacdggklifaaGreatDoor
open Go.RowKit

theorem T_blank_run (l : Lx.Bs) : ∀ a, Lx.T l a = Lx.T (l.drop (Lx.run Lx.blank l)) (a + Lx.run Lx.blank l) := by
  induction l with
  | nil => intro a; simp [Lx.run]
  | cons c r ih =>
    intro a
    rw [Lx.run_cons]
    split
    · rename_i hb
      have hs : Lx.step (c :: r) = .fill 1 := by unfold Lx.step; rw [Lx.kd_blank hb]
      rw [Lx.T_fill hs, List.drop_succ_cons, List.drop_zero, ih, List.drop_succ_cons]; congr 1; omega
    · simp
theorem G_blank_run (j : Nat) (l : Lx.Bs) : ∀ a, Lx.G j l a = Lx.G j (l.drop (Lx.run Lx.blank l)) (a + Lx.run Lx.blank l) := by
  induction l with
  | nil => intro a; simp [Lx.run]
  | cons c r ih =>
    intro a
    rw [Lx.run_cons]
    split
    · rename_i hb
      have hs : Lx.step (c :: r) = .fill 1 := by unfold Lx.step; rw [Lx.kd_blank hb]
      rw [Lx.G_fill hs, List.drop_succ_cons, List.drop_zero, ih, List.drop_succ_cons]; congr 1; omega
    · simp

/-- One step of a state, and the tokens. -/
theorem next_some {b : Lx.Bs} {st st' : St} (h : nextSt b st = some st') :
    ∃ new, st'.ts = st.ts ++ new ∧ new.length ≤ 1 ∧ Lx.T (b.drop st.at_) st.at_ = (Lx.T (b.drop st'.at_) st'.at_).pre new ∧
      ∀ j, Lx.G (j + 1) (b.drop st.at_) st.at_ = (Lx.G (j + 1 - new.length) (b.drop st'.at_) st'.at_).pre new := by
  have tk : ∀ {x : Lx.Step}, Lx.step (b.drop st.at_) = x → stTok st x = some st' → ∃ new, st'.ts = st.ts ++ new ∧ new.length ≤ 1 ∧ Lx.T (b.drop st.at_) st.at_ = (Lx.T (b.drop st'.at_) st'.at_).pre new ∧
      ∀ j, Lx.G (j + 1) (b.drop st.at_) st.at_ = (Lx.G (j + 1 - new.length) (b.drop st'.at_) st'.at_).pre new := by
    intro x hx ht
    cases x with
    | bad => cases ht
    | fill n => cases ht
    | tok k n s len =>
      simp only [stTok, Option.some.injEq] at ht
      subst ht
      exact ⟨[⟨k, n, s, st.at_, st.at_ + len⟩], rfl, Nat.le_refl _, by rw [Lx.T_tok hx, List.drop_drop], fun j => by rw [Lx.G_tok hx, List.drop_drop]; rfl⟩
  unfold nextSt at h
  cases hk : Lx.kd (b.drop st.at_) with
  | blank =>
    rw [hk] at h; simp only [Option.some.injEq] at h
    subst h
    exact ⟨[], by simp, by simp, by rw [Lx.Res.pre_nil, T_blank_run, List.drop_drop], fun j => by rw [Lx.Res.pre_nil, G_blank_run, List.drop_drop]; rfl⟩
  | comm =>
    rw [hk] at h; simp only at h
    cases hm : Lx.comm 0 (b.drop st.at_) with
    | none => rw [hm] at h; cases h
    | some n =>
      rw [hm] at h; simp only [Option.map_some, Option.some.injEq] at h
      have hs : Lx.step (b.drop st.at_) = .fill n := Lx.step_fill_iff.2 (.inr ⟨hk, hm⟩)
      subst h
      exact ⟨[], by simp, by simp, by rw [Lx.Res.pre_nil, Lx.T_fill hs, List.drop_drop], fun j => by rw [Lx.Res.pre_nil, Lx.G_fill hs, List.drop_drop]; rfl⟩
  | letter => rw [hk] at h; exact tk rfl h
  | digit => rw [hk] at h; exact tk rfl h
  | symb => rw [hk] at h; exact tk rfl h
  | other => rw [hk] at h; exact tk rfl h
theorem next_none {b : Lx.Bs} {st : St} (hlt : st.at_ < b.length) (h : nextSt b st = none) :
    Lx.T (b.drop st.at_) st.at_ = .bad st.at_ ∧ ∀ j, Lx.G (j + 1) (b.drop st.at_) st.at_ = .bad st.at_ := by
  have hne : b.drop st.at_ ≠ [] := by intro e; have := congrArg List.length e; rw [List.length_drop] at this; simp at this; omega
  have tk : Lx.kd (b.drop st.at_) ≠ .blank → Lx.kd (b.drop st.at_) ≠ .comm → stTok st (Lx.step (b.drop st.at_)) = none → Lx.step (b.drop st.at_) = .bad := by
    intro h1 h2 ht
    cases hx : Lx.step (b.drop st.at_) with
    | bad => rfl
    | fill n => exact absurd hx (step_not_fill h1 h2 n)
    | tok k n s len => rw [hx] at ht; cases ht
  have hb : Lx.step (b.drop st.at_) = .bad := by
    unfold nextSt at h
    cases hk : Lx.kd (b.drop st.at_) with
    | blank => rw [hk] at h; cases h
    | comm =>
      rw [hk] at h; simp only at h
      cases hm : Lx.comm 0 (b.drop st.at_) with
      | none => unfold Lx.step; rw [hk]; simp only [hm]
      | some n => rw [hm] at h; cases h
    | letter => rw [hk] at h; exact tk (by rw [hk]; decide) (by rw [hk]; decide) h
    | digit => rw [hk] at h; exact tk (by rw [hk]; decide) (by rw [hk]; decide) h
    | symb => rw [hk] at h; exact tk (by rw [hk]; decide) (by rw [hk]; decide) h
    | other => rw [hk] at h; exact tk (by rw [hk]; decide) (by rw [hk]; decide) h
  exact ⟨Lx.T_bad hne hb, fun j => Lx.G_bad hne hb⟩

/-- The result, of the tokens that were there, and those that come. -/
def Comes (ts : List Lx.Tok) (x : Lx.Res) : Sum Nat St → Prop
  | .inl a => x = .bad a
  | .inr st => ∃ new, x = .good new ∧ st.ts = ts ++ new

theorem runs_never {b : Lx.Bs} {st : St} {r : Sum Nat St} (h : Runs b dNever st r) : Comes st.ts (Lx.T (b.drop st.at_) st.at_) r := by
  induction h with
  | over st h => exact ⟨[], by rw [List.drop_eq_nil_of_le h, Lx.T_nil], by simp⟩
  | done st h hd => cases hd
  | bad st h hd hn => exact (next_none h hn).1
  | step st st' r h hd hn hr ih =>
    obtain ⟨new, h1, _, h2, _⟩ := next_some hn
    cases r with
    | inl a => show _ = _; rw [h2, Lx.Res.pre_bad]; exact ih
    | inr s =>
      obtain ⟨new', h3, h4⟩ := ih
      exact ⟨new ++ new', by rw [h2, h3]; rfl, by rw [h4, h1, List.append_assoc]⟩

theorem runs_most {b : Lx.Bs} {m : Nat} {st : St} {r : Sum Nat St} (h : Runs b (dMost m) st r) (hm : st.ts.length ≤ m + 1) : Comes st.ts (Lx.G (m + 1 - st.ts.length) (b.drop st.at_) st.at_) r := by
  induction h with
  | over st h => exact ⟨[], by rw [List.drop_eq_nil_of_le h, Lx.G_nil], by simp⟩
  | done st h hd =>
    have : m < st.ts.length := by simpa [dMost] using hd
    exact ⟨[], by rw [show m + 1 - st.ts.length = 0 from by omega, Lx.G_zero], by simp [dMost]⟩
  | bad st h hd hn =>
    have : ¬ m < st.ts.length := by simpa [dMost] using hd
    obtain ⟨j, hj⟩ : ∃ j, m + 1 - st.ts.length = j + 1 := ⟨m - st.ts.length, by omega⟩
    rw [hj]; exact (next_none h hn).2 j
  | step st st' r h hd hn hr ih =>
    have : ¬ m < st.ts.length := by simpa [dMost] using hd
    obtain ⟨j, hj⟩ : ∃ j, m + 1 - st.ts.length = j + 1 := ⟨m - st.ts.length, by omega⟩
    obtain ⟨new, h1, h0, _, h2⟩ := next_some hn
    have hl : st'.ts.length = st.ts.length + new.length := by rw [h1, List.length_append]
    have ih := ih (by omega)
    rw [hj, h2 j]
    rw [show m + 1 - st'.ts.length = j + 1 - new.length from by omega] at ih
    cases r with
    | inl a => show _ = _; rw [Lx.Res.pre_bad]; exact ih
    | inr s =>
      obtain ⟨new', h3, h4⟩ := ih
      exact ⟨new ++ new', by rw [h3]; rfl, by rw [h4, h1, List.append_assoc]⟩

/-- The tokens of a result; none, if it is wrong. -/
def toks : Lx.Res → List Lx.Tok
  | .good l => l
  | .bad _ => []

section
variable {B p sg fm sm : Nat} {text : ByteArray} {st : St} {tv cv : Value} {w : World}
set_option maxRecDepth 100000 in
set_option maxHeartbeats 1000000 in
theorem first_any (h : Sc B p sg fm sm text st tv cv w) (text' : ByteArray) (m : Nat) (hs : text'.size ≤ 2000000) :
    Calls Tryz.prog 54 #[.pointer (some ⟨p, 0, none⟩), .string text', .int .i64 m] w fun e w' =>
      ∃ v, e = .returned v ∧ w'.ownsRow B 35 5 v (toks (Lx.G (m + 1) (bts text') 0)).length (tokCs (toks (Lx.G (m + 1) (bts text') 0))) ∧
        (∃ st' tv' cv', Sc B p sg fm sm text' st' tv' cv' w') ∧ w.grownBy w' (some p) := by
  have hmf : ∀ (fn : Fn) (first cap : Array Value) (w : World), (Instr.makeFunc fn first cap).run Tryz.prog w = .ok (.func fn first cap) w := fun _ _ _ _ => rfl
  have hpw := h.pw
  have H := Lib.hid h
  clear h
  go_enter Tryz.func54, Tryz.ntmps54
  go_wp2_with fail
  have hS1 := H.out.allocD (w1 := w.alloc (.cells #[.pointer (some ⟨p, 0, none⟩)] 57)) _ rfl rfl rfl rfl
  have hS2 := hS1.1.allocD (w1 := (w.alloc (.cells #[.pointer (some ⟨p, 0, none⟩)] 57)).alloc (.cells #[.int .i64 m] 3)) _ rfl rfl rfl rfl
  have hg0 : w.grownBy ((w.alloc (.cells #[.pointer (some ⟨p, 0, none⟩)] 57)).alloc (.cells #[.int .i64 m] 3)) (some p) :=
    grown_trans (World.grownBy_alloc w _ _) (World.grownBy_alloc _ _ _)
  have hb1 : ((w.alloc (.cells #[.pointer (some ⟨p, 0, none⟩)] 57)).alloc (.cells #[.int .i64 m] 3)).heap[w.heap.size]? = some (.cells #[.pointer (some ⟨p, 0, none⟩)] 57) := by
    rw [alloc_miss _ _ _ (by simp), alloc_hit _ _ _ rfl]
  have hb2 : ((w.alloc (.cells #[.pointer (some ⟨p, 0, none⟩)] 57)).alloc (.cells #[.int .i64 m] 3)).heap[w.heap.size + 1]? = some (.cells #[.int .i64 m] 3) := by
    rw [alloc_hit _ _ _ (by simp)]
  have hz : ((w.alloc (.cells #[.pointer (some ⟨p, 0, none⟩)] 57)).alloc (.cells #[.int .i64 m] 3)).heap.size = w.heap.size + 2 := by simp
  have HS := Lib.hid hS2.1
  clear hS1 hS2
  generalize (w.alloc (.cells #[.pointer (some ⟨p, 0, none⟩)] 57)).alloc (.cells #[.int .i64 m] 3) = Wb at *
  have HG0 := Lib.hid hg0
  have HB := Lib.hid (And.intro hb1 (And.intro hb2 hz))
  clear hg0 hb1 hb2 hz
  refine (restart_any HS.out text').mono ?_
  rintro e w1 ⟨rfl, hsc1, hg1⟩
  have hk1 : ∀ b, w.heap.size ≤ b → b < w.heap.size + 2 → w1.heap[b]? = Wb.heap[b]? := fun b h1 h2 => hg1.block b (by rw [HB.out.2.2]; exact h2) (by simp; omega)
  have d1 : w1.heap[w.heap.size]? = some (.cells #[.pointer (some ⟨p, 0, none⟩)] 57) := (hk1 _ (by omega) (by omega)).trans HB.out.1
  have d2 : w1.heap[w.heap.size + 1]? = some (.cells #[.int .i64 m] 3) := (hk1 _ (by omega) (by omega)).trans HB.out.2.1
  have c1 : w1.cell? ⟨w.heap.size, 0, none⟩ = some (.pointer (some ⟨p, 0, none⟩)) := by rw [(cells_of d1 0).1]; rfl
  have hasks : Asks B p sg fm sm text' (dMost m) 86 #[.pointer (some ⟨w.heap.size, 0, none⟩), .pointer (some ⟨w.heap.size + 1, 0, none⟩)] (.slice none 0 0) (.slice none 0 0) w1 := by
    refine ⟨fun _ _ => by go_simp, fun st tv cv W hs hm hgd hlt => ?_⟩
    have hg := moved_grown hm
    have hz1 : w.heap.size + 2 ≤ w1.heap.size := by have := hg1.size; rw [HB.out.2.2] at this; exact this
    have e1 : W.cell? ⟨w.heap.size, 0, none⟩ = some (.pointer (some ⟨p, 0, none⟩)) := by
      rw [World.cell?_of_block (w := w1) (hg.block w.heap.size (by omega) (by simp; omega)), (cells_of d1 0).1]; rfl
    have e2 : W.cell? ⟨w.heap.size + 1, 0, none⟩ = some (.int .i64 m) := by
      rw [World.cell?_of_block (w := w1) (hg.block (w.heap.size + 1) (by omega) (by simp; omega)), (cells_of d2 0).1]; rfl
    refine (first1_any hs _ _ m e1 e2).mono fun e w' ⟨he, n, hw⟩ => ⟨he, tv, cv, hw ▸ hs.drewN n, hw ▸ Moved.drewN n⟩
  have hscan := scan_any hsc1 hs ⟨Nat.zero_le _, Nat.le_refl _, Nat.le_refl _⟩ (dMost m) (fun _ _ => rfl) _ _ hasks
  have HSCAN := Lib.hid hscan
  have HG1 := Lib.hid hg1
  have HD1 := Lib.hid (And.intro d1 (Nat.le_trans (by rw [HB.out.2.2]; exact Nat.le_refl _ : w.heap.size + 2 ≤ Wb.heap.size) hg1.size))
  clear hsc1 hg1 hk1 d1 d2 hasks hscan
  go_wp2_with fail
  refine HSCAN.out.mono ?_
  rintro e w2 ⟨r, hr, st2, tv2, cv2, hsc2, hmv2, he⟩
  have hcm := runs_most hr (by simp)
  have hg2 := moved_grown hmv2
  have c1' : w2.cell? ⟨w.heap.size, 0, none⟩ = some (.pointer (some ⟨p, 0, none⟩)) := by
    rw [World.cell?_of_block (w := w1) (hg2.block w.heap.size (by have := HD1.out.2; omega) (by simp; omega)), (cells_of HD1.out.1 0).1]; rfl
  have hgg := grown_trans HG0.out (grown_trans HG1.out hg2)
  have hp2 := hsc2.c2
  have HE := Lib.hid (And.intro hcm (And.intro hgg hsc2))
  clear hcm hgg hsc2 hmv2 hg2 hr c1
  cases r with
  | inl a =>
    obtain rfl := he
    go_wp2_with fail
    go_ret
    have hx : Lx.G (m + 1) (bts text') 0 = .bad a := HE.out.1
    rw [hx]
    exact ⟨_, rfl, World.ownsRow_nil _ _ _ _, ⟨st2, tv2, cv2, HE.out.2.2⟩, HE.out.2.1⟩
  | inr s2 =>
    obtain ⟨rfl, rfl⟩ := he
    go_wp2_with fail
    go_ret
    obtain ⟨new, hx, hy⟩ := HE.out.1
    have hx : Lx.G (m + 1) (bts text') 0 = .good new := hx
    rw [hx]
    have ho := HE.out.2.2.toks
    rw [hy] at ho
    exact ⟨_, rfl, ho, ⟨st2, tv2, cv2, HE.out.2.2⟩, HE.out.2.1⟩
end
end Go.Proofs.YtcjdacdggklifaaGreatDoor
