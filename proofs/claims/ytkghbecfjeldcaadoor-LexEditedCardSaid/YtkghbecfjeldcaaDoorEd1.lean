/- Edits of short texts: what the law of two edits calls. -/
import Derived.Test.YtkghbecfjeldcaaDoorChg8
namespace Go.Proofs.YtkghbecfjeldcaaDoor
open Go.RowKit

theorem belowD2 {B : Nat} {w W : World} (h : Below B w W) : Below B w W.drew := ⟨h.os, h.tape, h.output, h.size, h.block⟩
theorem edited_back (a : Lx.Bs) (p c : Nat) (S : Lx.Bs) (h : p + c ≤ a.length) : edited (edited a p c S) p S.length ((a.drop p).take c) = a := by
  have h1 := edited_take a p c S h p (Nat.le_refl _)
  have h2 := edited_drop a p c S h (p + S.length) (Nat.le_refl _)
  rw [show p + S.length + c - S.length = p + c from by omega] at h2
  rw [edited, h1, h2, List.append_assoc, ← List.drop_drop, List.take_append_drop, List.take_append_drop]
theorem edited_two (a : Lx.Bs) (p c : Nat) (S : Lx.Bs) (q d : Nat) (F : Lx.Bs) (h1 : p + c ≤ q) (h2 : q + d ≤ a.length) : edited (edited a p c S) (q - c + S.length) d F = edited (edited a q d F) p c S := by
  have e1 := edited_drop a p c S (by omega) (q - c + S.length + d) (by omega)
  rw [show q - c + S.length + d + c - S.length = q + d from by omega] at e1
  have e2 := edited_take a q d F h2 p (by omega)
  have e3 : (edited a p c S).take (q - c + S.length) = a.take p ++ S ++ (a.drop (p + c)).take (q - c - p) := by
    unfold edited
    have hl : (a.take p ++ S).length = p + S.length := by simp; omega
    rw [show q - c + S.length = (a.take p ++ S).length + (q - c - p) from by omega, List.take_length_add_append]
  have e4 : (edited a q d F).drop (p + c) = (a.drop (p + c)).take (q - c - p) ++ F ++ a.drop (q + d) := by
    unfold edited
    rw [List.append_assoc, List.drop_append_of_le_length (by simp; omega), List.drop_take, List.append_assoc]
    congr 2; omega
  rw [edited, e1, e3]
  conv => rhs; rw [edited, e2, e4]
  simp only [List.append_assoc]

/-- The edit is within the text. -/
def Fit (text : ByteArray) (pe c : Int) : Prop := ∃ pn cn : Nat, pe = pn ∧ c = cn ∧ pn + cn ≤ text.size
/-- What a short text's tokens are, or that it has none. -/
def ChG (ch : ByteArray) (e : Ending) (w' : World) : Prop :=
  (∃ a, Lx.T (bts ch) 0 = .bad a ∧ e = four ch (.slice none 0 0) a 10) ∨
  (∃ l' m0 n' mcap, Lx.T (bts ch) 0 = .good l' ∧ l'.length = n' ∧ n' ≤ ch.size ∧ e = four ch (.slice m0 n' mcap) 0 0 ∧ n' ≤ mcap ∧ TokV w' m0 (l'.map rt) ∧ ∀ x, m0 = some x → x.block < w'.heap.size)

theorem owned_lt {w : World} {B n cap : Nat} {t : TypeId} {k : Nat} {xs : List Value} {a : Option Addr} (h : w.ownsRow B t k (.slice a n cap) n xs) : ∀ x, a = some x → x.block < w.heap.size := by
  intro x hx
  rcases h.2 with ⟨h1, _⟩ | ⟨g, c, cur, h1, _, h2, _⟩
  · cases h1; cases hx
  · cases h1; cases hx
    exact (Array.getElem?_eq_some_iff.1 h2).1
theorem chT_size (text : ByteArray) (pn cn : Nat) (S : ByteArray) (h : pn + cn ≤ text.size) : (chT text pn cn S).size = text.size + S.size - cn := by
  unfold chT
  rw [ofB_size, Int.toNat_natCast, Int.toNat_natCast, edited_len _ _ _ _ (by rw [bts_length]; omega), bts_length, bts_length]
theorem chT_bts (text : ByteArray) (pn cn : Nat) (S : ByteArray) : bts (chT text pn cn S) = edited (bts text) pn cn (bts S) := by
  unfold chT; rw [bts_ofB, Int.toNat_natCast, Int.toNat_natCast]
theorem below_two {a w w' : World} (h : Below a.heap.size a w) (k : Below w.heap.size w w') : Below a.heap.size a w' := below_le h k h.size
theorem bts_inj {a b : ByteArray} (h : bts a = bts b) : a = b := by rw [← ofB_bts a, ← ofB_bts b, h]

theorem change_g (text : ByteArray) (l : List Lx.Tok) (hT : Lx.T (bts text) 0 = .good l) (n : Nat) (hn : l.length = n) (hn2 : n ≤ 20000) (oa : Option Addr) (cap : Nat) (hcap : n ≤ cap) (pe c : Int) (S : ByteArray) (hs : text.size + S.size ≤ 100000) (hch : ∀ pn cn : Nat, pe = pn → c = cn → pn + cn ≤ text.size → (chT text pe c S).size ≤ 20000)
    (hpe : -9223372036854775808 ≤ pe ∧ pe ≤ 9223372036854775807) (hc : -9223372036854775808 ≤ c ∧ c ≤ 9223372036854775807) (w : World) (htok : TokV w oa (l.map rt)) (haw : ∀ x, oa = some x → x.block < w.heap.size) :
    Calls Tryd.prog 20 #[.string text, .slice oa n cap, .agg #[.int .i64 pe, .int .i64 c, .string S]] w fun e w' =>
      Below w.heap.size w w' ∧ ((¬ Fit text pe c ∧ e = four ⟨#[]⟩ (.slice none 0 0) 0 1) ∨ (Fit text pe c ∧ ChG (chT text pe c S) e w')) := by
  refine (Change_any text (l.map rt) n (by rw [List.length_map]; exact hn) hn2 oa cap hcap pe c S hs hpe hc w htok haw).mono fun e w' ⟨hb, h⟩ => ⟨hb, ?_⟩
  rcases h with ⟨h1, he⟩ | ⟨h1, v, a, er, rfl, hb2, h⟩
  · refine .inl ⟨fun ⟨pn, cn, h2, h3, h4⟩ => h1 ⟨l, pn, cn, hT, by omega, rfl, h2, h3, h4⟩, he⟩
  · obtain ⟨_, pn, cn, _, _, _, h2, h3, h4⟩ := h1
    refine .inr ⟨⟨pn, cn, h2, h3, h4⟩, ?_⟩
    have hz := hch pn cn h2 h3 h4
    generalize chT text pe c S = ch at *
    rcases h with ⟨h5, _⟩ | ⟨_, h5⟩
    · omega
    cases hT2 : Lx.T (bts ch) 0 with
    | bad x =>
      rw [hT2] at h5
      simp only [three, Ending.returned.injEq, Value.tuple.injEq, Array.mk.injEq, List.cons.injEq, and_true, Value.int.injEq, true_and] at h5
      obtain ⟨rfl, h6, h7⟩ := h5
      exact .inl ⟨x, hT2, by rw [h6, h7]⟩
    | good l' =>
      rw [hT2] at h5
      have hcn := T_count _ _ _ hT2
      rw [bts_length] at hcn
      simp only at h5
      rw [if_neg (by omega)] at h5
      obtain ⟨v', he, ho⟩ := h5
      obtain ⟨m0, mcap, rfl, hmc⟩ := owns_form ho
      simp only [three, Ending.returned.injEq, Value.tuple.injEq, Array.mk.injEq, List.cons.injEq, and_true, Value.int.injEq, true_and] at he
      obtain ⟨rfl, h6, h7⟩ := he
      exact .inr ⟨l', m0, l'.length, mcap, hT2, rfl, hcn, by rw [h6, h7], hmc, tokV_owned ho, owned_lt ho⟩

/-- The fixed part of what a short text gives. -/
theorem chG_form (ch : ByteArray) : ∃ (rs : List RT) (n p er : Nat), rs.length = n ∧ ∀ e w', ChG ch e w' → n ≤ ch.size ∧ ∃ o cap, e = four ch (.slice o n cap) p er ∧ n ≤ cap ∧ TokV w' o rs := by
  cases hT : Lx.T (bts ch) 0 with
  | bad x =>
    refine ⟨[], 0, x, 10, rfl, fun e w' h => ?_⟩
    rcases h with ⟨a, h1, rfl⟩ | ⟨l', m0, n', mcap, h1, _⟩
    · rw [hT] at h1; cases h1
      exact ⟨Nat.zero_le _, none, 0, rfl, Nat.le_refl _, fun h => absurd rfl h⟩
    · rw [hT] at h1; cases h1
  | good l =>
    refine ⟨l.map rt, l.length, 0, 0, List.length_map .., fun e w' h => ?_⟩
    rcases h with ⟨a, h1, rfl⟩ | ⟨l', m0, n', mcap, h1, h2, h3, rfl, h4, h5, _⟩
    · rw [hT] at h1; cases h1
    · rw [hT] at h1; cases h1
      subst h2
      exact ⟨h3, m0, mcap, rfl, h4, h5⟩

/-- An edit taken back. -/
theorem change_back (a : ByteArray) (l : List Lx.Tok) (hT : Lx.T (bts a) 0 = .good l) (n : Nat) (hn : l.length = n) (pn cn q : Nat) (hq : pn + cn = q) (hqa : q ≤ a.size) (S : ByteArray) (hs : a.size + S.size ≤ 20000)
    (m : List Lx.Tok) (hTm : Lx.T (bts (chT a pn cn S)) 0 = .good m) (nm : Nat) (hnm : m.length = nm) (hnm2 : nm ≤ 20000) (m0 : Option Addr) (mcap : Nat) (hmc : nm ≤ mcap) (w : World) (htm : TokV w m0 (m.map rt)) (ham : ∀ x, m0 = some x → x.block < w.heap.size) :
    Calls Tryd.prog 20 #[.string (chT a pn cn S), .slice m0 nm mcap, .agg #[.int .i64 pn, .int .i64 S.size, .string (a.extract pn q)]] w fun e w' =>
      Below w.heap.size w w' ∧ ∃ k0 kcap, e = four a (.slice k0 n kcap) 0 0 ∧ n ≤ kcap ∧ TokV w' k0 (l.map rt) := by
  have hsz := chT_size a pn cn S (by omega)
  have hez : (a.extract pn q).size = cn := by simp; omega
  have hback : chT (chT a pn cn S) pn S.size (a.extract pn q) = a := by
    apply bts_inj
    rw [chT_bts, chT_bts, bts_extract, ← hq, show pn + cn - pn = cn from by omega, ← bts_length S]
    exact edited_back _ _ _ _ (by rw [bts_length]; omega)
  refine (change_g (chT a pn cn S) m hTm nm hnm hnm2 m0 mcap hmc pn S.size (a.extract pn q) (by omega) (fun _ _ _ _ _ => by rw [hback]; omega) (by omega) (by omega) w htm ham).mono fun e w' ⟨hb, h⟩ => ⟨hb, ?_⟩
  rcases h with ⟨h1, _⟩ | ⟨_, h⟩
  · exact absurd ⟨pn, S.size, rfl, rfl, by omega⟩ h1
  · rw [hback] at h
    rcases h with ⟨x, h1, _⟩ | ⟨l', k0, n', kcap, h1, h2, h3, rfl, h4, h5, _⟩
    · rw [hT] at h1; cases h1
    · rw [hT] at h1; cases h1
      rw [hn] at h2; subst h2
      exact ⟨k0, kcap, rfl, h4, h5⟩

/-- An edit that is known to fit. -/
theorem change_fit (text : ByteArray) (l : List Lx.Tok) (hT : Lx.T (bts text) 0 = .good l) (n : Nat) (hn : l.length = n) (hn2 : n ≤ 20000) (oa : Option Addr) (cap : Nat) (hcap : n ≤ cap) (pn cn : Nat) (hpc : pn + cn ≤ text.size) (S : ByteArray) (hs : text.size ≤ 20000) (hs2 : S.size ≤ 20000) (hch : text.size + S.size - cn ≤ 20000)
    (w : World) (htok : TokV w oa (l.map rt)) (haw : ∀ x, oa = some x → x.block < w.heap.size) :
    Calls Tryd.prog 20 #[.string text, .slice oa n cap, .agg #[.int .i64 pn, .int .i64 cn, .string S]] w fun e w' => Below w.heap.size w w' ∧ ChG (chT text pn cn S) e w' :=
  (change_g text l hT n hn hn2 oa cap hcap pn cn S (by omega) (fun _ _ _ _ _ => by rw [chT_size text pn cn S hpc]; exact hch) (by omega) (by omega) w htok haw).mono fun e w' ⟨hb, h⟩ => ⟨hb, by
    rcases h with ⟨h1, _⟩ | ⟨_, h⟩
    · exact absurd ⟨pn, cn, rfl, rfl, hpc⟩ h1
    · exact h⟩
theorem two_same (a : ByteArray) (pn cn fn dn x : Nat) (S F : ByteArray) (h1 : pn + cn ≤ fn) (h2 : fn + dn ≤ a.size) (hx : x = fn - cn + S.size) : chT (chT a pn cn S) x dn F = chT (chT a fn dn F) pn cn S := by
  apply bts_inj
  subst hx
  rw [chT_bts, chT_bts, chT_bts, chT_bts, ← bts_length S]
  exact edited_two _ _ _ _ _ _ _ h1 (by rw [bts_length]; omega)
end Go.Proofs.YtkghbecfjeldcaaDoor
