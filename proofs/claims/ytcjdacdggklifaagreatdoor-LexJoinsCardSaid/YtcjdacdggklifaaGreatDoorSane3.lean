/- The law's examples: what they come to. -/
import Derived.Test.YtcjdacdggklifaaGreatDoorStrip2
namespace Go.Proofs.YtcjdacdggklifaaGreatDoor
open Go.RowKit

def cutF (f : Nat) (text : ByteArray) (rs : List RT) : Option Bool := (gF f (rs.length + 1) (bts text) 0).map fun r => likes ((toks r).map rt) rs
theorem cutF_eq (f : Nat) {text : ByteArray} {rs : List RT} {b : Bool} (h : cutF f text rs = some b) : cutB text rs = b := by
  unfold cutF at h
  obtain ⟨r, hr, rfl⟩ := Option.map_eq_some_iff.1 h
  unfold cutB
  rw [gF_eq f _ _ _ _ hr]
def runF (b : Lx.Bs) : Nat → St → Option (Sum Nat St)
  | 0, _ => none
  | f + 1, st => if b.length ≤ st.at_ then some (.inr st) else match nextSt b st with
    | none => some (.inl st.at_)
    | some st' => runF b f st'
theorem runF_eq {b : Lx.Bs} {st : St} {r : Sum Nat St} (h : Runs b dNever st r) : ∀ (f : Nat) (r' : Sum Nat St), runF b f st = some r' → r = r' := by
  induction h with
  | over st h =>
    intro f r' e
    cases f with
    | zero => cases e
    | succ f => rw [runF, if_pos h] at e; exact Option.some.inj e
  | done st h hd => cases hd
  | bad st h hd hn =>
    intro f r' e
    cases f with
    | zero => cases e
    | succ f => rw [runF, if_neg (by omega), hn] at e; exact Option.some.inj e
  | step st st' r h hd hn hr ih =>
    intro f r' e
    cases f with
    | zero => cases e
    | succ f => rw [runF, if_neg (by omega), hn] at e; exact ih f r' e

theorem t2 : Lx.T [120, 39, 32, 58, 61, 32, 49, 50, 46, 46, 53, 32, 40, 42, 32, 40, 42, 32, 42, 41, 32, 42, 41, 32, 91, 62] 0 =
    .good [⟨1, 0, [120, 39], 0, 2⟩, ⟨5, 0, [58, 61], 3, 5⟩, ⟨3, 12, [], 6, 8⟩, ⟨5, 0, [46, 46], 8, 10⟩, ⟨3, 5, [], 10, 11⟩, ⟨5, 0, [91, 62], 24, 26⟩] := tF_eq 60 _ _ _ (by kernel_rfl)
theorem t3 : Lx.T [97, 124, 91, 98, 93, 124, 124, 99] 0 = .bad 6 := tF_eq 60 _ _ _ (by kernel_rfl)
theorem t4 : Lx.T [40, 42, 32, 40, 42, 32, 42, 41] 0 = .bad 0 := tF_eq 60 _ _ _ (by kernel_rfl)
theorem t5 : Lx.T [97, 32, 49, 50, 98] 0 = .bad 2 := tF_eq 60 _ _ _ (by kernel_rfl)
def kdR (len : Nat) : Lx.Res → Nat
  | .good [t] => if t.at_ = 0 ∧ t.fin = len then t.k else 0
  | _ => 0
theorem kd_of {l : Lx.Bs} {f : Nat} {r : Lx.Res} (h : tF f l 0 = some r) : Lx.kindOf l = kdR l.length r := by
  unfold Lx.kindOf; rw [tF_eq f _ _ _ h]; unfold kdR; rfl
theorem k1 : Lx.kindOf [91, 93] = 5 := kd_of (f := 20) (r := .good [⟨5, 0, [91, 93], 0, 2⟩]) (by kernel_rfl)
theorem k2 : Lx.kindOf [61, 61, 62] = 4 := kd_of (f := 20) (r := .good [⟨4, 0, [61, 61, 62], 0, 3⟩]) (by kernel_rfl)
theorem k3 : Lx.kindOf [101, 120, 105, 116] = 2 := kd_of (f := 20) (r := .good [⟨2, 0, [101, 120, 105, 116], 0, 4⟩]) (by kernel_rfl)
theorem k4 : Lx.kindOf [97, 32, 98] = 0 := kd_of (f := 20) (r := .good [⟨1, 0, [97], 0, 1⟩, ⟨1, 0, [98], 2, 3⟩]) (by kernel_rfl)

def jr : List RT := [⟨1, 0, ⟨#[97]⟩, 0, 0⟩, ⟨1, 0, ⟨#[98]⟩, 0, 0⟩, ⟨5, 0, ⟨#[91]⟩, 0, 0⟩, ⟨5, 0, ⟨#[93]⟩, 0, 0⟩, ⟨5, 0, ⟨#[40]⟩, 0, 0⟩, ⟨4, 0, ⟨#[42]⟩, 0, 0⟩, ⟨5, 0, ⟨#[61]⟩, 0, 0⟩]
theorem jr_small : ∀ t ∈ jr, t.small ∧ t.s.size ≤ 1000000 := by
  intro t ht
  simp only [jr, List.mem_cons, List.not_mem_nil, or_false] at ht
  rcases ht with rfl | rfl | rfl | rfl | rfl | rfl | rfl <;> exact ⟨fun h => by simp at h, by decide⟩
theorem jr_right : jr.all rightB = true := by
  rw [List.all_eq_true]
  intro t ht
  simp only [jr, List.mem_cons, List.not_mem_nil, or_false] at ht
  rcases ht with rfl | rfl | rfl | rfl | rfl | rfl | rfl <;> exact cutF_eq 20 (by kernel_rfl)
theorem jr_text : joinT jr = [97, 32, 98, 91, 32, 93, 40, 32, 42, 32, 61] := by
  have a1 : apartB ⟨1, 0, ⟨#[97]⟩, 0, 0⟩ ⟨1, 0, ⟨#[98]⟩, 0, 0⟩ = false := cutF_eq 20 (by kernel_rfl)
  have a2 : apartB ⟨1, 0, ⟨#[98]⟩, 0, 0⟩ ⟨5, 0, ⟨#[91]⟩, 0, 0⟩ = true := cutF_eq 20 (by kernel_rfl)
  have a3 : apartB ⟨5, 0, ⟨#[91]⟩, 0, 0⟩ ⟨5, 0, ⟨#[93]⟩, 0, 0⟩ = false := cutF_eq 20 (by kernel_rfl)
  have a4 : apartB ⟨5, 0, ⟨#[93]⟩, 0, 0⟩ ⟨5, 0, ⟨#[40]⟩, 0, 0⟩ = true := cutF_eq 20 (by kernel_rfl)
  have a5 : apartB ⟨5, 0, ⟨#[40]⟩, 0, 0⟩ ⟨4, 0, ⟨#[42]⟩, 0, 0⟩ = false := cutF_eq 20 (by kernel_rfl)
  have a6 : apartB ⟨4, 0, ⟨#[42]⟩, 0, 0⟩ ⟨5, 0, ⟨#[61]⟩, 0, 0⟩ = false := cutF_eq 20 (by kernel_rfl)
  simp only [jr, joinT, joinF, sp, a1, a2, a3, a4, a5, a6]
  rfl
theorem jr_join : joinR jr = .returned (.tuple #[.string ⟨#[97, 32, 98, 91, 32, 93, 40, 32, 42, 32, 61]⟩, .int .i64 0]) := by
  rw [joinR, if_pos jr_right, jr_text, if_neg (by decide)]; rfl
theorem strip_sane {e : Ending} (h : StripR ⟨#[97, 40, 42, 98, 42, 41, 99]⟩ e) : e = tup2 ⟨#[97, 32, 32, 32, 32, 32, 99]⟩ 0 := by
  have hx : runF (bts ⟨#[97, 40, 42, 98, 42, 41, 99]⟩) 20 ⟨0, [], []⟩ = some (.inr ⟨7, [⟨1, 0, [97], 0, 1⟩, ⟨1, 0, [99], 6, 7⟩], [(1, 6)]⟩) := by kernel_rfl
  rcases h with ⟨h, _⟩ | ⟨_, r, hr, h⟩
  · exact absurd h (by decide)
  · have := runF_eq hr 20 _ hx
    subst this
    rcases h with ⟨a, h, _⟩ | ⟨st, h, h2⟩
    · cases h
    · cases h
      rcases h2 with ⟨h, _⟩ | ⟨_, rfl⟩
      · exact absurd h (by decide)
      · have hb : blot [(1, 6)] (bts ⟨#[97, 40, 42, 98, 42, 41, 99]⟩) = [97, 32, 32, 32, 32, 32, 99] := by kernel_rfl
        rw [hb]; rfl

/-- 'has', over two rows that were just laid. -/
theorem has_b (text : ByteArray) (ts : List Lx.Tok) (ws : List ByteArray) (n g1 g2 : Nat) (t1 t2 : TypeId) (w : World) (hs : text.size ≤ 100000) (hT : Lx.T (bts text) 0 = .good ts) (hn : ts.length = n) (hn0 : n ≠ 0) (hn2 : n ≤ 20000)
    (hsm : ∀ t ∈ ts, (rt t).small) (hws : ts.map (fun t => (rt t).text) = ws)
    (hb1 : w.heap[g1]? = some (.cells (ws.map Value.string).toArray t1)) (hb2 : w.heap[g2]? = some (.cells (ts.map fun t => Value.int .i64 t.at_).toArray t2)) :
    Calls Tryz.prog 25 #[.string text, .slice (some ⟨g1, 0, none⟩) n n, .slice (some ⟨g2, 0, none⟩) n n] w fun e w' => e = .returned (.bool true) ∧ Below w.heap.size w w' := by
  subst hws
  refine has_any text ts (ts.map fun t => (rt t).text) n g1 g2 w hs hT hn hn0 hn2 (by rw [List.length_map]; exact hn) hsm (fun i h h' => by rw [List.getElem_map]) (fun i h => ?_) (fun i h => ?_) (Array.getElem?_eq_some_iff.1 hb1).1 (Array.getElem?_eq_some_iff.1 hb2).1
  · rw [(cells_of hb1 i).1, List.getElem?_toArray, List.getElem?_map, List.getElem?_eq_getElem h]; rfl
  · rw [(cells_of hb2 i).1, List.getElem?_toArray, List.getElem?_map, List.getElem?_eq_getElem h]; rfl
end Go.Proofs.YtcjdacdggklifaaGreatDoor
