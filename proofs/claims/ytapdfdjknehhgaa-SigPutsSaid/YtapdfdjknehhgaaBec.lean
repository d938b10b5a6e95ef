/- A variable becomes a tree. -/
import Derived.Test.YtapdfdjknehhgaaOc
import Derived.Test.YtapdfdjknehhgaaTx
namespace Go.Proofs.Ytapdfdjknehhgaa
open Go.RowKit Go.Tr Go.Maps

/-- What the unifier leaves as it was. -/
def NU (pu bm : Nat) (w : World) (k : Nat) : Prop := k < w.heap.size ∧ k ≠ pu ∧ k ≠ bm
theorem kpNU {pu bm : Nat} {w w' : World} (h : Below w.heap.size w w') : Kp (NU pu bm w) w w' := below_kp h (fun _ hb => hb.1)
theorem kpNU_trans {pu bm : Nat} {a b c : World} (h : Kp (NU pu bm a) a b) (k : Kp (NU pu bm b) b c) : Kp (NU pu bm a) a c :=
  h.trans (k.mono fun _ hx => ⟨Nat.lt_of_lt_of_le hx.1 h.size, hx.2⟩)
theorem uniI_put {B pu bm : Nat} {b : Bec} {c : Int} {w : World} (h : UniI B pu bm b c w) {n : Int} (hn : inI n) (hf : fndT n b = none) {t : Tm} {v : Value} (hv : TrV w (· < B) t v) :
    ∃ w', (Instr.mapUpdate 92 (.map (some bm)) (.int .i64 n) v).run Try.prog w = .ok () w' ∧ UniI B pu bm (b ++ [(n, t)]) c w' ∧ Kp (NU pu bm w) w w' := by
  obtain ⟨f, h1, h2⟩ := h.hb
  obtain ⟨w', hr, hm, hg⟩ := put_int Try.underlying92 h1 n hn v (h2.none hf)
  have hB := uniI_B h
  have := h.bb
  have hlt := h1.lt
  have hup : ∀ k, k < B → w'.heap[k]? = w.heap[k]? := fun k hk => hg.block k (by omega) (by simp; omega)
  refine ⟨w', hr, ⟨(hg.block pu (block_lt h.hu) (by simp; exact h.ne)).trans h.hu, ⟨_, hm, BRel.up hup (h2.snoc hn hv)⟩, h.bu, h.bb, h.ne⟩, ?_⟩
  exact ⟨hg.os, hg.tape, hg.output, hg.size, fun k hk => hg.block k hk.1 (by simp; exact hk.2.2)⟩
theorem uniI_drew {B pu bm : Nat} {b : Bec} {c : Int} {w : World} (h : UniI B pu bm b c w) : UniI B pu bm b c w.drew := uniI_kp (w' := w.drew) h (uniI_B h) (fun _ _ => rfl)
set_option maxRecDepth 100000 in
set_option maxHeartbeats 800000 in
theorem become_any {B pu bm : Nat} {b : Bec} {c : Int} (hb : WfB b c) (hc : c ≤ 100000) (p q : Tm) (hpn : inI p.n) (hf : fndT p.n b = none) (hq : okT q) (v : Value) (w : World) (h : UniI B pu bm b c w) (hv : TrV w (· < B) q v) :
    Calls Try.prog 97 #[.pointer (some ⟨pu, 0, none⟩), .int .i64 p.n, v] w fun e w' => e = .returned (.int .i64 (becT b c p q).2.2) ∧ UniI B pu bm (becT b c p q).1 (becT b c p q).2.1 w' ∧ Kp (NU pu bm w) w w' := by
  obtain ⟨sl, rfl, hk1, hk2, hsl⟩ := trV_iff.1 hv
  obtain ⟨oa, cap, b1, o1, rfl, hlc, hcm, -, -⟩ := trS_at hsl
  obtain ⟨ob, hob⟩ : ∃ o : Obj, o = .cells #[.int .i64 q.k, .int .i64 q.n, .slice oa q.l.length cap] 24 := ⟨_, rfl⟩
  have hB := uniI_B h
  have hal := below_alloc w ob
  have h1 := uniI_below h hB hal
  have hv1 : TrV (w.alloc ob) (· < B) q _ := trV_mono (w' := w.alloc ob) (fun _ h => h) (fun k hk => hal.block k (by have hk' : k < B := hk; omega)) q hv
  have hoc := occurs_any (fun n u hf => by obtain ⟨x, hx, rfl⟩ := fndT_mem hf; have := (hb.ok x hx).2.1; omega) (by have := hb.len; omega) p.n q (by have := hq.2.1; omega) _ (w.alloc ob) h1 hv1
  have hnew := (heap_alloc_new w ob).trans (congrArg some hob)
  have HOC := Lib.hid (And.intro hoc (And.intro h1 (And.intro hv1 (And.intro hal hnew))))
  cases ho : occB b p.n q with
  | true =>
    have e : becT b c p q = (b, c, 3) := by unfold becT; rw [if_pos ho]
    rw [e]
    have HO := Lib.hid ho
    clear ho e hoc h1 hv1 hal hnew h hv hsl hk1 hk2 hb hq hf hc
    subst hob
    go_enter Try.func97, Try.ntmps97
    go_wp2_with fail
    refine HOC.out.1.mono ?_
    rintro e w2 ⟨rfl, hb2⟩
    rw [HO.out]
    have HB := Lib.hid hb2
    clear hb2
    go_wp2_with fail
    go_ret
    exact ⟨rfl, uniI_below HOC.out.2.1 (uniI_B HOC.out.2.1) HB.out, kpNU (below_next HOC.out.2.2.2.1 HB.out)⟩
  | false =>
    have e : becT b c p q = (b ++ [(p.n, q)], c, 0) := by unfold becT; rw [if_neg (by simp [ho])]
    rw [e]
    have HO := Lib.hid (And.intro ho (And.intro hpn hf))
    clear ho e hoc h1 hv1 hal hnew h hv hsl hk1 hk2 hb hq hf hc hpn
    subst hob
    go_enter Try.func97, Try.ntmps97
    go_wp2_with fail
    refine HOC.out.1.mono ?_
    rintro e w2 ⟨rfl, hb2⟩
    rw [HO.out.1]
    have hI2 := uniI_drew (uniI_below HOC.out.2.1 (uniI_B HOC.out.2.1) hb2)
    have hv2 : TrV w2.drew (· < B) q _ := trV_mono (w' := w2.drew) (w := w.alloc _) (fun _ h => h) (fun k hk => hb2.block k (by have hk' : k < B := hk; have := uniI_B HOC.out.2.1; omega)) q HOC.out.2.2.1
    obtain ⟨w3, hrun, hI3, hk3⟩ := uniI_put hI2 HO.out.2.1 HO.out.2.2 hv2
    have z0 := (cells_of hI2.hu 0).1
    have hn2 := (hb2.block w.heap.size (by simp)).trans HOC.out.2.2.2.2
    have d0 : w2.cell? ⟨w.heap.size, 0, none⟩ = _ := (cells_of hn2 0).1
    have d1 : w2.cell? ⟨w.heap.size, 1, none⟩ = _ := (cells_of hn2 1).1
    have d2 : w2.cell? ⟨w.heap.size, 2, none⟩ = _ := (cells_of hn2 2).1
    simp only [List.getElem?_toArray, List.getElem?_cons_zero, List.getElem?_cons_succ] at z0 d0 d1 d2
    have z0' : w2.cell? ⟨pu, 0, none⟩ = some (.map (some bm)) := z0
    have HB := Lib.hid (And.intro hb2 (And.intro hI3 hk3))
    clear hb2 hI2 hv2 hI3 hk3 hn2 z0
    go_wp2_with fail
    go_region
    all_goals
      go_wp2_with fail
      go_ret
      exact ⟨rfl, HB.out.2.1, kpNU_trans (kpNU (below_next HOC.out.2.2.2.1 (bD HB.out.1))) HB.out.2.2⟩
end Go.Proofs.Ytapdfdjknehhgaa
