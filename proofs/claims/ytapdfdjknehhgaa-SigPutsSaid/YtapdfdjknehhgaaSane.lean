/- The law's examples: the walk, out of its regions. (Made by tools/gensane_parts.py.) -/
import Derived.Test.YtapdfdjknehhgaaSr1
import Derived.Test.YtapdfdjknehhgaaSr2
import Derived.Test.YtapdfdjknehhgaaSr3
import Derived.Test.YtapdfdjknehhgaaSr4
import Derived.Test.YtapdfdjknehhgaaSr5
import Derived.Test.YtapdfdjknehhgaaSr6
import Derived.Test.YtapdfdjknehhgaaSr7
namespace Go.Proofs.Ytapdfdjknehhgaa
open Go.RowKit Go.Tr

set_option maxRecDepth 100000 in
set_option maxHeartbeats 40000000 in
theorem sane_any (w : World) : Calls Try.prog 13 #[] w fun e w' => e = .returned (.bool true) ∧ Below w.heap.size w w' := by
  go_enter Try.func13, Try.ntmps13
  go_wp2_with fail
  refine (numbers_any _).mono ?_
  rintro e w1 ⟨hb1, ba, bb, rfl, hsg⟩
  have HS1 := Lib.hid (And.intro hb1 hsg)
  clear hb1 hsg
  go_upto_region 3 with (first | (go_at_call 31; refine (lvariable_any _ _).mono ?_; rintro e w2 ⟨rfl, rfl⟩) | (go_at_call 46; refine (op_any _ _ _ _ _).mono ?_; rintro e w2 ⟨rfl, rfl⟩))
  generalize hW : ((((((w1.alloc _).alloc _).alloc _).alloc _).alloc _).alloc _).alloc _ = w0
  have hbw : Below w.heap.size w w0 := by rw [← hW]; exact below_next HS1.out.1 (bA (bA (bA (bA (bA (bA (bA (bZ w1) _) _) _) _) _) _) _)
  have hsg : SgV w0 (· < w0.heap.size) numS (.agg #[.slice (some ⟨ba, 0, none⟩) 2 2, .slice (some ⟨bb, 0, none⟩) 4 4]) := by rw [← hW]; exact sgV_up (bA (bA (bA (bA (bA (bA (bA (bZ w1) _) _) _) _) _) _) _) HS1.out.2
  have h0 : Has w0 w1.heap.size (.cells #[.slice (some ⟨ba, 0, none⟩) 2 2, .slice (some ⟨bb, 0, none⟩) 4 4] 56) := by rw [← hW]; show _ = _; (simp only [heap_alloc, alloc_size]; repeat (first | rw [if_pos trivial] | rw [if_pos (by omega)] | rw [if_neg (by omega)]))
  have h1 : Has w0 (w1.heap.size + 1 + 1 + 1 + 1) (.cells #[.int .i64 1, .int .i64 0, .slice none 0 0] 24) := by rw [← hW]; show _ = _; (simp only [heap_alloc, alloc_size]; repeat (first | rw [if_pos trivial] | rw [if_pos (by omega)] | rw [if_neg (by omega)]))
  have h2 : Has w0 (w1.heap.size + 1 + 1 + 1 + 1 + 1) (.cells #[.int .i64 1, .int .i64 1, .slice none 0 0] 24) := by rw [← hW]; show _ = _; (simp only [heap_alloc, alloc_size]; repeat (first | rw [if_pos trivial] | rw [if_pos (by omega)] | rw [if_neg (by omega)]))
  have h3 : Has w0 (w1.heap.size + 1 + 1 + 1 + 1 + 1 + 1) (.cells #[.int .i64 2, .int .i64 0, .slice none 0 0] 24) := by rw [← hW]; show _ = _; (simp only [heap_alloc, alloc_size]; repeat (first | rw [if_pos trivial] | rw [if_pos (by omega)] | rw [if_neg (by omega)]))
  clear hW
  generalize w1.heap.size + 1 + 1 + 1 + 1 + 1 + 1 = pz at *
  generalize w1.heap.size + 1 + 1 + 1 + 1 + 1 = py at *
  generalize w1.heap.size + 1 + 1 + 1 + 1 = px at *
  generalize w1.heap.size = ps at *
  have hS : ∀ W, Below w0.heap.size w0 W → Loc ps px py pz ba bb W := by
    intro W hW
    have r0 := has_call hW h0
    have r1 := has_call hW h1
    have r2 := has_call hW h2
    have r3 := has_call hW h3
    exact ⟨(cells_of r0 0).1, (cells_of r0 1).1, (cells_of r1 0).1, (cells_of r1 1).1, (cells_of r1 2).1, (cells_of r2 0).1, (cells_of r2 1).1, (cells_of r2 2).1, (cells_of r3 0).1, (cells_of r3 1).1, (cells_of r3 2).1⟩
  have HS0 := Lib.hid (And.intro hbw hsg)
  have HS := Lib.hid hS
  clear hbw hsg h0 h1 h2 h3 hS HS1
  go_cut [5, 6] from 24 to 35 (fun a b wx => a = .int .i64 0 ∧ b = .int .i64 0 ∧ Hid (Below w0.heap.size w0 wx))
  case first => exact sane_r3 HS0 HS (by assumption) (by assumption)
  case rest =>
    obtain ⟨rfl, rfl, HB3⟩ := hcut
    obtain ⟨v3, hv3⟩ : ∃ v, v = wc := ⟨_, rfl⟩
    subst hv3
    have hb3 := HB3.out
    go_upto_region 4 with fail
    go_cut [7, 8] from 36 to 45 (fun a b wx => a = .int .i64 0 ∧ b = .int .i64 4 ∧ Hid (Below w0.heap.size w0 wx))
    case first => exact sane_r4 HS0 HS HB3 hb3 (by assumption) (by assumption)
    case rest =>
      obtain ⟨rfl, rfl, HB4⟩ := hcut
      obtain ⟨v4, hv4⟩ : ∃ v, v = wc := ⟨_, rfl⟩
      subst hv4
      have hb4 := HB4.out
      go_upto_region 5 with fail
      go_cut [9, 10] from 46 to 59 (fun a b wx => ∃ oa ca, a = .slice oa 1 ca ∧ b = .int .i64 0 ∧ Hid (Below w0.heap.size w0 wx ∧ IntS wx (· < wx.heap.size) [0] (.slice oa 1 ca)))
      case first => exact sane_r5 HS0 HS HB3 hb3 HB4 hb4 (by assumption) (by assumption)
      case rest =>
        obtain ⟨o5, c5, rfl, rfl, HB5⟩ := hcut
        obtain ⟨v5, hv5⟩ : ∃ v, v = wc := ⟨_, rfl⟩
        subst hv5
        have hb5 := HB5.out.1
        obtain ⟨s0, s1, s2, s3, s4, s5, s6, s7, s8, s9, s10⟩ := HS.out v5 hb5
        go_upto_region 8 with (first
    | (go_at_call 21; refine (ints_c [0] _ _ _ ?_ ?_).mono ?_; (focus (exact intS_up (show Below v5.heap.size v5 _ from by (repeat (first | with_reducible assumption | with_reducible exact bZ _ | with_reducible apply bA | with_reducible apply bD))) HB5.out.2)); (focus (exact (iN1 (by (repeat (first | (with_reducible refine has_new ?_; first | with_reducible rfl | (simp; done)) | with_reducible refine has_drew ?_ | with_reducible refine has_old ?_)))))); rintro e w61 ⟨rfl, hb61⟩; have hc61 := below_next (show Below w0.heap.size w0 _ from by (repeat (first | with_reducible assumption | with_reducible exact bZ _ | with_reducible apply bA | with_reducible apply bD))) hb61; clear hb61; obtain ⟨q0, q1, q2, q3, q4, q5, q6, q7, q8, q9, q10⟩ := HS.out _ hc61)
    | (go_at_call 47; refine (find_c _ _ ?_).mono ?_; (focus (exact sgV_up (show Below w0.heap.size w0 _ from by (repeat (first | with_reducible assumption | with_reducible exact bZ _ | with_reducible apply bA | with_reducible apply bD))) HS0.out.2)); rintro e w62 ⟨of, cf, rfl, hif, hb62⟩; have hc62 := below_next (show Below w0.heap.size w0 _ from by (repeat (first | with_reducible assumption | with_reducible exact bZ _ | with_reducible apply bA | with_reducible apply bD))) hb62; clear hb62; obtain ⟨q0, q1, q2, q3, q4, q5, q6, q7, q8, q9, q10⟩ := HS.out _ hc62)
    | (go_at_call 21; refine (ints_c [2] _ _ _ ?_ ?_).mono ?_; (focus (exact intS_up (show Below w62.heap.size w62 _ from by (repeat (first | with_reducible assumption | with_reducible exact bZ _ | with_reducible apply bA | with_reducible apply bD))) hif)); (focus (exact (iN1 (by (repeat (first | (with_reducible refine has_new ?_; first | with_reducible rfl | (simp; done)) | with_reducible refine has_drew ?_ | with_reducible refine has_old ?_)))))); rintro e w63 ⟨rfl, hb63⟩; have hc63 := below_next (show Below w0.heap.size w0 _ from by (repeat (first | with_reducible assumption | with_reducible exact bZ _ | with_reducible apply bA | with_reducible apply bD))) hb63; clear hb63; obtain ⟨q0, q1, q2, q3, q4, q5, q6, q7, q8, q9, q10⟩ := HS.out _ hc63)
    | (go_at_call 48; refine (check_c _ _ ?_).mono ?_; (focus (exact sgV_up (show Below w0.heap.size w0 _ from by (repeat (first | with_reducible assumption | with_reducible exact bZ _ | with_reducible apply bA | with_reducible apply bD))) HS0.out.2)); rintro e w64 ⟨rfl, hb64⟩; have hc64 := below_next (show Below w0.heap.size w0 _ from by (repeat (first | with_reducible assumption | with_reducible exact bZ _ | with_reducible apply bA | with_reducible apply bD))) hb64; clear hb64))
        go_cut [113] from 92 to 112 (fun a wx => a = .bool false ∧ Hid (Below w0.heap.size w0 wx))
        case first => exact sane_r8 HS0 HS HB3 hb3 HB4 hb4 HB5 hb5 hc61 hc62 hc63 hc64 (by assumption) (by assumption)
        case rest =>
          obtain ⟨rfl, HB8⟩ := hcut
          obtain ⟨v8, hv8⟩ : ∃ v, v = wc := ⟨_, rfl⟩
          subst hv8
          have hb8 := HB8.out
          go_upto_region 10 with fail
          go_cut [11, 6] from 114 to 123 (fun a b wx => ∃ bp cp op cq, a = .slice (some ⟨bp, 0, none⟩) 4 cp ∧ b = .int .i64 0 ∧ Hid (Below w0.heap.size w0 wx ∧ bp < wx.heap.size ∧ wx.cell? ⟨bp, 3, none⟩ = some (.slice op 2 cq) ∧ IntS wx (· < wx.heap.size) [1, 0] (.slice op 2 cq)))
          case first => exact sane_r10 HS0 HS HB3 hb3 HB4 hb4 HB5 hb5 hc61 hc62 hc63 hc64 HB8 hb8 (by assumption) (by assumption)
          case rest =>
            obtain ⟨bp, cp, op, cq, rfl, rfl, HB10⟩ := hcut
            obtain ⟨v10, hv10⟩ : ∃ v, v = wc := ⟨_, rfl⟩
            subst hv10
            have hb10 := HB10.out.1
            have hz10 := hb10.size
            go_upto_region 11 with fail
            go_cut [12, 8] from 124 to 136 (fun a b wx => ∃ pt ot ct, a = .pointer (some ⟨pt, 0, none⟩) ∧ b = .int .i64 0 ∧ Hid (Below v10.heap.size v10 wx ∧ v10.heap.size ≤ pt ∧ Has wx pt (.cells #[.int .i64 2, .int .i64 2, .slice ot 2 ct] 24) ∧ TrV wx (· < wx.heap.size) (.node 2 2 [.node 2 1 [.node 1 1 []], .node 2 0 []]) (.agg #[.int .i64 2, .int .i64 2, .slice ot 2 ct])))
            case first => exact sane_r11 HS0 HS HB3 hb3 HB4 hb4 HB5 hb5 hc61 hc62 hc63 hc64 HB8 hb8 HB10 hb10 hz10 (by assumption) (by assumption)
            case rest =>
              obtain ⟨pt, ot, ct, rfl, rfl, HB11⟩ := hcut
              obtain ⟨v11, hv11⟩ : ∃ v, v = wc := ⟨_, rfl⟩
              subst hv11
              have hb11 := below_next hb10 HB11.out.1
              have hS11 : ∀ W, Below v11.heap.size v11 W → LocP ps px py pz ba bb pt (.slice ot 2 ct) bp (.slice op 2 cq) W := by
                intro W hW
                have r := has_call hW HB11.out.2.2.1
                obtain ⟨s0, s1, s2, s3, s4, s5, s6, s7, s8, s9, s10⟩ := HS.out W (below_next hb11 hW)
                exact ⟨s0, s1, s2, s3, s4, s5, s6, s7, s8, s9, s10, (cells_of r 0).1, (cells_of r 1).1, (cells_of r 2).1, (World.cell?_of_block (w := v10) (a := ⟨bp, 3, none⟩) ((below_next HB11.out.1 hW).block bp HB10.out.2.1)).trans HB10.out.2.2.1⟩
              have HT := Lib.hid hS11
              clear hS11
              go_upto_region 12 with fail
              go_cut [10] from 137 to 148 (fun a wx => a = .int .i64 1 ∧ Hid (Below v11.heap.size v11 wx))
              case first => exact sane_r12 HS0 HS HB3 hb3 HB4 hb4 HB5 hb5 hc61 hc62 hc63 hc64 HB8 hb8 HB10 hb10 hz10 HB11 hb11 HT (by assumption) (by assumption)
              case rest =>
                obtain ⟨rfl, HB12⟩ := hcut
                obtain ⟨v12, hv12⟩ : ∃ v, v = wc := ⟨_, rfl⟩
                subst hv12
                have hw12 := HB12.out
                have hb12 := below_next hb11 hw12
                go_upto_region 13 with fail
                go_cut [182] from 149 to 181 (fun a wx => a = .bool false ∧ Hid (Below v11.heap.size v11 wx))
                case first => exact sane_r13 HS0 HS HB3 hb3 HB4 hb4 HB5 hb5 hc61 hc62 hc63 hc64 HB8 hb8 HB10 hb10 hz10 HB11 hb11 HT HB12 hw12 hb12 (by assumption) (by assumption)
                case rest =>
                  obtain ⟨rfl, HB13⟩ := hcut
                  obtain ⟨v13, hv13⟩ : ∃ v, v = wc := ⟨_, rfl⟩
                  subst hv13
                  have hw13 := HB13.out
                  have hb13 := below_next hb11 hw13
                  have hz13 := hb13.size
                  have hl13 := hw13.size
                  obtain ⟨s0, s1, s2, s3, s4, s5, s6, s7, s8, s9, s10, s11, s12, s13, -⟩ := HT.out v13 hw13
                  have hpt0 := HB11.out.2.1
                  have hpt1 : pt < v13.heap.size := Nat.lt_of_lt_of_le (has_lt HB11.out.2.2.1) hl13
                  go_upto_region 16 with (go_at_call 46; refine (op_any _ _ _ _ _).mono ?_; rintro e wq ⟨rfl, rfl⟩)
                  refine (shift_c _ _ (tN (iq _ rfl) (iq _ rfl) (sN2 (by (repeat (first | (with_reducible refine has_new ?_; first | with_reducible rfl | (simp; done)) | with_reducible refine has_drew ?_ | with_reducible refine has_old ?_))) (tL _ _ _ (iq _ rfl) (iq _ rfl)) (tL _ _ _ (iq _ rfl) (iq _ rfl))))).mono ?_
                  rintro e w15 ⟨os, cs, rfl, hsh, hb15⟩
                  have hv15 := below_next (show Below v13.heap.size v13 _ from by (repeat (first | with_reducible assumption | with_reducible exact bZ _ | with_reducible apply bA | with_reducible apply bD))) hb15
                  have hhp : Has w15 pt (.cells #[.int .i64 2, .int .i64 2, .slice ot 2 ct] 24) := has_call hv15 (has_call hw13 HB11.out.2.2.1)
                  have c0 := (cells_of hhp 0).1
                  have c1 := (cells_of hhp 1).1
                  have c2 := (cells_of hhp 2).1
                  have f0 := fun j => (cells_of hhp j).2
                  simp only [List.getElem?_toArray, List.getElem?_cons_zero, List.getElem?_cons_succ] at c0 c1 c2
                  have hsh2 : TrV w15 (fun b => b ≠ pt ∧ b < w15.heap.size) (.node 2 2 [.node 1 0 [], .node 1 3 []]) (.agg #[.int .i64 2, .int .i64 2, .slice os 2 cs]) := trV_mono (fun b hb => ⟨fun e => by have h1 := hb.1; simp at h1; omega, hb.2⟩) (fun _ _ => rfl) _ hsh
                  have HSH := Lib.hid (And.intro hsh2 (And.intro hhp hv15))
                  clear hsh hsh2 hhp hv15 hb15
                  go_upto_region 16 with fail
                  have hnew := three_set (a' := .int .i64 2) (b' := .int .i64 2) (c' := .slice os 2 cs) HSH.out.2.1
                  have htr : TrV (((w15.setCell ⟨pt, 0, none⟩ (.int .i64 2)).setCell ⟨pt, 1, none⟩ (.int .i64 2)).setCell ⟨pt, 2, none⟩ (.slice os 2 cs)) (· < (((w15.setCell ⟨pt, 0, none⟩ (.int .i64 2)).setCell ⟨pt, 1, none⟩ (.int .i64 2)).setCell ⟨pt, 2, none⟩ (.slice os 2 cs)).heap.size) (.node 2 2 [.node 1 0 [], .node 1 3 []]) (.agg #[.int .i64 2, .int .i64 2, .slice os 2 cs]) :=
                    trV_mono (fun b hb => by have := hb.2; simpa [World.setCell] using this) (fun b hb => by have hne := hb.1; rw [Below.heap_setCell _ _ _ _ hne, Below.heap_setCell _ _ _ _ hne, Below.heap_setCell _ _ _ _ hne]) _ HSH.out.1
                  have hb16 : Below w0.heap.size w0 (((w15.setCell ⟨pt, 0, none⟩ (.int .i64 2)).setCell ⟨pt, 1, none⟩ (.int .i64 2)).setCell ⟨pt, 2, none⟩ (.slice os 2 cs)) :=
                    (((below_next hb13 HSH.out.2.2).setCell (p := ⟨pt, 0, none⟩) (by simp only; omega) _).setCell (p := ⟨pt, 1, none⟩) (by simp only; omega) _).setCell (p := ⟨pt, 2, none⟩) (by simp only; omega) _
                  generalize (((w15.setCell ⟨pt, 0, none⟩ (.int .i64 2)).setCell ⟨pt, 1, none⟩ (.int .i64 2)).setCell ⟨pt, 2, none⟩ (.slice os 2 cs)) = y0 at *
                  have hS16 : ∀ W, Below y0.heap.size y0 W → LocT ps px py pz ba bb pt (.slice os 2 cs) W := by
                    intro W hW
                    have r := has_call hW hnew
                    obtain ⟨s0, s1, s2, s3, s4, s5, s6, s7, s8, s9, s10⟩ := HS.out W (below_next hb16 hW)
                    exact ⟨s0, s1, s2, s3, s4, s5, s6, s7, s8, s9, s10, (cells_of r 0).1, (cells_of r 1).1, (cells_of r 2).1⟩
                  have HU := Lib.hid (And.intro hS16 htr)
                  clear hS16 htr hnew s0 s1 s2 s3 s4 s5 s6 s7 s8 s9 s10 s11 s12 s13
                  go_upto_region 16 with fail
                  go_cut [13, 14, 8] from 191 to 201 (fun a b c wx => ∃ on cn om cm, a = .slice on 2 cn ∧ b = .slice om 2 cm ∧ c = .int .i64 0 ∧ Hid (Below y0.heap.size y0 wx ∧ TrS wx (· < wx.heap.size) [.node 2 2 [.node 1 0 [], .node 1 1 []], .node 1 0 []] (.slice on 2 cn) ∧ IntS wx (· < wx.heap.size) [1, 0] (.slice om 2 cm)))
                  case first => exact sane_r16 HS0 HS HB3 hb3 HB4 hb4 HB5 hb5 hc61 hc62 hc63 hc64 HB8 hb8 HB10 hb10 hz10 HB11 hb11 HT HB12 hw12 hb12 HB13 hw13 hb13 hz13 hl13 hpt0 hpt1 HSH hb16 HU (by assumption) (by assumption)
                  case rest =>
                    obtain ⟨on, cn, om, cm, rfl, rfl, rfl, HB16⟩ := hcut
                    obtain ⟨v16, hv16⟩ : ∃ v, v = wc := ⟨_, rfl⟩
                    subst hv16
                    have hw16 := HB16.out.1
                    have hb16' := below_next hb16 hw16
                    go_upto_region 17 with fail
                    go_cut [233] from 202 to 232 (fun a wx => a = .bool false ∧ Hid (Below y0.heap.size y0 wx))
                    case first => exact sane_r17 HS0 HS HB3 hb3 HB4 hb4 HB5 hb5 hc61 hc62 hc63 hc64 HB8 hb8 HB10 hb10 hz10 HB11 hb11 HT HB12 hw12 hb12 HB13 hw13 hb13 hz13 hl13 hpt0 hpt1 HSH hb16 HU HB16 hw16 hb16' (by assumption) (by assumption)
                    case rest =>
                      obtain ⟨rfl, HB17⟩ := hcut
                      obtain ⟨v17, hv17⟩ : ∃ v, v = wc := ⟨_, rfl⟩
                      subst hv17
                      have hw17 := HB17.out
                      have hb17 := below_next hb16 hw17
                      go_upto_region 19 with fail
                      go_cut [15, 16, 6] from 234 to 250 (fun a b c wx => ∃ oe ce, a = .slice oe 1 ce ∧ b = .bool true ∧ c = .int .i64 0 ∧ Hid (Below w0.heap.size w0 wx ∧ TrS wx (· < wx.heap.size) [.node 2 1 [.node 1 1 []]] (.slice oe 1 ce)))
                      case first => exact sane_r19 HS0 HS HB3 hb3 HB4 hb4 HB5 hb5 hc61 hc62 hc63 hc64 HB8 hb8 HB10 hb10 hz10 HB11 hb11 HT HB12 hw12 hb12 HB13 hw13 hb13 hz13 hl13 hpt0 hpt1 HSH hb16 HU HB16 hw16 hb16' HB17 hw17 hb17 (by assumption) (by assumption)
                      case rest =>
                        obtain ⟨oe, ce, rfl, rfl, rfl, HB19⟩ := hcut
                        obtain ⟨v19, hv19⟩ : ∃ v, v = wc := ⟨_, rfl⟩
                        subst hv19
                        have hb19 := HB19.out.1
                        go_upto_region 20 with fail
                        go_cut [17, 18, 8] from 251 to 265 (fun a b c wx => a = .slice none 0 0 ∧ b = .bool false ∧ c = .int .i64 0 ∧ Hid (Below v19.heap.size v19 wx))
                        case first => exact sane_r20 HS0 HS HB3 hb3 HB4 hb4 HB5 hb5 hc61 hc62 hc63 hc64 HB8 hb8 HB10 hb10 hz10 HB11 hb11 HT HB12 hw12 hb12 HB13 hw13 hb13 hz13 hl13 hpt0 hpt1 HSH hb16 HU HB16 hw16 hb16' HB17 hw17 hb17 HB19 hb19 (by assumption) (by assumption)
                        case rest =>
                          obtain ⟨rfl, rfl, rfl, HB20⟩ := hcut
                          obtain ⟨v20, hv20⟩ : ∃ v, v = wc := ⟨_, rfl⟩
                          subst hv20
                          have hb20 := below_next hb19 HB20.out
                          obtain ⟨s0, s1, s2, s3, s4, s5, s6, s7, s8, s9, s10⟩ := HS.out v20 hb20
                          go_upto_region 23 with (first
    | (go_at_call 46; refine (op_any _ _ _ _ _).mono ?_; rintro e wq ⟨rfl, rfl⟩)
    | (go_at_call 43; refine (all_c [.node 2 1 [.node 1 1 []]] [.node 2 1 [.node 1 1 []]] (by kernel_rfl) _ _ _ ?_ ?_).mono ?_; (focus (exact trS_up (show Below v19.heap.size v19 _ from (below_next HB20.out (by (repeat (first | with_reducible assumption | with_reducible exact bZ _ | with_reducible apply bA | with_reducible apply bD))))) HB19.out.2)); (focus (exact (sN1 (by (repeat (first | (with_reducible refine has_new ?_; first | with_reducible rfl | (simp; done)) | with_reducible refine has_drew ?_ | with_reducible refine has_old ?_))) (tN (iq _ rfl) (iq _ rfl) (sN1 (by (repeat (first | (with_reducible refine has_new ?_; first | with_reducible rfl | (simp; done)) | with_reducible refine has_drew ?_ | with_reducible refine has_old ?_))) (tL _ _ _ (iq _ rfl) (iq _ rfl))))))); rintro e w21 ⟨rfl, hb21⟩; have hc21 := below_next (show Below w0.heap.size w0 _ from by (repeat (first | with_reducible assumption | with_reducible exact bZ _ | with_reducible apply bA | with_reducible apply bD))) hb21; clear hb21; obtain ⟨q0, q1, q2, q3, q4, q5, q6, q7, q8, q9, q10⟩ := HS.out _ hc21))
                          go_cut [19, 16, 6] from 288 to 304 (fun a b c wx => ∃ ou cu, a = .slice ou 3 cu ∧ b = .bool true ∧ c = .int .i64 0 ∧ Hid (Below w0.heap.size w0 wx ∧ TrS wx (· < wx.heap.size) [.node 2 1 [.node 1 1 []], .node 1 1 [], .node 2 1 [.node 2 1 [.node 1 1 []]]] (.slice ou 3 cu)))
                          case first => exact sane_r23 HS0 HS HB3 hb3 HB4 hb4 HB5 hb5 hc61 hc62 hc63 hc64 HB8 hb8 HB10 hb10 hz10 HB11 hb11 HT HB12 hw12 hb12 HB13 hw13 hb13 hz13 hl13 hpt0 hpt1 HSH hb16 HU HB16 hw16 hb16' HB17 hw17 hb17 HB19 hb19 HB20 hb20 hc21 (by assumption) (by assumption)
                          case rest =>
                            obtain ⟨ou, cu, rfl, rfl, rfl, HB23⟩ := hcut
                            obtain ⟨v23, hv23⟩ : ∃ v, v = wc := ⟨_, rfl⟩
                            subst hv23
                            have hb23 := HB23.out.1
                            go_upto_region 24 with fail
                            go_cut [18, 8] from 305 to 313 (fun a b wx => a = .bool false ∧ b = .int .i64 0 ∧ Hid (Below v23.heap.size v23 wx))
                            case first => exact sane_r24 HS0 HS HB3 hb3 HB4 hb4 HB5 hb5 hc61 hc62 hc63 hc64 HB8 hb8 HB10 hb10 hz10 HB11 hb11 HT HB12 hw12 hb12 HB13 hw13 hb13 hz13 hl13 hpt0 hpt1 HSH hb16 HU HB16 hw16 hb16' HB17 hw17 hb17 HB19 hb19 HB20 hb20 hc21 HB23 hb23 (by assumption) (by assumption)
                            case rest =>
                              obtain ⟨rfl, rfl, HB24⟩ := hcut
                              obtain ⟨v24, hv24⟩ : ∃ v, v = wc := ⟨_, rfl⟩
                              subst hv24
                              have hb24 := below_next hb23 HB24.out
                              go_upto_region 25 with fail
                              go_region_held3 (fun W => W.cell? ⟨ps, 0, none⟩ = some (.slice (some ⟨ba, 0, none⟩) 2 2) ∧ W.cell? ⟨ps, 1, none⟩ = some (.slice (some ⟨bb, 0, none⟩) 4 4) ∧ W.cell? ⟨px, 0, none⟩ = some (.int .i64 1) ∧ W.cell? ⟨px, 1, none⟩ = some (.int .i64 0) ∧ W.cell? ⟨px, 2, none⟩ = some (.slice none 0 0) ∧ W.cell? ⟨py, 0, none⟩ = some (.int .i64 1) ∧ W.cell? ⟨py, 1, none⟩ = some (.int .i64 1) ∧ W.cell? ⟨py, 2, none⟩ = some (.slice none 0 0) ∧ W.cell? ⟨pz, 0, none⟩ = some (.int .i64 2) ∧ W.cell? ⟨pz, 1, none⟩ = some (.int .i64 0) ∧ W.cell? ⟨pz, 2, none⟩ = some (.slice none 0 0)) (first | (refine HS.out _ ?_; (repeat (first | with_reducible assumption | with_reducible exact bZ _ | with_reducible apply bA | with_reducible apply bD)); done)) (first
                                  | (go_at_call 46; (with_reducible refine (op_any _ _ _ _ _).mono ?_); rintro e wq ⟨rfl, rfl⟩)
                                  | (go_at_call 43; (with_reducible refine (all_c [.node 2 1 [.node 1 1 []], .node 1 1 [], .node 2 1 [.node 2 1 [.node 1 1 []]]] [.node 2 1 [.node 1 1 []], .node 1 1 [], .node 2 1 [.node 2 1 [.node 1 1 []]]] (by kernel_rfl) _ _ _ ?_ ?_).mono ?_); (focus (exact (trS_up (show Below v23.heap.size v23 _ from (below_next HB24.out (by (repeat (first | with_reducible assumption | with_reducible exact bZ _ | with_reducible apply bA | with_reducible apply bD))))) HB23.out.2))); (focus (exact (sN3 (by (repeat (first | (with_reducible refine has_new ?_; first | with_reducible rfl | (simp; done)) | with_reducible refine has_drew ?_ | with_reducible refine has_old ?_))) (tN (iq _ rfl) (iq _ rfl) (sN1 (by (repeat (first | (with_reducible refine has_new ?_; first | with_reducible rfl | (simp; done)) | with_reducible refine has_drew ?_ | with_reducible refine has_old ?_))) (tL _ _ _ (iq _ rfl) (iq _ rfl)))) (tL _ _ _ (iq _ rfl) (iq _ rfl)) (tN (iq _ rfl) (iq _ rfl) (sN1 (by (repeat (first | (with_reducible refine has_new ?_; first | with_reducible rfl | (simp; done)) | with_reducible refine has_drew ?_ | with_reducible refine has_old ?_))) (tN (iq _ rfl) (iq _ rfl) (sN1 (by (repeat (first | (with_reducible refine has_new ?_; first | with_reducible rfl | (simp; done)) | with_reducible refine has_drew ?_ | with_reducible refine has_old ?_))) (tL _ _ _ (iq _ rfl) (iq _ rfl))))))))); rintro e wz ⟨rfl, hbz⟩; have hcz := below_next (show Below w0.heap.size w0 _ from by (repeat (first | with_reducible assumption | with_reducible exact bZ _ | with_reducible apply bA | with_reducible apply bD))) hbz; clear hbz))
                              all_goals
                                go_wp2_with fail
                                go_ret
                                exact ⟨rfl, below_next HS0.out.1 hcz⟩
end Go.Proofs.Ytapdfdjknehhgaa
