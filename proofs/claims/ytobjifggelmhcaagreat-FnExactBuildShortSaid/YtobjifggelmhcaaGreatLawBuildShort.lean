/- Proved: for all arguments, laws.FnExactBuildShort returns true and leaves its arguments as they were. No condition. -/
import Derived.Test.YtobjifggelmhcaaGreatRows
import Derived.WalkKit
import Derived.ProofKit
import Derived.OpenShut
import Derived.ShutString
import Derived.Test.YtobjifggelmhcaaGreatShortSpec
import Derived.Test.YtobjifggelmhcaaGreatFamLaw
import Derived.ChangeOld
import Derived.Below
namespace Go.Proofs.YtobjifggelmhcaaGreat.fnExactBuildShort
open Go.ChangeShapes Go.WideShapes Go.ChangeAt Go.RowKit
open Go.ChangeMaps (open_string shut_string)
set_option linter.unusedVariables false

theorem own : ownKnob Tryz.prog.godebug = none := by kernel_rfl
theorem laidOut : laidOutB Tryz.prog = true := by kernel_rfl

def IsRow (k : IntKind) (w : World) (a : Option Addr) (len cap : Nat) (zs : List Int) : Prop :=
  (a = none ∧ len = 0 ∧ cap = 0 ∧ zs = []) ∨
  ∃ x, a = some x ∧ len ≤ cap ∧ cap ≤ maxLen ∧ zs.length = cap ∧ (∀ i, i < zs.length → w.cell? (x.add i) = some (.int k (zs.getD i 0))) ∧ ∀ n ∈ zs, (Lit.int k n).wf = true

set_option maxRecDepth 20000 in
set_option maxHeartbeats 2000000 in
theorem walk (a0 : Option Addr) (len0 cap0 : Nat) (z0 : List Int) (w : World) (w0 : IsRow .i64 w a0 len0 cap0 z0) :
    Calls Tryz.prog 4 #[.agg #[.slice a0 len0 cap0]] w fun e w' => e = .returned (.bool true) ∧ Below w.heap.size w w' := by
  obtain ⟨xs0, rfl, hI0, h640, hl0⟩ := row_ints w0
  clear w0
  have I0 := Lib.hid hI0
  have N0 := Lib.hid h640
  clear hI0 h640
  by_cases h0 : 1048576 < xs0.length
  · skip
    go_enter Tryz.func4, Tryz.ntmps4
    have hb : Below w.heap.size w (w.alloc (.cells #[.slice a0 xs0.length cap0] 24)) := (Below.refl _ _).alloc (Nat.le_refl _) _
    have hx : At1 24 (w.alloc (.cells #[.slice a0 xs0.length cap0] 24)) w.heap.size (.slice a0 xs0.length cap0) := at1_new _ _ _
    have hlt : w.heap.size < (w.alloc (.cells #[.slice a0 xs0.length cap0] 24)).heap.size := alloc_lt _ _
    have Hb := Lib.hid hb
    have Hx := Lib.hid hx
    have Hlt := Lib.hid hlt
    clear hb hx hlt
    go_wp2_with fail
    generalize (w.alloc (.cells #[.slice a0 xs0.length cap0] 24)) = W1 at Hb Hx Hlt ⊢
    have hb := Hb.out
    have B1 := Lib.hid hb
    have Z1 := Lib.hid hb.size
    have T1 := Hlt
    have Xv0_1 := Hx
    clear hb Hb
    refine (sz_big _ _ _ _ h0 (by omega)).mono ?_
    rintro e W2 ⟨rfl, hb⟩
    have B2 := Lib.hid (B1.out.trans (hb.mono B1.out.size))
    have Z2 := Lib.hid hb.size
    clear hb
    go_wp2_with fail
    go_ret
    exact ⟨rfl, B2.out⟩
  · skip
    have hn0 : xs0.length ≤ 1048576 := by omega
    clear h0
    obtain ⟨out, r1, hol, hsp, him⟩ := bothBuildShort xs0 N0 hn0
    have HP := Lib.hid hsp
    have HI := Lib.hid him
    clear hsp him
    go_enter Tryz.func4, Tryz.ntmps4
    have hb : Below w.heap.size w (w.alloc (.cells #[.slice a0 xs0.length cap0] 24)) := (Below.refl _ _).alloc (Nat.le_refl _) _
    have hx : At1 24 (w.alloc (.cells #[.slice a0 xs0.length cap0] 24)) w.heap.size (.slice a0 xs0.length cap0) := at1_new _ _ _
    have hlt : w.heap.size < (w.alloc (.cells #[.slice a0 xs0.length cap0] 24)).heap.size := alloc_lt _ _
    have Hb := Lib.hid hb
    have Hx := Lib.hid hx
    have Hlt := Lib.hid hlt
    clear hb hx hlt
    go_wp2_with fail
    generalize (w.alloc (.cells #[.slice a0 xs0.length cap0] 24)) = W1 at Hb Hx Hlt ⊢
    have hb := Hb.out
    have B1 := Lib.hid hb
    have Z1 := Lib.hid hb.size
    have T1 := Hlt
    have Xv0_1 := Hx
    clear hb Hb
    refine (sz_first _ _ _ _ hn0).mono ?_
    rintro e W2 ⟨rfl, hb⟩
    have B2 := Lib.hid (B1.out.trans (hb.mono B1.out.size))
    have Z2 := Lib.hid hb.size
    have Xv0_2 := Lib.hid (Xv0_1.out.on hb)
    clear Xv0_1
    clear hb
    have hs1 : ¬ (1048576 - (xs0.length : Int) < 0) := by omega
    have hcv0 := Xv0_2.out.cell
    go_wp2_with fail
    clear hcv0
    refine (toFam_any _ _ xs0 _ (Lib.hid (I0.out.on B2.out)) hn0).mono ?_
    rintro e W3 ⟨as0, cs0, rfl, hi, ho, hcp, hb⟩
    have B3 := Lib.hid (B2.out.trans (hb.mono B2.out.size))
    have Z3 := Lib.hid hb.size
    have Xv0_3 := Lib.hid (Xv0_2.out.on hb)
    clear Xv0_2
    have Fs0_3 := Lib.hid hi
    have Os0 := Lib.hid ho
    have Ks0 := Lib.hid hcp
    clear hi ho hcp hb
    go_wp2_with fail
    refine (HP.out _ _ _ Fs0_3 Ks0).mono ?_
    rintro e W4 ⟨_, rfl, ⟨aw, cw, rfl, hi, ho, hcp⟩, hb⟩
    have B4 := Lib.hid (B3.out.trans (hb.mono B3.out.size))
    have Z4 := Lib.hid hb.size
    have Fs0_4 := Lib.hid (Fs0_3.out.on hb)
    clear Fs0_3
    have Xv0_4 := Lib.hid (Xv0_3.out.on hb)
    clear Xv0_3
    have Fw_4 := Lib.hid hi
    have Ow := Lib.hid ho
    clear hi ho hcp hb
    have hcv0 := Xv0_4.out.cell
    go_wp2_with fail
    clear hcv0
    refine (toFam_any _ _ xs0 _ (Lib.hid (I0.out.on B4.out)) hn0).mono ?_
    rintro e W5 ⟨ax0, cx0, rfl, hi, ho, hcp, hb⟩
    have B5 := Lib.hid (B4.out.trans (hb.mono B4.out.size))
    have Z5 := Lib.hid hb.size
    have Fw_5 := Lib.hid (Fw_4.out.on hb)
    clear Fw_4
    have Xv0_5 := Lib.hid (Xv0_4.out.on hb)
    clear Xv0_4
    have Fx0_5 := Lib.hid hi
    have Ox0 := Lib.hid ho
    have Kx0 := Lib.hid hcp
    clear hi ho hcp hb
    have hb : Below W5.heap.size W5 (W5.alloc (.cells #[.slice ax0 xs0.length cx0] 28)) := (Below.refl _ _).alloc (Nat.le_refl _) _
    have hx : At1 28 (W5.alloc (.cells #[.slice ax0 xs0.length cx0] 28)) W5.heap.size (.slice ax0 xs0.length cx0) := at1_new _ _ _
    have hlt : W5.heap.size < (W5.alloc (.cells #[.slice ax0 xs0.length cx0] 28)).heap.size := alloc_lt _ _
    have Hb := Lib.hid hb
    have Hx := Lib.hid hx
    have Hlt := Lib.hid hlt
    clear hb hx hlt
    go_wp2_with fail
    generalize (W5.alloc (.cells #[.slice ax0 xs0.length cx0] 28)) = W6 at Hb Hx Hlt ⊢
    have hb := Hb.out
    have B6 := Lib.hid (B5.out.trans (hb.mono B5.out.size))
    have Z6 := Lib.hid hb.size
    have T6 := Hlt
    have Fw_6 := Lib.hid (Fw_5.out.on hb)
    clear Fw_5
    have Fx0_6 := Lib.hid (Fx0_5.out.on hb)
    clear Fx0_5
    have Qx0_6 := Lib.hid (Ox0.out.on hb)
    have Xv0_6 := Lib.hid (Xv0_5.out.on hb)
    clear Xv0_5
    have Xbx0_6 := Hx
    clear hb Hb
    refine (HI.out _ _ _ Fx0_6 Kx0).mono ?_
    rintro e W7 ⟨_, rfl, ⟨ag, cg, rfl, hi, ho, hcp⟩, hb⟩
    have B7 := Lib.hid (B6.out.trans (hb.mono B6.out.size))
    have Z7 := Lib.hid hb.size
    have Fw_7 := Lib.hid (Fw_6.out.on hb)
    clear Fw_6
    have Fx0_7 := Lib.hid (Fx0_6.out.on hb)
    clear Fx0_6
    have Qx0_7 := Lib.hid (Qx0_6.out.on hb)
    clear Qx0_6
    have Xv0_7 := Lib.hid (Xv0_6.out.on hb)
    clear Xv0_6
    have Xbx0_7 := Lib.hid (Xbx0_6.out.on hb)
    clear Xbx0_6
    have Fg_7 := Lib.hid hi
    have Og := Lib.hid ho
    clear hi ho hcp hb
    go_wp2_with fail
    refine (eq_same _ _ _ _ out _ Fg_7 Fw_7 (by omega)).mono ?_
    rintro e W8 ⟨rfl, hb⟩
    have B8 := Lib.hid (B7.out.trans (hb.mono B7.out.size))
    have Z8 := Lib.hid hb.size
    have Fw_8 := Lib.hid (Fw_7.out.on hb)
    clear Fw_7
    have Fx0_8 := Lib.hid (Fx0_7.out.on hb)
    clear Fx0_7
    have Fg_8 := Lib.hid (Fg_7.out.on hb)
    clear Fg_7
    have Qx0_8 := Lib.hid (Qx0_7.out.on hb)
    clear Qx0_7
    have Qg_8 := Lib.hid (Og.out.on hb)
    have Xv0_8 := Lib.hid (Xv0_7.out.on hb)
    clear Xv0_7
    have Xbx0_8 := Lib.hid (Xbx0_7.out.on hb)
    clear Xbx0_7
    clear hb
    have HX := Fx0_8
    have HA := (Lib.hid (I0.out.on B8.out))
    have HXV := Xbx0_8
    have HIA := Xv0_8
    go_upto_region 10 with fail
    go_cut [45] from 41 to 45 (fun s wx => s = .bool false ∧ Below W8.heap.size W8 wx)
    case first =>
      have hc1 := HXV.out.cell
      have hc2 := HIA.out.cell
      have hd1 : W8.drew.cell? _ = _ := hc1
      have hd2 : W8.drew.cell? _ = _ := hc2
      have HXd : Hid (Ints W8.drew ax0 xs0) := HX
      have HAd : Hid (Ints W8.drew a0 xs0) := HA
      have HXVd : Hid (At1 28 W8.drew W5.heap.size (.slice ax0 xs0.length cx0)) := HXV
      have HBd : Hid (Below W8.heap.size W8 W8.drew) := Lib.hid (Below.refl _ _).drew
      go_region_law (go_simp; first
        | (go_at_call 7; refine (toFam_any _ _ xs0 _ HAd hn0).mono ?_; rintro e wa ⟨ay, cy, rfl, hi, ho, hcp, hb⟩; have hc3 := (HXVd.out.on hb).cell; have HY := Lib.hid hi; have HX2 := Lib.hid (HXd.out.on hb); have HB1 := Lib.hid (HBd.out.trans (hb.mono HBd.out.size)); clear hi ho hcp hb)
        | (go_at_call 10; refine (eqFam_same _ _ _ _ xs0 _ HX2 HY (by omega)).mono ?_; rintro e wb ⟨rfl, hb⟩; have HB2 := Lib.hid (HB1.out.trans (hb.mono HB1.out.size)); clear hb))
      all_goals
        go_wp2_with fail
        go_meet
        case rel => exact ⟨rfl, HB2.out⟩
    case rest =>
      obtain ⟨rfl, hb⟩ := hcut
      clear HX HA HXV HIA
      generalize wc = W9 at hb ⊢
      have B9 := Lib.hid (B8.out.trans (hb.mono B8.out.size))
      have Z9 := Lib.hid hb.size
      have Fw_9 := Lib.hid (Fw_8.out.on hb)
      clear Fw_8
      have Fx0_9 := Lib.hid (Fx0_8.out.on hb)
      clear Fx0_8
      have Fg_9 := Lib.hid (Fg_8.out.on hb)
      clear Fg_8
      have Qx0_9 := Lib.hid (Qx0_8.out.on hb)
      clear Qx0_8
      have Qg_9 := Lib.hid (Qg_8.out.on hb)
      clear Qg_8
      have Xv0_9 := Lib.hid (Xv0_8.out.on hb)
      clear Xv0_8
      have Xbx0_9 := Lib.hid (Xbx0_8.out.on hb)
      clear Xbx0_8
      clear hb
      have hcbx0 := Xbx0_9.out.cell
      go_wp2_with fail
      clear hcbx0
      refine (markFam_first _ _ _ xs0 _ Fx0_9 (Lib.hid Qx0_9.out) (by omega)).mono ?_
      rintro e W10 ⟨rfl, hm⟩
      have B10 := Lib.hid (below_past B9.out hm Ox0.out (by have := Z1.out; have := Z2.out; have := Z3.out; have := Z4.out; have := T1.out; omega) B9.out.size)
      have Z10 := Lib.hid (size_past hm)
      have Fw_10 := Lib.hid (ints_past Fw_9.out hm (apart_of Ow.out Ox0.out (by omega)))
      clear Fw_9
      have Fg_10 := Lib.hid (ints_past Fg_9.out hm (apart_of Ox0.out Og.out (by have := Z6.out; have := T6.out; omega)).symm)
      clear Fg_9
      have Qg_10 := Lib.hid (own_past Qg_9.out hm (apart_of Ox0.out Og.out (by have := Z6.out; have := T6.out; omega)).symm)
      clear Qg_9
      have Xv0_10 := Lib.hid (Xv0_9.out.past hm (far_low Ox0.out (by have := Z1.out; have := Z2.out; have := Z3.out; have := Z4.out; have := T1.out; omega)))
      clear Xv0_9
      have Xbx0_10 := Lib.hid (Xbx0_9.out.past hm (far_high Ox0.out (by omega)))
      clear Xbx0_9
      have Fx0_10 := Lib.hid hm.2.1
      clear Fx0_9
      clear hm
      go_wp2_with fail
      refine (eq_same _ _ _ _ out _ Fg_10 Fw_10 (by omega)).mono ?_
      rintro e W11 ⟨rfl, hb⟩
      have B11 := Lib.hid (B10.out.trans (hb.mono B10.out.size))
      have Z11 := Lib.hid hb.size
      have Fw_11 := Lib.hid (Fw_10.out.on hb)
      clear Fw_10
      have Fg_11 := Lib.hid (Fg_10.out.on hb)
      clear Fg_10
      have Qg_11 := Lib.hid (Qg_10.out.on hb)
      clear Qg_10
      have Xv0_11 := Lib.hid (Xv0_10.out.on hb)
      clear Xv0_10
      have Xbx0_11 := Lib.hid (Xbx0_10.out.on hb)
      clear Xbx0_10
      clear hb
      go_wp2_with fail
      refine (mark_first _ _ _ out _ Fg_11 (Lib.hid Qg_11.out) (by omega)).mono ?_
      rintro e W12 ⟨rfl, hm⟩
      have B12 := Lib.hid (below_past B11.out hm Og.out (by have := Z1.out; have := Z2.out; have := Z3.out; have := Z4.out; have := Z5.out; have := Z6.out; have := T1.out; have := T6.out; omega) B11.out.size)
      have Z12 := Lib.hid (size_past hm)
      have Fw_12 := Lib.hid (ints_past Fw_11.out hm (apart_of Ow.out Og.out (by have := Z5.out; have := Z6.out; have := T6.out; omega)))
      clear Fw_11
      have Xv0_12 := Lib.hid (Xv0_11.out.past hm (far_low Og.out (by have := Z1.out; have := Z2.out; have := Z3.out; have := Z4.out; have := Z5.out; have := Z6.out; have := T1.out; have := T6.out; omega)))
      clear Xv0_11
      have Xbx0_12 := Lib.hid (Xbx0_11.out.past hm (far_low Og.out (by have := Z6.out; have := T6.out; omega)))
      clear Xbx0_11
      have Fg_12 := Lib.hid hm.2.1
      clear Fg_11
      clear hm
      go_wp2_with fail
      refine (held_first _ _ out.length _ Fg_12 (by omega)).mono ?_
      rintro e W13 ⟨rfl, hb⟩
      have B13 := Lib.hid (B12.out.trans (hb.mono B12.out.size))
      have Z13 := Lib.hid hb.size
      have Fw_13 := Lib.hid (Fw_12.out.on hb)
      clear Fw_12
      have Fg_13 := Lib.hid (Fg_12.out.on hb)
      clear Fg_12
      have Xv0_13 := Lib.hid (Xv0_12.out.on hb)
      clear Xv0_12
      have Xbx0_13 := Lib.hid (Xbx0_12.out.on hb)
      clear Xbx0_12
      clear hb
      have hcv0 := Xv0_13.out.cell
      go_wp2_with fail
      clear hcv0
      refine (toFam_any _ _ xs0 _ (Lib.hid (I0.out.on B13.out)) hn0).mono ?_
      rintro e W14 ⟨au0, cu0, rfl, hi, ho, hcp, hb⟩
      have B14 := Lib.hid (B13.out.trans (hb.mono B13.out.size))
      have Z14 := Lib.hid hb.size
      have Fw_14 := Lib.hid (Fw_13.out.on hb)
      clear Fw_13
      have Fg_14 := Lib.hid (Fg_13.out.on hb)
      clear Fg_13
      have Xv0_14 := Lib.hid (Xv0_13.out.on hb)
      clear Xv0_13
      have Xbx0_14 := Lib.hid (Xbx0_13.out.on hb)
      clear Xbx0_13
      have Fu0_14 := Lib.hid hi
      have Ou0 := Lib.hid ho
      have Ku0 := Lib.hid hcp
      clear hi ho hcp hb
      go_wp2_with fail
      refine (HI.out _ _ _ Fu0_14 Ku0).mono ?_
      rintro e W15 ⟨_, rfl, ⟨ah, ch, rfl, hi, ho, hcp⟩, hb⟩
      have B15 := Lib.hid (B14.out.trans (hb.mono B14.out.size))
      have Z15 := Lib.hid hb.size
      have Fw_15 := Lib.hid (Fw_14.out.on hb)
      clear Fw_14
      have Fg_15 := Lib.hid (Fg_14.out.on hb)
      clear Fg_14
      have Fu0_15 := Lib.hid (Fu0_14.out.on hb)
      clear Fu0_14
      have Xv0_15 := Lib.hid (Xv0_14.out.on hb)
      clear Xv0_14
      have Xbx0_15 := Lib.hid (Xbx0_14.out.on hb)
      clear Xbx0_14
      have Fh_15 := Lib.hid hi
      have Oh := Lib.hid ho
      clear hi ho hcp hb
      go_wp2_with fail
      refine (eq_same _ _ _ _ out _ Fh_15 Fw_15 (by omega)).mono ?_
      rintro e W16 ⟨rfl, hb⟩
      have B16 := Lib.hid (B15.out.trans (hb.mono B15.out.size))
      have Z16 := Lib.hid hb.size
      have Fw_16 := Lib.hid (Fw_15.out.on hb)
      clear Fw_15
      have Fg_16 := Lib.hid (Fg_15.out.on hb)
      clear Fg_15
      have Fh_16 := Lib.hid (Fh_15.out.on hb)
      clear Fh_15
      have Xv0_16 := Lib.hid (Xv0_15.out.on hb)
      clear Xv0_15
      have Xbx0_16 := Lib.hid (Xbx0_15.out.on hb)
      clear Xbx0_15
      clear hb
      go_wp2_with fail
      refine (held_first _ _ out.length _ Fg_16 (by omega)).mono ?_
      rintro e W17 ⟨rfl, hb⟩
      have B17 := Lib.hid (B16.out.trans (hb.mono B16.out.size))
      have Z17 := Lib.hid hb.size
      have Fw_17 := Lib.hid (Fw_16.out.on hb)
      clear Fw_16
      have Fg_17 := Lib.hid (Fg_16.out.on hb)
      clear Fg_16
      have Fh_17 := Lib.hid (Fh_16.out.on hb)
      clear Fh_16
      have Xv0_17 := Lib.hid (Xv0_16.out.on hb)
      clear Xv0_16
      have Xbx0_17 := Lib.hid (Xbx0_16.out.on hb)
      clear Xbx0_16
      clear hb
      go_wp2
      go_ret
      exact ⟨rfl, B17.out⟩

set_option maxRecDepth 100000 in
theorem lifted (os : Os) (started : os.Started) (H : Type) (enc : TypeId × Value → H) :
    ReturnsInHanded {} Tryz.checked os 4 .any (Rows.fnExactBuildShortSpec.pre6 enc Tryz.prog Tryz.f4 Rows.fnExactBuildShortRow.domain false) (Rows.fnExactBuildShortSpec.post enc Tryz.prog Tryz.f4 false true false false) := by
  refine returnsInHanded_of_change (C := Tryz.checked) own started (by kernel_rfl) Tryz.func4
    (ChangeSpec.witness6 (enc := enc) (C := Tryz.checked) false ⟨#[], #[.agg #[.slice none 0 0]], []⟩ 8 (by kernel_rfl) (by kernel_rfl) (by kernel_rfl) (by kernel_rfl)) ?_
  intro W base args ds gs before hval0 hW hcnd _
  have hval : ∀ (j : Nat) t v, Tryz.f4.params[j]? = some t → args[j]? = some v → Value.okWide Tryz.prog W .any base t v := hval0
  have hW' := hW
  obtain ⟨p, q, hA0, hV, rfl, hfz, hnd⟩ := hW
  have hA : DataW.TrodAll enc Tryz.prog W 0 (fun _ => true) true Tryz.f4.params.toList args.toList ds p := hA0
  rw [Tryz.params4] at hA hval
  obtain ⟨v0, vs0, d0, ds0, p0, q0, hargs, rfl, rfl, h0, r0⟩ := trodAll_cons hA
  obtain ⟨rfl, rfl, rfl⟩ := trodAll_nil r0
  obtain rfl : args = #[v0] := by cases args; simp_all
  obtain ⟨rfl, rfl⟩ := trodVars_none hV
  have k0 := h0
  have lt0 : ∀ x ∈ p0, x.block < W.heap.size := by obtain ⟨m, hm⟩ := k0; exact DataW.trod_lt m _ _ _ hm
  obtain ⟨cs0, rfl, hsz0⟩ := okWide_struct Tryz.underlying24 (hval 0 24 v0 rfl rfl)
  obtain ⟨c0, rfl⟩ := one_of (hsz0.trans (by kernel_rfl))
  obtain ⟨a0, len0, cap0, z0, rfl, w0⟩ : ∃ a len cap zs, c0 = .slice a len cap ∧ IsRow .i64 W a len cap zs := by
    obtain ⟨fuel, hf⟩ := h0
    obtain ⟨y0, n0, -, -, hf1⟩ := trod_struct1 Tryz.underlying24 hf
    rcases open_ints Tryz.underlying22 Tryz.underlying3 (by kernel_rfl) hf1 with ⟨hcs, _⟩ | ⟨x, l, c, zs, hcs, _, hl, hm, hz, _, hcell, hwz⟩
    · have hcs2 : [c0] = [.slice none 0 0] := hcs
      simp only [List.cons.injEq, and_true] at hcs2
      exact ⟨none, 0, 0, [], hcs2, .inl ⟨rfl, rfl, rfl, rfl⟩⟩
    · have hcs2 : [c0] = [.slice (some x) l c] := hcs
      simp only [List.cons.injEq, and_true] at hcs2
      exact ⟨some x, l, c, zs, hcs2, .inr ⟨_, rfl, hl, hm, by simpa using hz, hcell, hwz⟩⟩
  clear hA0 hval0
  refine (walk a0 len0 cap0 z0 W w0).mono fun e W' ⟨he, bel⟩ => ?_
  subst he
  exact ⟨_, rfl, _, _, _, [], _, [], hW', trodAll_mk1 (shut_bool Tryz.underlying4 _), (trodAll_cons_mk (Below.trod laidOut (by kernel_rfl) (of_decide_eq_true (by kernel_rfl)) k0 bel lt0) trodAll_mk0), rfl, bel.frame _, fun h => by cases h⟩

theorem over : Rows.fnExactBuildShortRow.holds Tryz.pinned (OpenSpec.ofChange Rows.fnExactBuildShortSpec) :=
  OpenClaim.holds_of_wide 4 Tryz.f4 rfl rfl rfl rfl rfl rfl rfl ⟨rfl, rfl, rfl, rfl, rfl⟩ rfl rfl rfl rfl rfl (by kernel_rfl) Tryz.func4 (by kernel_rfl)
    (of_decide_eq_true (by kernel_rfl)) (by unfold Func.isWrapper; first | (rw [if_pos (by decide +kernel)]; kernel_rfl) | (rw [if_neg (by decide +kernel)]; exact ⟨rfl, rfl⟩))
    (fun os started H enc _ => lifted os started H enc)

theorem proved : Rows.FnExactBuildShortSaid := over
end Go.Proofs.YtobjifggelmhcaaGreat.fnExactBuildShort
