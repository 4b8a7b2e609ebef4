/- Proved: for all arguments, the table of greatest lengths being as the program's text lays it, laws.FnExactFirstWith returns true and leaves its arguments as they were. No condition. -/
import Derived.Test.YthamckchfhddjaaDoorDoor7
import Derived.Test.YthamckchfhddjaaDoorWith7
import Derived.Test.YthamckchfhddjaaDoorLawKit
import Derived.Test.YthamckchfhddjaaDoorFamLaw
namespace Go.Proofs.YthamckchfhddjaaDoor.fnExactFirstWith
open Go.ChangeShapes Go.WideShapes Go.ChangeAt Go.RowKit
set_option linter.unusedVariables false

set_option maxRecDepth 20000 in
set_option maxHeartbeats 2000000 in
theorem walk (a0 : Option Addr) (len0 cap0 : Nat) (z0 : List Int) (a1 : Int) (w : World) (w0 : Row .i64 w a0 len0 cap0 z0) (w1 : (Lit.int .i64 a1).wf = true) (hg : Listed w) :
    Calls Tryd.prog 6 #[.agg #[.slice a0 len0 cap0], .int .i64 a1] w fun e w' => e = .returned (.bool true) ∧ Below w.heap.size w w' := by
  obtain ⟨xs0, rfl, hI0, h640, hl0⟩ := row_ints w0
  clear w0
  have I0 := Lib.hid hI0
  have N0 := Lib.hid h640
  clear hI0 h640
  have hr1 := int_range w1
  obtain ⟨hrl1, hrh1⟩ := hr1
  clear w1
  by_cases h0 : 1048576 < xs0.length
  · skip
    go_enter Tryd.func6, Tryd.ntmps6
    have hb : Below w.heap.size w (w.alloc (.cells #[.slice a0 xs0.length cap0] 32)) := (Below.refl _ _).alloc (Nat.le_refl _) _
    have hx : At1 32 (w.alloc (.cells #[.slice a0 xs0.length cap0] 32)) w.heap.size (.slice a0 xs0.length cap0) := at1_new _ _ _
    have hlt : w.heap.size < (w.alloc (.cells #[.slice a0 xs0.length cap0] 32)).heap.size := alloc_lt _ _
    have Hb := Lib.hid hb
    have Hx := Lib.hid hx
    have Hlt := Lib.hid hlt
    clear hb hx hlt
    go_wp2_with fail
    generalize (w.alloc (.cells #[.slice a0 xs0.length cap0] 32)) = W1 at Hb Hx Hlt ⊢
    have hb := Hb.out
    have B1 := Lib.hid hb
    have Z1 := Lib.hid hb.size
    have T1 := Hlt
    have Xv0_1 := Hx
    clear hb Hb
    refine (sz_big _ _ _ _ h0 (by omega)).mono ?_
    rintro e W2 ⟨rfl, hb⟩
    have B2 := Lib.hid (B1.out.trans (hb.mono B1.out.size))
    have Z2 := Lib.hid hb.size
    clear hb
    go_wp2_with fail
    go_ret
    exact ⟨rfl, B2.out⟩
  · skip
    have hn0 : xs0.length ≤ 1048576 := by omega
    clear h0
    obtain ⟨out, r1, hol, hsp, him⟩ := bothFirstWith xs0 N0 hn0 a1 hrl1 hrh1
    have HP := Lib.hid hsp
    have HI := Lib.hid him
    clear hsp him
    have G0 := Lib.hid hg
    clear hg
    go_enter Tryd.func6, Tryd.ntmps6
    have hb : Below w.heap.size w (w.alloc (.cells #[.slice a0 xs0.length cap0] 32)) := (Below.refl _ _).alloc (Nat.le_refl _) _
    have hx : At1 32 (w.alloc (.cells #[.slice a0 xs0.length cap0] 32)) w.heap.size (.slice a0 xs0.length cap0) := at1_new _ _ _
    have hlt : w.heap.size < (w.alloc (.cells #[.slice a0 xs0.length cap0] 32)).heap.size := alloc_lt _ _
    have Hb := Lib.hid hb
    have Hx := Lib.hid hx
    have Hlt := Lib.hid hlt
    clear hb hx hlt
    go_wp2_with fail
    generalize (w.alloc (.cells #[.slice a0 xs0.length cap0] 32)) = W1 at Hb Hx Hlt ⊢
    have hb := Hb.out
    have B1 := Lib.hid hb
    have Z1 := Lib.hid hb.size
    have T1 := Hlt
    have Xv0_1 := Hx
    clear hb Hb
    refine (sz_first _ _ _ _ hn0).mono ?_
    rintro e W2 ⟨rfl, hb⟩
    have B2 := Lib.hid (B1.out.trans (hb.mono B1.out.size))
    have Z2 := Lib.hid hb.size
    have Xv0_2 := Lib.hid (Xv0_1.out.on hb)
    clear Xv0_1
    clear hb
    have hs1 : ¬ (1048576 - (xs0.length : Int) < 0) := by omega
    have hcv0 := Xv0_2.out.cell
    go_wp2_with fail
    clear hcv0
    refine (toFam_any _ _ xs0 _ (Lib.hid (I0.out.on B2.out)) hn0).mono ?_
    rintro e W3 ⟨as0, cs0, rfl, hi, ho, hcp, hb⟩
    have B3 := Lib.hid (B2.out.trans (hb.mono B2.out.size))
    have Z3 := Lib.hid hb.size
    have Xv0_3 := Lib.hid (Xv0_2.out.on hb)
    clear Xv0_2
    have Fs0_3 := Lib.hid hi
    have Os0 := Lib.hid ho
    have Ks0 := Lib.hid hcp
    clear hi ho hcp hb
    go_wp2_with fail
    refine (HP.out _ _ _ Fs0_3 (Lib.hid (G0.out.on B3.out))).mono ?_
    rintro e W4 ⟨_, rfl, ⟨aw, cw, rfl, hi, ho, hcp⟩, hb⟩
    have B4 := Lib.hid (B3.out.trans (hb.mono B3.out.size))
    have Z4 := Lib.hid hb.size
    have Fs0_4 := Lib.hid (Fs0_3.out.on hb)
    clear Fs0_3
    have Xv0_4 := Lib.hid (Xv0_3.out.on hb)
    clear Xv0_3
    have Fw_4 := Lib.hid hi
    have Ow := Lib.hid ho
    clear hi ho hcp hb
    have hcv0 := Xv0_4.out.cell
    go_wp2_with fail
    clear hcv0
    refine (toFam_any _ _ xs0 _ (Lib.hid (I0.out.on B4.out)) hn0).mono ?_
    rintro e W5 ⟨ax0, cx0, rfl, hi, ho, hcp, hb⟩
    have B5 := Lib.hid (B4.out.trans (hb.mono B4.out.size))
    have Z5 := Lib.hid hb.size
    have Fw_5 := Lib.hid (Fw_4.out.on hb)
    clear Fw_4
    have Xv0_5 := Lib.hid (Xv0_4.out.on hb)
    clear Xv0_4
    have Fx0_5 := Lib.hid hi
    have Ox0 := Lib.hid ho
    have Kx0 := Lib.hid hcp
    clear hi ho hcp hb
    have hb : Below W5.heap.size W5 (W5.alloc (.cells #[.slice ax0 xs0.length cx0] 35)) := (Below.refl _ _).alloc (Nat.le_refl _) _
    have hx : At1 35 (W5.alloc (.cells #[.slice ax0 xs0.length cx0] 35)) W5.heap.size (.slice ax0 xs0.length cx0) := at1_new _ _ _
    have hlt : W5.heap.size < (W5.alloc (.cells #[.slice ax0 xs0.length cx0] 35)).heap.size := alloc_lt _ _
    have Hb := Lib.hid hb
    have Hx := Lib.hid hx
    have Hlt := Lib.hid hlt
    clear hb hx hlt
    go_wp2_with fail
    generalize (W5.alloc (.cells #[.slice ax0 xs0.length cx0] 35)) = W6 at Hb Hx Hlt ⊢
    have hb := Hb.out
    have B6 := Lib.hid (B5.out.trans (hb.mono B5.out.size))
    have Z6 := Lib.hid hb.size
    have T6 := Hlt
    have Fw_6 := Lib.hid (Fw_5.out.on hb)
    clear Fw_5
    have Fx0_6 := Lib.hid (Fx0_5.out.on hb)
    clear Fx0_5
    have Qx0_6 := Lib.hid (Ox0.out.on hb)
    have Xv0_6 := Lib.hid (Xv0_5.out.on hb)
    clear Xv0_5
    have Xbx0_6 := Hx
    clear hb Hb
    refine (HI.out _ _ _ Fx0_6 (Lib.hid (G0.out.on B6.out))).mono ?_
    rintro e W7 ⟨_, rfl, ⟨ag, cg, rfl, hi, ho, hcp⟩, hb⟩
    have B7 := Lib.hid (B6.out.trans (hb.mono B6.out.size))
    have Z7 := Lib.hid hb.size
    have Fw_7 := Lib.hid (Fw_6.out.on hb)
    clear Fw_6
    have Fx0_7 := Lib.hid (Fx0_6.out.on hb)
    clear Fx0_6
    have Qx0_7 := Lib.hid (Qx0_6.out.on hb)
    clear Qx0_6
    have Xv0_7 := Lib.hid (Xv0_6.out.on hb)
    clear Xv0_6
    have Xbx0_7 := Lib.hid (Xbx0_6.out.on hb)
    clear Xbx0_6
    have Fg_7 := Lib.hid hi
    have Og := Lib.hid ho
    clear hi ho hcp hb
    go_wp2_with fail
    refine (eq_same _ _ _ _ out _ Fg_7 Fw_7 (by omega)).mono ?_
    rintro e W8 ⟨rfl, hb⟩
    have B8 := Lib.hid (B7.out.trans (hb.mono B7.out.size))
    have Z8 := Lib.hid hb.size
    have Fw_8 := Lib.hid (Fw_7.out.on hb)
    clear Fw_7
    have Fx0_8 := Lib.hid (Fx0_7.out.on hb)
    clear Fx0_7
    have Fg_8 := Lib.hid (Fg_7.out.on hb)
    clear Fg_7
    have Qx0_8 := Lib.hid (Qx0_7.out.on hb)
    clear Qx0_7
    have Qg_8 := Lib.hid (Og.out.on hb)
    have Xv0_8 := Lib.hid (Xv0_7.out.on hb)
    clear Xv0_7
    have Xbx0_8 := Lib.hid (Xbx0_7.out.on hb)
    clear Xbx0_7
    clear hb
    have HX := Fx0_8
    have HA := (Lib.hid (I0.out.on B8.out))
    have HXV := Xbx0_8
    have HIA := Xv0_8
    go_upto_region 10 with fail
    go_cut [49] from 45 to 49 (fun s wx => s = .bool false ∧ Below W8.heap.size W8 wx)
    case first =>
      have hc1 := HXV.out.cell
      have hc2 := HIA.out.cell
      have hd1 : W8.drew.cell? _ = _ := hc1
      have hd2 : W8.drew.cell? _ = _ := hc2
      have HXd : Hid (Ints W8.drew ax0 xs0) := HX
      have HAd : Hid (Ints W8.drew a0 xs0) := HA
      have HXVd : Hid (At1 35 W8.drew W5.heap.size (.slice ax0 xs0.length cx0)) := HXV
      have HBd : Hid (Below W8.heap.size W8 W8.drew) := Lib.hid (Below.refl _ _).drew
      go_region_law (go_simp; first
        | (go_at_call 18; refine (toFam_any _ _ xs0 _ HAd hn0).mono ?_; rintro e wa ⟨ay, cy, rfl, hi, ho, hcp, hb⟩; have hc3 := (HXVd.out.on hb).cell; have HY := Lib.hid hi; have HX2 := Lib.hid (HXd.out.on hb); have HB1 := Lib.hid (HBd.out.trans (hb.mono HBd.out.size)); clear hi ho hcp hb)
        | (go_at_call 20; refine (eqFam_same _ _ _ _ xs0 _ HX2 HY (by omega)).mono ?_; rintro e wb ⟨rfl, hb⟩; have HB2 := Lib.hid (HB1.out.trans (hb.mono HB1.out.size)); clear hb))
      all_goals
        go_wp2_with fail
        go_meet
        case rel => exact ⟨rfl, HB2.out⟩
    case rest =>
      obtain ⟨rfl, hb⟩ := hcut
      clear HX HA HXV HIA
      generalize wc = W9 at hb ⊢
      have B9 := Lib.hid (B8.out.trans (hb.mono B8.out.size))
      have Z9 := Lib.hid hb.size
      have Fw_9 := Lib.hid (Fw_8.out.on hb)
      clear Fw_8
      have Fx0_9 := Lib.hid (Fx0_8.out.on hb)
      clear Fx0_8
      have Fg_9 := Lib.hid (Fg_8.out.on hb)
      clear Fg_8
      have Qx0_9 := Lib.hid (Qx0_8.out.on hb)
      clear Qx0_8
      have Qg_9 := Lib.hid (Qg_8.out.on hb)
      clear Qg_8
      have Xv0_9 := Lib.hid (Xv0_8.out.on hb)
      clear Xv0_8
      have Xbx0_9 := Lib.hid (Xbx0_8.out.on hb)
      clear Xbx0_8
      clear hb
      have hcbx0 := Xbx0_9.out.cell
      go_wp2_with fail
      clear hcbx0
      refine (markFam_first _ _ _ xs0 _ Fx0_9 (Lib.hid Qx0_9.out) (by omega)).mono ?_
      rintro e W10 ⟨rfl, hm⟩
      have B10 := Lib.hid (below_past B9.out hm Ox0.out (by have := Z1.out; have := Z2.out; have := Z3.out; have := Z4.out; have := T1.out; omega) B9.out.size)
      have Z10 := Lib.hid (size_past hm)
      have Fw_10 := Lib.hid (ints_past Fw_9.out hm (apart_of Ow.out Ox0.out (by omega)))
      clear Fw_9
      have Fg_10 := Lib.hid (ints_past Fg_9.out hm (apart_of Ox0.out Og.out (by have := Z6.out; have := T6.out; omega)).symm)
      clear Fg_9
      have Qg_10 := Lib.hid (own_past Qg_9.out hm (apart_of Ox0.out Og.out (by have := Z6.out; have := T6.out; omega)).symm)
      clear Qg_9
      have Xv0_10 := Lib.hid (Xv0_9.out.past hm (far_low Ox0.out (by have := Z1.out; have := Z2.out; have := Z3.out; have := Z4.out; have := T1.out; omega)))
      clear Xv0_9
      have Xbx0_10 := Lib.hid (Xbx0_9.out.past hm (far_high Ox0.out (by omega)))
      clear Xbx0_9
      have Fx0_10 := Lib.hid hm.2.1
      clear Fx0_9
      clear hm
      go_wp2_with fail
      refine (eq_same _ _ _ _ out _ Fg_10 Fw_10 (by omega)).mono ?_
      rintro e W11 ⟨rfl, hb⟩
      have B11 := Lib.hid (B10.out.trans (hb.mono B10.out.size))
      have Z11 := Lib.hid hb.size
      have Fw_11 := Lib.hid (Fw_10.out.on hb)
      clear Fw_10
      have Fg_11 := Lib.hid (Fg_10.out.on hb)
      clear Fg_10
      have Qg_11 := Lib.hid (Qg_10.out.on hb)
      clear Qg_10
      have Xv0_11 := Lib.hid (Xv0_10.out.on hb)
      clear Xv0_10
      have Xbx0_11 := Lib.hid (Xbx0_10.out.on hb)
      clear Xbx0_10
      clear hb
      go_wp2_with fail
      refine (mark_first _ _ _ out _ Fg_11 (Lib.hid Qg_11.out) (by omega)).mono ?_
      rintro e W12 ⟨rfl, hm⟩
      have B12 := Lib.hid (below_past B11.out hm Og.out (by have := Z1.out; have := Z2.out; have := Z3.out; have := Z4.out; have := Z5.out; have := Z6.out; have := T1.out; have := T6.out; omega) B11.out.size)
      have Z12 := Lib.hid (size_past hm)
      have Fw_12 := Lib.hid (ints_past Fw_11.out hm (apart_of Ow.out Og.out (by have := Z5.out; have := Z6.out; have := T6.out; omega)))
      clear Fw_11
      have Xv0_12 := Lib.hid (Xv0_11.out.past hm (far_low Og.out (by have := Z1.out; have := Z2.out; have := Z3.out; have := Z4.out; have := Z5.out; have := Z6.out; have := T1.out; have := T6.out; omega)))
      clear Xv0_11
      have Xbx0_12 := Lib.hid (Xbx0_11.out.past hm (far_low Og.out (by have := Z6.out; have := T6.out; omega)))
      clear Xbx0_11
      have Fg_12 := Lib.hid hm.2.1
      clear Fg_11
      clear hm
      go_wp2_with fail
      refine (held_first _ _ out.length _ Fg_12 (by omega)).mono ?_
      rintro e W13 ⟨rfl, hb⟩
      have B13 := Lib.hid (B12.out.trans (hb.mono B12.out.size))
      have Z13 := Lib.hid hb.size
      have Fw_13 := Lib.hid (Fw_12.out.on hb)
      clear Fw_12
      have Fg_13 := Lib.hid (Fg_12.out.on hb)
      clear Fg_12
      have Xv0_13 := Lib.hid (Xv0_12.out.on hb)
      clear Xv0_12
      have Xbx0_13 := Lib.hid (Xbx0_12.out.on hb)
      clear Xbx0_12
      clear hb
      have hcv0 := Xv0_13.out.cell
      go_wp2_with fail
      clear hcv0
      refine (toFam_any _ _ xs0 _ (Lib.hid (I0.out.on B13.out)) hn0).mono ?_
      rintro e W14 ⟨au0, cu0, rfl, hi, ho, hcp, hb⟩
      have B14 := Lib.hid (B13.out.trans (hb.mono B13.out.size))
      have Z14 := Lib.hid hb.size
      have Fw_14 := Lib.hid (Fw_13.out.on hb)
      clear Fw_13
      have Fg_14 := Lib.hid (Fg_13.out.on hb)
      clear Fg_13
      have Xv0_14 := Lib.hid (Xv0_13.out.on hb)
      clear Xv0_13
      have Xbx0_14 := Lib.hid (Xbx0_13.out.on hb)
      clear Xbx0_13
      have Fu0_14 := Lib.hid hi
      have Ou0 := Lib.hid ho
      have Ku0 := Lib.hid hcp
      clear hi ho hcp hb
      go_wp2_with fail
      refine (HI.out _ _ _ Fu0_14 (Lib.hid (G0.out.on B14.out))).mono ?_
      rintro e W15 ⟨_, rfl, ⟨ah, ch, rfl, hi, ho, hcp⟩, hb⟩
      have B15 := Lib.hid (B14.out.trans (hb.mono B14.out.size))
      have Z15 := Lib.hid hb.size
      have Fw_15 := Lib.hid (Fw_14.out.on hb)
      clear Fw_14
      have Fg_15 := Lib.hid (Fg_14.out.on hb)
      clear Fg_14
      have Fu0_15 := Lib.hid (Fu0_14.out.on hb)
      clear Fu0_14
      have Xv0_15 := Lib.hid (Xv0_14.out.on hb)
      clear Xv0_14
      have Xbx0_15 := Lib.hid (Xbx0_14.out.on hb)
      clear Xbx0_14
      have Fh_15 := Lib.hid hi
      have Oh := Lib.hid ho
      clear hi ho hcp hb
      go_wp2_with fail
      refine (eq_same _ _ _ _ out _ Fh_15 Fw_15 (by omega)).mono ?_
      rintro e W16 ⟨rfl, hb⟩
      have B16 := Lib.hid (B15.out.trans (hb.mono B15.out.size))
      have Z16 := Lib.hid hb.size
      have Fw_16 := Lib.hid (Fw_15.out.on hb)
      clear Fw_15
      have Fg_16 := Lib.hid (Fg_15.out.on hb)
      clear Fg_15
      have Fh_16 := Lib.hid (Fh_15.out.on hb)
      clear Fh_15
      have Xv0_16 := Lib.hid (Xv0_15.out.on hb)
      clear Xv0_15
      have Xbx0_16 := Lib.hid (Xbx0_15.out.on hb)
      clear Xbx0_15
      clear hb
      go_wp2_with fail
      refine (held_first _ _ out.length _ Fg_16 (by omega)).mono ?_
      rintro e W17 ⟨rfl, hb⟩
      have B17 := Lib.hid (B16.out.trans (hb.mono B16.out.size))
      have Z17 := Lib.hid hb.size
      have Fw_17 := Lib.hid (Fw_16.out.on hb)
      clear Fw_16
      have Fg_17 := Lib.hid (Fg_16.out.on hb)
      clear Fg_16
      have Fh_17 := Lib.hid (Fh_16.out.on hb)
      clear Fh_16
      have Xv0_17 := Lib.hid (Xv0_16.out.on hb)
      clear Xv0_16
      have Xbx0_17 := Lib.hid (Xbx0_16.out.on hb)
      clear Xbx0_16
      clear hb
      go_wp2
      go_ret
      exact ⟨rfl, B17.out⟩

set_option maxRecDepth 100000 in
theorem contract (H : Type) (enc : TypeId × Value → H) (W : World) (base : Nat) (args : Array Value) (ds gs : List (DataW H)) (before : List MemPlace)
    (hval0 : ∀ (j : Nat) t v, Tryd.f6.params[j]? = some t → args[j]? = some v → Value.okWide Tryd.prog W .any base t v)
    (hW : DataW.Whole enc Tryd.prog Tryd.f6.params.toList Rows.fnExactFirstWithSpec.vars false W args.toList ds gs before)
    (hL : laidMetH Tryd.prog Rows.fnExactFirstWithRow.laid W) (hsh : W.ShapedOpen Tryd.prog) :
    Calls Tryd.prog 6 args W fun e W' => ∃ v, e = .returned v ∧ Rows.fnExactFirstWithSpec.post enc Tryd.prog Tryd.f6 false true false false W args v W' := by
  have hval : ∀ (j : Nat) t v, Tryd.f6.params[j]? = some t → args[j]? = some v → Value.okWide Tryd.prog W .any base t v := hval0
  have hg : Listed W := listed_of hL
  have hW' := hW
  obtain ⟨p, q, hA0, hV0, rfl, hfz, hnd⟩ := hW
  have hV := hV0
  obtain ⟨gi, gt, gcs, gfuel, gd, gp, rfl, -, -, -, -, -⟩ := trodVars_one hV0
  have hA : DataW.TrodAll enc Tryd.prog W 0 (fun _ => true) true Tryd.f6.params.toList args.toList ds p := hA0
  rw [Tryd.params6] at hA hval
  obtain ⟨v0, vs0, d0, ds0, p0, q0, hargs, rfl, rfl, h0, r0⟩ := trodAll_cons hA
  obtain ⟨v1, vs1, d1, ds1, p1, q1, rfl, rfl, rfl, h1, r1⟩ := trodAll_cons r0
  obtain ⟨rfl, rfl, rfl⟩ := trodAll_nil r1
  obtain rfl : args = #[v0, v1] := by cases args; simp_all
  obtain ⟨cs0, rfl, hsz0⟩ := okWide_struct Tryd.underlying32 (hval 0 32 v0 rfl rfl)
  obtain ⟨c0, rfl⟩ := one_of (hsz0.trans (by kernel_rfl))
  have k0 := h0
  have lt0 : ∀ x ∈ p0, x.block < W.heap.size := by obtain ⟨m, hm⟩ := k0; exact DataW.trod_lt m _ _ _ hm
  obtain ⟨a0, len0, cap0, z0, rfl, w0⟩ : ∃ a len cap zs, c0 = .slice a len cap ∧ Row .i64 W a len cap zs := by
    obtain ⟨fuel, hf⟩ := h0
    obtain ⟨y0, n0, -, -, hf1⟩ := trod_struct1 Tryd.underlying32 hf
    rcases open_ints Tryd.underlying30 Tryd.underlying3 (by kernel_rfl) hf1 with ⟨hcs, _⟩ | ⟨x, l, c, zs, hcs, _, hl, hm, hz, _, hcell, hwz⟩
    · have hcs2 : [c0] = [.slice none 0 0] := hcs
      simp only [List.cons.injEq, and_true] at hcs2
      exact ⟨none, 0, 0, [], hcs2, .inl ⟨rfl, rfl, rfl, rfl⟩⟩
    · have hcs2 : [c0] = [.slice (some x) l c] := hcs
      simp only [List.cons.injEq, and_true] at hcs2
      exact ⟨some x, l, c, zs, hcs2, .inr ⟨_, rfl, hl, hm, by simpa using hz, hcell, hwz⟩⟩
  obtain ⟨a1, rfl, rfl, rfl, w1⟩ := open_int Tryd.underlying3 (hval 1 3 v1 rfl rfl) h1
  clear hA0 hval0
  refine (walk a0 len0 cap0 z0 a1 W w0 w1 hg).mono fun e W' ⟨he, bel⟩ => ?_
  subst he
  exact ⟨_, rfl, _, _, _, _, _, _, hW', trodAll_mk1 (shut_bool Tryd.underlying4 _), (trodAll_cons_mk (Below.trod laidOut (by kernel_rfl) (of_decide_eq_true (by kernel_rfl)) k0 bel lt0) (trodAll_cons_mk (shut_int Tryd.underlying3 w1) trodAll_mk0)), Below.trodVars laidOut bel (by kernel_rfl) hV, bel.frame _, fun h => by cases h⟩

theorem reads (os : Os) {H : Type} (enc : TypeId × Value → H) : ∃ places, DataW.whole enc Tryd.prog ((laidWorld os).forCall (fun _ _ => 0) ⟨#[], #[.agg #[.slice none 0 0], .int .i64 0], []⟩).memory Tryd.f6.params.toList Rows.fnExactFirstWithSpec.vars false #[Value.agg #[Value.slice none 0 0], Value.int .i64 0].toList 8 = some ([.agg [.nil], .lit (.int .i64 0)], [Rows.laid_loop_example_g01206_impl_longestListed], places) :=
  ⟨MemPlace.row ⟨0, 0, none⟩ 4, by kernel_rfl⟩
theorem met (os : Os) (args : Array Value) : laidMet Tryd.prog Rows.fnExactFirstWithRow.laid ((laidWorld os).forCall (fun _ _ => 0) ⟨#[], args, []⟩).memory :=
  laidMet_of_run' 8 (by kernel_rfl) (by kernel_rfl)

set_option maxRecDepth 100000 in
theorem lifted (os : Os) (started : os.Started) (H : Type) (enc : TypeId × Value → H) (F : Stop.Interp) :
    ReturnsInHanded {} Tryd.checked os 6 .any ((OpenSpec.ofChange Rows.fnExactFirstWithSpec).preRow enc Tryd.prog Tryd.f6 Rows.fnExactFirstWithRow.domain false Rows.fnExactFirstWithRow.laid) (((OpenSpec.ofChange Rows.fnExactFirstWithSpec).at F).post enc Tryd.prog Tryd.f6 false true false false) := by
  obtain ⟨places, hx⟩ := reads os enc
  refine returnsInHanded_of_row (C := Tryd.checked) (s := OpenSpec.ofChange Rows.fnExactFirstWithSpec) own started (by kernel_rfl) Tryd.func6
    (witness_row_at (enc := enc) (C := Tryd.checked) false (laidWorld os) #[.agg #[.slice none 0 0], .int .i64 0] rfl (by kernel_rfl) (by kernel_rfl) (by kernel_rfl)
      (OpenSpec.preRow_of_cond 8 hx (by kernel_rfl) (fun k hk => by cases hk) (by kernel_rfl) (met os _))) ?_
  intro W base args ds gs before hval hW _ _ hsz hL hsh _
  exact contract H enc W base args ds gs before hval hW hL hsh

theorem said : Rows.FnExactFirstWithSaid :=
  OpenClaim.holds_of_cond 6 Tryd.f6 rfl rfl rfl rfl rfl rfl rfl ⟨rfl, rfl, rfl, rfl, rfl⟩ rfl rfl rfl rfl rfl (by kernel_rfl) Tryd.func6 (by kernel_rfl)
    (of_decide_eq_true (by kernel_rfl)) (by unfold Func.isWrapper; first | (rw [if_pos (by decide +kernel)]; kernel_rfl) | (rw [if_neg (by decide +kernel)]; exact ⟨rfl, rfl⟩))
    (fun os started H enc _ F => by rw [OpenClaim.pre_eq_preRow]; exact lifted os started H enc F)

theorem plain (f : FuncId) (fn : Func) (hf : Tryd.pinned.checked.prog.funcNamed "loop.example/g01206/laws.FnExactFirstWith" = some f) (hfn : Tryd.pinned.checked.prog.funcs[f]? = some fn) :
    false = Tryd.pinned.checked.prog.looks [] ∧ ∀ (j : Nat) t, fn.params[j]? = some t → Tryd.pinned.checked.prog.wantsStandIn t = false := by
  obtain rfl : f = 6 := Option.some.inj ((show Tryd.prog.funcNamed "loop.example/g01206/laws.FnExactFirstWith" = some 6 by kernel_rfl).symm.trans hf) |>.symm
  obtain rfl : fn = Tryd.f6 := (Option.some.inj (Tryd.func6.symm.trans hfn)).symm
  refine ⟨by kernel_rfl, fun j t ht => ?_⟩
  rw [Tryd.params6] at ht
  have hm : t ∈ [32, 3] := by simpa using Array.mem_of_getElem? ht
  have hall : ([32, 3].all fun u => !Tryd.prog.wantsStandIn u) = true := by kernel_rfl
  exact (show Tryd.prog.wantsStandIn t = false by simpa using List.all_eq_true.1 hall t hm)

theorem card : Rows.FnExactFirstWithCardSaid :=
  Claim7.holds_tied_plain_at .later [] _ _ _ _ said (fun _ h => by cases h) (by kernel_rfl) (fun _ h => by cases h) fnExactFirstWith_row_tie rfl ⟨rfl, rfl⟩ (by kernel_rfl) rfl plain (by kernel_rfl)
end Go.Proofs.YthamckchfhddjaaDoor.fnExactFirstWith
