/- Proved: for all arguments, laws.FnExactWicksParts returns true and leaves its arguments as they were. No condition. -/
import Derived.Test.YtllmglmjghbaiacRows
import Derived.WalkKit
import Derived.ProofKit
import Derived.OpenShut
import Derived.ShutString
import Derived.Test.YtllmglmjghbaiacBoth4W
import Derived.Test.YtllmglmjghbaiacLawKit
import Derived.ChangeOld
import Derived.Below
namespace Go.Proofs.Ytllmglmjghbaiac.fnExactWicksParts
open Go.ChangeShapes Go.WideShapes Go.ChangeAt Go.RowKit
open Go.ChangeMaps (open_string shut_string)
set_option linter.unusedVariables false

theorem own : ownKnob Try.prog.godebug = none := by kernel_rfl
theorem laidOut : laidOutB Try.prog = true := by kernel_rfl

def IsRow (k : IntKind) (w : World) (a : Option Addr) (len cap : Nat) (zs : List Int) : Prop :=
  (a = none ∧ len = 0 ∧ cap = 0 ∧ zs = []) ∨
  ∃ x, a = some x ∧ len ≤ cap ∧ cap ≤ maxLen ∧ zs.length = cap ∧ (∀ i, i < zs.length → w.cell? (x.add i) = some (.int k (zs.getD i 0))) ∧ ∀ n ∈ zs, (Lit.int k n).wf = true

set_option maxRecDepth 20000 in
set_option maxHeartbeats 1000000 in
theorem walk (a0 : Option Addr) (len0 cap0 : Nat) (z0 : List Int) (w : World) (w0 : IsRow .i64 w a0 len0 cap0 z0) :
    Calls Try.prog 4 #[.slice a0 len0 cap0] w fun e w' => e = .returned (.bool true) ∧ Below w.heap.size w w' := by
  obtain ⟨xs0, rfl, hI0, h640, hl0⟩ := row_ints w0
  clear w0
  have I0 := Lib.hid hI0
  have N0 := Lib.hid h640
  clear hI0 h640
  by_cases h0 : 1048576 < xs0.length
  · go_enter Try.func4, Try.ntmps4
    go_wp2_with fail
    go_ret
    exact ⟨rfl, Below.refl _ _⟩
  · skip
    have hn0 : xs0.length ≤ 1048576 := by omega
    clear h0
    obtain ⟨out0, out1, out2, r3, r4, hol0, hol1, hol2, hol01, hsp, him⟩ := bothWicksParts xs0 N0 hn0
    have HP := Lib.hid hsp
    have HI := Lib.hid him
    clear hsp him
    go_enter Try.func4, Try.ntmps4
    go_wp2_with fail
    refine (to_any _ _ xs0 _ I0 hn0).mono ?_
    rintro e W1 ⟨rfl, hi, ho, hb⟩
    have B1 := Lib.hid hb
    have Z1 := Lib.hid hb.size
    have Fs0_1 := Lib.hid hi
    have Os0 := Lib.hid ho
    clear hi ho hb
    go_wp2_with fail
    refine (HP.out _ _ _ Fs0_1).mono ?_
    rintro e W2 ⟨aw0, cw0, aw1, cw1, aw2, cw2, rfl, hi0, ho0, hc0, hi1, ho1, hc1, hi2, ho2, hc2, hap01, hap02, hap12, hb⟩
    have B2 := Lib.hid (B1.out.trans (hb.mono B1.out.size))
    have Z2 := Lib.hid hb.size
    have Fs0_2 := Lib.hid (Fs0_1.out.on hb)
    clear Fs0_1
    have Fw0_2 := Lib.hid hi0
    have Ow0 := Lib.hid ho0
    have Fw1_2 := Lib.hid hi1
    have Ow1 := Lib.hid ho1
    have Fw2_2 := Lib.hid hi2
    have Ow2 := Lib.hid ho2
    have Pw01 := Lib.hid hap01
    have Pw02 := Lib.hid hap02
    have Pw12 := Lib.hid hap12
    clear hi0 ho0 hi1 ho1 hi2 ho2 hap01 hap02 hap12 hb hc0 hc1 hc2
    go_wp2_with fail
    refine (to_any _ _ xs0 _ (Lib.hid (I0.out.on B2.out)) hn0).mono ?_
    rintro e W3 ⟨rfl, hi, ho, hb⟩
    have B3 := Lib.hid (B2.out.trans (hb.mono B2.out.size))
    have Z3 := Lib.hid hb.size
    have Fs0_3 := Lib.hid (Fs0_2.out.on hb)
    clear Fs0_2
    have Fw0_3 := Lib.hid (Fw0_2.out.on hb)
    clear Fw0_2
    have Fw1_3 := Lib.hid (Fw1_2.out.on hb)
    clear Fw1_2
    have Fw2_3 := Lib.hid (Fw2_2.out.on hb)
    clear Fw2_2
    have Fx0_3 := Lib.hid hi
    have Ox0 := Lib.hid ho
    clear hi ho hb
    go_wp2_with fail
    refine (HI.out _ _ _ Fx0_3).mono ?_
    rintro e W4 ⟨ag0, cg0, ag1, cg1, ag2, cg2, rfl, hi0, ho0, hc0, hi1, ho1, hc1, hi2, ho2, hc2, hap01, hap02, hap12, hb⟩
    have B4 := Lib.hid (B3.out.trans (hb.mono B3.out.size))
    have Z4 := Lib.hid hb.size
    have Fs0_4 := Lib.hid (Fs0_3.out.on hb)
    clear Fs0_3
    have Fw0_4 := Lib.hid (Fw0_3.out.on hb)
    clear Fw0_3
    have Fw1_4 := Lib.hid (Fw1_3.out.on hb)
    clear Fw1_3
    have Fw2_4 := Lib.hid (Fw2_3.out.on hb)
    clear Fw2_3
    have Fx0_4 := Lib.hid (Fx0_3.out.on hb)
    clear Fx0_3
    have Qx0_4 := Lib.hid (Ox0.out.on hb)
    have Fg0_4 := Lib.hid hi0
    have Og0 := Lib.hid ho0
    have Fg1_4 := Lib.hid hi1
    have Og1 := Lib.hid ho1
    have Fg2_4 := Lib.hid hi2
    have Og2 := Lib.hid ho2
    have Pg01 := Lib.hid hap01
    have Pg02 := Lib.hid hap02
    have Pg12 := Lib.hid hap12
    clear hi0 ho0 hi1 ho1 hi2 ho2 hap01 hap02 hap12 hb hc0 hc1 hc2
    go_wp2_with fail
    refine (eq_same _ _ _ _ out0 _ Fg0_4 Fw0_4 (by omega)).mono ?_
    rintro e W5 ⟨rfl, hb⟩
    have B5 := Lib.hid (B4.out.trans (hb.mono B4.out.size))
    have Z5 := Lib.hid hb.size
    have Fw0_5 := Lib.hid (Fw0_4.out.on hb)
    clear Fw0_4
    have Fw1_5 := Lib.hid (Fw1_4.out.on hb)
    clear Fw1_4
    have Fw2_5 := Lib.hid (Fw2_4.out.on hb)
    clear Fw2_4
    have Fx0_5 := Lib.hid (Fx0_4.out.on hb)
    clear Fx0_4
    have Fg0_5 := Lib.hid (Fg0_4.out.on hb)
    clear Fg0_4
    have Fg1_5 := Lib.hid (Fg1_4.out.on hb)
    clear Fg1_4
    have Fg2_5 := Lib.hid (Fg2_4.out.on hb)
    clear Fg2_4
    have Qx0_5 := Lib.hid (Qx0_4.out.on hb)
    clear Qx0_4
    have Qg0_5 := Lib.hid (Og0.out.on hb)
    have Qg1_5 := Lib.hid (Og1.out.on hb)
    have Qg2_5 := Lib.hid (Og2.out.on hb)
    clear hb
    go_wp2_with fail
    refine (eq_same _ _ _ _ out1 _ Fg1_5 Fw1_5 (by omega)).mono ?_
    rintro e W6 ⟨rfl, hb⟩
    have B6 := Lib.hid (B5.out.trans (hb.mono B5.out.size))
    have Z6 := Lib.hid hb.size
    have Fw0_6 := Lib.hid (Fw0_5.out.on hb)
    clear Fw0_5
    have Fw1_6 := Lib.hid (Fw1_5.out.on hb)
    clear Fw1_5
    have Fw2_6 := Lib.hid (Fw2_5.out.on hb)
    clear Fw2_5
    have Fx0_6 := Lib.hid (Fx0_5.out.on hb)
    clear Fx0_5
    have Fg0_6 := Lib.hid (Fg0_5.out.on hb)
    clear Fg0_5
    have Fg1_6 := Lib.hid (Fg1_5.out.on hb)
    clear Fg1_5
    have Fg2_6 := Lib.hid (Fg2_5.out.on hb)
    clear Fg2_5
    have Qx0_6 := Lib.hid (Qx0_5.out.on hb)
    clear Qx0_5
    have Qg0_6 := Lib.hid (Qg0_5.out.on hb)
    clear Qg0_5
    have Qg1_6 := Lib.hid (Qg1_5.out.on hb)
    clear Qg1_5
    have Qg2_6 := Lib.hid (Qg2_5.out.on hb)
    clear Qg2_5
    clear hb
    go_wp2_with fail
    refine (eq_same _ _ _ _ out2 _ Fg2_6 Fw2_6 (by omega)).mono ?_
    rintro e W7 ⟨rfl, hb⟩
    have B7 := Lib.hid (B6.out.trans (hb.mono B6.out.size))
    have Z7 := Lib.hid hb.size
    have Fw0_7 := Lib.hid (Fw0_6.out.on hb)
    clear Fw0_6
    have Fw1_7 := Lib.hid (Fw1_6.out.on hb)
    clear Fw1_6
    have Fw2_7 := Lib.hid (Fw2_6.out.on hb)
    clear Fw2_6
    have Fx0_7 := Lib.hid (Fx0_6.out.on hb)
    clear Fx0_6
    have Fg0_7 := Lib.hid (Fg0_6.out.on hb)
    clear Fg0_6
    have Fg1_7 := Lib.hid (Fg1_6.out.on hb)
    clear Fg1_6
    have Fg2_7 := Lib.hid (Fg2_6.out.on hb)
    clear Fg2_6
    have Qx0_7 := Lib.hid (Qx0_6.out.on hb)
    clear Qx0_6
    have Qg0_7 := Lib.hid (Qg0_6.out.on hb)
    clear Qg0_6
    have Qg1_7 := Lib.hid (Qg1_6.out.on hb)
    clear Qg1_6
    have Qg2_7 := Lib.hid (Qg2_6.out.on hb)
    clear Qg2_6
    clear hb
    go_wp2_with fail
    refine (to_any _ _ xs0 _ (Lib.hid (I0.out.on B7.out)) hn0).mono ?_
    rintro e W8 ⟨rfl, hi, ho, hb⟩
    have B8 := Lib.hid (B7.out.trans (hb.mono B7.out.size))
    have Z8 := Lib.hid hb.size
    have Fw0_8 := Lib.hid (Fw0_7.out.on hb)
    clear Fw0_7
    have Fw1_8 := Lib.hid (Fw1_7.out.on hb)
    clear Fw1_7
    have Fw2_8 := Lib.hid (Fw2_7.out.on hb)
    clear Fw2_7
    have Fx0_8 := Lib.hid (Fx0_7.out.on hb)
    clear Fx0_7
    have Fg0_8 := Lib.hid (Fg0_7.out.on hb)
    clear Fg0_7
    have Fg1_8 := Lib.hid (Fg1_7.out.on hb)
    clear Fg1_7
    have Fg2_8 := Lib.hid (Fg2_7.out.on hb)
    clear Fg2_7
    have Qx0_8 := Lib.hid (Qx0_7.out.on hb)
    clear Qx0_7
    have Qg0_8 := Lib.hid (Qg0_7.out.on hb)
    clear Qg0_7
    have Qg1_8 := Lib.hid (Qg1_7.out.on hb)
    clear Qg1_7
    have Qg2_8 := Lib.hid (Qg2_7.out.on hb)
    clear Qg2_7
    have Fy0_8 := Lib.hid hi
    have Oy0 := Lib.hid ho
    clear hi ho hb
    go_wp2_with fail
    refine (eq_same _ _ _ _ xs0 _ Fx0_8 Fy0_8 (by omega)).mono ?_
    rintro e W9 ⟨rfl, hb⟩
    have B9 := Lib.hid (B8.out.trans (hb.mono B8.out.size))
    have Z9 := Lib.hid hb.size
    have Fw0_9 := Lib.hid (Fw0_8.out.on hb)
    clear Fw0_8
    have Fw1_9 := Lib.hid (Fw1_8.out.on hb)
    clear Fw1_8
    have Fw2_9 := Lib.hid (Fw2_8.out.on hb)
    clear Fw2_8
    have Fx0_9 := Lib.hid (Fx0_8.out.on hb)
    clear Fx0_8
    have Fg0_9 := Lib.hid (Fg0_8.out.on hb)
    clear Fg0_8
    have Fg1_9 := Lib.hid (Fg1_8.out.on hb)
    clear Fg1_8
    have Fg2_9 := Lib.hid (Fg2_8.out.on hb)
    clear Fg2_8
    have Fy0_9 := Lib.hid (Fy0_8.out.on hb)
    clear Fy0_8
    have Qx0_9 := Lib.hid (Qx0_8.out.on hb)
    clear Qx0_8
    have Qg0_9 := Lib.hid (Qg0_8.out.on hb)
    clear Qg0_8
    have Qg1_9 := Lib.hid (Qg1_8.out.on hb)
    clear Qg1_8
    have Qg2_9 := Lib.hid (Qg2_8.out.on hb)
    clear Qg2_8
    clear hb
    go_wp2_with fail
    refine (mark_first _ _ _ xs0 _ Fx0_9 (Lib.hid (Qx0_9.out)) (by omega)).mono ?_
    rintro e W10 ⟨rfl, hm⟩
    have B10 := Lib.hid (below_past B9.out hm Ox0.out (by have := Z1.out; have := Z2.out; omega) B9.out.size)
    have Z10 := Lib.hid (size_past hm)
    have Fw0_10 := Lib.hid (ints_past Fw0_9.out hm (apart_of Ow0.out Ox0.out (Nat.le_refl _)))
    clear Fw0_9
    have Fw1_10 := Lib.hid (ints_past Fw1_9.out hm (apart_of Ow1.out Ox0.out (Nat.le_refl _)))
    clear Fw1_9
    have Fw2_10 := Lib.hid (ints_past Fw2_9.out hm (apart_of Ow2.out Ox0.out (Nat.le_refl _)))
    clear Fw2_9
    have Fg0_10 := Lib.hid (ints_past Fg0_9.out hm (apart_of Ox0.out Og0.out (Nat.le_refl _)).symm)
    clear Fg0_9
    have Fg1_10 := Lib.hid (ints_past Fg1_9.out hm (apart_of Ox0.out Og1.out (Nat.le_refl _)).symm)
    clear Fg1_9
    have Fg2_10 := Lib.hid (ints_past Fg2_9.out hm (apart_of Ox0.out Og2.out (Nat.le_refl _)).symm)
    clear Fg2_9
    have Qg0_10 := Lib.hid (own_past Qg0_9.out hm (apart_of Ox0.out Og0.out (Nat.le_refl _)).symm)
    clear Qg0_9
    have Qg1_10 := Lib.hid (own_past Qg1_9.out hm (apart_of Ox0.out Og1.out (Nat.le_refl _)).symm)
    clear Qg1_9
    have Qg2_10 := Lib.hid (own_past Qg2_9.out hm (apart_of Ox0.out Og2.out (Nat.le_refl _)).symm)
    clear Qg2_9
    have Fx0_10 := Lib.hid hm.2.1
    clear hm
    go_wp2_with fail
    refine (eq_same _ _ _ _ out0 _ Fg0_10 Fw0_10 (by omega)).mono ?_
    rintro e W11 ⟨rfl, hb⟩
    have B11 := Lib.hid (B10.out.trans (hb.mono B10.out.size))
    have Z11 := Lib.hid hb.size
    have Fw0_11 := Lib.hid (Fw0_10.out.on hb)
    clear Fw0_10
    have Fw1_11 := Lib.hid (Fw1_10.out.on hb)
    clear Fw1_10
    have Fw2_11 := Lib.hid (Fw2_10.out.on hb)
    clear Fw2_10
    have Fg0_11 := Lib.hid (Fg0_10.out.on hb)
    clear Fg0_10
    have Fg1_11 := Lib.hid (Fg1_10.out.on hb)
    clear Fg1_10
    have Fg2_11 := Lib.hid (Fg2_10.out.on hb)
    clear Fg2_10
    have Qg0_11 := Lib.hid (Qg0_10.out.on hb)
    clear Qg0_10
    have Qg1_11 := Lib.hid (Qg1_10.out.on hb)
    clear Qg1_10
    have Qg2_11 := Lib.hid (Qg2_10.out.on hb)
    clear Qg2_10
    clear hb
    go_wp2_with fail
    refine (eq_same _ _ _ _ out1 _ Fg1_11 Fw1_11 (by omega)).mono ?_
    rintro e W12 ⟨rfl, hb⟩
    have B12 := Lib.hid (B11.out.trans (hb.mono B11.out.size))
    have Z12 := Lib.hid hb.size
    have Fw0_12 := Lib.hid (Fw0_11.out.on hb)
    clear Fw0_11
    have Fw1_12 := Lib.hid (Fw1_11.out.on hb)
    clear Fw1_11
    have Fw2_12 := Lib.hid (Fw2_11.out.on hb)
    clear Fw2_11
    have Fg0_12 := Lib.hid (Fg0_11.out.on hb)
    clear Fg0_11
    have Fg1_12 := Lib.hid (Fg1_11.out.on hb)
    clear Fg1_11
    have Fg2_12 := Lib.hid (Fg2_11.out.on hb)
    clear Fg2_11
    have Qg0_12 := Lib.hid (Qg0_11.out.on hb)
    clear Qg0_11
    have Qg1_12 := Lib.hid (Qg1_11.out.on hb)
    clear Qg1_11
    have Qg2_12 := Lib.hid (Qg2_11.out.on hb)
    clear Qg2_11
    clear hb
    go_wp2_with fail
    refine (eq_same _ _ _ _ out2 _ Fg2_12 Fw2_12 (by omega)).mono ?_
    rintro e W13 ⟨rfl, hb⟩
    have B13 := Lib.hid (B12.out.trans (hb.mono B12.out.size))
    have Z13 := Lib.hid hb.size
    have Fw0_13 := Lib.hid (Fw0_12.out.on hb)
    clear Fw0_12
    have Fw1_13 := Lib.hid (Fw1_12.out.on hb)
    clear Fw1_12
    have Fw2_13 := Lib.hid (Fw2_12.out.on hb)
    clear Fw2_12
    have Fg0_13 := Lib.hid (Fg0_12.out.on hb)
    clear Fg0_12
    have Fg1_13 := Lib.hid (Fg1_12.out.on hb)
    clear Fg1_12
    have Fg2_13 := Lib.hid (Fg2_12.out.on hb)
    clear Fg2_12
    have Qg0_13 := Lib.hid (Qg0_12.out.on hb)
    clear Qg0_12
    have Qg1_13 := Lib.hid (Qg1_12.out.on hb)
    clear Qg1_12
    have Qg2_13 := Lib.hid (Qg2_12.out.on hb)
    clear Qg2_12
    clear hb
    go_wp2_with fail
    refine (mark_first _ _ _ out0 _ Fg0_13 (Lib.hid (Qg0_13.out)) (by omega)).mono ?_
    rintro e W14 ⟨rfl, hm⟩
    have B14 := Lib.hid (below_past B13.out hm Og0.out (by have := Z1.out; have := Z2.out; have := Z3.out; omega) B13.out.size)
    have Z14 := Lib.hid (size_past hm)
    have Fw0_14 := Lib.hid (ints_past Fw0_13.out hm (apart_of Ow0.out Og0.out (by have := Z3.out; omega)))
    clear Fw0_13
    have Fw1_14 := Lib.hid (ints_past Fw1_13.out hm (apart_of Ow1.out Og0.out (by have := Z3.out; omega)))
    clear Fw1_13
    have Fw2_14 := Lib.hid (ints_past Fw2_13.out hm (apart_of Ow2.out Og0.out (by have := Z3.out; omega)))
    clear Fw2_13
    have Fg1_14 := Lib.hid (ints_past Fg1_13.out hm Pg01.out.symm)
    clear Fg1_13
    have Fg2_14 := Lib.hid (ints_past Fg2_13.out hm Pg02.out.symm)
    clear Fg2_13
    have Qg1_14 := Lib.hid (own_past Qg1_13.out hm Pg01.out.symm)
    clear Qg1_13
    have Qg2_14 := Lib.hid (own_past Qg2_13.out hm Pg02.out.symm)
    clear Qg2_13
    have Fg0_14 := Lib.hid hm.2.1
    clear hm
    go_wp2_with fail
    refine (mark_next _ out0.length _ _ out1 _ Fg1_14 (Lib.hid (Qg1_14.out)) (by omega) (by omega)).mono ?_
    rintro e W15 ⟨rfl, hm⟩
    have B15 := Lib.hid (below_past B14.out hm Og1.out (by have := Z1.out; have := Z2.out; have := Z3.out; omega) B14.out.size)
    have Z15 := Lib.hid (size_past hm)
    have Fw0_15 := Lib.hid (ints_past Fw0_14.out hm (apart_of Ow0.out Og1.out (by have := Z3.out; omega)))
    clear Fw0_14
    have Fw1_15 := Lib.hid (ints_past Fw1_14.out hm (apart_of Ow1.out Og1.out (by have := Z3.out; omega)))
    clear Fw1_14
    have Fw2_15 := Lib.hid (ints_past Fw2_14.out hm (apart_of Ow2.out Og1.out (by have := Z3.out; omega)))
    clear Fw2_14
    have Fg0_15 := Lib.hid (marks_past Fg0_14.out hm Pg01.out)
    clear Fg0_14
    have Fg2_15 := Lib.hid (ints_past Fg2_14.out hm Pg12.out.symm)
    clear Fg2_14
    have Qg2_15 := Lib.hid (own_past Qg2_14.out hm Pg12.out.symm)
    clear Qg2_14
    have Fg1_15 := Lib.hid hm.2.1
    clear hm
    go_wp2_with fail
    refine (mark_third _ out0.length out1.length _ _ out2 _ Fg2_15 (Lib.hid (Qg2_15.out)) (by omega) (by omega)).mono ?_
    rintro e W16 ⟨rfl, hm⟩
    have B16 := Lib.hid (below_past B15.out hm Og2.out (by have := Z1.out; have := Z2.out; have := Z3.out; omega) B15.out.size)
    have Z16 := Lib.hid (size_past hm)
    have Fw0_16 := Lib.hid (ints_past Fw0_15.out hm (apart_of Ow0.out Og2.out (by have := Z3.out; omega)))
    clear Fw0_15
    have Fw1_16 := Lib.hid (ints_past Fw1_15.out hm (apart_of Ow1.out Og2.out (by have := Z3.out; omega)))
    clear Fw1_15
    have Fw2_16 := Lib.hid (ints_past Fw2_15.out hm (apart_of Ow2.out Og2.out (by have := Z3.out; omega)))
    clear Fw2_15
    have Fg0_16 := Lib.hid (marks_past Fg0_15.out hm Pg02.out)
    clear Fg0_15
    have Fg1_16 := Lib.hid (marks_past Fg1_15.out hm Pg12.out)
    clear Fg1_15
    have Fg2_16 := Lib.hid hm.2.1
    clear hm
    go_wp2_with fail
    refine (held_first _ _ out0.length _ Fg0_16 (by omega)).mono ?_
    rintro e W17 ⟨rfl, hb⟩
    have B17 := Lib.hid (B16.out.trans (hb.mono B16.out.size))
    have Z17 := Lib.hid hb.size
    have Fw0_17 := Lib.hid (Fw0_16.out.on hb)
    clear Fw0_16
    have Fw1_17 := Lib.hid (Fw1_16.out.on hb)
    clear Fw1_16
    have Fw2_17 := Lib.hid (Fw2_16.out.on hb)
    clear Fw2_16
    have Fg0_17 := Lib.hid (Fg0_16.out.on hb)
    clear Fg0_16
    have Fg1_17 := Lib.hid (Fg1_16.out.on hb)
    clear Fg1_16
    have Fg2_17 := Lib.hid (Fg2_16.out.on hb)
    clear Fg2_16
    clear hb
    go_wp2_with fail
    refine (held_next _ _ out0.length out1.length _ Fg1_17 (by omega) (by omega)).mono ?_
    rintro e W18 ⟨rfl, hb⟩
    have B18 := Lib.hid (B17.out.trans (hb.mono B17.out.size))
    have Z18 := Lib.hid hb.size
    have Fw0_18 := Lib.hid (Fw0_17.out.on hb)
    clear Fw0_17
    have Fw1_18 := Lib.hid (Fw1_17.out.on hb)
    clear Fw1_17
    have Fw2_18 := Lib.hid (Fw2_17.out.on hb)
    clear Fw2_17
    have Fg0_18 := Lib.hid (Fg0_17.out.on hb)
    clear Fg0_17
    have Fg1_18 := Lib.hid (Fg1_17.out.on hb)
    clear Fg1_17
    have Fg2_18 := Lib.hid (Fg2_17.out.on hb)
    clear Fg2_17
    clear hb
    go_wp2_with fail
    refine (held_third _ _ out0.length out1.length out2.length _ Fg2_18 (by omega) (by omega)).mono ?_
    rintro e W19 ⟨rfl, hb⟩
    have B19 := Lib.hid (B18.out.trans (hb.mono B18.out.size))
    have Z19 := Lib.hid hb.size
    have Fw0_19 := Lib.hid (Fw0_18.out.on hb)
    clear Fw0_18
    have Fw1_19 := Lib.hid (Fw1_18.out.on hb)
    clear Fw1_18
    have Fw2_19 := Lib.hid (Fw2_18.out.on hb)
    clear Fw2_18
    have Fg0_19 := Lib.hid (Fg0_18.out.on hb)
    clear Fg0_18
    have Fg1_19 := Lib.hid (Fg1_18.out.on hb)
    clear Fg1_18
    have Fg2_19 := Lib.hid (Fg2_18.out.on hb)
    clear Fg2_18
    clear hb
    go_wp2_with fail
    refine (to_any _ _ xs0 _ (Lib.hid (I0.out.on B19.out)) hn0).mono ?_
    rintro e W20 ⟨rfl, hi, ho, hb⟩
    have B20 := Lib.hid (B19.out.trans (hb.mono B19.out.size))
    have Z20 := Lib.hid hb.size
    have Fw0_20 := Lib.hid (Fw0_19.out.on hb)
    clear Fw0_19
    have Fw1_20 := Lib.hid (Fw1_19.out.on hb)
    clear Fw1_19
    have Fw2_20 := Lib.hid (Fw2_19.out.on hb)
    clear Fw2_19
    have Fg0_20 := Lib.hid (Fg0_19.out.on hb)
    clear Fg0_19
    have Fg1_20 := Lib.hid (Fg1_19.out.on hb)
    clear Fg1_19
    have Fg2_20 := Lib.hid (Fg2_19.out.on hb)
    clear Fg2_19
    have Fu0_20 := Lib.hid hi
    have Ou0 := Lib.hid ho
    clear hi ho hb
    go_wp2_with fail
    refine (HI.out _ _ _ Fu0_20).mono ?_
    rintro e W21 ⟨ah0, ch0, ah1, ch1, ah2, ch2, rfl, hi0, ho0, hc0, hi1, ho1, hc1, hi2, ho2, hc2, hap01, hap02, hap12, hb⟩
    have B21 := Lib.hid (B20.out.trans (hb.mono B20.out.size))
    have Z21 := Lib.hid hb.size
    have Fw0_21 := Lib.hid (Fw0_20.out.on hb)
    clear Fw0_20
    have Fw1_21 := Lib.hid (Fw1_20.out.on hb)
    clear Fw1_20
    have Fw2_21 := Lib.hid (Fw2_20.out.on hb)
    clear Fw2_20
    have Fg0_21 := Lib.hid (Fg0_20.out.on hb)
    clear Fg0_20
    have Fg1_21 := Lib.hid (Fg1_20.out.on hb)
    clear Fg1_20
    have Fg2_21 := Lib.hid (Fg2_20.out.on hb)
    clear Fg2_20
    have Fu0_21 := Lib.hid (Fu0_20.out.on hb)
    clear Fu0_20
    have Fh0_21 := Lib.hid hi0
    have Oh0 := Lib.hid ho0
    have Fh1_21 := Lib.hid hi1
    have Oh1 := Lib.hid ho1
    have Fh2_21 := Lib.hid hi2
    have Oh2 := Lib.hid ho2
    have Ph01 := Lib.hid hap01
    have Ph02 := Lib.hid hap02
    have Ph12 := Lib.hid hap12
    clear hi0 ho0 hi1 ho1 hi2 ho2 hap01 hap02 hap12 hb hc0 hc1 hc2
    go_wp2_with fail
    refine (eq_same _ _ _ _ out0 _ Fh0_21 Fw0_21 (by omega)).mono ?_
    rintro e W22 ⟨rfl, hb⟩
    have B22 := Lib.hid (B21.out.trans (hb.mono B21.out.size))
    have Z22 := Lib.hid hb.size
    have Fw0_22 := Lib.hid (Fw0_21.out.on hb)
    clear Fw0_21
    have Fw1_22 := Lib.hid (Fw1_21.out.on hb)
    clear Fw1_21
    have Fw2_22 := Lib.hid (Fw2_21.out.on hb)
    clear Fw2_21
    have Fg0_22 := Lib.hid (Fg0_21.out.on hb)
    clear Fg0_21
    have Fg1_22 := Lib.hid (Fg1_21.out.on hb)
    clear Fg1_21
    have Fg2_22 := Lib.hid (Fg2_21.out.on hb)
    clear Fg2_21
    have Fh0_22 := Lib.hid (Fh0_21.out.on hb)
    clear Fh0_21
    have Fh1_22 := Lib.hid (Fh1_21.out.on hb)
    clear Fh1_21
    have Fh2_22 := Lib.hid (Fh2_21.out.on hb)
    clear Fh2_21
    clear hb
    go_wp2_with fail
    refine (eq_same _ _ _ _ out1 _ Fh1_22 Fw1_22 (by omega)).mono ?_
    rintro e W23 ⟨rfl, hb⟩
    have B23 := Lib.hid (B22.out.trans (hb.mono B22.out.size))
    have Z23 := Lib.hid hb.size
    have Fw0_23 := Lib.hid (Fw0_22.out.on hb)
    clear Fw0_22
    have Fw1_23 := Lib.hid (Fw1_22.out.on hb)
    clear Fw1_22
    have Fw2_23 := Lib.hid (Fw2_22.out.on hb)
    clear Fw2_22
    have Fg0_23 := Lib.hid (Fg0_22.out.on hb)
    clear Fg0_22
    have Fg1_23 := Lib.hid (Fg1_22.out.on hb)
    clear Fg1_22
    have Fg2_23 := Lib.hid (Fg2_22.out.on hb)
    clear Fg2_22
    have Fh0_23 := Lib.hid (Fh0_22.out.on hb)
    clear Fh0_22
    have Fh1_23 := Lib.hid (Fh1_22.out.on hb)
    clear Fh1_22
    have Fh2_23 := Lib.hid (Fh2_22.out.on hb)
    clear Fh2_22
    clear hb
    go_wp2_with fail
    refine (eq_same _ _ _ _ out2 _ Fh2_23 Fw2_23 (by omega)).mono ?_
    rintro e W24 ⟨rfl, hb⟩
    have B24 := Lib.hid (B23.out.trans (hb.mono B23.out.size))
    have Z24 := Lib.hid hb.size
    have Fw0_24 := Lib.hid (Fw0_23.out.on hb)
    clear Fw0_23
    have Fw1_24 := Lib.hid (Fw1_23.out.on hb)
    clear Fw1_23
    have Fw2_24 := Lib.hid (Fw2_23.out.on hb)
    clear Fw2_23
    have Fg0_24 := Lib.hid (Fg0_23.out.on hb)
    clear Fg0_23
    have Fg1_24 := Lib.hid (Fg1_23.out.on hb)
    clear Fg1_23
    have Fg2_24 := Lib.hid (Fg2_23.out.on hb)
    clear Fg2_23
    have Fh0_24 := Lib.hid (Fh0_23.out.on hb)
    clear Fh0_23
    have Fh1_24 := Lib.hid (Fh1_23.out.on hb)
    clear Fh1_23
    have Fh2_24 := Lib.hid (Fh2_23.out.on hb)
    clear Fh2_23
    clear hb
    go_wp2_with fail
    refine (held_first _ _ out0.length _ Fg0_24 (by omega)).mono ?_
    rintro e W25 ⟨rfl, hb⟩
    have B25 := Lib.hid (B24.out.trans (hb.mono B24.out.size))
    have Z25 := Lib.hid hb.size
    have Fw0_25 := Lib.hid (Fw0_24.out.on hb)
    clear Fw0_24
    have Fw1_25 := Lib.hid (Fw1_24.out.on hb)
    clear Fw1_24
    have Fw2_25 := Lib.hid (Fw2_24.out.on hb)
    clear Fw2_24
    have Fg0_25 := Lib.hid (Fg0_24.out.on hb)
    clear Fg0_24
    have Fg1_25 := Lib.hid (Fg1_24.out.on hb)
    clear Fg1_24
    have Fg2_25 := Lib.hid (Fg2_24.out.on hb)
    clear Fg2_24
    have Fh0_25 := Lib.hid (Fh0_24.out.on hb)
    clear Fh0_24
    have Fh1_25 := Lib.hid (Fh1_24.out.on hb)
    clear Fh1_24
    have Fh2_25 := Lib.hid (Fh2_24.out.on hb)
    clear Fh2_24
    clear hb
    go_wp2_with fail
    refine (held_next _ _ out0.length out1.length _ Fg1_25 (by omega) (by omega)).mono ?_
    rintro e W26 ⟨rfl, hb⟩
    have B26 := Lib.hid (B25.out.trans (hb.mono B25.out.size))
    have Z26 := Lib.hid hb.size
    have Fw0_26 := Lib.hid (Fw0_25.out.on hb)
    clear Fw0_25
    have Fw1_26 := Lib.hid (Fw1_25.out.on hb)
    clear Fw1_25
    have Fw2_26 := Lib.hid (Fw2_25.out.on hb)
    clear Fw2_25
    have Fg0_26 := Lib.hid (Fg0_25.out.on hb)
    clear Fg0_25
    have Fg1_26 := Lib.hid (Fg1_25.out.on hb)
    clear Fg1_25
    have Fg2_26 := Lib.hid (Fg2_25.out.on hb)
    clear Fg2_25
    have Fh0_26 := Lib.hid (Fh0_25.out.on hb)
    clear Fh0_25
    have Fh1_26 := Lib.hid (Fh1_25.out.on hb)
    clear Fh1_25
    have Fh2_26 := Lib.hid (Fh2_25.out.on hb)
    clear Fh2_25
    clear hb
    go_wp2_with fail
    refine (held_third _ _ out0.length out1.length out2.length _ Fg2_26 (by omega) (by omega)).mono ?_
    rintro e W27 ⟨rfl, hb⟩
    have B27 := Lib.hid (B26.out.trans (hb.mono B26.out.size))
    have Z27 := Lib.hid hb.size
    have Fw0_27 := Lib.hid (Fw0_26.out.on hb)
    clear Fw0_26
    have Fw1_27 := Lib.hid (Fw1_26.out.on hb)
    clear Fw1_26
    have Fw2_27 := Lib.hid (Fw2_26.out.on hb)
    clear Fw2_26
    have Fg0_27 := Lib.hid (Fg0_26.out.on hb)
    clear Fg0_26
    have Fg1_27 := Lib.hid (Fg1_26.out.on hb)
    clear Fg1_26
    have Fg2_27 := Lib.hid (Fg2_26.out.on hb)
    clear Fg2_26
    have Fh0_27 := Lib.hid (Fh0_26.out.on hb)
    clear Fh0_26
    have Fh1_27 := Lib.hid (Fh1_26.out.on hb)
    clear Fh1_26
    have Fh2_27 := Lib.hid (Fh2_26.out.on hb)
    clear Fh2_26
    clear hb
    go_wp2
    go_ret
    exact ⟨rfl, B27.out⟩

set_option maxRecDepth 100000 in
theorem lifted (os : Os) (started : os.Started) (H : Type) (enc : TypeId × Value → H) :
    ReturnsInHanded {} Try.checked os 4 .any (Rows.fnExactWicksPartsSpec.pre6 enc Try.prog Try.f4 Rows.fnExactWicksPartsRow.domain false) (Rows.fnExactWicksPartsSpec.post enc Try.prog Try.f4 false true false false) := by
  refine returnsInHanded_of_change (C := Try.checked) own started (by kernel_rfl) Try.func4
    (ChangeSpec.witness6 (enc := enc) (C := Try.checked) false ⟨#[], #[.slice none 0 0], []⟩ 8 (by kernel_rfl) (by kernel_rfl) (by kernel_rfl) (by kernel_rfl)) ?_
  intro W base args ds gs before hval0 hW hcnd _
  have hval : ∀ (j : Nat) t v, Try.f4.params[j]? = some t → args[j]? = some v → Value.okWide Try.prog W .any base t v := hval0
  have hW' := hW
  obtain ⟨p, q, hA0, hV, rfl, hfz, hnd⟩ := hW
  have hA : DataW.TrodAll enc Try.prog W 0 (fun _ => true) true Try.f4.params.toList args.toList ds p := hA0
  rw [Try.params4] at hA hval
  obtain ⟨v0, vs0, d0, ds0, p0, q0, hargs, rfl, rfl, h0, r0⟩ := trodAll_cons hA
  obtain ⟨rfl, rfl, rfl⟩ := trodAll_nil r0
  obtain rfl : args = #[v0] := by cases args; simp_all
  obtain ⟨rfl, rfl⟩ := trodVars_none hV
  obtain ⟨a0, len0, cap0, rfl⟩ := okWide_slice Try.underlying22 (hval 0 22 v0 rfl rfl)
  have k0 := h0
  have lt0 : ∀ x ∈ p0, x.block < W.heap.size := by obtain ⟨m, hm⟩ := k0; exact DataW.trod_lt m _ _ _ hm
  obtain ⟨z0, w0⟩ : ∃ zs, IsRow .i64 W a0 len0 cap0 zs := by
    obtain ⟨fuel, hf⟩ := h0
    rcases open_ints Try.underlying22 Try.underlying3 (by kernel_rfl) hf with ⟨hcs, _⟩ | ⟨x, l, c, zs, hcs, _, hl, hm, hz, _, hcell, hwz⟩
    · simp [Value.cells] at hcs
      obtain ⟨rfl, rfl, rfl⟩ := hcs
      exact ⟨[], .inl ⟨rfl, rfl, rfl, rfl⟩⟩
    · simp [Value.cells] at hcs
      obtain ⟨rfl, rfl, rfl⟩ := hcs
      exact ⟨zs, .inr ⟨_, rfl, hl, hm, by simpa using hz, hcell, hwz⟩⟩
  clear hA0 hval0
  refine (walk a0 len0 cap0 z0 W w0).mono fun e W' ⟨he, bel⟩ => ?_
  subst he
  exact ⟨_, rfl, _, _, _, [], _, [], hW', trodAll_mk1 (shut_bool Try.underlying4 _), (trodAll_cons_mk (Below.trod laidOut (by kernel_rfl) (of_decide_eq_true (by kernel_rfl)) k0 bel lt0) trodAll_mk0), rfl, bel.frame _, fun h => by cases h⟩

theorem over : Rows.fnExactWicksPartsRow.holds Try.pinned (OpenSpec.ofChange Rows.fnExactWicksPartsSpec) :=
  OpenClaim.holds_of_wide 4 Try.f4 rfl rfl rfl rfl rfl rfl rfl ⟨rfl, rfl, rfl, rfl, rfl⟩ rfl rfl rfl rfl rfl (by kernel_rfl) Try.func4 (by kernel_rfl)
    (of_decide_eq_true (by kernel_rfl)) (by unfold Func.isWrapper; first | (rw [if_pos (by decide +kernel)]; kernel_rfl) | (rw [if_neg (by decide +kernel)]; exact ⟨rfl, rfl⟩))
    (fun os started H enc _ => lifted os started H enc)

theorem proved : Rows.FnExactWicksPartsSaid := over
end Go.Proofs.Ytllmglmjghbaiac.fnExactWicksParts
