/- Proved: for all arguments, laws.FnExactWeightFamily returns true and leaves its arguments as they were. No condition. -/
import Derived.Test.YtfikbjfgieiifaaRows
import Derived.WalkKit
import Derived.ProofKit
import Derived.OpenShut
import Derived.ShutString
import Derived.Test.YtfikbjfgieiifaaBoth5I
import Derived.Test.YtfikbjfgieiifaaFamLaw
import Derived.ChangeOld
import Derived.Below
namespace Go.Proofs.Ytfikbjfgieiifaa.fnExactWeightFamily
open Go.ChangeShapes Go.WideShapes Go.ChangeAt Go.RowKit
open Go.ChangeMaps (open_string shut_string)
set_option linter.unusedVariables false

theorem own : ownKnob Try.prog.godebug = none := by kernel_rfl
theorem laidOut : laidOutB Try.prog = true := by kernel_rfl

def IsRow (k : IntKind) (w : World) (a : Option Addr) (len cap : Nat) (zs : List Int) : Prop :=
  (a = none ∧ len = 0 ∧ cap = 0 ∧ zs = []) ∨
  ∃ x, a = some x ∧ len ≤ cap ∧ cap ≤ maxLen ∧ zs.length = cap ∧ (∀ i, i < zs.length → w.cell? (x.add i) = some (.int k (zs.getD i 0))) ∧ ∀ n ∈ zs, (Lit.int k n).wf = true

set_option maxRecDepth 20000 in
set_option maxHeartbeats 2000000 in
theorem walk (v0 : Nat → Int) (a1 : Int) (w0 : ∀ i, i < 6 → (Lit.int .i64 (v0 i)).wf = true) (w1 : (Lit.int .i64 a1).wf = true) (w : World) :
    Calls Try.prog 5 #[.agg (six v0), .int .i64 a1] w fun e w' => e = .returned (.bool true) ∧ Below w.heap.size w w' := by
  have HV0 : Hid (∀ i, i < 6 → -9223372036854775808 ≤ v0 i ∧ v0 i ≤ 9223372036854775807) := Lib.hid (fun i hi => int_range (w0 i hi))
  clear w0
  have hr1 := int_range w1
  obtain ⟨hrl1, hrh1⟩ := hr1
  clear w1
  obtain ⟨out, r1, hol, hsp, him⟩ := bothWeightFamily v0 HV0 a1 hrl1 hrh1
  have HP := Lib.hid hsp
  have HI := Lib.hid him
  clear hsp him
  go_enter Try.func5, Try.ntmps5
  have hb : Below w.heap.size w (w.alloc (.cells (six v0) 33)) := (Below.refl _ _).alloc (Nat.le_refl _) _
  have hx : At6 (w.alloc (.cells (six v0) 33)) w.heap.size v0 := at6_new _ _
  have hlt : w.heap.size < (w.alloc (.cells (six v0) 33)).heap.size := alloc_lt _ _
  have Hb := Lib.hid hb
  have Hx := Lib.hid hx
  have Hlt := Lib.hid hlt
  clear hb hx hlt
  go_wp2_with (refine wpList_load_row rfl 33 _ rfl w.heap.size rfl 33 (six v0) (0, 0) _ Hx.out Try.underlying33 rfl info6 ?_)
  generalize (w.alloc (.cells (six v0) 33)) = W1 at Hb Hx Hlt ⊢
  have hb := Hb.out
  have B1 := Lib.hid hb
  have Z1 := Lib.hid hb.size
  have T1 := Hlt
  have Xv0_1 := Hx
  clear hb Hb
  refine (toA6_any v0 _).mono ?_
  rintro e W2 ⟨rfl, hb⟩
  have B2 := Lib.hid (B1.out.trans (hb.mono B1.out.size))
  have Z2 := Lib.hid hb.size
  have Xv0_2 := Lib.hid (Xv0_1.out.on hb)
  clear Xv0_1
  clear hb
  go_wp2_with fail
  refine (HP.out  _ ).mono ?_
  rintro e W3 ⟨aw, cw, rfl, hi, ho, hcp, hb⟩
  have B3 := Lib.hid (B2.out.trans (hb.mono B2.out.size))
  have Z3 := Lib.hid hb.size
  have Xv0_3 := Lib.hid (Xv0_2.out.on hb)
  clear Xv0_2
  have Fw_3 := Lib.hid hi
  have Ow := Lib.hid ho
  clear hi ho hcp hb
  have hb : Below W3.heap.size W3 (W3.alloc (.cells #[.slice aw out.length cw] 26)) := (Below.refl _ _).alloc (Nat.le_refl _) _
  have hx : At1 26 (W3.alloc (.cells #[.slice aw out.length cw] 26)) W3.heap.size (.slice aw out.length cw) := at1_new _ _ _
  have hlt : W3.heap.size < (W3.alloc (.cells #[.slice aw out.length cw] 26)).heap.size := alloc_lt _ _
  have HA6 := Lib.hid (Xv0_3.out.on hb)
  have Hb := Lib.hid hb
  have Hx := Lib.hid hx
  have Hlt := Lib.hid hlt
  clear hb hx hlt
  go_wp2_with (refine wpList_load_row rfl 33 _ rfl w.heap.size rfl 33 (six v0) (0, 0) _ HA6.out Try.underlying33 rfl info6 ?_)
  clear HA6
  generalize (W3.alloc (.cells #[.slice aw out.length cw] 26)) = W4 at Hb Hx Hlt ⊢
  have hb := Hb.out
  have B4 := Lib.hid (B3.out.trans (hb.mono B3.out.size))
  have Z4 := Lib.hid hb.size
  have T4 := Hlt
  have Fw_4 := Lib.hid (Fw_3.out.on hb)
  clear Fw_3
  have Xv0_4 := Lib.hid (Xv0_3.out.on hb)
  clear Xv0_3
  have Xbw_4 := Hx
  clear hb Hb
  refine (toA6_any v0 _).mono ?_
  rintro e W5 ⟨rfl, hb⟩
  have B5 := Lib.hid (B4.out.trans (hb.mono B4.out.size))
  have Z5 := Lib.hid hb.size
  have Fw_5 := Lib.hid (Fw_4.out.on hb)
  clear Fw_4
  have Xv0_5 := Lib.hid (Xv0_4.out.on hb)
  clear Xv0_4
  have Xbw_5 := Lib.hid (Xbw_4.out.on hb)
  clear Xbw_4
  clear hb
  go_wp2_with fail
  refine (HI.out  _ ).mono ?_
  rintro e W6 ⟨ag, cg, rfl, hi, ho, hcp, hb⟩
  have B6 := Lib.hid (B5.out.trans (hb.mono B5.out.size))
  have Z6 := Lib.hid hb.size
  have Fw_6 := Lib.hid (Fw_5.out.on hb)
  clear Fw_5
  have Xv0_6 := Lib.hid (Xv0_5.out.on hb)
  clear Xv0_5
  have Xbw_6 := Lib.hid (Xbw_5.out.on hb)
  clear Xbw_5
  have Fg_6 := Lib.hid hi
  have Og := Lib.hid ho
  clear hi ho hcp hb
  have hb : Below W6.heap.size W6 (W6.alloc (.cells #[.slice ag out.length cg] 26)) := (Below.refl _ _).alloc (Nat.le_refl _) _
  have hx : At1 26 (W6.alloc (.cells #[.slice ag out.length cg] 26)) W6.heap.size (.slice ag out.length cg) := at1_new _ _ _
  have hlt : W6.heap.size < (W6.alloc (.cells #[.slice ag out.length cg] 26)).heap.size := alloc_lt _ _
  have hcbw := (Xbw_6.out.on hb).cell
  have Hb := Lib.hid hb
  have Hx := Lib.hid hx
  have Hlt := Lib.hid hlt
  clear hb hx hlt
  go_wp2_with fail
  clear hcbw
  generalize (W6.alloc (.cells #[.slice ag out.length cg] 26)) = W7 at Hb Hx Hlt ⊢
  have hb := Hb.out
  have B7 := Lib.hid (B6.out.trans (hb.mono B6.out.size))
  have Z7 := Lib.hid hb.size
  have T7 := Hlt
  have Fw_7 := Lib.hid (Fw_6.out.on hb)
  clear Fw_6
  have Fg_7 := Lib.hid (Fg_6.out.on hb)
  clear Fg_6
  have Qg_7 := Lib.hid (Og.out.on hb)
  have Xv0_7 := Lib.hid (Xv0_6.out.on hb)
  clear Xv0_6
  have Xbw_7 := Lib.hid (Xbw_6.out.on hb)
  clear Xbw_6
  have Xbg_7 := Hx
  clear hb Hb
  refine (eqFam_same _ _ _ _ out _ Fg_7 Fw_7 (by omega)).mono ?_
  rintro e W8 ⟨rfl, hb⟩
  have B8 := Lib.hid (B7.out.trans (hb.mono B7.out.size))
  have Z8 := Lib.hid hb.size
  have Fw_8 := Lib.hid (Fw_7.out.on hb)
  clear Fw_7
  have Fg_8 := Lib.hid (Fg_7.out.on hb)
  clear Fg_7
  have Qg_8 := Lib.hid (Qg_7.out.on hb)
  clear Qg_7
  have Xv0_8 := Lib.hid (Xv0_7.out.on hb)
  clear Xv0_7
  have Xbw_8 := Lib.hid (Xbw_7.out.on hb)
  clear Xbw_7
  have Xbg_8 := Lib.hid (Xbg_7.out.on hb)
  clear Xbg_7
  clear hb
  have hcbg := Xbg_8.out.cell
  go_wp2_with fail
  clear hcbg
  refine (markFam_first _ _ _ out _ Fg_8 (Lib.hid Qg_8.out) (by omega)).mono ?_
  rintro e W9 ⟨rfl, hm⟩
  have B9 := Lib.hid (below_past B8.out hm Og.out (by have := Z1.out; have := Z2.out; have := Z3.out; have := Z4.out; have := Z5.out; have := T1.out; have := T4.out; omega) B8.out.size)
  have Z9 := Lib.hid (size_past hm)
  have Fw_9 := Lib.hid (ints_past Fw_8.out hm (apart_of Ow.out Og.out (by have := Z4.out; have := Z5.out; have := T4.out; omega)))
  clear Fw_8
  have Xv0_9 := Lib.hid (Xv0_8.out.past hm (far_low Og.out (by have := Z1.out; have := Z2.out; have := Z3.out; have := Z4.out; have := Z5.out; have := T1.out; have := T4.out; omega)))
  clear Xv0_8
  have Xbw_9 := Lib.hid (Xbw_8.out.past hm (far_low Og.out (by have := Z4.out; have := Z5.out; have := T4.out; omega)))
  clear Xbw_8
  have Xbg_9 := Lib.hid (Xbg_8.out.past hm (far_high Og.out (by omega)))
  clear Xbg_8
  have Fg_9 := Lib.hid hm.2.1
  clear Fg_8
  clear hm
  have hcbg := Xbg_9.out.cell
  go_wp2_with fail
  clear hcbg
  refine (heldFam_first _ _ out.length _ Fg_9 (by omega)).mono ?_
  rintro e W10 ⟨rfl, hb⟩
  have B10 := Lib.hid (B9.out.trans (hb.mono B9.out.size))
  have Z10 := Lib.hid hb.size
  have Fw_10 := Lib.hid (Fw_9.out.on hb)
  clear Fw_9
  have Fg_10 := Lib.hid (Fg_9.out.on hb)
  clear Fg_9
  have Xv0_10 := Lib.hid (Xv0_9.out.on hb)
  clear Xv0_9
  have Xbw_10 := Lib.hid (Xbw_9.out.on hb)
  clear Xbw_9
  have Xbg_10 := Lib.hid (Xbg_9.out.on hb)
  clear Xbg_9
  clear hb
  go_wp2_with (refine wpList_load_row rfl 33 _ rfl w.heap.size rfl 33 (six v0) (0, 0) _ Xv0_10.out Try.underlying33 rfl info6 ?_)
  refine (toA6_any v0 _).mono ?_
  rintro e W11 ⟨rfl, hb⟩
  have B11 := Lib.hid (B10.out.trans (hb.mono B10.out.size))
  have Z11 := Lib.hid hb.size
  have Fw_11 := Lib.hid (Fw_10.out.on hb)
  clear Fw_10
  have Fg_11 := Lib.hid (Fg_10.out.on hb)
  clear Fg_10
  have Xv0_11 := Lib.hid (Xv0_10.out.on hb)
  clear Xv0_10
  have Xbw_11 := Lib.hid (Xbw_10.out.on hb)
  clear Xbw_10
  have Xbg_11 := Lib.hid (Xbg_10.out.on hb)
  clear Xbg_10
  clear hb
  go_wp2_with fail
  refine (HI.out  _ ).mono ?_
  rintro e W12 ⟨ah, ch, rfl, hi, ho, hcp, hb⟩
  have B12 := Lib.hid (B11.out.trans (hb.mono B11.out.size))
  have Z12 := Lib.hid hb.size
  have Fw_12 := Lib.hid (Fw_11.out.on hb)
  clear Fw_11
  have Fg_12 := Lib.hid (Fg_11.out.on hb)
  clear Fg_11
  have Xv0_12 := Lib.hid (Xv0_11.out.on hb)
  clear Xv0_11
  have Xbw_12 := Lib.hid (Xbw_11.out.on hb)
  clear Xbw_11
  have Xbg_12 := Lib.hid (Xbg_11.out.on hb)
  clear Xbg_11
  have Fh_12 := Lib.hid hi
  have Oh := Lib.hid ho
  clear hi ho hcp hb
  have hb : Below W12.heap.size W12 (W12.alloc (.cells #[.slice ah out.length ch] 26)) := (Below.refl _ _).alloc (Nat.le_refl _) _
  have hx : At1 26 (W12.alloc (.cells #[.slice ah out.length ch] 26)) W12.heap.size (.slice ah out.length ch) := at1_new _ _ _
  have hlt : W12.heap.size < (W12.alloc (.cells #[.slice ah out.length ch] 26)).heap.size := alloc_lt _ _
  have hcbw := (Xbw_12.out.on hb).cell
  have Hb := Lib.hid hb
  have Hx := Lib.hid hx
  have Hlt := Lib.hid hlt
  clear hb hx hlt
  go_wp2_with fail
  clear hcbw
  generalize (W12.alloc (.cells #[.slice ah out.length ch] 26)) = W13 at Hb Hx Hlt ⊢
  have hb := Hb.out
  have B13 := Lib.hid (B12.out.trans (hb.mono B12.out.size))
  have Z13 := Lib.hid hb.size
  have T13 := Hlt
  have Fw_13 := Lib.hid (Fw_12.out.on hb)
  clear Fw_12
  have Fg_13 := Lib.hid (Fg_12.out.on hb)
  clear Fg_12
  have Fh_13 := Lib.hid (Fh_12.out.on hb)
  clear Fh_12
  have Xv0_13 := Lib.hid (Xv0_12.out.on hb)
  clear Xv0_12
  have Xbw_13 := Lib.hid (Xbw_12.out.on hb)
  clear Xbw_12
  have Xbg_13 := Lib.hid (Xbg_12.out.on hb)
  clear Xbg_12
  have Xbh_13 := Hx
  clear hb Hb
  refine (eqFam_same _ _ _ _ out _ Fh_13 Fw_13 (by omega)).mono ?_
  rintro e W14 ⟨rfl, hb⟩
  have B14 := Lib.hid (B13.out.trans (hb.mono B13.out.size))
  have Z14 := Lib.hid hb.size
  have Fw_14 := Lib.hid (Fw_13.out.on hb)
  clear Fw_13
  have Fg_14 := Lib.hid (Fg_13.out.on hb)
  clear Fg_13
  have Fh_14 := Lib.hid (Fh_13.out.on hb)
  clear Fh_13
  have Xv0_14 := Lib.hid (Xv0_13.out.on hb)
  clear Xv0_13
  have Xbw_14 := Lib.hid (Xbw_13.out.on hb)
  clear Xbw_13
  have Xbg_14 := Lib.hid (Xbg_13.out.on hb)
  clear Xbg_13
  have Xbh_14 := Lib.hid (Xbh_13.out.on hb)
  clear Xbh_13
  clear hb
  have hcbg := Xbg_14.out.cell
  go_wp2_with fail
  clear hcbg
  refine (heldFam_first _ _ out.length _ Fg_14 (by omega)).mono ?_
  rintro e W15 ⟨rfl, hb⟩
  have B15 := Lib.hid (B14.out.trans (hb.mono B14.out.size))
  have Z15 := Lib.hid hb.size
  have Fw_15 := Lib.hid (Fw_14.out.on hb)
  clear Fw_14
  have Fg_15 := Lib.hid (Fg_14.out.on hb)
  clear Fg_14
  have Fh_15 := Lib.hid (Fh_14.out.on hb)
  clear Fh_14
  have Xv0_15 := Lib.hid (Xv0_14.out.on hb)
  clear Xv0_14
  have Xbw_15 := Lib.hid (Xbw_14.out.on hb)
  clear Xbw_14
  have Xbg_15 := Lib.hid (Xbg_14.out.on hb)
  clear Xbg_14
  have Xbh_15 := Lib.hid (Xbh_14.out.on hb)
  clear Xbh_14
  clear hb
  go_wp2
  go_ret
  exact ⟨rfl, B15.out⟩

set_option maxRecDepth 100000 in
theorem lifted (os : Os) (started : os.Started) (H : Type) (enc : TypeId × Value → H) :
    ReturnsInHanded {} Try.checked os 5 .any (Rows.fnExactWeightFamilySpec.pre6 enc Try.prog Try.f5 Rows.fnExactWeightFamilyRow.domain false) (Rows.fnExactWeightFamilySpec.post enc Try.prog Try.f5 false true false false) := by
  refine returnsInHanded_of_change (C := Try.checked) own started (by kernel_rfl) Try.func5
    (ChangeSpec.witness6 (enc := enc) (C := Try.checked) false ⟨#[], #[.agg #[.int .i64 0, .int .i64 0, .int .i64 0, .int .i64 0, .int .i64 0, .int .i64 0], .int .i64 0], []⟩ 8 (by kernel_rfl) (by kernel_rfl) (by kernel_rfl) (by kernel_rfl)) ?_
  intro W base args ds gs before hval0 hW hcnd _
  have hval : ∀ (j : Nat) t v, Try.f5.params[j]? = some t → args[j]? = some v → Value.okWide Try.prog W .any base t v := hval0
  have hW' := hW
  obtain ⟨p, q, hA0, hV, rfl, hfz, hnd⟩ := hW
  have hA : DataW.TrodAll enc Try.prog W 0 (fun _ => true) true Try.f5.params.toList args.toList ds p := hA0
  rw [Try.params5] at hA hval
  obtain ⟨v0, vs0, d0, ds0, p0, q0, hargs, rfl, rfl, h0, r0⟩ := trodAll_cons hA
  obtain ⟨v1, vs1, d1, ds1, p1, q1, rfl, rfl, rfl, h1, r1⟩ := trodAll_cons r0
  obtain ⟨rfl, rfl, rfl⟩ := trodAll_nil r1
  obtain rfl : args = #[v0, v1] := by cases args; simp_all
  obtain ⟨rfl, rfl⟩ := trodVars_none hV
  have k0 := h0
  have lt0 : ∀ x ∈ p0, x.block < W.heap.size := by obtain ⟨m, hm⟩ := k0; exact DataW.trod_lt m _ _ _ hm
  obtain ⟨u0, rfl, w0⟩ := open_six (hval 0 33 v0 rfl rfl) h0
  obtain ⟨a1, rfl, rfl, rfl, w1⟩ := open_int Try.underlying3 (hval 1 3 v1 rfl rfl) h1
  clear hA0 hval0
  refine (walk u0 a1 w0 w1 W).mono fun e W' ⟨he, bel⟩ => ?_
  subst he
  exact ⟨_, rfl, _, _, _, [], _, [], hW', trodAll_mk1 (shut_bool Try.underlying4 _), (trodAll_cons_mk (Below.trod laidOut (by kernel_rfl) (of_decide_eq_true (by kernel_rfl)) k0 bel lt0) (trodAll_cons_mk (shut_int Try.underlying3 w1) trodAll_mk0)), rfl, bel.frame _, fun h => by cases h⟩

theorem over : Rows.fnExactWeightFamilyRow.holds Try.pinned (OpenSpec.ofChange Rows.fnExactWeightFamilySpec) :=
  OpenClaim.holds_of_wide 5 Try.f5 rfl rfl rfl rfl rfl rfl rfl ⟨rfl, rfl, rfl, rfl, rfl⟩ rfl rfl rfl rfl rfl (by kernel_rfl) Try.func5 (by kernel_rfl)
    (of_decide_eq_true (by kernel_rfl)) (by unfold Func.isWrapper; first | (rw [if_pos (by decide +kernel)]; kernel_rfl) | (rw [if_neg (by decide +kernel)]; exact ⟨rfl, rfl⟩))
    (fun os started H enc _ => lifted os started H enc)

theorem proved : Rows.FnExactWeightFamilySaid := over
end Go.Proofs.Ytfikbjfgieiifaa.fnExactWeightFamily
