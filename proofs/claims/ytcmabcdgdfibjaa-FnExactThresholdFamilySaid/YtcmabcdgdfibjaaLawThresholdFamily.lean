/- Proved: for all arguments, laws.FnExactThresholdFamily returns true and leaves its arguments as they were. No condition. -/
import Derived.Test.YtcmabcdgdfibjaaRows
import Derived.WalkKit
import Derived.ProofKit
import Derived.OpenShut
import Derived.ShutString
import Derived.Test.YtcmabcdgdfibjaaBoth5D
import Derived.Test.YtcmabcdgdfibjaaFamLaw
import Derived.ChangeOld
import Derived.Below
namespace Go.Proofs.Ytcmabcdgdfibjaa.fnExactThresholdFamily
open Go.ChangeShapes Go.WideShapes Go.ChangeAt Go.RowKit
open Go.ChangeMaps (open_string shut_string)
set_option linter.unusedVariables false

theorem own : ownKnob Try.prog.godebug = none := by kernel_rfl
theorem laidOut : laidOutB Try.prog = true := by kernel_rfl

def IsRow (k : IntKind) (w : World) (a : Option Addr) (len cap : Nat) (zs : List Int) : Prop :=
  (a = none ∧ len = 0 ∧ cap = 0 ∧ zs = []) ∨
  ∃ x, a = some x ∧ len ≤ cap ∧ cap ≤ maxLen ∧ zs.length = cap ∧ (∀ i, i < zs.length → w.cell? (x.add i) = some (.int k (zs.getD i 0))) ∧ ∀ n ∈ zs, (Lit.int k n).wf = true

set_option maxRecDepth 20000 in
set_option maxHeartbeats 2000000 in
theorem walk (a0 : Int) (a1 : Int) (w0 : (Lit.int .i64 a0).wf = true) (w1 : (Lit.int .i64 a1).wf = true) (w : World) :
    Calls Try.prog 9 #[.int .i64 a0, .int .i64 a1] w fun e w' => e = .returned (.bool true) ∧ Below w.heap.size w w' := by
  have hr0 := int_range w0
  obtain ⟨hrl0, hrh0⟩ := hr0
  clear w0
  have hr1 := int_range w1
  obtain ⟨hrl1, hrh1⟩ := hr1
  clear w1
  obtain ⟨out, r1, hol, hsp, him⟩ := bothThresholdFamily a0 hrl0 hrh0 a1 hrl1 hrh1
  have HP := Lib.hid hsp
  have HI := Lib.hid him
  clear hsp him
  go_enter Try.func9, Try.ntmps9
  go_wp2_with fail
  refine (HP.out  _ ).mono ?_
  rintro e W1 ⟨aw, cw, rfl, hi, ho, hcp, hb⟩
  have B1 := Lib.hid hb
  have Z1 := Lib.hid hb.size
  have Fw_1 := Lib.hid hi
  have Ow := Lib.hid ho
  clear hi ho hcp hb
  have hb : Below W1.heap.size W1 (W1.alloc (.cells #[.slice aw out.length cw] 27)) := (Below.refl _ _).alloc (Nat.le_refl _) _
  have hx : At1 27 (W1.alloc (.cells #[.slice aw out.length cw] 27)) W1.heap.size (.slice aw out.length cw) := at1_new _ _ _
  have hlt : W1.heap.size < (W1.alloc (.cells #[.slice aw out.length cw] 27)).heap.size := alloc_lt _ _
  have Hb := Lib.hid hb
  have Hx := Lib.hid hx
  have Hlt := Lib.hid hlt
  clear hb hx hlt
  go_wp2_with fail
  generalize (W1.alloc (.cells #[.slice aw out.length cw] 27)) = W2 at Hb Hx Hlt ⊢
  have hb := Hb.out
  have B2 := Lib.hid (B1.out.trans (hb.mono B1.out.size))
  have Z2 := Lib.hid hb.size
  have T2 := Hlt
  have Fw_2 := Lib.hid (Fw_1.out.on hb)
  clear Fw_1
  have Xbw_2 := Hx
  clear hb Hb
  refine (HI.out  _ ).mono ?_
  rintro e W3 ⟨ag, cg, rfl, hi, ho, hcp, hb⟩
  have B3 := Lib.hid (B2.out.trans (hb.mono B2.out.size))
  have Z3 := Lib.hid hb.size
  have Fw_3 := Lib.hid (Fw_2.out.on hb)
  clear Fw_2
  have Xbw_3 := Lib.hid (Xbw_2.out.on hb)
  clear Xbw_2
  have Fg_3 := Lib.hid hi
  have Og := Lib.hid ho
  clear hi ho hcp hb
  have hb : Below W3.heap.size W3 (W3.alloc (.cells #[.slice ag out.length cg] 27)) := (Below.refl _ _).alloc (Nat.le_refl _) _
  have hx : At1 27 (W3.alloc (.cells #[.slice ag out.length cg] 27)) W3.heap.size (.slice ag out.length cg) := at1_new _ _ _
  have hlt : W3.heap.size < (W3.alloc (.cells #[.slice ag out.length cg] 27)).heap.size := alloc_lt _ _
  have hcbw := (Xbw_3.out.on hb).cell
  have Hb := Lib.hid hb
  have Hx := Lib.hid hx
  have Hlt := Lib.hid hlt
  clear hb hx hlt
  go_wp2_with fail
  clear hcbw
  generalize (W3.alloc (.cells #[.slice ag out.length cg] 27)) = W4 at Hb Hx Hlt ⊢
  have hb := Hb.out
  have B4 := Lib.hid (B3.out.trans (hb.mono B3.out.size))
  have Z4 := Lib.hid hb.size
  have T4 := Hlt
  have Fw_4 := Lib.hid (Fw_3.out.on hb)
  clear Fw_3
  have Fg_4 := Lib.hid (Fg_3.out.on hb)
  clear Fg_3
  have Qg_4 := Lib.hid (Og.out.on hb)
  have Xbw_4 := Lib.hid (Xbw_3.out.on hb)
  clear Xbw_3
  have Xbg_4 := Hx
  clear hb Hb
  refine (eqFam_same _ _ _ _ out _ Fg_4 Fw_4 (by omega)).mono ?_
  rintro e W5 ⟨rfl, hb⟩
  have B5 := Lib.hid (B4.out.trans (hb.mono B4.out.size))
  have Z5 := Lib.hid hb.size
  have Fw_5 := Lib.hid (Fw_4.out.on hb)
  clear Fw_4
  have Fg_5 := Lib.hid (Fg_4.out.on hb)
  clear Fg_4
  have Qg_5 := Lib.hid (Qg_4.out.on hb)
  clear Qg_4
  have Xbw_5 := Lib.hid (Xbw_4.out.on hb)
  clear Xbw_4
  have Xbg_5 := Lib.hid (Xbg_4.out.on hb)
  clear Xbg_4
  clear hb
  have hcbg := Xbg_5.out.cell
  go_wp2_with fail
  clear hcbg
  refine (markFam_first _ _ _ out _ Fg_5 (Lib.hid Qg_5.out) (by omega)).mono ?_
  rintro e W6 ⟨rfl, hm⟩
  have B6 := Lib.hid (below_past B5.out hm Og.out (by have := Z1.out; have := Z2.out; have := T2.out; omega) B5.out.size)
  have Z6 := Lib.hid (size_past hm)
  have Fw_6 := Lib.hid (ints_past Fw_5.out hm (apart_of Ow.out Og.out (by have := Z2.out; have := T2.out; omega)))
  clear Fw_5
  have Xbw_6 := Lib.hid (Xbw_5.out.past hm (far_low Og.out (by have := Z2.out; have := T2.out; omega)))
  clear Xbw_5
  have Xbg_6 := Lib.hid (Xbg_5.out.past hm (far_high Og.out (by omega)))
  clear Xbg_5
  have Fg_6 := Lib.hid hm.2.1
  clear Fg_5
  clear hm
  have hcbg := Xbg_6.out.cell
  go_wp2_with fail
  clear hcbg
  refine (heldFam_first _ _ out.length _ Fg_6 (by omega)).mono ?_
  rintro e W7 ⟨rfl, hb⟩
  have B7 := Lib.hid (B6.out.trans (hb.mono B6.out.size))
  have Z7 := Lib.hid hb.size
  have Fw_7 := Lib.hid (Fw_6.out.on hb)
  clear Fw_6
  have Fg_7 := Lib.hid (Fg_6.out.on hb)
  clear Fg_6
  have Xbw_7 := Lib.hid (Xbw_6.out.on hb)
  clear Xbw_6
  have Xbg_7 := Lib.hid (Xbg_6.out.on hb)
  clear Xbg_6
  clear hb
  go_wp2_with fail
  refine (HI.out  _ ).mono ?_
  rintro e W8 ⟨ah, ch, rfl, hi, ho, hcp, hb⟩
  have B8 := Lib.hid (B7.out.trans (hb.mono B7.out.size))
  have Z8 := Lib.hid hb.size
  have Fw_8 := Lib.hid (Fw_7.out.on hb)
  clear Fw_7
  have Fg_8 := Lib.hid (Fg_7.out.on hb)
  clear Fg_7
  have Xbw_8 := Lib.hid (Xbw_7.out.on hb)
  clear Xbw_7
  have Xbg_8 := Lib.hid (Xbg_7.out.on hb)
  clear Xbg_7
  have Fh_8 := Lib.hid hi
  have Oh := Lib.hid ho
  clear hi ho hcp hb
  have hb : Below W8.heap.size W8 (W8.alloc (.cells #[.slice ah out.length ch] 27)) := (Below.refl _ _).alloc (Nat.le_refl _) _
  have hx : At1 27 (W8.alloc (.cells #[.slice ah out.length ch] 27)) W8.heap.size (.slice ah out.length ch) := at1_new _ _ _
  have hlt : W8.heap.size < (W8.alloc (.cells #[.slice ah out.length ch] 27)).heap.size := alloc_lt _ _
  have hcbw := (Xbw_8.out.on hb).cell
  have Hb := Lib.hid hb
  have Hx := Lib.hid hx
  have Hlt := Lib.hid hlt
  clear hb hx hlt
  go_wp2_with fail
  clear hcbw
  generalize (W8.alloc (.cells #[.slice ah out.length ch] 27)) = W9 at Hb Hx Hlt ⊢
  have hb := Hb.out
  have B9 := Lib.hid (B8.out.trans (hb.mono B8.out.size))
  have Z9 := Lib.hid hb.size
  have T9 := Hlt
  have Fw_9 := Lib.hid (Fw_8.out.on hb)
  clear Fw_8
  have Fg_9 := Lib.hid (Fg_8.out.on hb)
  clear Fg_8
  have Fh_9 := Lib.hid (Fh_8.out.on hb)
  clear Fh_8
  have Xbw_9 := Lib.hid (Xbw_8.out.on hb)
  clear Xbw_8
  have Xbg_9 := Lib.hid (Xbg_8.out.on hb)
  clear Xbg_8
  have Xbh_9 := Hx
  clear hb Hb
  refine (eqFam_same _ _ _ _ out _ Fh_9 Fw_9 (by omega)).mono ?_
  rintro e W10 ⟨rfl, hb⟩
  have B10 := Lib.hid (B9.out.trans (hb.mono B9.out.size))
  have Z10 := Lib.hid hb.size
  have Fw_10 := Lib.hid (Fw_9.out.on hb)
  clear Fw_9
  have Fg_10 := Lib.hid (Fg_9.out.on hb)
  clear Fg_9
  have Fh_10 := Lib.hid (Fh_9.out.on hb)
  clear Fh_9
  have Xbw_10 := Lib.hid (Xbw_9.out.on hb)
  clear Xbw_9
  have Xbg_10 := Lib.hid (Xbg_9.out.on hb)
  clear Xbg_9
  have Xbh_10 := Lib.hid (Xbh_9.out.on hb)
  clear Xbh_9
  clear hb
  have hcbg := Xbg_10.out.cell
  go_wp2_with fail
  clear hcbg
  refine (heldFam_first _ _ out.length _ Fg_10 (by omega)).mono ?_
  rintro e W11 ⟨rfl, hb⟩
  have B11 := Lib.hid (B10.out.trans (hb.mono B10.out.size))
  have Z11 := Lib.hid hb.size
  have Fw_11 := Lib.hid (Fw_10.out.on hb)
  clear Fw_10
  have Fg_11 := Lib.hid (Fg_10.out.on hb)
  clear Fg_10
  have Fh_11 := Lib.hid (Fh_10.out.on hb)
  clear Fh_10
  have Xbw_11 := Lib.hid (Xbw_10.out.on hb)
  clear Xbw_10
  have Xbg_11 := Lib.hid (Xbg_10.out.on hb)
  clear Xbg_10
  have Xbh_11 := Lib.hid (Xbh_10.out.on hb)
  clear Xbh_10
  clear hb
  go_wp2
  go_ret
  exact ⟨rfl, B11.out⟩

set_option maxRecDepth 100000 in
theorem lifted (os : Os) (started : os.Started) (H : Type) (enc : TypeId × Value → H) :
    ReturnsInHanded {} Try.checked os 9 .any (Rows.fnExactThresholdFamilySpec.pre6 enc Try.prog Try.f9 Rows.fnExactThresholdFamilyRow.domain false) (Rows.fnExactThresholdFamilySpec.post enc Try.prog Try.f9 false true false false) := by
  refine returnsInHanded_of_change (C := Try.checked) own started (by kernel_rfl) Try.func9
    (ChangeSpec.witness6 (enc := enc) (C := Try.checked) false ⟨#[], #[.int .i64 0, .int .i64 0], []⟩ 8 (by kernel_rfl) (by kernel_rfl) (by kernel_rfl) (by kernel_rfl)) ?_
  intro W base args ds gs before hval0 hW hcnd _
  have hval : ∀ (j : Nat) t v, Try.f9.params[j]? = some t → args[j]? = some v → Value.okWide Try.prog W .any base t v := hval0
  have hW' := hW
  obtain ⟨p, q, hA0, hV, rfl, hfz, hnd⟩ := hW
  have hA : DataW.TrodAll enc Try.prog W 0 (fun _ => true) true Try.f9.params.toList args.toList ds p := hA0
  rw [Try.params9] at hA hval
  obtain ⟨v0, vs0, d0, ds0, p0, q0, hargs, rfl, rfl, h0, r0⟩ := trodAll_cons hA
  obtain ⟨v1, vs1, d1, ds1, p1, q1, rfl, rfl, rfl, h1, r1⟩ := trodAll_cons r0
  obtain ⟨rfl, rfl, rfl⟩ := trodAll_nil r1
  obtain rfl : args = #[v0, v1] := by cases args; simp_all
  obtain ⟨rfl, rfl⟩ := trodVars_none hV
  obtain ⟨a0, rfl, rfl, rfl, w0⟩ := open_int Try.underlying3 (hval 0 3 v0 rfl rfl) h0
  obtain ⟨a1, rfl, rfl, rfl, w1⟩ := open_int Try.underlying3 (hval 1 3 v1 rfl rfl) h1
  clear hA0 hval0
  refine (walk a0 a1 w0 w1 W).mono fun e W' ⟨he, bel⟩ => ?_
  subst he
  exact ⟨_, rfl, _, _, _, [], [], [], hW', trodAll_mk1 (shut_bool Try.underlying4 _), (trodAll_cons_mk (shut_int Try.underlying3 w0) (trodAll_cons_mk (shut_int Try.underlying3 w1) trodAll_mk0)), rfl, bel.frame _, fun h => by cases h⟩

theorem over : Rows.fnExactThresholdFamilyRow.holds Try.pinned (OpenSpec.ofChange Rows.fnExactThresholdFamilySpec) :=
  OpenClaim.holds_of_wide 9 Try.f9 rfl rfl rfl rfl rfl rfl rfl ⟨rfl, rfl, rfl, rfl, rfl⟩ rfl rfl rfl rfl rfl (by kernel_rfl) Try.func9 (by kernel_rfl)
    (of_decide_eq_true (by kernel_rfl)) (by unfold Func.isWrapper; first | (rw [if_pos (by decide +kernel)]; kernel_rfl) | (rw [if_neg (by decide +kernel)]; exact ⟨rfl, rfl⟩))
    (fun os started H enc _ => lifted os started H enc)

theorem proved : Rows.FnExactThresholdFamilySaid := over
end Go.Proofs.Ytcmabcdgdfibjaa.fnExactThresholdFamily
