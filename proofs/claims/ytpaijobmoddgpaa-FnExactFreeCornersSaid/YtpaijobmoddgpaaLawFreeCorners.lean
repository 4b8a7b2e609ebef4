/- Proved: for all arguments, laws.FnExactFreeCorners returns true and leaves its arguments as they were. No condition. -/
import Derived.Test.YtpaijobmoddgpaaRows
import Derived.WalkKit
import Derived.ProofKit
import Derived.OpenShut
import Derived.ShutString
import Derived.Test.YtpaijobmoddgpaaBothCorn
import Derived.Test.YtpaijobmoddgpaaLawKit
namespace Go.Proofs.Ytpaijobmoddgpaa.fnExactFreeCorners
open Go.ChangeShapes Go.WideShapes Go.ChangeAt Go.RowKit
open Go.ChangeMaps (open_string shut_string)
set_option linter.unusedVariables false

theorem own : ownKnob Try.prog.godebug = none := by kernel_rfl

set_option maxHeartbeats 1000000 in
theorem walk (a0 : ByteArray) (w0 : a0.size ≤ maxLen) (w : World) :
    Calls Try.prog 13 #[.string a0] w fun e w' => e = .returned (.bool true) ∧ Below w.heap.size w w' := by
  unfold maxLen at w0
  by_cases h0 : 1048576 < a0.size
  · go_enter Try.func13, Try.ntmps13
    go_wp2_with fail
    go_ret
    exact ⟨rfl, Below.refl _ _⟩
  · skip
    have hn0 : a0.size ≤ 1048576 := by omega
    clear h0
    obtain ⟨out0, r1, hol0, hsp, him⟩ := bothFreeCorners a0 hn0
    have HP := Lib.hid hsp
    have HI := Lib.hid him
    clear hsp him
    go_enter Try.func13, Try.ntmps13
    go_wp2_with fail
    refine (HP.out  _ ).mono ?_
    rintro e W1 ⟨_, rfl, ⟨aw0, cw0, rfl, hi, ho, hcp⟩, hb⟩
    have B1 := Lib.hid hb
    have Z1 := Lib.hid hb.size
    have Fw0_1 := Lib.hid hi
    have Ow0 := Lib.hid ho
    clear hi ho hb hcp
    go_wp2_with fail
    refine (HI.out  _ ).mono ?_
    rintro e W2 ⟨_, rfl, ⟨ag0, cg0, rfl, hi, ho, hcp⟩, hb⟩
    have B2 := Lib.hid (B1.out.trans (hb.mono B1.out.size))
    have Z2 := Lib.hid hb.size
    have Fw0_2 := Lib.hid (Fw0_1.out.on hb)
    clear Fw0_1
    have Fg0_2 := Lib.hid hi
    have Og0 := Lib.hid ho
    clear hi ho hb hcp
    go_wp2_with fail
    refine (eq_same _ _ _ _ out0 _ Fg0_2 Fw0_2 (by omega)).mono ?_
    rintro e W3 ⟨rfl, hb⟩
    have B3 := Lib.hid (B2.out.trans (hb.mono B2.out.size))
    have Z3 := Lib.hid hb.size
    have Fw0_3 := Lib.hid (Fw0_2.out.on hb)
    clear Fw0_2
    have Fg0_3 := Lib.hid (Fg0_2.out.on hb)
    clear Fg0_2
    have Qg0_3 := Lib.hid (Og0.out.on hb)
    clear hb
    go_wp2_with fail
    refine (mark_first _ _ _ out0 _ Fg0_3 (Lib.hid (Qg0_3.out)) (by omega)).mono ?_
    rintro e W4 ⟨rfl, hm⟩
    have B4 := Lib.hid (below_past B3.out hm Og0.out (by have := Z1.out; omega) B3.out.size)
    have Z4 := Lib.hid (size_past hm)
    have Fw0_4 := Lib.hid (ints_past Fw0_3.out hm (apart_of Ow0.out Og0.out (Nat.le_refl _)))
    clear Fw0_3
    have Fg0_4 := Lib.hid hm.2.1
    clear hm
    go_wp2_with fail
    refine (held_first _ _ out0.length _ Fg0_4 (by omega)).mono ?_
    rintro e W5 ⟨rfl, hb⟩
    have B5 := Lib.hid (B4.out.trans (hb.mono B4.out.size))
    have Z5 := Lib.hid hb.size
    have Fw0_5 := Lib.hid (Fw0_4.out.on hb)
    clear Fw0_4
    have Fg0_5 := Lib.hid (Fg0_4.out.on hb)
    clear Fg0_4
    clear hb
    go_wp2_with fail
    refine (HI.out  _ ).mono ?_
    rintro e W6 ⟨_, rfl, ⟨ah0, ch0, rfl, hi, ho, hcp⟩, hb⟩
    have B6 := Lib.hid (B5.out.trans (hb.mono B5.out.size))
    have Z6 := Lib.hid hb.size
    have Fw0_6 := Lib.hid (Fw0_5.out.on hb)
    clear Fw0_5
    have Fg0_6 := Lib.hid (Fg0_5.out.on hb)
    clear Fg0_5
    have Fh0_6 := Lib.hid hi
    have Oh0 := Lib.hid ho
    clear hi ho hb hcp
    go_wp2_with fail
    refine (eq_same _ _ _ _ out0 _ Fh0_6 Fw0_6 (by omega)).mono ?_
    rintro e W7 ⟨rfl, hb⟩
    have B7 := Lib.hid (B6.out.trans (hb.mono B6.out.size))
    have Z7 := Lib.hid hb.size
    have Fw0_7 := Lib.hid (Fw0_6.out.on hb)
    clear Fw0_6
    have Fg0_7 := Lib.hid (Fg0_6.out.on hb)
    clear Fg0_6
    have Fh0_7 := Lib.hid (Fh0_6.out.on hb)
    clear Fh0_6
    clear hb
    go_wp2_with fail
    refine (held_first _ _ out0.length _ Fg0_7 (by omega)).mono ?_
    rintro e W8 ⟨rfl, hb⟩
    have B8 := Lib.hid (B7.out.trans (hb.mono B7.out.size))
    have Z8 := Lib.hid hb.size
    have Fw0_8 := Lib.hid (Fw0_7.out.on hb)
    clear Fw0_7
    have Fg0_8 := Lib.hid (Fg0_7.out.on hb)
    clear Fg0_7
    have Fh0_8 := Lib.hid (Fh0_7.out.on hb)
    clear Fh0_7
    clear hb
    go_wp2
    go_ret
    exact ⟨rfl, B8.out⟩

set_option maxRecDepth 100000 in
theorem lifted (os : Os) (started : os.Started) (H : Type) (enc : TypeId × Value → H) :
    ReturnsInHanded {} Try.checked os 13 .any (Rows.fnExactFreeCornersSpec.pre6 enc Try.prog Try.f13 Rows.fnExactFreeCornersRow.domain false) (Rows.fnExactFreeCornersSpec.post enc Try.prog Try.f13 false true false false) := by
  refine returnsInHanded_of_change (C := Try.checked) own started (by kernel_rfl) Try.func13
    (ChangeSpec.witness6 (enc := enc) (C := Try.checked) false ⟨#[], #[.string ByteArray.empty], []⟩ 8 (by kernel_rfl) (by kernel_rfl) (by kernel_rfl) (by kernel_rfl)) ?_
  intro W base args ds gs before hval0 hW hcnd _
  have hval : ∀ (j : Nat) t v, Try.f13.params[j]? = some t → args[j]? = some v → Value.okWide Try.prog W .any base t v := hval0
  have hW' := hW
  obtain ⟨p, q, hA0, hV, rfl, hfz, hnd⟩ := hW
  have hA : DataW.TrodAll enc Try.prog W 0 (fun _ => true) true Try.f13.params.toList args.toList ds p := hA0
  rw [Try.params13] at hA hval
  obtain ⟨v0, vs0, d0, ds0, p0, q0, hargs, rfl, rfl, h0, r0⟩ := trodAll_cons hA
  obtain ⟨rfl, rfl, rfl⟩ := trodAll_nil r0
  obtain rfl : args = #[v0] := by cases args; simp_all
  obtain ⟨rfl, rfl⟩ := trodVars_none hV
  obtain ⟨a0, rfl, rfl, rfl, w0⟩ := open_string Try.underlying9 (hval 0 9 v0 rfl rfl) h0
  clear hA0 hval0
  simp only [List.append_nil] at hW'
  refine (walk a0 w0 W).mono fun e W' ⟨he, bel⟩ => ?_
  subst he
  exact ⟨_, rfl, _, _, _, [], [], [], hW', trodAll_mk1 (shut_bool Try.underlying4 _), (trodAll_cons_mk (shut_string Try.underlying9 w0) (trodAll_mk0)), rfl, bel.frame _, fun h => by cases h⟩

theorem over : Rows.fnExactFreeCornersRow.holds Try.pinned (OpenSpec.ofChange Rows.fnExactFreeCornersSpec) :=
  OpenClaim.holds_of_wide 13 Try.f13 rfl rfl rfl rfl rfl rfl rfl ⟨rfl, rfl, rfl, rfl, rfl⟩ rfl rfl rfl rfl rfl (by kernel_rfl) Try.func13 (by kernel_rfl)
    (of_decide_eq_true (by kernel_rfl)) (by unfold Func.isWrapper; first | (rw [if_pos (by decide +kernel)]; kernel_rfl) | (rw [if_neg (by decide +kernel)]; exact ⟨rfl, rfl⟩))
    (fun os started H enc _ => lifted os started H enc)

theorem proved : Rows.FnExactFreeCornersSaid :=
  over
end Go.Proofs.Ytpaijobmoddgpaa.fnExactFreeCorners
