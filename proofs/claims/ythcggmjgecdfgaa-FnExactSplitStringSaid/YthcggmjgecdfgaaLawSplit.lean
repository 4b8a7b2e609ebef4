/- Proved: for every two texts, laws.FnExactSplitString returns true and leaves its arguments as they were. No condition. -/
import Derived.Test.YthcggmjgecdfgaaSplitBoth
import Derived.Test.YthcggmjgecdfgaaMarkWalks
namespace Go.Proofs.Ythcggmjgecdfgaa.fnExactSplitString
open Go.ChangeShapes Go.WideShapes Go.ChangeAt Go.RowKit
open Go.ChangeMaps (open_string shut_string)
set_option linter.unusedVariables false

theorem own : ownKnob Try.prog.godebug = none := by kernel_rfl

theorem ret_one {a b : Int} (h : a = b) : Ending.returned (.int .i64 a) = .returned (.int .i64 b) := by rw [h]

theorem mark_one (base g cap : Nat) (ss : List ByteArray) (w : World) (h : Hid (w.ownsRow base 9 1 (.slice (some ⟨g, 0, none⟩) ss.length cap) ss.length (strVals ss))) (hn : ss.length ≤ 4001) :
    Calls Try.prog 19 #[.slice (some ⟨g, 0, none⟩) ss.length cap, .int .i64 1] w fun e w' => e = .returned (.int .i64 (1 + (ss.length : Int))) ∧ MarkAt base g ss.length cap 1 ss w ss.length w' := by
  have hc : Calls Try.prog 19 #[.slice (some ⟨g, 0, none⟩) ss.length cap, .int .i64 1] w _ := markS_any base g cap 1 ss w h (Nat.le_refl _) (by omega)
  refine hc.mono ?_
  rintro e w' ⟨rfl, hm⟩
  exact ⟨ret_one (by omega), hm⟩


theorem held_one (a : Option Addr) (cap n : Nat) (ms : List ByteArray) (w : World) (h : Hid (Strs w a ms)) (hms : Hid (∀ j, j < n → ms[j]? = some (markS (1 + j)))) (hn : n ≤ 4001) :
    Calls Try.prog 20 #[.slice a n cap, .int .i64 1] w fun e w' => e = .returned (.int .i64 (1 + (n : Int))) ∧ Below w.heap.size w w' := by
  have hc : Calls Try.prog 20 #[.slice a n cap, .int .i64 1] w _ := heldS_any a cap 1 n ms w h hms (Nat.le_refl _) (by omega)
  refine hc.mono ?_
  rintro e w' ⟨rfl, hm⟩
  exact ⟨ret_one (by omega), hm⟩

theorem strs_at {w : World} {B g cap : Nat} {ss : List ByteArray} (h : w.ownsRow B 9 1 (.slice (some ⟨g, 0, none⟩) ss.length cap) ss.length (strVals ss)) : Strs w (some ⟨g, 0, none⟩) ss := by
  obtain ⟨a, c, e, hs⟩ := strs_of_owns h
  simp only [Value.slice.injEq] at e
  obtain ⟨rfl, -, -⟩ := e
  exact hs
theorem owns_ge {w : World} {B g n cap : Nat} {xs : List Value} (h : w.ownsRow B 9 1 (.slice (some ⟨g, 0, none⟩) n cap) n xs) : B ≤ g ∧ g < w.heap.size := h.lt g rfl
theorem owns_on {w w' : World} {B g n cap : Nat} {xs : List Value} (h : w.ownsRow B 9 1 (.slice (some ⟨g, 0, none⟩) n cap) n xs) (hb : Below w.heap.size w w') : w'.ownsRow B 9 1 (.slice (some ⟨g, 0, none⟩) n cap) n xs :=
  h.kept (row := none) ⟨hb.os, hb.tape, hb.output, hb.size, fun j hj _ => hb.block j hj⟩ (.inr (by simp [Value.ownBlock]))

/-- A list elsewhere is as it was behind the marks. -/
theorem strs_off {w wr : World} {g gs : Nat} {ss : List ByteArray} (h : Strs w (some ⟨gs, 0, none⟩) ss) (hg : w.grownBy wr (some g)) (hne : gs ≠ g) : Strs wr (some ⟨gs, 0, none⟩) ss := fun j x hx => by
  obtain ⟨b, o, e, hc⟩ := h j x hx
  refine ⟨b, o, e, hg.cell hc ?_⟩
  simp only [Option.some.injEq, Addr.mk.injEq] at e
  simp only [ne_eq, Option.some.injEq]
  omega
theorem below_mark {w0 w wr : World} {g : Nat} (hb : Below w0.heap.size w0 w) (hg : w.grownBy wr (some g)) (hge : w0.heap.size ≤ g) : Below w0.heap.size w0 wr :=
  hb.grown hg hb.size (fun j e => by cases e; exact hge)

set_option maxHeartbeats 800000 in
theorem walk (s sep : ByteArray) (w0 : s.size ≤ maxLen) (w1 : sep.size ≤ maxLen) (w : World) :
    Calls Try.prog 4 #[.string s, .string sep] w fun e w' => e = .returned (.bool true) ∧ Below w.heap.size w w' := by
  unfold maxLen at w0 w1
  by_cases h1 : 1048576 < s.size
  · go_enter Try.func4, Try.ntmps4
    go_wp2_with fail
    go_ret
    exact ⟨rfl, Below.refl _ _⟩
  · by_cases h2 : 1048576 < sep.size
    · go_enter Try.func4, Try.ntmps4
      go_wp2_with fail
      go_ret
      exact ⟨rfl, Below.refl _ _⟩
    · obtain ⟨ss, b, hn, hsp, him⟩ := splitBoth s sep (by omega)
      have HP := Lib.hid hsp
      have HI := Lib.hid him
      have hn9 : ss.length ≤ 9223372036854775807 := by omega
      clear hsp him
      go_enter Try.func4, Try.ntmps4
      go_wp2_with fail
      refine (HP.out _).mono ?_
      rintro e W1 ⟨gs, caps, rfl, ho1, hb1⟩
      have S1 := Lib.hid (strs_at ho1)
      have G1 := Lib.hid (owns_ge ho1)
      have B1 := Lib.hid hb1
      clear ho1 hb1
      go_wp2_with fail
      refine (HI.out _).mono ?_
      rintro e W2 ⟨g, cap, rfl, ho2, hb2⟩
      have G2 := Lib.hid (owns_ge ho2)
      have O2 := Lib.hid ho2
      have S2 := Lib.hid (strs_at ho2)
      have S12 := Lib.hid (S1.out.on hb2)
      have B2 := Lib.hid (B1.out.trans (hb2.mono B1.out.size))
      clear ho2 hb2
      go_wp2_with fail
      refine (eqS_same _ _ _ _ ss _ S2 S12 hn9).mono ?_
      rintro e W3 ⟨rfl, hb3⟩
      have O3 := Lib.hid (owns_on O2.out hb3)
      have S13 := Lib.hid (S12.out.on hb3)
      have B3 := Lib.hid (B2.out.trans (hb3.mono B2.out.size))
      clear hb3
      go_wp2_with fail
      refine (mark_one _ g cap ss _ O3 hn).mono ?_
      rintro e W4 ⟨rfl, hm4⟩
      have HL := Lib.hid (marked_length 1 ss.length ss (Nat.le_refl _))
      have S4 : Hid (Strs W4 (some ⟨g, 0, none⟩) (marked 1 ss.length ss)) := Lib.hid (strs_at (by rw [HL.out]; exact hm4.1))
      have HM : Hid (∀ j, j < ss.length → (marked 1 ss.length ss)[j]? = some (markS (1 + j))) := Lib.hid (fun j hj => marked_at 1 ss.length ss j hj)
      have S14 := Lib.hid (strs_off S13.out hm4.2 (by have := G1.out; have := G2.out; omega))
      have B4 := Lib.hid (below_mark B3.out hm4.2 (by have := G2.out; have := B1.out.size; omega))
      clear hm4
      go_wp2_with fail
      refine (held_one _ cap ss.length _ _ S4 HM hn).mono ?_
      rintro e W5 ⟨rfl, hb5⟩
      have S5 := Lib.hid (S4.out.on hb5)
      have S15 := Lib.hid (S14.out.on hb5)
      have B5 := Lib.hid (B4.out.trans (hb5.mono B4.out.size))
      clear hb5
      go_wp2_with fail
      refine (HI.out _).mono ?_
      rintro e W6 ⟨g2, cap2, rfl, ho6, hb6⟩
      have S6 := Lib.hid (S5.out.on hb6)
      have S16 := Lib.hid (S15.out.on hb6)
      have T6 := Lib.hid (strs_at ho6)
      have B6 := Lib.hid (B5.out.trans (hb6.mono B5.out.size))
      clear ho6 hb6
      go_wp2_with fail
      refine (eqS_same _ _ _ _ ss _ T6 S16 hn9).mono ?_
      rintro e W7 ⟨rfl, hb7⟩
      have S7 := Lib.hid (S6.out.on hb7)
      have B7 := Lib.hid (B6.out.trans (hb7.mono B6.out.size))
      clear hb7
      go_wp2_with fail
      refine (held_one _ cap ss.length _ _ S7 HM hn).mono ?_
      rintro e W8 ⟨rfl, hb8⟩
      have B8 := Lib.hid (B7.out.trans (hb8.mono B7.out.size))
      clear hb8
      go_wp2
      go_ret
      exact ⟨rfl, B8.out⟩

set_option maxRecDepth 100000 in
theorem lifted (os : Os) (started : os.Started) (H : Type) (enc : TypeId × Value → H) :
    ReturnsInHanded {} Try.checked os 4 .any (Rows.fnExactSplitStringSpec.pre6 enc Try.prog Try.f4 Rows.fnExactSplitStringRow.domain false) (Rows.fnExactSplitStringSpec.post enc Try.prog Try.f4 false true false false) := by
  refine returnsInHanded_of_change (C := Try.checked) own started (by kernel_rfl) Try.func4
    (ChangeSpec.witness6 (enc := enc) (C := Try.checked) false ⟨#[], #[.string ByteArray.empty, .string ByteArray.empty], []⟩ 8 (by kernel_rfl) (by kernel_rfl) (by kernel_rfl) (by kernel_rfl)) ?_
  intro W base args ds gs before hval0 hW hcnd _
  have hval : ∀ (j : Nat) t v, Try.f4.params[j]? = some t → args[j]? = some v → Value.okWide Try.prog W .any base t v := hval0
  have hW' := hW
  obtain ⟨p, q, hA0, hV, rfl, hfz, hnd⟩ := hW
  have hA : DataW.TrodAll enc Try.prog W 0 (fun _ => true) true Try.f4.params.toList args.toList ds p := hA0
  rw [Try.params4] at hA hval
  obtain ⟨v0, vs0, d0, ds0, p0, q0, hargs, rfl, rfl, h0, r0⟩ := trodAll_cons hA
  obtain ⟨v1, vs1, d1, ds1, p1, q1, rfl, rfl, rfl, h1, r1⟩ := trodAll_cons r0
  obtain ⟨rfl, rfl, rfl⟩ := trodAll_nil r1
  obtain rfl : args = #[v0, v1] := by cases args; simp_all
  obtain ⟨rfl, rfl⟩ := trodVars_none hV
  obtain ⟨a0, rfl, rfl, rfl, w0⟩ := open_string Try.underlying9 (hval 0 9 v0 rfl rfl) h0
  obtain ⟨a1, rfl, rfl, rfl, w1⟩ := open_string Try.underlying9 (hval 1 9 v1 rfl rfl) h1
  clear hA0 hval0
  simp only [List.append_nil] at hW'
  refine (walk a0 a1 w0 w1 W).mono fun e W' ⟨he, bel⟩ => ?_
  subst he
  exact ⟨_, rfl, _, _, _, [], [], [], hW', trodAll_mk1 (shut_bool Try.underlying4 _), (trodAll_cons_mk (shut_string Try.underlying9 w0) (trodAll_cons_mk (shut_string Try.underlying9 w1) trodAll_mk0)), rfl, bel.frame _, fun h => by cases h⟩

theorem over : Rows.fnExactSplitStringRow.holds Try.pinned (OpenSpec.ofChange Rows.fnExactSplitStringSpec) :=
  OpenClaim.holds_of_wide 4 Try.f4 rfl rfl rfl rfl rfl rfl rfl ⟨rfl, rfl, rfl, rfl, rfl⟩ rfl rfl rfl rfl rfl (by kernel_rfl) Try.func4 (by kernel_rfl)
    (of_decide_eq_true (by kernel_rfl)) (by unfold Func.isWrapper; first | (rw [if_pos (by decide +kernel)]; kernel_rfl) | (rw [if_neg (by decide +kernel)]; exact ⟨rfl, rfl⟩))
    (fun os started H enc _ => lifted os started H enc)

theorem proved : Rows.FnExactSplitStringSaid := over
end Go.Proofs.Ythcggmjgecdfgaa.fnExactSplitString
