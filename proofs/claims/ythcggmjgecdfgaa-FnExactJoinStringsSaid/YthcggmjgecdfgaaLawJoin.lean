/- Proved: for every list of texts and every text, laws.FnExactJoinStrings returns true and leaves its arguments as they were. No condition. -/
import Derived.Test.YthcggmjgecdfgaaJoinBoth
namespace Go.Proofs.Ythcggmjgecdfgaa.fnExactJoinStrings
open Go.ChangeShapes Go.WideShapes Go.ChangeAt Go.RowKit
open Go.ChangeMaps (open_string shut_string)
set_option linter.unusedVariables false

theorem own : ownKnob Try.prog.godebug = none := by kernel_rfl
theorem laidOut : laidOutB Try.prog = true := by kernel_rfl

set_option maxHeartbeats 400000 in
theorem walk (a : Option Addr) (cap : Nat) (ss : List ByteArray) (sep : ByteArray) (w : World) (hS : Strs w a ss) (hcap : ss.length ≤ cap) (hm : cap ≤ maxLen) (hsz : Sizes ss) (hsep : sep.size ≤ maxLen) :
    Calls Try.prog 5 #[.slice a ss.length cap, .string sep] w fun e w' => e = .returned (.bool true) ∧ Below w.heap.size w w' := by
  unfold maxLen at hm hsep
  have HS := Lib.hid hS
  have HZ := Lib.hid hsz
  clear hS hsz
  by_cases h1 : 1048576 < sep.size
  · go_enter Try.func5, Try.ntmps5
    go_wp2_with fail
    go_ret
    exact ⟨rfl, Below.refl _ _⟩
  · have hz := Lib.hid (sz_any a cap ss w HS (by omega) HZ)
    go_enter Try.func5, Try.ntmps5
    go_wp2_with fail
    refine hz.out.mono ?_
    rintro e w' ⟨m, rfl, hm2 | ⟨hm0, hn⟩, rfl⟩
    · go_wp2_with fail
      go_ret
      exact ⟨rfl, Below.refl _ _⟩
    · obtain ⟨o, b, hsp, him⟩ := joinBoth ss sep hn
      have HP := Lib.hid hsp
      have HI := Lib.hid him
      have hq := str_same o
      clear hsp him
      go_wp2_with fail
      refine (to_any a cap ss _ HS (by omega)).mono ?_
      rintro e w1 ⟨rfl, hf1⟩
      have S1 := Lib.hid hf1.strs
      have B1 := Lib.hid hf1.2
      clear hf1
      go_wp2_with fail
      refine (HP.out _ _ _ S1).mono ?_
      rintro e w2 ⟨rfl, hb2⟩
      have B2 := Lib.hid (B1.out.trans (hb2.mono B1.out.size))
      clear hb2
      go_wp2_with fail
      refine (to_any a cap ss _ (Lib.hid (HS.out.on B2.out)) (by omega)).mono ?_
      rintro e w3 ⟨rfl, hf3⟩
      have S3 := Lib.hid hf3.strs
      have B3 := Lib.hid (B2.out.trans (hf3.2.mono B2.out.size))
      clear hf3
      go_wp2_with fail
      refine (HI.out _ _ _ S3 (Nat.le_refl _)).mono ?_
      rintro e w4 ⟨rfl, hb4⟩
      have S4 := Lib.hid (S3.out.on hb4)
      have B4 := Lib.hid (B3.out.trans (hb4.mono B3.out.size))
      clear hb4
      go_wp2_with fail
      refine (to_any a cap ss _ (Lib.hid (HS.out.on B4.out)) (by omega)).mono ?_
      rintro e w5 ⟨rfl, hf5⟩
      have S5 := Lib.hid hf5.strs
      have S45 := Lib.hid (S4.out.on hf5.2)
      have B5 := Lib.hid (B4.out.trans (hf5.2.mono B4.out.size))
      clear hf5
      go_wp2_with fail
      refine (eqS_same _ _ _ _ ss _ S45 S5 (by omega)).mono ?_
      rintro e w6 ⟨rfl, hb6⟩
      have B6 := Lib.hid (B5.out.trans (hb6.mono B5.out.size))
      clear hb6
      go_wp2
      go_ret
      exact ⟨rfl, B6.out⟩

set_option maxRecDepth 100000 in
theorem lifted (os : Os) (started : os.Started) (H : Type) (enc : TypeId × Value → H) :
    ReturnsInHanded {} Try.checked os 5 .any (Rows.fnExactJoinStringsSpec.pre6 enc Try.prog Try.f5 Rows.fnExactJoinStringsRow.domain false) (Rows.fnExactJoinStringsSpec.post enc Try.prog Try.f5 false true false false) := by
  refine returnsInHanded_of_change (C := Try.checked) own started (by kernel_rfl) Try.func5
    (ChangeSpec.witness6 (enc := enc) (C := Try.checked) false ⟨#[], #[.slice none 0 0, .string ByteArray.empty], []⟩ 8 (by kernel_rfl) (by kernel_rfl) (by kernel_rfl) (by kernel_rfl)) ?_
  intro W base args ds gs before hval0 hW hcnd _
  have hval : ∀ (j : Nat) t v, Try.f5.params[j]? = some t → args[j]? = some v → Value.okWide Try.prog W .any base t v := hval0
  have hW' := hW
  obtain ⟨p, q, hA0, hV, rfl, hfz, hnd⟩ := hW
  have hA : DataW.TrodAll enc Try.prog W 0 (fun _ => true) true Try.f5.params.toList args.toList ds p := hA0
  rw [Try.params5] at hA hval
  obtain ⟨v0, vs0, d0, ds0, p0, q0, hargs, rfl, rfl, h0, r0⟩ := trodAll_cons hA
  obtain ⟨v1, vs1, d1, ds1, p1, q1, rfl, rfl, rfl, h1, r1⟩ := trodAll_cons r0
  obtain ⟨rfl, rfl, rfl⟩ := trodAll_nil r1
  obtain rfl : args = #[v0, v1] := by cases args; simp_all
  obtain ⟨rfl, rfl⟩ := trodVars_none hV
  obtain ⟨a0, len0, cap0, rfl⟩ := okWide_slice Try.underlying26 (hval 0 26 v0 rfl rfl)
  have k0 := h0
  have lt0 : ∀ x ∈ p0, x.block < W.heap.size := by obtain ⟨m, hm⟩ := k0; exact DataW.trod_lt m _ _ _ hm
  obtain ⟨ss, rfl, hcap, hm, hS, hsz⟩ : ∃ ss : List ByteArray, len0 = ss.length ∧ ss.length ≤ cap0 ∧ cap0 ≤ maxLen ∧ Strs W a0 ss ∧ Sizes ss := by
    obtain ⟨fuel, hf⟩ := h0
    rcases open_strings Try.underlying26 Try.underlying9 (by kernel_rfl) hf with ⟨hcs, _⟩ | ⟨x, l, c, zs, hcs, _, hl, hm, hz, _, hcell, hwz⟩
    · simp [Value.cells] at hcs
      obtain ⟨rfl, rfl, rfl⟩ := hcs
      exact ⟨[], rfl, Nat.le_refl _, Nat.zero_le _, fun j x hx => by simp at hx, fun j x hx => by simp at hx⟩
    · simp [Value.cells] at hcs
      obtain ⟨rfl, rfl, rfl⟩ := hcs
      have hzl : zs.length = cap0 := by simpa using hz
      refine ⟨zs.take len0, by rw [List.length_take]; omega, by rw [List.length_take]; omega, hm, fun j y hy => ?_, fun j y hy => ?_⟩
      · have hj : j < len0 := by
          rw [List.getElem?_eq_some_iff] at hy
          have := hy.1
          rw [List.length_take] at this
          omega
        rw [List.getElem?_take, if_pos hj] at hy
        have hc := hcell j (by omega)
        have hg : zs.getD j ByteArray.empty = y := by rw [List.getD_eq_getElem?_getD, hy]; rfl
        rw [hg] at hc
        obtain ⟨xb, xo, xs⟩ := x
        have hsp : xs = none := by simpa [Addr.add] using World.cell?_spot (hcell 0 (by omega))
        subst hsp
        exact ⟨xb, xo, rfl, by rw [← add_plain]; exact hc⟩
      · have hmem : y ∈ zs := List.mem_of_mem_take (List.mem_of_getElem? hy)
        have := hwz y hmem
        unfold maxLen at this
        omega
  obtain ⟨a1, rfl, rfl, rfl, w1⟩ := open_string Try.underlying9 (hval 1 9 v1 rfl rfl) h1
  clear hA0 hval0
  refine (walk a0 cap0 ss a1 W hS hcap hm hsz w1).mono fun e W' ⟨he, bel⟩ => ?_
  subst he
  exact ⟨_, rfl, _, _, _, [], _, [], hW', trodAll_mk1 (shut_bool Try.underlying4 _), (trodAll_cons_mk (Below.trod laidOut (by kernel_rfl) (of_decide_eq_true (by kernel_rfl)) k0 bel lt0) (trodAll_cons_mk (shut_string Try.underlying9 w1) trodAll_mk0)), rfl, bel.frame _, fun h => by cases h⟩

theorem over : Rows.fnExactJoinStringsRow.holds Try.pinned (OpenSpec.ofChange Rows.fnExactJoinStringsSpec) :=
  OpenClaim.holds_of_wide 5 Try.f5 rfl rfl rfl rfl rfl rfl rfl ⟨rfl, rfl, rfl, rfl, rfl⟩ rfl rfl rfl rfl rfl (by kernel_rfl) Try.func5 (by kernel_rfl)
    (of_decide_eq_true (by kernel_rfl)) (by unfold Func.isWrapper; first | (rw [if_pos (by decide +kernel)]; kernel_rfl) | (rw [if_neg (by decide +kernel)]; exact ⟨rfl, rfl⟩))
    (fun os started H enc _ => lifted os started H enc)

theorem proved : Rows.FnExactJoinStringsSaid := over
end Go.Proofs.Ythcggmjgecdfgaa.fnExactJoinStrings
