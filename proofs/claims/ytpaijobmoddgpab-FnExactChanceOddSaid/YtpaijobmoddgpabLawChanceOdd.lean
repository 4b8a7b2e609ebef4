/- Proved: for all arguments, laws.FnExactChanceOdd returns true and leaves its arguments as they were. No condition. -/
import Derived.Test.YtpaijobmoddgpabRows
import Derived.WalkKit
import Derived.ProofKit
import Derived.OpenShut
import Derived.ShutString
import Derived.Test.YtpaijobmoddgpabBothOdd
import Derived.Test.YtpaijobmoddgpabLawKit
import Derived.ChangeOld
import Derived.Below
namespace Go.Proofs.Ytpaijobmoddgpab.fnExactChanceOdd
open Go.ChangeShapes Go.WideShapes Go.ChangeAt Go.RowKit
open Go.ChangeMaps (open_string shut_string)
set_option linter.unusedVariables false

theorem own : ownKnob Try.prog.godebug = none := by kernel_rfl
theorem laidOut : laidOutB Try.prog = true := by kernel_rfl

def IsRow (k : IntKind) (w : World) (a : Option Addr) (len cap : Nat) (zs : List Int) : Prop :=
  (a = none ∧ len = 0 ∧ cap = 0 ∧ zs = []) ∨
  ∃ x, a = some x ∧ len ≤ cap ∧ cap ≤ maxLen ∧ zs.length = cap ∧ (∀ i, i < zs.length → w.cell? (x.add i) = some (.int k (zs.getD i 0))) ∧ ∀ n ∈ zs, (Lit.int k n).wf = true

set_option maxHeartbeats 1000000 in
theorem walk (a0 : Option Addr) (len0 cap0 : Nat) (z0 : List Int) (a1 : Int) (a2 : Int) (w : World) (w0 : IsRow .i64 w a0 len0 cap0 z0) (w1 : (Lit.int .i64 a1).wf = true) (w2 : (Lit.int .i64 a2).wf = true) :
    Calls Try.prog 4 #[.slice a0 len0 cap0, .int .i64 a1, .int .i64 a2] w fun e w' => e = .returned (.bool true) ∧ Below w.heap.size w w' := by
  obtain ⟨xs0, rfl, hI0, h640, hl0⟩ := row_ints w0
  clear w0
  have I0 := Lib.hid hI0
  have N0 := Lib.hid h640
  clear hI0 h640
  have hr1 := int_range w1
  obtain ⟨hrl1, hrh1⟩ := hr1
  clear w1
  have hr2 := int_range w2
  obtain ⟨hrl2, hrh2⟩ := hr2
  clear w2
  by_cases h0 : 1048576 < xs0.length
  · go_enter Try.func4, Try.ntmps4
    go_wp2_with fail
    go_ret
    exact ⟨rfl, Below.refl _ _⟩
  · skip
    have hn0 : xs0.length ≤ 1048576 := by omega
    clear h0
    obtain ⟨r0_0, r0_1, r1, hsp, him⟩ := bothChanceOdd xs0 N0 hn0 a1 hrl1 hrh1 a2 hrl2 hrh2
    have HP := Lib.hid hsp
    have HI := Lib.hid him
    clear hsp him
    go_enter Try.func4, Try.ntmps4
    go_wp2_with fail
    refine (to_any _ _ xs0 _ I0 hn0).mono ?_
    rintro e W1 ⟨rfl, hi, ho, hb⟩
    have B1 := Lib.hid hb
    have Z1 := Lib.hid hb.size
    have Fs0_1 := Lib.hid hi
    have Os0 := Lib.hid ho
    clear hi ho hb
    go_wp2_with fail
    refine (HP.out _ _ _ Fs0_1).mono ?_
    rintro e W2 ⟨rfl, hb⟩
    have B2 := Lib.hid (B1.out.trans (hb.mono B1.out.size))
    have Z2 := Lib.hid hb.size
    have Fs0_2 := Lib.hid (Fs0_1.out.on hb)
    clear Fs0_1
    clear hb
    have hb : Below W2.heap.size W2 (W2.alloc (.cells #[.int .i64 r0_0, .int .i64 r0_1] 23)) := (Below.refl _ _).alloc (Nat.le_refl _) _
    have ha : ArrP (W2.alloc (.cells #[.int .i64 r0_0, .int .i64 r0_1] 23)) W2.heap.size r0_0 r0_1 := arrP_new _ _ _
    have Xhb := Lib.hid hb
    clear hb
    have Xha := Lib.hid ha
    clear ha
    go_wp2_with fail
    generalize (W2.alloc (.cells #[.int .i64 r0_0, .int .i64 r0_1] 23)) = W3 at Xhb Xha ⊢
    have hb := Xhb.out
    have B3 := Lib.hid (B2.out.trans (hb.mono B2.out.size))
    have Z3 := Lib.hid hb.size
    have Fs0_3 := Lib.hid (Fs0_2.out.on hb)
    clear Fs0_2
    have Aw_3 := Xha
    clear hb Xhb
    refine (to_any _ _ xs0 _ (Lib.hid (I0.out.on B3.out)) hn0).mono ?_
    rintro e W4 ⟨rfl, hi, ho, hb⟩
    have B4 := Lib.hid (B3.out.trans (hb.mono B3.out.size))
    have Z4 := Lib.hid hb.size
    have Fs0_4 := Lib.hid (Fs0_3.out.on hb)
    clear Fs0_3
    have Aw_4 := Lib.hid (Aw_3.out.on hb)
    clear Aw_3
    have Fx0_4 := Lib.hid hi
    have Ox0 := Lib.hid ho
    clear hi ho hb
    go_wp2_with fail
    refine (HI.out _ _ _ Fx0_4).mono ?_
    rintro e W5 ⟨rfl, hb⟩
    have B5 := Lib.hid (B4.out.trans (hb.mono B4.out.size))
    have Z5 := Lib.hid hb.size
    have Fs0_5 := Lib.hid (Fs0_4.out.on hb)
    clear Fs0_4
    have Fx0_5 := Lib.hid (Fx0_4.out.on hb)
    clear Fx0_4
    have Aw_5 := Lib.hid (Aw_4.out.on hb)
    clear Aw_4
    clear hb
    have hb : Below W5.heap.size W5 (W5.alloc (.cells #[.int .i64 r0_0, .int .i64 r0_1] 23)) := (Below.refl _ _).alloc (Nat.le_refl _) _
    have ha : ArrP (W5.alloc (.cells #[.int .i64 r0_0, .int .i64 r0_1] 23)) W5.heap.size r0_0 r0_1 := arrP_new _ _ _
    have hw := Aw_5.out.on hb
    obtain ⟨q0_0, q0_1⟩ := hw.cells
    have Xhb := Lib.hid hb
    clear hb
    have Xha := Lib.hid ha
    clear ha
    have Xhw := Lib.hid hw
    clear hw
    go_wp2_with fail
    generalize (W5.alloc (.cells #[.int .i64 r0_0, .int .i64 r0_1] 23)) = W6 at Xhb Xha Xhw q0_0 q0_1 ⊢
    have hb := Xhb.out
    have B6 := Lib.hid (B5.out.trans (hb.mono B5.out.size))
    have Z6 := Lib.hid hb.size
    have Fs0_6 := Lib.hid (Fs0_5.out.on hb)
    clear Fs0_5
    have Fx0_6 := Lib.hid (Fx0_5.out.on hb)
    clear Fx0_5
    have Aw_6 := Xhw
    clear Aw_5
    have Ag_6 := Xha
    clear hb Xhb
    refine (eqA2_same _ _ _).mono ?_
    rintro e W7 ⟨rfl, hb⟩
    have B7 := Lib.hid (B6.out.trans (hb.mono B6.out.size))
    have Z7 := Lib.hid hb.size
    have Fx0_7 := Lib.hid (Fx0_6.out.on hb)
    clear Fx0_6
    clear hb q0_0 q0_1
    go_wp2_with fail
    refine (to_any _ _ xs0 _ (Lib.hid (I0.out.on B7.out)) hn0).mono ?_
    rintro e W8 ⟨rfl, hi, ho, hb⟩
    have B8 := Lib.hid (B7.out.trans (hb.mono B7.out.size))
    have Z8 := Lib.hid hb.size
    have Fx0_8 := Lib.hid (Fx0_7.out.on hb)
    clear Fx0_7
    have Fy0_8 := Lib.hid hi
    have Oy0 := Lib.hid ho
    clear hi ho hb
    go_wp2_with fail
    refine (eq_same _ _ _ _ xs0 _ Fx0_8 Fy0_8 (by omega)).mono ?_
    rintro e W9 ⟨rfl, hb⟩
    have B9 := Lib.hid (B8.out.trans (hb.mono B8.out.size))
    have Z9 := Lib.hid hb.size
    have Fx0_9 := Lib.hid (Fx0_8.out.on hb)
    clear Fx0_8
    have Fy0_9 := Lib.hid (Fy0_8.out.on hb)
    clear Fy0_8
    clear hb
    go_wp2
    go_ret
    exact ⟨rfl, B9.out⟩

set_option maxRecDepth 100000 in
theorem lifted (os : Os) (started : os.Started) (H : Type) (enc : TypeId × Value → H) :
    ReturnsInHanded {} Try.checked os 4 .any (Rows.fnExactChanceOddSpec.pre6 enc Try.prog Try.f4 Rows.fnExactChanceOddRow.domain false) (Rows.fnExactChanceOddSpec.post enc Try.prog Try.f4 false true false false) := by
  refine returnsInHanded_of_change (C := Try.checked) own started (by kernel_rfl) Try.func4
    (ChangeSpec.witness6 (enc := enc) (C := Try.checked) false ⟨#[], #[.slice none 0 0, .int .i64 0, .int .i64 0], []⟩ 8 (by kernel_rfl) (by kernel_rfl) (by kernel_rfl) (by kernel_rfl)) ?_
  intro W base args ds gs before hval0 hW hcnd _
  have hval : ∀ (j : Nat) t v, Try.f4.params[j]? = some t → args[j]? = some v → Value.okWide Try.prog W .any base t v := hval0
  have hW' := hW
  obtain ⟨p, q, hA0, hV, rfl, hfz, hnd⟩ := hW
  have hA : DataW.TrodAll enc Try.prog W 0 (fun _ => true) true Try.f4.params.toList args.toList ds p := hA0
  rw [Try.params4] at hA hval
  obtain ⟨v0, vs0, d0, ds0, p0, q0, hargs, rfl, rfl, h0, r0⟩ := trodAll_cons hA
  obtain ⟨v1, vs1, d1, ds1, p1, q1, rfl, rfl, rfl, h1, r1⟩ := trodAll_cons r0
  obtain ⟨v2, vs2, d2, ds2, p2, q2, rfl, rfl, rfl, h2, r2⟩ := trodAll_cons r1
  obtain ⟨rfl, rfl, rfl⟩ := trodAll_nil r2
  obtain rfl : args = #[v0, v1, v2] := by cases args; simp_all
  obtain ⟨rfl, rfl⟩ := trodVars_none hV
  obtain ⟨a0, len0, cap0, rfl⟩ := okWide_slice Try.underlying22 (hval 0 22 v0 rfl rfl)
  have k0 := h0
  have lt0 : ∀ x ∈ p0, x.block < W.heap.size := by obtain ⟨m, hm⟩ := k0; exact DataW.trod_lt m _ _ _ hm
  obtain ⟨z0, w0⟩ : ∃ zs, IsRow .i64 W a0 len0 cap0 zs := by
    obtain ⟨fuel, hf⟩ := h0
    rcases open_ints Try.underlying22 Try.underlying3 (by kernel_rfl) hf with ⟨hcs, _⟩ | ⟨x, l, c, zs, hcs, _, hl, hm, hz, _, hcell, hwz⟩
    · simp [Value.cells] at hcs
      obtain ⟨rfl, rfl, rfl⟩ := hcs
      exact ⟨[], .inl ⟨rfl, rfl, rfl, rfl⟩⟩
    · simp [Value.cells] at hcs
      obtain ⟨rfl, rfl, rfl⟩ := hcs
      exact ⟨zs, .inr ⟨_, rfl, hl, hm, by simpa using hz, hcell, hwz⟩⟩
  obtain ⟨a1, rfl, rfl, rfl, w1⟩ := open_int Try.underlying3 (hval 1 3 v1 rfl rfl) h1
  obtain ⟨a2, rfl, rfl, rfl, w2⟩ := open_int Try.underlying3 (hval 2 3 v2 rfl rfl) h2
  clear hA0 hval0
  refine (walk a0 len0 cap0 z0 a1 a2 W w0 w1 w2).mono fun e W' ⟨he, bel⟩ => ?_
  subst he
  exact ⟨_, rfl, _, _, _, [], _, [], hW', trodAll_mk1 (shut_bool Try.underlying4 _), (trodAll_cons_mk (Below.trod laidOut (by kernel_rfl) (of_decide_eq_true (by kernel_rfl)) k0 bel lt0) (trodAll_cons_mk (shut_int Try.underlying3 w1) (trodAll_cons_mk (shut_int Try.underlying3 w2) trodAll_mk0))), rfl, bel.frame _, fun h => by cases h⟩

theorem over : Rows.fnExactChanceOddRow.holds Try.pinned (OpenSpec.ofChange Rows.fnExactChanceOddSpec) :=
  OpenClaim.holds_of_wide 4 Try.f4 rfl rfl rfl rfl rfl rfl rfl ⟨rfl, rfl, rfl, rfl, rfl⟩ rfl rfl rfl rfl rfl (by kernel_rfl) Try.func4 (by kernel_rfl)
    (of_decide_eq_true (by kernel_rfl)) (by unfold Func.isWrapper; first | (rw [if_pos (by decide +kernel)]; kernel_rfl) | (rw [if_neg (by decide +kernel)]; exact ⟨rfl, rfl⟩))
    (fun os started H enc _ => lifted os started H enc)

theorem proved : Rows.FnExactChanceOddSaid := over
end Go.Proofs.Ytpaijobmoddgpab.fnExactChanceOdd
