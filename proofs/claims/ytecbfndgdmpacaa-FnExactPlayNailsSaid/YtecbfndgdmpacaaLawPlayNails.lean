/- Proved: for all arguments, laws.FnExactPlayNails returns true and leaves its arguments as they were. No condition. -/
import Derived.Test.YtecbfndgdmpacaaRows
import Derived.WalkKit
import Derived.ProofKit
import Derived.OpenShut
import Derived.ShutString
import Derived.Test.YtecbfndgdmpacaaGamePlay
import Derived.Test.YtecbfndgdmpacaaLawKit
import Derived.ChangeOld
import Derived.Below
namespace Go.Proofs.Ytecbfndgdmpacaa.fnExactPlayNails
open Go.ChangeShapes Go.WideShapes Go.ChangeAt Go.RowKit
open Go.ChangeMaps (open_string shut_string)
set_option linter.unusedVariables false

theorem own : ownKnob Try.prog.godebug = none := by kernel_rfl
theorem laidOut : laidOutB Try.prog = true := by kernel_rfl

def IsRow (k : IntKind) (w : World) (a : Option Addr) (len cap : Nat) (zs : List Int) : Prop :=
  (a = none ∧ len = 0 ∧ cap = 0 ∧ zs = []) ∨
  ∃ x, a = some x ∧ len ≤ cap ∧ cap ≤ maxLen ∧ zs.length = cap ∧ (∀ i, i < zs.length → w.cell? (x.add i) = some (.int k (zs.getD i 0))) ∧ ∀ n ∈ zs, (Lit.int k n).wf = true

set_option maxHeartbeats 1000000 in
theorem walk (a0 : Option Addr) (len0 cap0 : Nat) (z0 : List Int) (a1 : Int) (a2 : Int) (a3 : Option Addr) (len3 cap3 : Nat) (z3 : List Int) (w : World) (w0 : IsRow .i64 w a0 len0 cap0 z0) (w1 : (Lit.int .i64 a1).wf = true) (w2 : (Lit.int .i64 a2).wf = true) (w3 : IsRow .i64 w a3 len3 cap3 z3) :
    Calls Try.prog 13 #[.slice a0 len0 cap0, .int .i64 a1, .int .i64 a2, .slice a3 len3 cap3] w fun e w' => e = .returned (.bool true) ∧ Below w.heap.size w w' := by
  obtain ⟨xs0, rfl, hI0, h640, hl0⟩ := row_ints w0
  clear w0
  have I0 := Lib.hid hI0
  have N0 := Lib.hid h640
  clear hI0 h640
  obtain ⟨xs3, rfl, hI3, h643, hl3⟩ := row_ints w3
  clear w3
  have I3 := Lib.hid hI3
  have N3 := Lib.hid h643
  clear hI3 h643
  have hr1 := int_range w1
  obtain ⟨hrl1, hrh1⟩ := hr1
  clear w1
  have hr2 := int_range w2
  obtain ⟨hrl2, hrh2⟩ := hr2
  clear w2
  by_cases h0 : 1048576 < xs0.length
  · go_enter Try.func13, Try.ntmps13
    go_wp2_with fail
    go_ret
    exact ⟨rfl, Below.refl _ _⟩
  · skip
    by_cases h3 : 1048576 < xs3.length
    · go_enter Try.func13, Try.ntmps13
      go_wp2_with fail
      go_ret
      exact ⟨rfl, Below.refl _ _⟩
    · skip
      have hn0 : xs0.length ≤ 1048576 := by omega
      clear h0
      have hn3 : xs3.length ≤ 1048576 := by omega
      clear h3
      obtain ⟨r0, r1, r2, hsp, him⟩ := bothPlayNails xs0 N0 hn0 a1 hrl1 hrh1 a2 hrl2 hrh2 xs3 N3 hn3
      have HP := Lib.hid hsp
      have HI := Lib.hid him
      clear hsp him
      go_enter Try.func13, Try.ntmps13
      go_wp2_with fail
      refine (to_any _ _ xs0 _ I0 hn0).mono ?_
      rintro e W1 ⟨rfl, hi, ho, hb⟩
      have B1 := Lib.hid hb
      have Z1 := Lib.hid hb.size
      have Fs0_1 := Lib.hid hi
      have Os0 := Lib.hid ho
      clear hi ho hb
      go_wp2_with fail
      refine (to_any _ _ xs3 _ (Lib.hid (I3.out.on B1.out)) hn3).mono ?_
      rintro e W2 ⟨rfl, hi, ho, hb⟩
      have B2 := Lib.hid (B1.out.trans (hb.mono B1.out.size))
      have Z2 := Lib.hid hb.size
      have Fs0_2 := Lib.hid (Fs0_1.out.on hb)
      clear Fs0_1
      have Fs3_2 := Lib.hid hi
      have Os3 := Lib.hid ho
      clear hi ho hb
      go_wp2_with fail
      refine (HP.out _ _ _ _ _ Fs0_2 Fs3_2).mono ?_
      rintro e W3 ⟨rfl, hb⟩
      have B3 := Lib.hid (B2.out.trans (hb.mono B2.out.size))
      have Z3 := Lib.hid hb.size
      have Fs0_3 := Lib.hid (Fs0_2.out.on hb)
      clear Fs0_2
      have Fs3_3 := Lib.hid (Fs3_2.out.on hb)
      clear Fs3_2
      clear hb
      go_wp2_with fail
      refine (to_any _ _ xs0 _ (Lib.hid (I0.out.on B3.out)) hn0).mono ?_
      rintro e W4 ⟨rfl, hi, ho, hb⟩
      have B4 := Lib.hid (B3.out.trans (hb.mono B3.out.size))
      have Z4 := Lib.hid hb.size
      have Fs0_4 := Lib.hid (Fs0_3.out.on hb)
      clear Fs0_3
      have Fs3_4 := Lib.hid (Fs3_3.out.on hb)
      clear Fs3_3
      have Fx0_4 := Lib.hid hi
      have Ox0 := Lib.hid ho
      clear hi ho hb
      go_wp2_with fail
      refine (to_any _ _ xs3 _ (Lib.hid (I3.out.on B4.out)) hn3).mono ?_
      rintro e W5 ⟨rfl, hi, ho, hb⟩
      have B5 := Lib.hid (B4.out.trans (hb.mono B4.out.size))
      have Z5 := Lib.hid hb.size
      have Fs0_5 := Lib.hid (Fs0_4.out.on hb)
      clear Fs0_4
      have Fs3_5 := Lib.hid (Fs3_4.out.on hb)
      clear Fs3_4
      have Fx0_5 := Lib.hid (Fx0_4.out.on hb)
      clear Fx0_4
      have Fx3_5 := Lib.hid hi
      have Ox3 := Lib.hid ho
      clear hi ho hb
      go_wp2_with fail
      refine (HI.out _ _ _ _ _ Fx0_5 Fx3_5).mono ?_
      rintro e W6 ⟨rfl, hb⟩
      have B6 := Lib.hid (B5.out.trans (hb.mono B5.out.size))
      have Z6 := Lib.hid hb.size
      have Fs0_6 := Lib.hid (Fs0_5.out.on hb)
      clear Fs0_5
      have Fs3_6 := Lib.hid (Fs3_5.out.on hb)
      clear Fs3_5
      have Fx0_6 := Lib.hid (Fx0_5.out.on hb)
      clear Fx0_5
      have Fx3_6 := Lib.hid (Fx3_5.out.on hb)
      clear Fx3_5
      clear hb
      go_wp2_with fail
      refine (to_any _ _ xs0 _ (Lib.hid (I0.out.on B6.out)) hn0).mono ?_
      rintro e W7 ⟨rfl, hi, ho, hb⟩
      have B7 := Lib.hid (B6.out.trans (hb.mono B6.out.size))
      have Z7 := Lib.hid hb.size
      have Fx0_7 := Lib.hid (Fx0_6.out.on hb)
      clear Fx0_6
      have Fx3_7 := Lib.hid (Fx3_6.out.on hb)
      clear Fx3_6
      have Fy0_7 := Lib.hid hi
      have Oy0 := Lib.hid ho
      clear hi ho hb
      go_wp2_with fail
      refine (eq_same _ _ _ _ xs0 _ Fx0_7 Fy0_7 (by omega)).mono ?_
      rintro e W8 ⟨rfl, hb⟩
      have B8 := Lib.hid (B7.out.trans (hb.mono B7.out.size))
      have Z8 := Lib.hid hb.size
      have Fx0_8 := Lib.hid (Fx0_7.out.on hb)
      clear Fx0_7
      have Fx3_8 := Lib.hid (Fx3_7.out.on hb)
      clear Fx3_7
      have Fy0_8 := Lib.hid (Fy0_7.out.on hb)
      clear Fy0_7
      clear hb
      go_wp2_with fail
      refine (to_any _ _ xs3 _ (Lib.hid (I3.out.on B8.out)) hn3).mono ?_
      rintro e W9 ⟨rfl, hi, ho, hb⟩
      have B9 := Lib.hid (B8.out.trans (hb.mono B8.out.size))
      have Z9 := Lib.hid hb.size
      have Fx0_9 := Lib.hid (Fx0_8.out.on hb)
      clear Fx0_8
      have Fx3_9 := Lib.hid (Fx3_8.out.on hb)
      clear Fx3_8
      have Fy3_9 := Lib.hid hi
      have Oy3 := Lib.hid ho
      clear hi ho hb
      go_wp2_with fail
      refine (eq_same _ _ _ _ xs3 _ Fx3_9 Fy3_9 (by omega)).mono ?_
      rintro e W10 ⟨rfl, hb⟩
      have B10 := Lib.hid (B9.out.trans (hb.mono B9.out.size))
      have Z10 := Lib.hid hb.size
      have Fx0_10 := Lib.hid (Fx0_9.out.on hb)
      clear Fx0_9
      have Fx3_10 := Lib.hid (Fx3_9.out.on hb)
      clear Fx3_9
      have Fy3_10 := Lib.hid (Fy3_9.out.on hb)
      clear Fy3_9
      clear hb
      go_wp2
      go_ret
      exact ⟨rfl, B10.out⟩

set_option maxRecDepth 100000 in
theorem lifted (os : Os) (started : os.Started) (H : Type) (enc : TypeId × Value → H) :
    ReturnsInHanded {} Try.checked os 13 .any (Rows.fnExactPlayNailsSpec.pre6 enc Try.prog Try.f13 Rows.fnExactPlayNailsRow.domain false) (Rows.fnExactPlayNailsSpec.post enc Try.prog Try.f13 false true false false) := by
  refine returnsInHanded_of_change (C := Try.checked) own started (by kernel_rfl) Try.func13
    (ChangeSpec.witness6 (enc := enc) (C := Try.checked) false ⟨#[], #[.slice none 0 0, .int .i64 0, .int .i64 0, .slice none 0 0], []⟩ 8 (by kernel_rfl) (by kernel_rfl) (by kernel_rfl) (by kernel_rfl)) ?_
  intro W base args ds gs before hval0 hW hcnd _
  have hval : ∀ (j : Nat) t v, Try.f13.params[j]? = some t → args[j]? = some v → Value.okWide Try.prog W .any base t v := hval0
  have hW' := hW
  obtain ⟨p, q, hA0, hV, rfl, hfz, hnd⟩ := hW
  have hA : DataW.TrodAll enc Try.prog W 0 (fun _ => true) true Try.f13.params.toList args.toList ds p := hA0
  rw [Try.params13] at hA hval
  obtain ⟨v0, vs0, d0, ds0, p0, q0, hargs, rfl, rfl, h0, r0⟩ := trodAll_cons hA
  obtain ⟨v1, vs1, d1, ds1, p1, q1, rfl, rfl, rfl, h1, r1⟩ := trodAll_cons r0
  obtain ⟨v2, vs2, d2, ds2, p2, q2, rfl, rfl, rfl, h2, r2⟩ := trodAll_cons r1
  obtain ⟨v3, vs3, d3, ds3, p3, q3, rfl, rfl, rfl, h3, r3⟩ := trodAll_cons r2
  obtain ⟨rfl, rfl, rfl⟩ := trodAll_nil r3
  obtain rfl : args = #[v0, v1, v2, v3] := by cases args; simp_all
  obtain ⟨rfl, rfl⟩ := trodVars_none hV
  obtain ⟨a0, len0, cap0, rfl⟩ := okWide_slice Try.underlying22 (hval 0 22 v0 rfl rfl)
  have k0 := h0
  have lt0 : ∀ x ∈ p0, x.block < W.heap.size := by obtain ⟨m, hm⟩ := k0; exact DataW.trod_lt m _ _ _ hm
  obtain ⟨z0, w0⟩ : ∃ zs, IsRow .i64 W a0 len0 cap0 zs := by
    obtain ⟨fuel, hf⟩ := h0
    rcases open_ints Try.underlying22 Try.underlying3 (by kernel_rfl) hf with ⟨hcs, _⟩ | ⟨x, l, c, zs, hcs, _, hl, hm, hz, _, hcell, hwz⟩
    · simp [Value.cells] at hcs
      obtain ⟨rfl, rfl, rfl⟩ := hcs
      exact ⟨[], .inl ⟨rfl, rfl, rfl, rfl⟩⟩
    · simp [Value.cells] at hcs
      obtain ⟨rfl, rfl, rfl⟩ := hcs
      exact ⟨zs, .inr ⟨_, rfl, hl, hm, by simpa using hz, hcell, hwz⟩⟩
  obtain ⟨a1, rfl, rfl, rfl, w1⟩ := open_int Try.underlying3 (hval 1 3 v1 rfl rfl) h1
  obtain ⟨a2, rfl, rfl, rfl, w2⟩ := open_int Try.underlying3 (hval 2 3 v2 rfl rfl) h2
  obtain ⟨a3, len3, cap3, rfl⟩ := okWide_slice Try.underlying22 (hval 3 22 v3 rfl rfl)
  have k3 := h3
  have lt3 : ∀ x ∈ p3, x.block < W.heap.size := by obtain ⟨m, hm⟩ := k3; exact DataW.trod_lt m _ _ _ hm
  obtain ⟨z3, w3⟩ : ∃ zs, IsRow .i64 W a3 len3 cap3 zs := by
    obtain ⟨fuel, hf⟩ := h3
    rcases open_ints Try.underlying22 Try.underlying3 (by kernel_rfl) hf with ⟨hcs, _⟩ | ⟨x, l, c, zs, hcs, _, hl, hm, hz, _, hcell, hwz⟩
    · simp [Value.cells] at hcs
      obtain ⟨rfl, rfl, rfl⟩ := hcs
      exact ⟨[], .inl ⟨rfl, rfl, rfl, rfl⟩⟩
    · simp [Value.cells] at hcs
      obtain ⟨rfl, rfl, rfl⟩ := hcs
      exact ⟨zs, .inr ⟨_, rfl, hl, hm, by simpa using hz, hcell, hwz⟩⟩
  clear hA0 hval0
  refine (walk a0 len0 cap0 z0 a1 a2 a3 len3 cap3 z3 W w0 w1 w2 w3).mono fun e W' ⟨he, bel⟩ => ?_
  subst he
  exact ⟨_, rfl, _, _, _, [], _, [], hW', trodAll_mk1 (shut_bool Try.underlying4 _), (trodAll_cons_mk (Below.trod laidOut (by kernel_rfl) (of_decide_eq_true (by kernel_rfl)) k0 bel lt0) (trodAll_cons_mk (shut_int Try.underlying3 w1) (trodAll_cons_mk (shut_int Try.underlying3 w2) (trodAll_cons_mk (Below.trod laidOut (by kernel_rfl) (of_decide_eq_true (by kernel_rfl)) k3 bel lt3) trodAll_mk0)))), rfl, bel.frame _, fun h => by cases h⟩

theorem over : Rows.fnExactPlayNailsRow.holds Try.pinned (OpenSpec.ofChange Rows.fnExactPlayNailsSpec) :=
  OpenClaim.holds_of_wide 13 Try.f13 rfl rfl rfl rfl rfl rfl rfl ⟨rfl, rfl, rfl, rfl, rfl⟩ rfl rfl rfl rfl rfl (by kernel_rfl) Try.func13 (by kernel_rfl)
    (of_decide_eq_true (by kernel_rfl)) (by unfold Func.isWrapper; first | (rw [if_pos (by decide +kernel)]; kernel_rfl) | (rw [if_neg (by decide +kernel)]; exact ⟨rfl, rfl⟩))
    (fun os started H enc _ => lifted os started H enc)

theorem proved : Rows.FnExactPlayNailsSaid := over
end Go.Proofs.Ytecbfndgdmpacaa.fnExactPlayNails
