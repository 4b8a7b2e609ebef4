/- Proved: for all arguments, laws.FnExactFamilyOfWord returns true and leaves its arguments as they were. No condition. -/
import Derived.Test.YtkooibimeoojeaaRows
import Derived.WalkKit
import Derived.ProofKit
import Derived.OpenShut
import Derived.ShutString
import Derived.Test.YtkooibimeoojeaaBoth5W
import Derived.Test.YtkooibimeoojeaaFamLaw
import Derived.ChangeOld
import Derived.Below
namespace Go.Proofs.Ytkooibimeoojeaa.fnExactFamilyOfWord
open Go.ChangeShapes Go.WideShapes Go.ChangeAt Go.RowKit
open Go.ChangeMaps (open_string shut_string)
set_option linter.unusedVariables false

theorem own : ownKnob Try.prog.godebug = none := by kernel_rfl
theorem laidOut : laidOutB Try.prog = true := by kernel_rfl

def IsRow (k : IntKind) (w : World) (a : Option Addr) (len cap : Nat) (zs : List Int) : Prop :=
  (a = none ∧ len = 0 ∧ cap = 0 ∧ zs = []) ∨
  ∃ x, a = some x ∧ len ≤ cap ∧ cap ≤ maxLen ∧ zs.length = cap ∧ (∀ i, i < zs.length → w.cell? (x.add i) = some (.int k (zs.getD i 0))) ∧ ∀ n ∈ zs, (Lit.int k n).wf = true

set_option maxRecDepth 20000 in
set_option maxHeartbeats 2000000 in
theorem walk (a0 : Option Addr) (len0 cap0 : Nat) (z0 : List Int) (w : World) (w0 : IsRow .i64 w a0 len0 cap0 z0) :
    Calls Try.prog 12 #[.slice a0 len0 cap0] w fun e w' => e = .returned (.bool true) ∧ Below w.heap.size w w' := by
  obtain ⟨xs0, rfl, hI0, h640, hl0⟩ := row_ints w0
  clear w0
  have I0 := Lib.hid hI0
  have N0 := Lib.hid h640
  clear hI0 h640
  by_cases h0 : 1048576 < xs0.length
  · go_enter Try.func12, Try.ntmps12
    go_wp2_with fail
    go_ret
    exact ⟨rfl, Below.refl _ _⟩
  · skip
    have hn0 : xs0.length ≤ 1048576 := by omega
    clear h0
    obtain ⟨out, r1, hol, hsp, him⟩ := bothFamilyOfWord xs0 N0 hn0
    have HP := Lib.hid hsp
    have HI := Lib.hid him
    clear hsp him
    go_enter Try.func12, Try.ntmps12
    go_wp2_with fail
    refine (to_any _ _ xs0 _ I0 hn0).mono ?_
    rintro e W1 ⟨rfl, hi, ho, hb⟩
    have B1 := Lib.hid hb
    have Z1 := Lib.hid hb.size
    have Fs0_1 := Lib.hid hi
    have Os0 := Lib.hid ho
    clear hi ho hb
    go_wp2_with fail
    refine (HP.out _ _ _ Fs0_1).mono ?_
    rintro e W2 ⟨aw, cw, rfl, hi, ho, hcp, hb⟩
    have B2 := Lib.hid (B1.out.trans (hb.mono B1.out.size))
    have Z2 := Lib.hid hb.size
    have Fs0_2 := Lib.hid (Fs0_1.out.on hb)
    clear Fs0_1
    have Fw_2 := Lib.hid hi
    have Ow := Lib.hid ho
    clear hi ho hcp hb
    have hb : Below W2.heap.size W2 (W2.alloc (.cells #[.slice aw out.length cw] 44)) := (Below.refl _ _).alloc (Nat.le_refl _) _
    have hx : At1 44 (W2.alloc (.cells #[.slice aw out.length cw] 44)) W2.heap.size (.slice aw out.length cw) := at1_new _ _ _
    have hlt : W2.heap.size < (W2.alloc (.cells #[.slice aw out.length cw] 44)).heap.size := alloc_lt _ _
    have Hb := Lib.hid hb
    have Hx := Lib.hid hx
    have Hlt := Lib.hid hlt
    clear hb hx hlt
    go_wp2_with fail
    generalize (W2.alloc (.cells #[.slice aw out.length cw] 44)) = W3 at Hb Hx Hlt ⊢
    have hb := Hb.out
    have B3 := Lib.hid (B2.out.trans (hb.mono B2.out.size))
    have Z3 := Lib.hid hb.size
    have T3 := Hlt
    have Fw_3 := Lib.hid (Fw_2.out.on hb)
    clear Fw_2
    have Xbw_3 := Hx
    clear hb Hb
    refine (to_any _ _ xs0 _ (Lib.hid (I0.out.on B3.out)) hn0).mono ?_
    rintro e W4 ⟨rfl, hi, ho, hb⟩
    have B4 := Lib.hid (B3.out.trans (hb.mono B3.out.size))
    have Z4 := Lib.hid hb.size
    have Fw_4 := Lib.hid (Fw_3.out.on hb)
    clear Fw_3
    have Xbw_4 := Lib.hid (Xbw_3.out.on hb)
    clear Xbw_3
    have Fx0_4 := Lib.hid hi
    have Ox0 := Lib.hid ho
    clear hi ho hb
    go_wp2_with fail
    refine (HI.out _ _ _ Fx0_4).mono ?_
    rintro e W5 ⟨ag, cg, rfl, hi, ho, hcp, hb⟩
    have B5 := Lib.hid (B4.out.trans (hb.mono B4.out.size))
    have Z5 := Lib.hid hb.size
    have Fw_5 := Lib.hid (Fw_4.out.on hb)
    clear Fw_4
    have Fx0_5 := Lib.hid (Fx0_4.out.on hb)
    clear Fx0_4
    have Qx0_5 := Lib.hid (Ox0.out.on hb)
    have Xbw_5 := Lib.hid (Xbw_4.out.on hb)
    clear Xbw_4
    have Fg_5 := Lib.hid hi
    have Og := Lib.hid ho
    clear hi ho hcp hb
    have hb : Below W5.heap.size W5 (W5.alloc (.cells #[.slice ag out.length cg] 44)) := (Below.refl _ _).alloc (Nat.le_refl _) _
    have hx : At1 44 (W5.alloc (.cells #[.slice ag out.length cg] 44)) W5.heap.size (.slice ag out.length cg) := at1_new _ _ _
    have hlt : W5.heap.size < (W5.alloc (.cells #[.slice ag out.length cg] 44)).heap.size := alloc_lt _ _
    have hcbw := (Xbw_5.out.on hb).cell
    have Hb := Lib.hid hb
    have Hx := Lib.hid hx
    have Hlt := Lib.hid hlt
    clear hb hx hlt
    go_wp2_with fail
    clear hcbw
    generalize (W5.alloc (.cells #[.slice ag out.length cg] 44)) = W6 at Hb Hx Hlt ⊢
    have hb := Hb.out
    have B6 := Lib.hid (B5.out.trans (hb.mono B5.out.size))
    have Z6 := Lib.hid hb.size
    have T6 := Hlt
    have Fw_6 := Lib.hid (Fw_5.out.on hb)
    clear Fw_5
    have Fx0_6 := Lib.hid (Fx0_5.out.on hb)
    clear Fx0_5
    have Fg_6 := Lib.hid (Fg_5.out.on hb)
    clear Fg_5
    have Qx0_6 := Lib.hid (Qx0_5.out.on hb)
    clear Qx0_5
    have Qg_6 := Lib.hid (Og.out.on hb)
    have Xbw_6 := Lib.hid (Xbw_5.out.on hb)
    clear Xbw_5
    have Xbg_6 := Hx
    clear hb Hb
    refine (eqFam_same _ _ _ _ out _ Fg_6 Fw_6 (by omega)).mono ?_
    rintro e W7 ⟨rfl, hb⟩
    have B7 := Lib.hid (B6.out.trans (hb.mono B6.out.size))
    have Z7 := Lib.hid hb.size
    have Fw_7 := Lib.hid (Fw_6.out.on hb)
    clear Fw_6
    have Fx0_7 := Lib.hid (Fx0_6.out.on hb)
    clear Fx0_6
    have Fg_7 := Lib.hid (Fg_6.out.on hb)
    clear Fg_6
    have Qx0_7 := Lib.hid (Qx0_6.out.on hb)
    clear Qx0_6
    have Qg_7 := Lib.hid (Qg_6.out.on hb)
    clear Qg_6
    have Xbw_7 := Lib.hid (Xbw_6.out.on hb)
    clear Xbw_6
    have Xbg_7 := Lib.hid (Xbg_6.out.on hb)
    clear Xbg_6
    clear hb
    go_wp2_with fail
    refine (to_any _ _ xs0 _ (Lib.hid (I0.out.on B7.out)) hn0).mono ?_
    rintro e W8 ⟨rfl, hi, ho, hb⟩
    have B8 := Lib.hid (B7.out.trans (hb.mono B7.out.size))
    have Z8 := Lib.hid hb.size
    have Fw_8 := Lib.hid (Fw_7.out.on hb)
    clear Fw_7
    have Fx0_8 := Lib.hid (Fx0_7.out.on hb)
    clear Fx0_7
    have Fg_8 := Lib.hid (Fg_7.out.on hb)
    clear Fg_7
    have Qx0_8 := Lib.hid (Qx0_7.out.on hb)
    clear Qx0_7
    have Qg_8 := Lib.hid (Qg_7.out.on hb)
    clear Qg_7
    have Xbw_8 := Lib.hid (Xbw_7.out.on hb)
    clear Xbw_7
    have Xbg_8 := Lib.hid (Xbg_7.out.on hb)
    clear Xbg_7
    have Fy0_8 := Lib.hid hi
    have Oy0 := Lib.hid ho
    clear hi ho hb
    go_wp2_with fail
    refine (eq_same _ _ _ _ xs0 _ Fx0_8 Fy0_8 (by omega)).mono ?_
    rintro e W9 ⟨rfl, hb⟩
    have B9 := Lib.hid (B8.out.trans (hb.mono B8.out.size))
    have Z9 := Lib.hid hb.size
    have Fw_9 := Lib.hid (Fw_8.out.on hb)
    clear Fw_8
    have Fx0_9 := Lib.hid (Fx0_8.out.on hb)
    clear Fx0_8
    have Fg_9 := Lib.hid (Fg_8.out.on hb)
    clear Fg_8
    have Fy0_9 := Lib.hid (Fy0_8.out.on hb)
    clear Fy0_8
    have Qx0_9 := Lib.hid (Qx0_8.out.on hb)
    clear Qx0_8
    have Qg_9 := Lib.hid (Qg_8.out.on hb)
    clear Qg_8
    have Xbw_9 := Lib.hid (Xbw_8.out.on hb)
    clear Xbw_8
    have Xbg_9 := Lib.hid (Xbg_8.out.on hb)
    clear Xbg_8
    clear hb
    go_wp2_with fail
    refine (mark_first _ _ _ xs0 _ Fx0_9 (Lib.hid Qx0_9.out) (by omega)).mono ?_
    rintro e W10 ⟨rfl, hm⟩
    have B10 := Lib.hid (below_past B9.out hm Ox0.out (by have := Z1.out; have := Z2.out; have := Z3.out; have := T3.out; omega) B9.out.size)
    have Z10 := Lib.hid (size_past hm)
    have Fw_10 := Lib.hid (ints_past Fw_9.out hm (apart_of Ow.out Ox0.out (by have := Z3.out; have := T3.out; omega)))
    clear Fw_9
    have Fg_10 := Lib.hid (ints_past Fg_9.out hm (apart_of Ox0.out Og.out (by omega)).symm)
    clear Fg_9
    have Qg_10 := Lib.hid (own_past Qg_9.out hm (apart_of Ox0.out Og.out (by omega)).symm)
    clear Qg_9
    have Xbw_10 := Lib.hid (Xbw_9.out.past hm (far_low Ox0.out (by have := Z3.out; have := T3.out; omega)))
    clear Xbw_9
    have Xbg_10 := Lib.hid (Xbg_9.out.past hm (far_high Ox0.out (by have := Z5.out; omega)))
    clear Xbg_9
    have Fx0_10 := Lib.hid hm.2.1
    clear Fx0_9
    clear hm
    have hcbg := Xbg_10.out.cell
    have hcbw := Xbw_10.out.cell
    go_wp2_with fail
    clear hcbg hcbw
    refine (eqFam_same _ _ _ _ out _ Fg_10 Fw_10 (by omega)).mono ?_
    rintro e W11 ⟨rfl, hb⟩
    have B11 := Lib.hid (B10.out.trans (hb.mono B10.out.size))
    have Z11 := Lib.hid hb.size
    have Fw_11 := Lib.hid (Fw_10.out.on hb)
    clear Fw_10
    have Fg_11 := Lib.hid (Fg_10.out.on hb)
    clear Fg_10
    have Qg_11 := Lib.hid (Qg_10.out.on hb)
    clear Qg_10
    have Xbw_11 := Lib.hid (Xbw_10.out.on hb)
    clear Xbw_10
    have Xbg_11 := Lib.hid (Xbg_10.out.on hb)
    clear Xbg_10
    clear hb
    have hcbg := Xbg_11.out.cell
    go_wp2_with fail
    clear hcbg
    refine (markFam_first _ _ _ out _ Fg_11 (Lib.hid Qg_11.out) (by omega)).mono ?_
    rintro e W12 ⟨rfl, hm⟩
    have B12 := Lib.hid (below_past B11.out hm Og.out (by have := Z1.out; have := Z2.out; have := Z3.out; have := Z4.out; have := T3.out; omega) B11.out.size)
    have Z12 := Lib.hid (size_past hm)
    have Fw_12 := Lib.hid (ints_past Fw_11.out hm (apart_of Ow.out Og.out (by have := Z3.out; have := Z4.out; have := T3.out; omega)))
    clear Fw_11
    have Xbw_12 := Lib.hid (Xbw_11.out.past hm (far_low Og.out (by have := Z3.out; have := Z4.out; have := T3.out; omega)))
    clear Xbw_11
    have Xbg_12 := Lib.hid (Xbg_11.out.past hm (far_high Og.out (by omega)))
    clear Xbg_11
    have Fg_12 := Lib.hid hm.2.1
    clear Fg_11
    clear hm
    have hcbg := Xbg_12.out.cell
    go_wp2_with fail
    clear hcbg
    refine (heldFam_first _ _ out.length _ Fg_12 (by omega)).mono ?_
    rintro e W13 ⟨rfl, hb⟩
    have B13 := Lib.hid (B12.out.trans (hb.mono B12.out.size))
    have Z13 := Lib.hid hb.size
    have Fw_13 := Lib.hid (Fw_12.out.on hb)
    clear Fw_12
    have Fg_13 := Lib.hid (Fg_12.out.on hb)
    clear Fg_12
    have Xbw_13 := Lib.hid (Xbw_12.out.on hb)
    clear Xbw_12
    have Xbg_13 := Lib.hid (Xbg_12.out.on hb)
    clear Xbg_12
    clear hb
    go_wp2_with fail
    refine (to_any _ _ xs0 _ (Lib.hid (I0.out.on B13.out)) hn0).mono ?_
    rintro e W14 ⟨rfl, hi, ho, hb⟩
    have B14 := Lib.hid (B13.out.trans (hb.mono B13.out.size))
    have Z14 := Lib.hid hb.size
    have Fw_14 := Lib.hid (Fw_13.out.on hb)
    clear Fw_13
    have Fg_14 := Lib.hid (Fg_13.out.on hb)
    clear Fg_13
    have Xbw_14 := Lib.hid (Xbw_13.out.on hb)
    clear Xbw_13
    have Xbg_14 := Lib.hid (Xbg_13.out.on hb)
    clear Xbg_13
    have Fu0_14 := Lib.hid hi
    have Ou0 := Lib.hid ho
    clear hi ho hb
    go_wp2_with fail
    refine (HI.out _ _ _ Fu0_14).mono ?_
    rintro e W15 ⟨ah, ch, rfl, hi, ho, hcp, hb⟩
    have B15 := Lib.hid (B14.out.trans (hb.mono B14.out.size))
    have Z15 := Lib.hid hb.size
    have Fw_15 := Lib.hid (Fw_14.out.on hb)
    clear Fw_14
    have Fg_15 := Lib.hid (Fg_14.out.on hb)
    clear Fg_14
    have Fu0_15 := Lib.hid (Fu0_14.out.on hb)
    clear Fu0_14
    have Xbw_15 := Lib.hid (Xbw_14.out.on hb)
    clear Xbw_14
    have Xbg_15 := Lib.hid (Xbg_14.out.on hb)
    clear Xbg_14
    have Fh_15 := Lib.hid hi
    have Oh := Lib.hid ho
    clear hi ho hcp hb
    have hb : Below W15.heap.size W15 (W15.alloc (.cells #[.slice ah out.length ch] 44)) := (Below.refl _ _).alloc (Nat.le_refl _) _
    have hx : At1 44 (W15.alloc (.cells #[.slice ah out.length ch] 44)) W15.heap.size (.slice ah out.length ch) := at1_new _ _ _
    have hlt : W15.heap.size < (W15.alloc (.cells #[.slice ah out.length ch] 44)).heap.size := alloc_lt _ _
    have hcbw := (Xbw_15.out.on hb).cell
    have Hb := Lib.hid hb
    have Hx := Lib.hid hx
    have Hlt := Lib.hid hlt
    clear hb hx hlt
    go_wp2_with fail
    clear hcbw
    generalize (W15.alloc (.cells #[.slice ah out.length ch] 44)) = W16 at Hb Hx Hlt ⊢
    have hb := Hb.out
    have B16 := Lib.hid (B15.out.trans (hb.mono B15.out.size))
    have Z16 := Lib.hid hb.size
    have T16 := Hlt
    have Fw_16 := Lib.hid (Fw_15.out.on hb)
    clear Fw_15
    have Fg_16 := Lib.hid (Fg_15.out.on hb)
    clear Fg_15
    have Fh_16 := Lib.hid (Fh_15.out.on hb)
    clear Fh_15
    have Xbw_16 := Lib.hid (Xbw_15.out.on hb)
    clear Xbw_15
    have Xbg_16 := Lib.hid (Xbg_15.out.on hb)
    clear Xbg_15
    have Xbh_16 := Hx
    clear hb Hb
    refine (eqFam_same _ _ _ _ out _ Fh_16 Fw_16 (by omega)).mono ?_
    rintro e W17 ⟨rfl, hb⟩
    have B17 := Lib.hid (B16.out.trans (hb.mono B16.out.size))
    have Z17 := Lib.hid hb.size
    have Fw_17 := Lib.hid (Fw_16.out.on hb)
    clear Fw_16
    have Fg_17 := Lib.hid (Fg_16.out.on hb)
    clear Fg_16
    have Fh_17 := Lib.hid (Fh_16.out.on hb)
    clear Fh_16
    have Xbw_17 := Lib.hid (Xbw_16.out.on hb)
    clear Xbw_16
    have Xbg_17 := Lib.hid (Xbg_16.out.on hb)
    clear Xbg_16
    have Xbh_17 := Lib.hid (Xbh_16.out.on hb)
    clear Xbh_16
    clear hb
    have hcbg := Xbg_17.out.cell
    go_wp2_with fail
    clear hcbg
    refine (heldFam_first _ _ out.length _ Fg_17 (by omega)).mono ?_
    rintro e W18 ⟨rfl, hb⟩
    have B18 := Lib.hid (B17.out.trans (hb.mono B17.out.size))
    have Z18 := Lib.hid hb.size
    have Fw_18 := Lib.hid (Fw_17.out.on hb)
    clear Fw_17
    have Fg_18 := Lib.hid (Fg_17.out.on hb)
    clear Fg_17
    have Fh_18 := Lib.hid (Fh_17.out.on hb)
    clear Fh_17
    have Xbw_18 := Lib.hid (Xbw_17.out.on hb)
    clear Xbw_17
    have Xbg_18 := Lib.hid (Xbg_17.out.on hb)
    clear Xbg_17
    have Xbh_18 := Lib.hid (Xbh_17.out.on hb)
    clear Xbh_17
    clear hb
    go_wp2
    go_ret
    exact ⟨rfl, B18.out⟩

set_option maxRecDepth 100000 in
theorem lifted (os : Os) (started : os.Started) (H : Type) (enc : TypeId × Value → H) :
    ReturnsInHanded {} Try.checked os 12 .any (Rows.fnExactFamilyOfWordSpec.pre6 enc Try.prog Try.f12 Rows.fnExactFamilyOfWordRow.domain false) (Rows.fnExactFamilyOfWordSpec.post enc Try.prog Try.f12 false true false false) := by
  refine returnsInHanded_of_change (C := Try.checked) own started (by kernel_rfl) Try.func12
    (ChangeSpec.witness6 (enc := enc) (C := Try.checked) false ⟨#[], #[.slice none 0 0], []⟩ 8 (by kernel_rfl) (by kernel_rfl) (by kernel_rfl) (by kernel_rfl)) ?_
  intro W base args ds gs before hval0 hW hcnd _
  have hval : ∀ (j : Nat) t v, Try.f12.params[j]? = some t → args[j]? = some v → Value.okWide Try.prog W .any base t v := hval0
  have hW' := hW
  obtain ⟨p, q, hA0, hV, rfl, hfz, hnd⟩ := hW
  have hA : DataW.TrodAll enc Try.prog W 0 (fun _ => true) true Try.f12.params.toList args.toList ds p := hA0
  rw [Try.params12] at hA hval
  obtain ⟨v0, vs0, d0, ds0, p0, q0, hargs, rfl, rfl, h0, r0⟩ := trodAll_cons hA
  obtain ⟨rfl, rfl, rfl⟩ := trodAll_nil r0
  obtain rfl : args = #[v0] := by cases args; simp_all
  obtain ⟨rfl, rfl⟩ := trodVars_none hV
  obtain ⟨a0, len0, cap0, rfl⟩ := okWide_slice Try.underlying22 (hval 0 22 v0 rfl rfl)
  have k0 := h0
  have lt0 : ∀ x ∈ p0, x.block < W.heap.size := by obtain ⟨m, hm⟩ := k0; exact DataW.trod_lt m _ _ _ hm
  obtain ⟨z0, w0⟩ : ∃ zs, IsRow .i64 W a0 len0 cap0 zs := by
    obtain ⟨fuel, hf⟩ := h0
    rcases open_ints Try.underlying22 Try.underlying3 (by kernel_rfl) hf with ⟨hcs, _⟩ | ⟨x, l, c, zs, hcs, _, hl, hm, hz, _, hcell, hwz⟩
    · simp [Value.cells] at hcs
      obtain ⟨rfl, rfl, rfl⟩ := hcs
      exact ⟨[], .inl ⟨rfl, rfl, rfl, rfl⟩⟩
    · simp [Value.cells] at hcs
      obtain ⟨rfl, rfl, rfl⟩ := hcs
      exact ⟨zs, .inr ⟨_, rfl, hl, hm, by simpa using hz, hcell, hwz⟩⟩
  clear hA0 hval0
  refine (walk a0 len0 cap0 z0 W w0).mono fun e W' ⟨he, bel⟩ => ?_
  subst he
  exact ⟨_, rfl, _, _, _, [], _, [], hW', trodAll_mk1 (shut_bool Try.underlying4 _), (trodAll_cons_mk (Below.trod laidOut (by kernel_rfl) (of_decide_eq_true (by kernel_rfl)) k0 bel lt0) trodAll_mk0), rfl, bel.frame _, fun h => by cases h⟩

theorem over : Rows.fnExactFamilyOfWordRow.holds Try.pinned (OpenSpec.ofChange Rows.fnExactFamilyOfWordSpec) :=
  OpenClaim.holds_of_wide 12 Try.f12 rfl rfl rfl rfl rfl rfl rfl ⟨rfl, rfl, rfl, rfl, rfl⟩ rfl rfl rfl rfl rfl (by kernel_rfl) Try.func12 (by kernel_rfl)
    (of_decide_eq_true (by kernel_rfl)) (by unfold Func.isWrapper; first | (rw [if_pos (by decide +kernel)]; kernel_rfl) | (rw [if_neg (by decide +kernel)]; exact ⟨rfl, rfl⟩))
    (fun os started H enc _ => lifted os started H enc)

theorem proved : Rows.FnExactFamilyOfWordSaid := over
end Go.Proofs.Ytkooibimeoojeaa.fnExactFamilyOfWord
