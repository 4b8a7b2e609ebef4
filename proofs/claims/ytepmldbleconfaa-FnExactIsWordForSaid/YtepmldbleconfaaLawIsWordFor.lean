/- Proved: for all arguments, laws.FnExactIsWordFor returns true and leaves its arguments as they were. No condition. -/
import Derived.Test.YtepmldbleconfaaRows
import Derived.WalkKit
import Derived.ProofKit
import Derived.OpenShut
import Derived.ShutString
import Derived.Test.YtepmldbleconfaaFor
import Derived.Test.YtepmldbleconfaaFamLaw
import Derived.ChangeOld
import Derived.Below
namespace Go.Proofs.Ytepmldbleconfaa.fnExactIsWordFor
open Go.ChangeShapes Go.WideShapes Go.ChangeAt Go.RowKit
open Go.ChangeMaps (open_string shut_string)
set_option linter.unusedVariables false

theorem own : ownKnob Try.prog.godebug = none := by kernel_rfl
theorem laidOut : laidOutB Try.prog = true := by kernel_rfl

def IsRow (k : IntKind) (w : World) (a : Option Addr) (len cap : Nat) (zs : List Int) : Prop :=
  (a = none ∧ len = 0 ∧ cap = 0 ∧ zs = []) ∨
  ∃ x, a = some x ∧ len ≤ cap ∧ cap ≤ maxLen ∧ zs.length = cap ∧ (∀ i, i < zs.length → w.cell? (x.add i) = some (.int k (zs.getD i 0))) ∧ ∀ n ∈ zs, (Lit.int k n).wf = true

set_option maxRecDepth 20000 in
set_option maxHeartbeats 2000000 in
theorem walk (a0 : Option Addr) (len0 cap0 : Nat) (z0 : List Int) (a1 : Option Addr) (len1 cap1 : Nat) (z1 : List Int) (w : World) (w0 : IsRow .i64 w a0 len0 cap0 z0) (w1 : IsRow .i64 w a1 len1 cap1 z1) :
    Calls Try.prog 3 #[.slice a0 len0 cap0, .agg #[.slice a1 len1 cap1]] w fun e w' => e = .returned (.bool true) ∧ Below w.heap.size w w' := by
  obtain ⟨xs0, rfl, hI0, h640, hl0⟩ := row_ints w0
  clear w0
  have I0 := Lib.hid hI0
  have N0 := Lib.hid h640
  clear hI0 h640
  obtain ⟨xs1, rfl, hI1, h641, hl1⟩ := row_ints w1
  clear w1
  have I1 := Lib.hid hI1
  have N1 := Lib.hid h641
  clear hI1 h641
  by_cases h0 : 1048576 < xs0.length
  · go_enter Try.func3, Try.ntmps3
    go_wp2_with fail
    go_ret
    exact ⟨rfl, (Below.refl _ _).alloc (Nat.le_refl _) _⟩
  · skip
    have hn0 : xs0.length ≤ 1048576 := by omega
    clear h0
    by_cases h1 : 1048576 < xs1.length
    · skip
      go_enter Try.func3, Try.ntmps3
      have hb : Below w.heap.size w (w.alloc (.cells #[.slice a1 xs1.length cap1] 24)) := (Below.refl _ _).alloc (Nat.le_refl _) _
      have hx : At1 24 (w.alloc (.cells #[.slice a1 xs1.length cap1] 24)) w.heap.size (.slice a1 xs1.length cap1) := at1_new _ _ _
      have hlt : w.heap.size < (w.alloc (.cells #[.slice a1 xs1.length cap1] 24)).heap.size := alloc_lt _ _
      have Hb := Lib.hid hb
      have Hx := Lib.hid hx
      have Hlt := Lib.hid hlt
      clear hb hx hlt
      go_wp2_with fail
      generalize (w.alloc (.cells #[.slice a1 xs1.length cap1] 24)) = W1 at Hb Hx Hlt ⊢
      have hb := Hb.out
      have B1 := Lib.hid hb
      have Z1 := Lib.hid hb.size
      have T1 := Hlt
      have Xv1_1 := Hx
      clear hb Hb
      refine (sz_big _ _ _ _ h1 (by omega)).mono ?_
      rintro e W2 ⟨rfl, hb⟩
      have B2 := Lib.hid (B1.out.trans (hb.mono B1.out.size))
      have Z2 := Lib.hid hb.size
      clear hb
      go_wp2_with fail
      go_ret
      exact ⟨rfl, B2.out⟩
    · skip
      have hn1 : xs1.length ≤ 1048576 := by omega
      clear h1
      obtain ⟨r0, r1, hsp, him⟩ := bothIsWordFor xs0 N0 hn0 xs1 N1 hn1
      have HP := Lib.hid hsp
      have HI := Lib.hid him
      clear hsp him
      go_enter Try.func3, Try.ntmps3
      have hb : Below w.heap.size w (w.alloc (.cells #[.slice a1 xs1.length cap1] 24)) := (Below.refl _ _).alloc (Nat.le_refl _) _
      have hx : At1 24 (w.alloc (.cells #[.slice a1 xs1.length cap1] 24)) w.heap.size (.slice a1 xs1.length cap1) := at1_new _ _ _
      have hlt : w.heap.size < (w.alloc (.cells #[.slice a1 xs1.length cap1] 24)).heap.size := alloc_lt _ _
      have Hb := Lib.hid hb
      have Hx := Lib.hid hx
      have Hlt := Lib.hid hlt
      clear hb hx hlt
      go_wp2_with fail
      generalize (w.alloc (.cells #[.slice a1 xs1.length cap1] 24)) = W1 at Hb Hx Hlt ⊢
      have hb := Hb.out
      have B1 := Lib.hid hb
      have Z1 := Lib.hid hb.size
      have T1 := Hlt
      have Xv1_1 := Hx
      clear hb Hb
      refine (sz_first _ _ _ _ hn1).mono ?_
      rintro e W2 ⟨rfl, hb⟩
      have B2 := Lib.hid (B1.out.trans (hb.mono B1.out.size))
      have Z2 := Lib.hid hb.size
      have Xv1_2 := Lib.hid (Xv1_1.out.on hb)
      clear Xv1_1
      clear hb
      have hs1 : ¬ (1048576 - (xs1.length : Int) < 0) := by omega
      have HA0 := (Lib.hid (I0.out.on B2.out))
      have HA1 := (Lib.hid (I1.out.on B2.out))
      have HV1 := Xv1_2
      go_upto_region 7 with fail
      go_cut [6, 7] from 6 to 27 (fun s6 s7 wx => s6 = .bool r0 ∧ s7 = .bool r1 ∧ Below W2.heap.size W2 wx)
      case first =>
        have hc1 := HV1.out.cell
        have hd1 : W2.drew.cell? _ = _ := hc1
        have HA0d : Hid (Ints W2.drew a0 xs0) := HA0
        have HA1d : Hid (Ints W2.drew a1 xs1) := HA1
        have HV1d : Hid (At1 24 W2.drew w.heap.size (.slice a1 xs1.length cap1)) := HV1
        have HBd : Hid (Below W2.heap.size W2 W2.drew) := Lib.hid (Below.refl _ _).drew
        go_region_law (go_simp; first
          | (go_at_call 16; refine (to_any _ _ xs0 _ HA0d hn0).mono ?_; rintro e wa ⟨rfl, hi, ho, hb⟩; have HX0a := Lib.hid hi; have HBa := Lib.hid (HBd.out.trans (hb.mono HBd.out.size)); have HA1a := Lib.hid (HA1d.out.on hb); have hca1 := (HV1d.out.on hb).cell; clear hi ho hb)
          | (go_at_call 17; refine (toFam_any _ _ xs1 _ HA1d hn1).mono ?_; rintro e wa ⟨ay1, cy1, rfl, hi, ho, hcp, hb⟩; have HX1a := Lib.hid hi; have HBa := Lib.hid (HBd.out.trans (hb.mono HBd.out.size)); have HA0a := Lib.hid (HA0d.out.on hb); have hca1 := (HV1d.out.on hb).cell; clear hi ho hcp hb)
          | (go_at_call 16; refine (to_any _ _ xs0 _ HA0a hn0).mono ?_; rintro e wb ⟨rfl, hi, ho, hb⟩; have HX0b := Lib.hid hi; have HX1b := Lib.hid (HX1a.out.on hb); have HBb := Lib.hid (HBa.out.trans (hb.mono HBa.out.size)); clear hi ho hb)
          | (go_at_call 17; refine (toFam_any _ _ xs1 _ HA1a hn1).mono ?_; rintro e wb ⟨ay1, cy1, rfl, hi, ho, hcp, hb⟩; have HX1b := Lib.hid hi; have HX0b := Lib.hid (HX0a.out.on hb); have HBb := Lib.hid (HBa.out.trans (hb.mono HBa.out.size)); clear hi ho hcp hb)
          | (go_at_call 15; refine (HP.out _ _ _ _ _ HX0b HX1b).mono ?_; rintro e wc ⟨rfl, hb⟩; have HBc := Lib.hid (HBb.out.trans (hb.mono HBb.out.size)); clear hb))
        all_goals
          go_wp2_with fail
          go_meet
          case rel => exact ⟨rfl, rfl, HBc.out⟩
      case rest =>
        obtain ⟨rfl, rfl, hb⟩ := hcut
        clear HA0 HA1 HV1
        generalize wc = W3 at hb ⊢
        have B3 := Lib.hid (B2.out.trans (hb.mono B2.out.size))
        have Z3 := Lib.hid hb.size
        have Xv1_3 := Lib.hid (Xv1_2.out.on hb)
        clear Xv1_2
        clear hb
        go_wp2_with fail
        refine (to_any _ _ xs0 _ (Lib.hid (I0.out.on B3.out)) hn0).mono ?_
        rintro e W4 ⟨rfl, hi, ho, hb⟩
        have B4 := Lib.hid (B3.out.trans (hb.mono B3.out.size))
        have Z4 := Lib.hid hb.size
        have Xv1_4 := Lib.hid (Xv1_3.out.on hb)
        clear Xv1_3
        have Fx0_4 := Lib.hid hi
        have Ox0 := Lib.hid ho
        clear hi ho hb
        have hcv1 := Xv1_4.out.cell
        go_wp2_with fail
        clear hcv1
        refine (toFam_any _ _ xs1 _ (Lib.hid (I1.out.on B4.out)) hn1).mono ?_
        rintro e W5 ⟨ax1, cx1, rfl, hi, ho, hcp, hb⟩
        have B5 := Lib.hid (B4.out.trans (hb.mono B4.out.size))
        have Z5 := Lib.hid hb.size
        have Fx0_5 := Lib.hid (Fx0_4.out.on hb)
        clear Fx0_4
        have Xv1_5 := Lib.hid (Xv1_4.out.on hb)
        clear Xv1_4
        have Fx1_5 := Lib.hid hi
        have Ox1 := Lib.hid ho
        clear hi ho hcp hb
        have hb : Below W5.heap.size W5 (W5.alloc (.cells #[.slice ax1 xs1.length cx1] 29)) := (Below.refl _ _).alloc (Nat.le_refl _) _
        have hx : At1 29 (W5.alloc (.cells #[.slice ax1 xs1.length cx1] 29)) W5.heap.size (.slice ax1 xs1.length cx1) := at1_new _ _ _
        have hlt : W5.heap.size < (W5.alloc (.cells #[.slice ax1 xs1.length cx1] 29)).heap.size := alloc_lt _ _
        have Hb := Lib.hid hb
        have Hx := Lib.hid hx
        have Hlt := Lib.hid hlt
        clear hb hx hlt
        go_wp2_with fail
        generalize (W5.alloc (.cells #[.slice ax1 xs1.length cx1] 29)) = W6 at Hb Hx Hlt ⊢
        have hb := Hb.out
        have B6 := Lib.hid (B5.out.trans (hb.mono B5.out.size))
        have Z6 := Lib.hid hb.size
        have T6 := Hlt
        have Fx0_6 := Lib.hid (Fx0_5.out.on hb)
        clear Fx0_5
        have Fx1_6 := Lib.hid (Fx1_5.out.on hb)
        clear Fx1_5
        have Xv1_6 := Lib.hid (Xv1_5.out.on hb)
        clear Xv1_5
        have Xbx1_6 := Hx
        clear hb Hb
        refine (HI.out _ _ _ _ _ Fx0_6 Fx1_6).mono ?_
        rintro e W7 ⟨rfl, hb⟩
        have B7 := Lib.hid (B6.out.trans (hb.mono B6.out.size))
        have Z7 := Lib.hid hb.size
        have Fx0_7 := Lib.hid (Fx0_6.out.on hb)
        clear Fx0_6
        have Fx1_7 := Lib.hid (Fx1_6.out.on hb)
        clear Fx1_6
        have Xv1_7 := Lib.hid (Xv1_6.out.on hb)
        clear Xv1_6
        have Xbx1_7 := Lib.hid (Xbx1_6.out.on hb)
        clear Xbx1_6
        clear hb
        go_wp2_with fail
        refine (to_any _ _ xs0 _ (Lib.hid (I0.out.on B7.out)) hn0).mono ?_
        rintro e W8 ⟨rfl, hi, ho, hb⟩
        have B8 := Lib.hid (B7.out.trans (hb.mono B7.out.size))
        have Z8 := Lib.hid hb.size
        have Fx0_8 := Lib.hid (Fx0_7.out.on hb)
        clear Fx0_7
        have Fx1_8 := Lib.hid (Fx1_7.out.on hb)
        clear Fx1_7
        have Xv1_8 := Lib.hid (Xv1_7.out.on hb)
        clear Xv1_7
        have Xbx1_8 := Lib.hid (Xbx1_7.out.on hb)
        clear Xbx1_7
        have Fy0_8 := Lib.hid hi
        have Oy0 := Lib.hid ho
        clear hi ho hb
        go_wp2_with fail
        refine (eq_same _ _ _ _ xs0 _ Fx0_8 Fy0_8 (by omega)).mono ?_
        rintro e W9 ⟨rfl, hb⟩
        have B9 := Lib.hid (B8.out.trans (hb.mono B8.out.size))
        have Z9 := Lib.hid hb.size
        have Fx0_9 := Lib.hid (Fx0_8.out.on hb)
        clear Fx0_8
        have Fx1_9 := Lib.hid (Fx1_8.out.on hb)
        clear Fx1_8
        have Fy0_9 := Lib.hid (Fy0_8.out.on hb)
        clear Fy0_8
        have Xv1_9 := Lib.hid (Xv1_8.out.on hb)
        clear Xv1_8
        have Xbx1_9 := Lib.hid (Xbx1_8.out.on hb)
        clear Xbx1_8
        clear hb
        have HX := Fx1_9
        have HA := (Lib.hid (I1.out.on B9.out))
        have HXV := Xbx1_9
        have HIA := Xv1_9
        go_upto_region 15 with fail
        go_cut [55] from 51 to 55 (fun s wx => s = .bool false ∧ Below W9.heap.size W9 wx)
        case first =>
          have hc1 := HXV.out.cell
          have hc2 := HIA.out.cell
          have hd1 : W9.drew.cell? _ = _ := hc1
          have hd2 : W9.drew.cell? _ = _ := hc2
          have HXd : Hid (Ints W9.drew ax1 xs1) := HX
          have HAd : Hid (Ints W9.drew a1 xs1) := HA
          have HXVd : Hid (At1 29 W9.drew W5.heap.size (.slice ax1 xs1.length cx1)) := HXV
          have HBd : Hid (Below W9.heap.size W9 W9.drew) := Lib.hid (Below.refl _ _).drew
          go_region_law (go_simp; first
            | (go_at_call 17; refine (toFam_any _ _ xs1 _ HAd hn1).mono ?_; rintro e wa ⟨ay, cy, rfl, hi, ho, hcp, hb⟩; have hc3 := (HXVd.out.on hb).cell; have HY := Lib.hid hi; have HX2 := Lib.hid (HXd.out.on hb); have HB1 := Lib.hid (HBd.out.trans (hb.mono HBd.out.size)); clear hi ho hcp hb)
            | (go_at_call 20; refine (eqFam_same _ _ _ _ xs1 _ HX2 HY (by omega)).mono ?_; rintro e wb ⟨rfl, hb⟩; have HB2 := Lib.hid (HB1.out.trans (hb.mono HB1.out.size)); clear hb))
          all_goals
            go_wp2_with fail
            go_meet
            case rel => exact ⟨rfl, HB2.out⟩
        case rest =>
          obtain ⟨rfl, hb⟩ := hcut
          clear HX HA HXV HIA
          generalize wc = W10 at hb ⊢
          have B10 := Lib.hid (B9.out.trans (hb.mono B9.out.size))
          have Z10 := Lib.hid hb.size
          have Fx0_10 := Lib.hid (Fx0_9.out.on hb)
          clear Fx0_9
          have Fx1_10 := Lib.hid (Fx1_9.out.on hb)
          clear Fx1_9
          have Xv1_10 := Lib.hid (Xv1_9.out.on hb)
          clear Xv1_9
          have Xbx1_10 := Lib.hid (Xbx1_9.out.on hb)
          clear Xbx1_9
          clear hb
          go_wp2
          go_ret
          exact ⟨rfl, B10.out⟩

set_option maxRecDepth 100000 in
theorem lifted (os : Os) (started : os.Started) (H : Type) (enc : TypeId × Value → H) :
    ReturnsInHanded {} Try.checked os 3 .any (Rows.fnExactIsWordForSpec.pre6 enc Try.prog Try.f3 Rows.fnExactIsWordForRow.domain false) (Rows.fnExactIsWordForSpec.post enc Try.prog Try.f3 false true false false) := by
  refine returnsInHanded_of_change (C := Try.checked) own started (by kernel_rfl) Try.func3
    (ChangeSpec.witness6 (enc := enc) (C := Try.checked) false ⟨#[], #[.slice none 0 0, .agg #[.slice none 0 0]], []⟩ 8 (by kernel_rfl) (by kernel_rfl) (by kernel_rfl) (by kernel_rfl)) ?_
  intro W base args ds gs before hval0 hW hcnd _
  have hval : ∀ (j : Nat) t v, Try.f3.params[j]? = some t → args[j]? = some v → Value.okWide Try.prog W .any base t v := hval0
  have hW' := hW
  obtain ⟨p, q, hA0, hV, rfl, hfz, hnd⟩ := hW
  have hA : DataW.TrodAll enc Try.prog W 0 (fun _ => true) true Try.f3.params.toList args.toList ds p := hA0
  rw [Try.params3] at hA hval
  obtain ⟨v0, vs0, d0, ds0, p0, q0, hargs, rfl, rfl, h0, r0⟩ := trodAll_cons hA
  obtain ⟨v1, vs1, d1, ds1, p1, q1, rfl, rfl, rfl, h1, r1⟩ := trodAll_cons r0
  obtain ⟨rfl, rfl, rfl⟩ := trodAll_nil r1
  obtain rfl : args = #[v0, v1] := by cases args; simp_all
  obtain ⟨rfl, rfl⟩ := trodVars_none hV
  obtain ⟨a0, len0, cap0, rfl⟩ := okWide_slice Try.underlying22 (hval 0 22 v0 rfl rfl)
  have k0 := h0
  have lt0 : ∀ x ∈ p0, x.block < W.heap.size := by obtain ⟨m, hm⟩ := k0; exact DataW.trod_lt m _ _ _ hm
  obtain ⟨z0, w0⟩ : ∃ zs, IsRow .i64 W a0 len0 cap0 zs := by
    obtain ⟨fuel, hf⟩ := h0
    rcases open_ints Try.underlying22 Try.underlying3 (by kernel_rfl) hf with ⟨hcs, _⟩ | ⟨x, l, c, zs, hcs, _, hl, hm, hz, _, hcell, hwz⟩
    · simp [Value.cells] at hcs
      obtain ⟨rfl, rfl, rfl⟩ := hcs
      exact ⟨[], .inl ⟨rfl, rfl, rfl, rfl⟩⟩
    · simp [Value.cells] at hcs
      obtain ⟨rfl, rfl, rfl⟩ := hcs
      exact ⟨zs, .inr ⟨_, rfl, hl, hm, by simpa using hz, hcell, hwz⟩⟩
  have k1 := h1
  have lt1 : ∀ x ∈ p1, x.block < W.heap.size := by obtain ⟨m, hm⟩ := k1; exact DataW.trod_lt m _ _ _ hm
  obtain ⟨cs1, rfl, hsz1⟩ := okWide_struct Try.underlying24 (hval 1 24 v1 rfl rfl)
  obtain ⟨c1, rfl⟩ := one_of (hsz1.trans (by kernel_rfl))
  obtain ⟨a1, len1, cap1, z1, rfl, w1⟩ : ∃ a len cap zs, c1 = .slice a len cap ∧ IsRow .i64 W a len cap zs := by
    obtain ⟨fuel, hf⟩ := h1
    obtain ⟨y0, n0, -, -, hf1⟩ := trod_struct1 Try.underlying24 hf
    rcases open_ints Try.underlying22 Try.underlying3 (by kernel_rfl) hf1 with ⟨hcs, _⟩ | ⟨x, l, c, zs, hcs, _, hl, hm, hz, _, hcell, hwz⟩
    · have hcs2 : [c1] = [.slice none 0 0] := hcs
      simp only [List.cons.injEq, and_true] at hcs2
      exact ⟨none, 0, 0, [], hcs2, .inl ⟨rfl, rfl, rfl, rfl⟩⟩
    · have hcs2 : [c1] = [.slice (some x) l c] := hcs
      simp only [List.cons.injEq, and_true] at hcs2
      exact ⟨some x, l, c, zs, hcs2, .inr ⟨_, rfl, hl, hm, by simpa using hz, hcell, hwz⟩⟩
  clear hA0 hval0
  refine (walk a0 len0 cap0 z0 a1 len1 cap1 z1 W w0 w1).mono fun e W' ⟨he, bel⟩ => ?_
  subst he
  exact ⟨_, rfl, _, _, _, [], _, [], hW', trodAll_mk1 (shut_bool Try.underlying4 _), (trodAll_cons_mk (Below.trod laidOut (by kernel_rfl) (of_decide_eq_true (by kernel_rfl)) k0 bel lt0) (trodAll_cons_mk (Below.trod laidOut (by kernel_rfl) (of_decide_eq_true (by kernel_rfl)) k1 bel lt1) trodAll_mk0)), rfl, bel.frame _, fun h => by cases h⟩

theorem over : Rows.fnExactIsWordForRow.holds Try.pinned (OpenSpec.ofChange Rows.fnExactIsWordForSpec) :=
  OpenClaim.holds_of_wide 3 Try.f3 rfl rfl rfl rfl rfl rfl rfl ⟨rfl, rfl, rfl, rfl, rfl⟩ rfl rfl rfl rfl rfl (by kernel_rfl) Try.func3 (by kernel_rfl)
    (of_decide_eq_true (by kernel_rfl)) (by unfold Func.isWrapper; first | (rw [if_pos (by decide +kernel)]; kernel_rfl) | (rw [if_neg (by decide +kernel)]; exact ⟨rfl, rfl⟩))
    (fun os started H enc _ => lifted os started H enc)

theorem proved : Rows.FnExactIsWordForSaid := over
end Go.Proofs.Ytepmldbleconfaa.fnExactIsWordFor
