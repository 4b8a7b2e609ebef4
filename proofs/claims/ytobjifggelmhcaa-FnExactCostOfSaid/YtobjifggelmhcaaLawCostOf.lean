/- Proved: for all arguments, laws.FnExactCostOf returns true and leaves its arguments as they were. No condition. -/
import Derived.Test.YtobjifggelmhcaaRows
import Derived.WalkKit
import Derived.ProofKit
import Derived.OpenShut
import Derived.ShutString
import Derived.Test.YtobjifggelmhcaaBuild6
import Derived.Test.YtobjifggelmhcaaFamLaw
import Derived.ChangeOld
import Derived.Below
namespace Go.Proofs.Ytobjifggelmhcaa.fnExactCostOf
open Go.ChangeShapes Go.WideShapes Go.ChangeAt Go.RowKit
open Go.ChangeMaps (open_string shut_string)
set_option linter.unusedVariables false

theorem own : ownKnob Try.prog.godebug = none := by kernel_rfl
theorem laidOut : laidOutB Try.prog = true := by kernel_rfl

def IsRow (k : IntKind) (w : World) (a : Option Addr) (len cap : Nat) (zs : List Int) : Prop :=
  (a = none ∧ len = 0 ∧ cap = 0 ∧ zs = []) ∨
  ∃ x, a = some x ∧ len ≤ cap ∧ cap ≤ maxLen ∧ zs.length = cap ∧ (∀ i, i < zs.length → w.cell? (x.add i) = some (.int k (zs.getD i 0))) ∧ ∀ n ∈ zs, (Lit.int k n).wf = true

set_option maxRecDepth 20000 in
set_option maxHeartbeats 2000000 in
theorem walk (a0 : Option Addr) (len0 cap0 : Nat) (z0 : List Int) (w : World) (w0 : IsRow .i64 w a0 len0 cap0 z0) :
    Calls Try.prog 7 #[.agg #[.slice a0 len0 cap0]] w fun e w' => e = .returned (.bool true) ∧ Below w.heap.size w w' := by
  obtain ⟨xs0, rfl, hI0, h640, hl0⟩ := row_ints w0
  clear w0
  have I0 := Lib.hid hI0
  have N0 := Lib.hid h640
  clear hI0 h640
  by_cases h0 : 1048576 < xs0.length
  · skip
    go_enter Try.func7, Try.ntmps7
    have hb : Below w.heap.size w (w.alloc (.cells #[.slice a0 xs0.length cap0] 32)) := (Below.refl _ _).alloc (Nat.le_refl _) _
    have hx : At1 32 (w.alloc (.cells #[.slice a0 xs0.length cap0] 32)) w.heap.size (.slice a0 xs0.length cap0) := at1_new _ _ _
    have hlt : w.heap.size < (w.alloc (.cells #[.slice a0 xs0.length cap0] 32)).heap.size := alloc_lt _ _
    have Hb := Lib.hid hb
    have Hx := Lib.hid hx
    have Hlt := Lib.hid hlt
    clear hb hx hlt
    go_wp2_with fail
    generalize (w.alloc (.cells #[.slice a0 xs0.length cap0] 32)) = W1 at Hb Hx Hlt ⊢
    have hb := Hb.out
    have B1 := Lib.hid hb
    have Z1 := Lib.hid hb.size
    have T1 := Hlt
    have Xv0_1 := Hx
    clear hb Hb
    refine (sz_big _ _ _ _ h0 (by omega)).mono ?_
    rintro e W2 ⟨rfl, hb⟩
    have B2 := Lib.hid (B1.out.trans (hb.mono B1.out.size))
    have Z2 := Lib.hid hb.size
    clear hb
    go_wp2_with fail
    go_ret
    exact ⟨rfl, B2.out⟩
  · skip
    have hn0 : xs0.length ≤ 1048576 := by omega
    clear h0
    obtain ⟨r0, r1, hsp, him⟩ := bothCostOf xs0 N0 hn0
    have HP := Lib.hid hsp
    have HI := Lib.hid him
    clear hsp him
    go_enter Try.func7, Try.ntmps7
    have hb : Below w.heap.size w (w.alloc (.cells #[.slice a0 xs0.length cap0] 32)) := (Below.refl _ _).alloc (Nat.le_refl _) _
    have hx : At1 32 (w.alloc (.cells #[.slice a0 xs0.length cap0] 32)) w.heap.size (.slice a0 xs0.length cap0) := at1_new _ _ _
    have hlt : w.heap.size < (w.alloc (.cells #[.slice a0 xs0.length cap0] 32)).heap.size := alloc_lt _ _
    have Hb := Lib.hid hb
    have Hx := Lib.hid hx
    have Hlt := Lib.hid hlt
    clear hb hx hlt
    go_wp2_with fail
    generalize (w.alloc (.cells #[.slice a0 xs0.length cap0] 32)) = W1 at Hb Hx Hlt ⊢
    have hb := Hb.out
    have B1 := Lib.hid hb
    have Z1 := Lib.hid hb.size
    have T1 := Hlt
    have Xv0_1 := Hx
    clear hb Hb
    refine (sz_first _ _ _ _ hn0).mono ?_
    rintro e W2 ⟨rfl, hb⟩
    have B2 := Lib.hid (B1.out.trans (hb.mono B1.out.size))
    have Z2 := Lib.hid hb.size
    have Xv0_2 := Lib.hid (Xv0_1.out.on hb)
    clear Xv0_1
    clear hb
    have hs1 : ¬ (1048576 - (xs0.length : Int) < 0) := by omega
    have hcv0 := Xv0_2.out.cell
    go_wp2_with fail
    clear hcv0
    refine (toFam_any _ _ xs0 _ (Lib.hid (I0.out.on B2.out)) hn0).mono ?_
    rintro e W3 ⟨as0, cs0, rfl, hi, ho, hcp, hb⟩
    have B3 := Lib.hid (B2.out.trans (hb.mono B2.out.size))
    have Z3 := Lib.hid hb.size
    have Xv0_3 := Lib.hid (Xv0_2.out.on hb)
    clear Xv0_2
    have Fs0_3 := Lib.hid hi
    have Os0 := Lib.hid ho
    have Ks0 := Lib.hid hcp
    clear hi ho hcp hb
    go_wp2_with fail
    refine (HP.out _ _ _ Fs0_3 Ks0).mono ?_
    rintro e W4 ⟨rfl, hb⟩
    have B4 := Lib.hid (B3.out.trans (hb.mono B3.out.size))
    have Z4 := Lib.hid hb.size
    have Fs0_4 := Lib.hid (Fs0_3.out.on hb)
    clear Fs0_3
    have Xv0_4 := Lib.hid (Xv0_3.out.on hb)
    clear Xv0_3
    clear hb
    have hcv0 := Xv0_4.out.cell
    go_wp2_with fail
    clear hcv0
    refine (toFam_any _ _ xs0 _ (Lib.hid (I0.out.on B4.out)) hn0).mono ?_
    rintro e W5 ⟨ax0, cx0, rfl, hi, ho, hcp, hb⟩
    have B5 := Lib.hid (B4.out.trans (hb.mono B4.out.size))
    have Z5 := Lib.hid hb.size
    have Xv0_5 := Lib.hid (Xv0_4.out.on hb)
    clear Xv0_4
    have Fx0_5 := Lib.hid hi
    have Ox0 := Lib.hid ho
    have Kx0 := Lib.hid hcp
    clear hi ho hcp hb
    have hb : Below W5.heap.size W5 (W5.alloc (.cells #[.slice ax0 xs0.length cx0] 35)) := (Below.refl _ _).alloc (Nat.le_refl _) _
    have hx : At1 35 (W5.alloc (.cells #[.slice ax0 xs0.length cx0] 35)) W5.heap.size (.slice ax0 xs0.length cx0) := at1_new _ _ _
    have hlt : W5.heap.size < (W5.alloc (.cells #[.slice ax0 xs0.length cx0] 35)).heap.size := alloc_lt _ _
    have Hb := Lib.hid hb
    have Hx := Lib.hid hx
    have Hlt := Lib.hid hlt
    clear hb hx hlt
    go_wp2_with fail
    generalize (W5.alloc (.cells #[.slice ax0 xs0.length cx0] 35)) = W6 at Hb Hx Hlt ⊢
    have hb := Hb.out
    have B6 := Lib.hid (B5.out.trans (hb.mono B5.out.size))
    have Z6 := Lib.hid hb.size
    have T6 := Hlt
    have Fx0_6 := Lib.hid (Fx0_5.out.on hb)
    clear Fx0_5
    have Xv0_6 := Lib.hid (Xv0_5.out.on hb)
    clear Xv0_5
    have Xbx0_6 := Hx
    clear hb Hb
    refine (HI.out _ _ _ Fx0_6 Kx0).mono ?_
    rintro e W7 ⟨rfl, hb⟩
    have B7 := Lib.hid (B6.out.trans (hb.mono B6.out.size))
    have Z7 := Lib.hid hb.size
    have Fx0_7 := Lib.hid (Fx0_6.out.on hb)
    clear Fx0_6
    have Xv0_7 := Lib.hid (Xv0_6.out.on hb)
    clear Xv0_6
    have Xbx0_7 := Lib.hid (Xbx0_6.out.on hb)
    clear Xbx0_6
    clear hb
    have HX := Fx0_7
    have HA := (Lib.hid (I0.out.on B7.out))
    have HXV := Xbx0_7
    have HIA := Xv0_7
    go_upto_region 10 with fail
    go_cut [39] from 35 to 39 (fun s wx => s = .bool false ∧ Below W7.heap.size W7 wx)
    case first =>
      have hc1 := HXV.out.cell
      have hc2 := HIA.out.cell
      have hd1 : W7.drew.cell? _ = _ := hc1
      have hd2 : W7.drew.cell? _ = _ := hc2
      have HXd : Hid (Ints W7.drew ax0 xs0) := HX
      have HAd : Hid (Ints W7.drew a0 xs0) := HA
      have HXVd : Hid (At1 35 W7.drew W5.heap.size (.slice ax0 xs0.length cx0)) := HXV
      have HBd : Hid (Below W7.heap.size W7 W7.drew) := Lib.hid (Below.refl _ _).drew
      go_region_law (go_simp; first
        | (go_at_call 20; refine (toFam_any _ _ xs0 _ HAd hn0).mono ?_; rintro e wa ⟨ay, cy, rfl, hi, ho, hcp, hb⟩; have hc3 := (HXVd.out.on hb).cell; have HY := Lib.hid hi; have HX2 := Lib.hid (HXd.out.on hb); have HB1 := Lib.hid (HBd.out.trans (hb.mono HBd.out.size)); clear hi ho hcp hb)
        | (go_at_call 22; refine (eqFam_same _ _ _ _ xs0 _ HX2 HY (by omega)).mono ?_; rintro e wb ⟨rfl, hb⟩; have HB2 := Lib.hid (HB1.out.trans (hb.mono HB1.out.size)); clear hb))
      all_goals
        go_wp2_with fail
        go_meet
        case rel => exact ⟨rfl, HB2.out⟩
    case rest =>
      obtain ⟨rfl, hb⟩ := hcut
      clear HX HA HXV HIA
      generalize wc = W8 at hb ⊢
      have B8 := Lib.hid (B7.out.trans (hb.mono B7.out.size))
      have Z8 := Lib.hid hb.size
      have Fx0_8 := Lib.hid (Fx0_7.out.on hb)
      clear Fx0_7
      have Xv0_8 := Lib.hid (Xv0_7.out.on hb)
      clear Xv0_7
      have Xbx0_8 := Lib.hid (Xbx0_7.out.on hb)
      clear Xbx0_7
      clear hb
      go_wp2
      go_ret
      exact ⟨rfl, B8.out⟩

set_option maxRecDepth 100000 in
theorem lifted (os : Os) (started : os.Started) (H : Type) (enc : TypeId × Value → H) :
    ReturnsInHanded {} Try.checked os 7 .any (Rows.fnExactCostOfSpec.pre6 enc Try.prog Try.f7 Rows.fnExactCostOfRow.domain false) (Rows.fnExactCostOfSpec.post enc Try.prog Try.f7 false true false false) := by
  refine returnsInHanded_of_change (C := Try.checked) own started (by kernel_rfl) Try.func7
    (ChangeSpec.witness6 (enc := enc) (C := Try.checked) false ⟨#[], #[.agg #[.slice none 0 0]], []⟩ 8 (by kernel_rfl) (by kernel_rfl) (by kernel_rfl) (by kernel_rfl)) ?_
  intro W base args ds gs before hval0 hW hcnd _
  have hval : ∀ (j : Nat) t v, Try.f7.params[j]? = some t → args[j]? = some v → Value.okWide Try.prog W .any base t v := hval0
  have hW' := hW
  obtain ⟨p, q, hA0, hV, rfl, hfz, hnd⟩ := hW
  have hA : DataW.TrodAll enc Try.prog W 0 (fun _ => true) true Try.f7.params.toList args.toList ds p := hA0
  rw [Try.params7] at hA hval
  obtain ⟨v0, vs0, d0, ds0, p0, q0, hargs, rfl, rfl, h0, r0⟩ := trodAll_cons hA
  obtain ⟨rfl, rfl, rfl⟩ := trodAll_nil r0
  obtain rfl : args = #[v0] := by cases args; simp_all
  obtain ⟨rfl, rfl⟩ := trodVars_none hV
  have k0 := h0
  have lt0 : ∀ x ∈ p0, x.block < W.heap.size := by obtain ⟨m, hm⟩ := k0; exact DataW.trod_lt m _ _ _ hm
  obtain ⟨cs0, rfl, hsz0⟩ := okWide_struct Try.underlying32 (hval 0 32 v0 rfl rfl)
  obtain ⟨c0, rfl⟩ := one_of (hsz0.trans (by kernel_rfl))
  obtain ⟨a0, len0, cap0, z0, rfl, w0⟩ : ∃ a len cap zs, c0 = .slice a len cap ∧ IsRow .i64 W a len cap zs := by
    obtain ⟨fuel, hf⟩ := h0
    obtain ⟨y0, n0, -, -, hf1⟩ := trod_struct1 Try.underlying32 hf
    rcases open_ints Try.underlying22 Try.underlying3 (by kernel_rfl) hf1 with ⟨hcs, _⟩ | ⟨x, l, c, zs, hcs, _, hl, hm, hz, _, hcell, hwz⟩
    · have hcs2 : [c0] = [.slice none 0 0] := hcs
      simp only [List.cons.injEq, and_true] at hcs2
      exact ⟨none, 0, 0, [], hcs2, .inl ⟨rfl, rfl, rfl, rfl⟩⟩
    · have hcs2 : [c0] = [.slice (some x) l c] := hcs
      simp only [List.cons.injEq, and_true] at hcs2
      exact ⟨some x, l, c, zs, hcs2, .inr ⟨_, rfl, hl, hm, by simpa using hz, hcell, hwz⟩⟩
  clear hA0 hval0
  refine (walk a0 len0 cap0 z0 W w0).mono fun e W' ⟨he, bel⟩ => ?_
  subst he
  exact ⟨_, rfl, _, _, _, [], _, [], hW', trodAll_mk1 (shut_bool Try.underlying4 _), (trodAll_cons_mk (Below.trod laidOut (by kernel_rfl) (of_decide_eq_true (by kernel_rfl)) k0 bel lt0) trodAll_mk0), rfl, bel.frame _, fun h => by cases h⟩

theorem over : Rows.fnExactCostOfRow.holds Try.pinned (OpenSpec.ofChange Rows.fnExactCostOfSpec) :=
  OpenClaim.holds_of_wide 7 Try.f7 rfl rfl rfl rfl rfl rfl rfl ⟨rfl, rfl, rfl, rfl, rfl⟩ rfl rfl rfl rfl rfl (by kernel_rfl) Try.func7 (by kernel_rfl)
    (of_decide_eq_true (by kernel_rfl)) (by unfold Func.isWrapper; first | (rw [if_pos (by decide +kernel)]; kernel_rfl) | (rw [if_neg (by decide +kernel)]; exact ⟨rfl, rfl⟩))
    (fun os started H enc _ => lifted os started H enc)

theorem proved : Rows.FnExactCostOfSaid := over
end Go.Proofs.Ytobjifggelmhcaa.fnExactCostOf
