/- Proved: for all arguments, the table of greatest lengths being as the program's text lays it, laws.FnExactCountWith returns true and leaves its arguments as they were. No condition. -/
import Derived.Test.YthamckchfhddjaaDoorDoor7
import Derived.Test.YthamckchfhddjaaDoorWith7C
import Derived.Test.YthamckchfhddjaaDoorLawKit
import Derived.Test.YthamckchfhddjaaDoorFamLaw
namespace Go.Proofs.YthamckchfhddjaaDoor.fnExactCountWith
open Go.ChangeShapes Go.WideShapes Go.ChangeAt Go.RowKit
set_option linter.unusedVariables false

set_option maxRecDepth 20000 in
set_option maxHeartbeats 2000000 in
theorem walk (a0 : Option Addr) (len0 cap0 : Nat) (z0 : List Int) (a1 : Int) (a2 : Int) (w : World) (w0 : Row .i64 w a0 len0 cap0 z0) (w1 : (Lit.int .i64 a1).wf = true) (w2 : (Lit.int .i64 a2).wf = true) (hg : Listed w) :
    Calls Tryd.prog 5 #[.agg #[.slice a0 len0 cap0], .int .i64 a1, .int .i64 a2] w fun e w' => e = .returned (.bool true) ∧ Below w.heap.size w w' := by
  obtain ⟨xs0, rfl, hI0, h640, hl0⟩ := row_ints w0
  clear w0
  have I0 := Lib.hid hI0
  have N0 := Lib.hid h640
  clear hI0 h640
  have hr1 := int_range w1
  obtain ⟨hrl1, hrh1⟩ := hr1
  clear w1
  have hr2 := int_range w2
  obtain ⟨hrl2, hrh2⟩ := hr2
  clear w2
  by_cases h0 : 1048576 < xs0.length
  · skip
    go_enter Tryd.func5, Tryd.ntmps5
    have hb : Below w.heap.size w (w.alloc (.cells #[.slice a0 xs0.length cap0] 32)) := (Below.refl _ _).alloc (Nat.le_refl _) _
    have hx : At1 32 (w.alloc (.cells #[.slice a0 xs0.length cap0] 32)) w.heap.size (.slice a0 xs0.length cap0) := at1_new _ _ _
    have hlt : w.heap.size < (w.alloc (.cells #[.slice a0 xs0.length cap0] 32)).heap.size := alloc_lt _ _
    have Hb := Lib.hid hb
    have Hx := Lib.hid hx
    have Hlt := Lib.hid hlt
    clear hb hx hlt
    go_wp2_with fail
    generalize (w.alloc (.cells #[.slice a0 xs0.length cap0] 32)) = W1 at Hb Hx Hlt ⊢
    have hb := Hb.out
    have B1 := Lib.hid hb
    have Z1 := Lib.hid hb.size
    have T1 := Hlt
    have Xv0_1 := Hx
    clear hb Hb
    refine (sz_big _ _ _ _ h0 (by omega)).mono ?_
    rintro e W2 ⟨rfl, hb⟩
    have B2 := Lib.hid (B1.out.trans (hb.mono B1.out.size))
    have Z2 := Lib.hid hb.size
    clear hb
    go_wp2_with fail
    go_ret
    exact ⟨rfl, B2.out⟩
  · skip
    have hn0 : xs0.length ≤ 1048576 := by omega
    clear h0
    obtain ⟨r0, r1, hsp, him⟩ := bothCountWith xs0 N0 hn0 a1 hrl1 hrh1 a2 hrl2 hrh2
    have HP := Lib.hid hsp
    have HI := Lib.hid him
    clear hsp him
    have G0 := Lib.hid hg
    clear hg
    go_enter Tryd.func5, Tryd.ntmps5
    have hb : Below w.heap.size w (w.alloc (.cells #[.slice a0 xs0.length cap0] 32)) := (Below.refl _ _).alloc (Nat.le_refl _) _
    have hx : At1 32 (w.alloc (.cells #[.slice a0 xs0.length cap0] 32)) w.heap.size (.slice a0 xs0.length cap0) := at1_new _ _ _
    have hlt : w.heap.size < (w.alloc (.cells #[.slice a0 xs0.length cap0] 32)).heap.size := alloc_lt _ _
    have Hb := Lib.hid hb
    have Hx := Lib.hid hx
    have Hlt := Lib.hid hlt
    clear hb hx hlt
    go_wp2_with fail
    generalize (w.alloc (.cells #[.slice a0 xs0.length cap0] 32)) = W1 at Hb Hx Hlt ⊢
    have hb := Hb.out
    have B1 := Lib.hid hb
    have Z1 := Lib.hid hb.size
    have T1 := Hlt
    have Xv0_1 := Hx
    clear hb Hb
    refine (sz_first _ _ _ _ hn0).mono ?_
    rintro e W2 ⟨rfl, hb⟩
    have B2 := Lib.hid (B1.out.trans (hb.mono B1.out.size))
    have Z2 := Lib.hid hb.size
    have Xv0_2 := Lib.hid (Xv0_1.out.on hb)
    clear Xv0_1
    clear hb
    have hs1 : ¬ (1048576 - (xs0.length : Int) < 0) := by omega
    have hcv0 := Xv0_2.out.cell
    go_wp2_with fail
    clear hcv0
    refine (toFam_any _ _ xs0 _ (Lib.hid (I0.out.on B2.out)) hn0).mono ?_
    rintro e W3 ⟨as0, cs0, rfl, hi, ho, hcp, hb⟩
    have B3 := Lib.hid (B2.out.trans (hb.mono B2.out.size))
    have Z3 := Lib.hid hb.size
    have Xv0_3 := Lib.hid (Xv0_2.out.on hb)
    clear Xv0_2
    have Fs0_3 := Lib.hid hi
    have Os0 := Lib.hid ho
    have Ks0 := Lib.hid hcp
    clear hi ho hcp hb
    go_wp2_with fail
    refine (HP.out _ _ _ Fs0_3 (Lib.hid (G0.out.on B3.out))).mono ?_
    rintro e W4 ⟨rfl, hb⟩
    have B4 := Lib.hid (B3.out.trans (hb.mono B3.out.size))
    have Z4 := Lib.hid hb.size
    have Fs0_4 := Lib.hid (Fs0_3.out.on hb)
    clear Fs0_3
    have Xv0_4 := Lib.hid (Xv0_3.out.on hb)
    clear Xv0_3
    clear hb
    have hcv0 := Xv0_4.out.cell
    go_wp2_with fail
    clear hcv0
    refine (toFam_any _ _ xs0 _ (Lib.hid (I0.out.on B4.out)) hn0).mono ?_
    rintro e W5 ⟨ax0, cx0, rfl, hi, ho, hcp, hb⟩
    have B5 := Lib.hid (B4.out.trans (hb.mono B4.out.size))
    have Z5 := Lib.hid hb.size
    have Xv0_5 := Lib.hid (Xv0_4.out.on hb)
    clear Xv0_4
    have Fx0_5 := Lib.hid hi
    have Ox0 := Lib.hid ho
    have Kx0 := Lib.hid hcp
    clear hi ho hcp hb
    have hb : Below W5.heap.size W5 (W5.alloc (.cells #[.slice ax0 xs0.length cx0] 35)) := (Below.refl _ _).alloc (Nat.le_refl _) _
    have hx : At1 35 (W5.alloc (.cells #[.slice ax0 xs0.length cx0] 35)) W5.heap.size (.slice ax0 xs0.length cx0) := at1_new _ _ _
    have hlt : W5.heap.size < (W5.alloc (.cells #[.slice ax0 xs0.length cx0] 35)).heap.size := alloc_lt _ _
    have Hb := Lib.hid hb
    have Hx := Lib.hid hx
    have Hlt := Lib.hid hlt
    clear hb hx hlt
    go_wp2_with fail
    generalize (W5.alloc (.cells #[.slice ax0 xs0.length cx0] 35)) = W6 at Hb Hx Hlt ⊢
    have hb := Hb.out
    have B6 := Lib.hid (B5.out.trans (hb.mono B5.out.size))
    have Z6 := Lib.hid hb.size
    have T6 := Hlt
    have Fx0_6 := Lib.hid (Fx0_5.out.on hb)
    clear Fx0_5
    have Xv0_6 := Lib.hid (Xv0_5.out.on hb)
    clear Xv0_5
    have Xbx0_6 := Hx
    clear hb Hb
    refine (HI.out _ _ _ Fx0_6 (Lib.hid (G0.out.on B6.out))).mono ?_
    rintro e W7 ⟨rfl, hb⟩
    have B7 := Lib.hid (B6.out.trans (hb.mono B6.out.size))
    have Z7 := Lib.hid hb.size
    have Fx0_7 := Lib.hid (Fx0_6.out.on hb)
    clear Fx0_6
    have Xv0_7 := Lib.hid (Xv0_6.out.on hb)
    clear Xv0_6
    have Xbx0_7 := Lib.hid (Xbx0_6.out.on hb)
    clear Xbx0_6
    clear hb
    have HX := Fx0_7
    have HA := (Lib.hid (I0.out.on B7.out))
    have HXV := Xbx0_7
    have HIA := Xv0_7
    go_upto_region 10 with fail
    go_cut [47] from 43 to 47 (fun s wx => s = .bool false ∧ Below W7.heap.size W7 wx)
    case first =>
      have hc1 := HXV.out.cell
      have hc2 := HIA.out.cell
      have hd1 : W7.drew.cell? _ = _ := hc1
      have hd2 : W7.drew.cell? _ = _ := hc2
      have HXd : Hid (Ints W7.drew ax0 xs0) := HX
      have HAd : Hid (Ints W7.drew a0 xs0) := HA
      have HXVd : Hid (At1 35 W7.drew W5.heap.size (.slice ax0 xs0.length cx0)) := HXV
      have HBd : Hid (Below W7.heap.size W7 W7.drew) := Lib.hid (Below.refl _ _).drew
      go_region_law (go_simp; first
        | (go_at_call 18; refine (toFam_any _ _ xs0 _ HAd hn0).mono ?_; rintro e wa ⟨ay, cy, rfl, hi, ho, hcp, hb⟩; have hc3 := (HXVd.out.on hb).cell; have HY := Lib.hid hi; have HX2 := Lib.hid (HXd.out.on hb); have HB1 := Lib.hid (HBd.out.trans (hb.mono HBd.out.size)); clear hi ho hcp hb)
        | (go_at_call 20; refine (eqFam_same _ _ _ _ xs0 _ HX2 HY (by omega)).mono ?_; rintro e wb ⟨rfl, hb⟩; have HB2 := Lib.hid (HB1.out.trans (hb.mono HB1.out.size)); clear hb))
      all_goals
        go_wp2_with fail
        go_meet
        case rel => exact ⟨rfl, HB2.out⟩
    case rest =>
      obtain ⟨rfl, hb⟩ := hcut
      clear HX HA HXV HIA
      generalize wc = W8 at hb ⊢
      have B8 := Lib.hid (B7.out.trans (hb.mono B7.out.size))
      have Z8 := Lib.hid hb.size
      have Fx0_8 := Lib.hid (Fx0_7.out.on hb)
      clear Fx0_7
      have Xv0_8 := Lib.hid (Xv0_7.out.on hb)
      clear Xv0_7
      have Xbx0_8 := Lib.hid (Xbx0_7.out.on hb)
      clear Xbx0_7
      clear hb
      go_wp2
      go_ret
      exact ⟨rfl, B8.out⟩

set_option maxRecDepth 100000 in
theorem contract (H : Type) (enc : TypeId × Value → H) (W : World) (base : Nat) (args : Array Value) (ds gs : List (DataW H)) (before : List MemPlace)
    (hval0 : ∀ (j : Nat) t v, Tryd.f5.params[j]? = some t → args[j]? = some v → Value.okWide Tryd.prog W .any base t v)
    (hW : DataW.Whole enc Tryd.prog Tryd.f5.params.toList Rows.fnExactCountWithSpec.vars false W args.toList ds gs before)
    (hL : laidMetH Tryd.prog Rows.fnExactCountWithRow.laid W) (hsh : W.ShapedOpen Tryd.prog) :
    Calls Tryd.prog 5 args W fun e W' => ∃ v, e = .returned v ∧ Rows.fnExactCountWithSpec.post enc Tryd.prog Tryd.f5 false true false false W args v W' := by
  have hval : ∀ (j : Nat) t v, Tryd.f5.params[j]? = some t → args[j]? = some v → Value.okWide Tryd.prog W .any base t v := hval0
  have hg : Listed W := listed_of hL
  have hW' := hW
  obtain ⟨p, q, hA0, hV0, rfl, hfz, hnd⟩ := hW
  have hV := hV0
  obtain ⟨gi, gt, gcs, gfuel, gd, gp, rfl, -, -, -, -, -⟩ := trodVars_one hV0
  have hA : DataW.TrodAll enc Tryd.prog W 0 (fun _ => true) true Tryd.f5.params.toList args.toList ds p := hA0
  rw [Tryd.params5] at hA hval
  obtain ⟨v0, vs0, d0, ds0, p0, q0, hargs, rfl, rfl, h0, r0⟩ := trodAll_cons hA
  obtain ⟨v1, vs1, d1, ds1, p1, q1, rfl, rfl, rfl, h1, r1⟩ := trodAll_cons r0
  obtain ⟨v2, vs2, d2, ds2, p2, q2, rfl, rfl, rfl, h2, r2⟩ := trodAll_cons r1
  obtain ⟨rfl, rfl, rfl⟩ := trodAll_nil r2
  obtain rfl : args = #[v0, v1, v2] := by cases args; simp_all
  obtain ⟨cs0, rfl, hsz0⟩ := okWide_struct Tryd.underlying32 (hval 0 32 v0 rfl rfl)
  obtain ⟨c0, rfl⟩ := one_of (hsz0.trans (by kernel_rfl))
  have k0 := h0
  have lt0 : ∀ x ∈ p0, x.block < W.heap.size := by obtain ⟨m, hm⟩ := k0; exact DataW.trod_lt m _ _ _ hm
  obtain ⟨a0, len0, cap0, z0, rfl, w0⟩ : ∃ a len cap zs, c0 = .slice a len cap ∧ Row .i64 W a len cap zs := by
    obtain ⟨fuel, hf⟩ := h0
    obtain ⟨y0, n0, -, -, hf1⟩ := trod_struct1 Tryd.underlying32 hf
    rcases open_ints Tryd.underlying30 Tryd.underlying3 (by kernel_rfl) hf1 with ⟨hcs, _⟩ | ⟨x, l, c, zs, hcs, _, hl, hm, hz, _, hcell, hwz⟩
    · have hcs2 : [c0] = [.slice none 0 0] := hcs
      simp only [List.cons.injEq, and_true] at hcs2
      exact ⟨none, 0, 0, [], hcs2, .inl ⟨rfl, rfl, rfl, rfl⟩⟩
    · have hcs2 : [c0] = [.slice (some x) l c] := hcs
      simp only [List.cons.injEq, and_true] at hcs2
      exact ⟨some x, l, c, zs, hcs2, .inr ⟨_, rfl, hl, hm, by simpa using hz, hcell, hwz⟩⟩
  obtain ⟨a1, rfl, rfl, rfl, w1⟩ := open_int Tryd.underlying3 (hval 1 3 v1 rfl rfl) h1
  obtain ⟨a2, rfl, rfl, rfl, w2⟩ := open_int Tryd.underlying3 (hval 2 3 v2 rfl rfl) h2
  clear hA0 hval0
  refine (walk a0 len0 cap0 z0 a1 a2 W w0 w1 w2 hg).mono fun e W' ⟨he, bel⟩ => ?_
  subst he
  exact ⟨_, rfl, _, _, _, _, _, _, hW', trodAll_mk1 (shut_bool Tryd.underlying4 _), (trodAll_cons_mk (Below.trod laidOut (by kernel_rfl) (of_decide_eq_true (by kernel_rfl)) k0 bel lt0) (trodAll_cons_mk (shut_int Tryd.underlying3 w1) (trodAll_cons_mk (shut_int Tryd.underlying3 w2) trodAll_mk0))), Below.trodVars laidOut bel (by kernel_rfl) hV, bel.frame _, fun h => by cases h⟩

theorem reads (os : Os) {H : Type} (enc : TypeId × Value → H) : ∃ places, DataW.whole enc Tryd.prog ((laidWorld os).forCall (fun _ _ => 0) ⟨#[], #[.agg #[.slice none 0 0], .int .i64 0, .int .i64 0], []⟩).memory Tryd.f5.params.toList Rows.fnExactCountWithSpec.vars false #[Value.agg #[Value.slice none 0 0], Value.int .i64 0, Value.int .i64 0].toList 8 = some ([.agg [.nil], .lit (.int .i64 0), .lit (.int .i64 0)], [Rows.laid_loop_example_g01206_impl_longestListed], places) :=
  ⟨MemPlace.row ⟨0, 0, none⟩ 4, by kernel_rfl⟩
theorem met (os : Os) (args : Array Value) : laidMet Tryd.prog Rows.fnExactCountWithRow.laid ((laidWorld os).forCall (fun _ _ => 0) ⟨#[], args, []⟩).memory :=
  laidMet_of_run' 8 (by kernel_rfl) (by kernel_rfl)

set_option maxRecDepth 100000 in
theorem lifted (os : Os) (started : os.Started) (H : Type) (enc : TypeId × Value → H) (F : Stop.Interp) :
    ReturnsInHanded {} Tryd.checked os 5 .any ((OpenSpec.ofChange Rows.fnExactCountWithSpec).preRow enc Tryd.prog Tryd.f5 Rows.fnExactCountWithRow.domain false Rows.fnExactCountWithRow.laid) (((OpenSpec.ofChange Rows.fnExactCountWithSpec).at F).post enc Tryd.prog Tryd.f5 false true false false) := by
  obtain ⟨places, hx⟩ := reads os enc
  refine returnsInHanded_of_row (C := Tryd.checked) (s := OpenSpec.ofChange Rows.fnExactCountWithSpec) own started (by kernel_rfl) Tryd.func5
    (witness_row_at (enc := enc) (C := Tryd.checked) false (laidWorld os) #[.agg #[.slice none 0 0], .int .i64 0, .int .i64 0] rfl (by kernel_rfl) (by kernel_rfl) (by kernel_rfl)
      (OpenSpec.preRow_of_cond 8 hx (by kernel_rfl) (fun k hk => by cases hk) (by kernel_rfl) (met os _))) ?_
  intro W base args ds gs before hval hW _ _ hsz hL hsh _
  exact contract H enc W base args ds gs before hval hW hL hsh

theorem said : Rows.FnExactCountWithSaid :=
  OpenClaim.holds_of_cond 5 Tryd.f5 rfl rfl rfl rfl rfl rfl rfl ⟨rfl, rfl, rfl, rfl, rfl⟩ rfl rfl rfl rfl rfl (by kernel_rfl) Tryd.func5 (by kernel_rfl)
    (of_decide_eq_true (by kernel_rfl)) (by unfold Func.isWrapper; first | (rw [if_pos (by decide +kernel)]; kernel_rfl) | (rw [if_neg (by decide +kernel)]; exact ⟨rfl, rfl⟩))
    (fun os started H enc _ F => by rw [OpenClaim.pre_eq_preRow]; exact lifted os started H enc F)

theorem plain (f : FuncId) (fn : Func) (hf : Tryd.pinned.checked.prog.funcNamed "loop.example/g01206/laws.FnExactCountWith" = some f) (hfn : Tryd.pinned.checked.prog.funcs[f]? = some fn) :
    false = Tryd.pinned.checked.prog.looks [] ∧ ∀ (j : Nat) t, fn.params[j]? = some t → Tryd.pinned.checked.prog.wantsStandIn t = false := by
  obtain rfl : f = 5 := Option.some.inj ((show Tryd.prog.funcNamed "loop.example/g01206/laws.FnExactCountWith" = some 5 by kernel_rfl).symm.trans hf) |>.symm
  obtain rfl : fn = Tryd.f5 := (Option.some.inj (Tryd.func5.symm.trans hfn)).symm
  refine ⟨by kernel_rfl, fun j t ht => ?_⟩
  rw [Tryd.params5] at ht
  have hm : t ∈ [32, 3, 3] := by simpa using Array.mem_of_getElem? ht
  have hall : ([32, 3, 3].all fun u => !Tryd.prog.wantsStandIn u) = true := by kernel_rfl
  exact (show Tryd.prog.wantsStandIn t = false by simpa using List.all_eq_true.1 hall t hm)

theorem card : Rows.FnExactCountWithCardSaid :=
  Claim7.holds_tied_plain_at .later [] _ _ _ _ said (fun _ h => by cases h) (by kernel_rfl) (fun _ h => by cases h) fnExactCountWith_row_tie rfl ⟨rfl, rfl⟩ (by kernel_rfl) rfl plain (by kernel_rfl)
end Go.Proofs.YthamckchfhddjaaDoor.fnExactCountWith
