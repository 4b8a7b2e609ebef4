/- The walk of laws.FnWords: it returns true and leaves its argument as it was. Condition: the code's bytes lie in memory. -/
import Derived.Test.YteidddagpnfalaaWordsMath
import Derived.Test.YteidddagpnfalaaRKit
import Derived.Test.YteidddagpnfalaaDrawWs
import Derived.Test.YteidddagpnfalaaDrawPow
import Derived.Test.YteidddagpnfalaaDrawLess
import Derived.Test.YteidddagpnfalaaDrawParse
import Derived.Test.YteidddagpnfalaaJoinWWalks
import Derived.Test.YteidddagpnfalaaPowWWalks
import Derived.Test.YteidddagpnfalaaWordWalks
import Derived.Test.YteidddagpnfalaaFormWalks
import Derived.Test.YteidddagpnfalaaSeven
import Derived.Test.YteidddagpnfalaaWordsFacts
import Derived.Deep.DeepCutAuto
import Derived.LoopTactic
namespace Go.Proofs.Yteidddagpnfalaa
open Go.ChangeShapes Go.WideShapes Go.ChangeAt Go.RowKit
set_option linter.unusedVariables false

/-- The code's bytes, what has been kept, and the lists so far. -/
def St (w0 w : World) (a0 : Option Addr) (len0 : Nat) (ls : List (Option Addr × List Int)) : Prop := Code8 w a0 len0 ∧ Below w0.heap.size w0 w ∧ ∀ p ∈ ls, Ints w p.1 p.2
theorem St.on {w0 w w' : World} {a0 : Option Addr} {len0 : Nat} {ls : List (Option Addr × List Int)} (h : St w0 w a0 len0 ls) (hb : Below w.heap.size w w') : St w0 w' a0 len0 ls :=
  ⟨h.1.on hb, h.2.1.trans (hb.mono h.2.1.size), fun p hp => (h.2.2 p hp).on hb⟩
theorem St.add {w0 w : World} {a0 a : Option Addr} {len0 : Nat} {xs : List Int} {ls : List (Option Addr × List Int)} (h : St w0 w a0 len0 ls) (hi : Ints w a xs) : St w0 w a0 len0 ((a, xs) :: ls) :=
  ⟨h.1, h.2.1, fun p hp => by
    rcases List.mem_cons.1 hp with rfl | hp
    · exact hi
    · exact h.2.2 p hp⟩
theorem St.get {w0 w : World} {a0 a : Option Addr} {len0 : Nat} {xs : List Int} {ls : List (Option Addr × List Int)} (h : Hid (St w0 w a0 len0 ls)) (hp : (a, xs) ∈ ls) : Hid (Ints w a xs) := Lib.hid (h.out.2.2 _ hp)
theorem eqr {w w' : World} {e : Ending} {xs : List Int} (h : EqPost (decide (xs = xs)) w e w') : e = .returned (.bool true) ∧ Below w.heap.size w w' := by
  obtain ⟨rfl, hb⟩ := h.on
  exact ⟨by simp, hb⟩

set_option maxRecDepth 100000 in
set_option maxHeartbeats 20000000 in
theorem fnWords_walk (a0 : Option Addr) (len0 cap0 : Nat) (w : World) (C0 : Hid (Code8 w a0 len0)) (hlen : len0 ≤ 9223372036854775807) :
    Calls Try.prog 4 #[.slice a0 len0 cap0] w fun e w' => e = .returned (.bool true) ∧ Below w.heap.size w w' := by
  obtain ⟨i0, hi0, hz0, hz1, hz2⟩ := info_parts infoInt
  by_cases hbig : 65536 < len0
  · go_enter Try.func4, Try.ntmps4
    go_wp2_with fail
    refine (rBig_any a0 len0 cap0 _ hlen).mono ?_
    rintro e w' ⟨rfl, rfl⟩
    rw [decide_eq_true hbig]
    go_wp2_with fail
    go_ret
    exact ⟨rfl, Below.refl _ _⟩
  · have S0 : Hid (St w w a0 len0 []) := Lib.hid ⟨C0.out, Below.refl _ _, fun p hp => by simp at hp⟩
    go_enter Try.func4, Try.ntmps4
    go_wp2_with fail
    refine (rBig_any a0 len0 cap0 _ hlen).mono ?_
    rintro e w' ⟨rfl, rfl⟩
    rw [decide_eq_false hbig]
    go_wp2_with fail
    refine (drawJoinW_any a0 len0 cap0 _ (Lib.hid S0.out.1)).mono ?_
    rintro e w1 ⟨v1, v2, us, vs, rfl, h1, hul, h2, hvl, hr1, hr2, hb⟩
    obtain ⟨ua, uc, rfl, hi1, -, hc1⟩ := hr1
    obtain ⟨va, vc, rfl, hi2, -, hc2⟩ := hr2
    have S1 := Lib.hid (((S0.out.on hb).add hi1).add hi2)
    have u64 := Lib.hid h1
    have uC := Lib.hid hc1
    have v64 := Lib.hid h2
    have vC := Lib.hid hc2
    clear h1 h2 hi1 hi2 hc1 hc2 hb S0
    obtain ⟨jo, hjo⟩ : ∃ z, z = prodOut us vs (us ++ vs) := ⟨_, rfl⟩
    have Hjo := Lib.hid hjo
    clear hjo
    obtain ⟨jb, hjb⟩ : ∃ z, z = prodOk us vs (us ++ vs) := ⟨_, rfl⟩
    have Hjb := Lib.hid hjb
    clear hjb
    have hjl : jo.length ≤ 1048576 := by rw [Hjo.out]; exact prod_le _ _ _
    go_wp2_with fail
    refine (implJoinW_any ua va uc vc us vs _ (St.get S1 (by simp)) uC u64 (St.get S1 (by simp)) vC v64 (by omega) (by omega)).mono ?_
    rw [← Hjo.out, ← Hjb.out]
    rintro e w2 ⟨v1, rfl, hr1, hb⟩
    obtain ⟨ja, jc, rfl, hi1, -, hc1⟩ := hr1
    have S2 := Lib.hid ((S1.out.on hb).add hi1)
    clear hi1 hc1 hb S1
    go_wp2_with fail
    refine (specJoin_any ua va uc vc us vs _ (St.get S2 (by simp)) uC u64 (St.get S2 (by simp)) vC v64 (by omega) (by omega)).mono ?_
    rw [← Hjo.out, ← Hjb.out]
    rintro e w3 ⟨v1, rfl, hr1, hb⟩
    obtain ⟨ka, kc, rfl, hi1, -, hc1⟩ := hr1
    have S3 := Lib.hid ((S2.out.on hb).add hi1)
    clear hi1 hc1 hb S2
    go_wp2_with fail
    refine (rInts_any ja ka jc kc jo jo _ (St.get S3 (by simp)) (St.get S3 (by simp)) (by omega)).mono ?_
    intro e w4 he
    obtain ⟨rfl, hb⟩ := eqr he
    have S4 := Lib.hid (S3.out.on hb)
    clear he hb S3
    go_wp2_with fail
    refine (drawReduce_any a0 len0 cap0 _ (Lib.hid S4.out.1)).mono ?_
    rintro e w5 ⟨v1, ws, rfl, h1, hwl, hr1, hb⟩
    obtain ⟨wa, wc, rfl, hi1, -, hc1⟩ := hr1
    have S5 := Lib.hid ((S4.out.on hb).add hi1)
    have w64 := Lib.hid h1
    have wC := Lib.hid hc1
    clear h1 hi1 hc1 hb S4
    obtain ⟨one, hone⟩ : ∃ z, z = Plain.wordB ws := ⟨_, rfl⟩
    have Hone := Lib.hid hone
    clear hone
    obtain ⟨ro, hro⟩ : ∃ z, z = ifWord ws (Plain.red ws) := ⟨_, rfl⟩
    have Hro := Lib.hid hro
    clear hro
    have hrl : ro.length ≤ 100 := by rw [Hro.out]; exact ifWord_le (Nat.le_trans (Plain.red_length ws) hwl)
    go_wp2_with fail
    refine (implReduce_any wa wc ws _ (St.get S5 (by simp)) w64 (by omega)).mono ?_
    rw [← Hro.out, ← Hone.out]
    rintro e w6 ⟨v1, rfl, hr1, hb⟩
    obtain ⟨ra, rc, rfl, hi1, -, hc1⟩ := hr1
    have S6 := Lib.hid ((S5.out.on hb).add hi1)
    have rC := Lib.hid hc1
    clear hi1 hc1 hb S5
    go_wp2_with fail
    refine (specReduce_any wa wc ws _ (St.get S6 (by simp)) w64 (by omega)).mono ?_
    rw [← Hro.out, ← Hone.out]
    rintro e w7 ⟨v1, rfl, hr1, hb⟩
    obtain ⟨sa, sc, rfl, hi1, -, hc1⟩ := hr1
    have S7 := Lib.hid ((S6.out.on hb).add hi1)
    clear hi1 hc1 hb S6
    go_wp2_with fail
    refine (isWord_any wa wc ws _ (St.get S7 (by simp)) w64 (by omega)).mono ?_
    rw [← Hone.out]
    rintro e w' ⟨rfl, rfl⟩
    go_wp2_with fail
    refine (rInts_any ra sa rc sc ro ro _ (St.get S7 (by simp)) (St.get S7 (by simp)) (by omega)).mono ?_
    intro e w8 he
    obtain ⟨rfl, hb⟩ := eqr he
    have S8 := Lib.hid (S7.out.on hb)
    clear he hb S7
    obtain ⟨io, hio⟩ : ∃ z, z = ifWord ws (Plain.inv ws) := ⟨_, rfl⟩
    have Hio := Lib.hid hio
    clear hio
    have hil : io.length ≤ 100 := by rw [Hio.out]; exact ifWord_le (by simpa [Plain.inv] using hwl)
    go_wp2_with fail
    refine (implInverse_any wa wc ws _ (St.get S8 (by simp)) w64 (by omega)).mono ?_
    rw [← Hio.out, ← Hone.out]
    rintro e w9 ⟨v1, rfl, hr1, hb⟩
    obtain ⟨ia, ic, rfl, hi1, -, hc1⟩ := hr1
    have S9 := Lib.hid ((S8.out.on hb).add hi1)
    have iC := Lib.hid hc1
    clear hi1 hc1 hb S8
    go_wp2_with fail
    refine (specInverse_any wa wc ws _ (St.get S9 (by simp)) w64 (by omega)).mono ?_
    rw [← Hio.out, ← Hone.out]
    rintro e w10 ⟨v1, rfl, hr1, hb⟩
    obtain ⟨ga, gc, rfl, hi1, -, hc1⟩ := hr1
    have S10 := Lib.hid ((S9.out.on hb).add hi1)
    clear hi1 hc1 hb S9
    go_wp2_with fail
    refine (rInts_any ia ga ic gc io io _ (St.get S10 (by simp)) (St.get S10 (by simp)) (by omega)).mono ?_
    intro e w11 he
    obtain ⟨rfl, hb⟩ := eqr he
    have S11 := Lib.hid (S10.out.on hb)
    clear he hb S10
    go_wp2_with fail
    refine (drawIsReduced_any a0 len0 cap0 _ (Lib.hid S11.out.1)).mono ?_
    rintro e w12 ⟨v1, xs, rfl, h1, hxl, hr1, hb⟩
    obtain ⟨xa, xc, rfl, hi1, -, hc1⟩ := hr1
    have S12 := Lib.hid ((S11.out.on hb).add hi1)
    have x64 := Lib.hid h1
    have xC := Lib.hid hc1
    clear h1 hi1 hc1 hb S11
    obtain ⟨xr, hxr⟩ : ∃ z, z = isRedB xs := ⟨_, rfl⟩
    have Hxr := Lib.hid hxr
    clear hxr
    obtain ⟨xb, hxb⟩ : ∃ z, z = Plain.wordB xs := ⟨_, rfl⟩
    have Hxb := Lib.hid hxb
    clear hxb
    go_wp2_with fail
    refine (implIsReduced_any xa xc xs _ (St.get S12 (by simp)) x64 (by omega)).mono ?_
    rw [← Hxr.out, ← Hxb.out]
    rintro e w13 ⟨rfl, hb⟩
    have S13 := Lib.hid (S12.out.on hb)
    clear hb S12
    go_wp2_with fail
    refine (specIsReduced_any xa xc xs _ (St.get S13 (by simp)) x64 (by omega)).mono ?_
    rw [← Hxr.out, ← Hxb.out]
    rintro e w14 ⟨rfl, hb⟩
    have S14 := Lib.hid (S13.out.on hb)
    clear hb S13
    go_wp2_with fail
    refine (drawPower_any a0 len0 cap0 _ (Lib.hid S14.out.1)).mono ?_
    rintro e w15 ⟨v1, ps, pn, rfl, h1, hpl, hn0, hn1, hr1, hb⟩
    obtain ⟨pa, pc, rfl, hi1, -, hc1⟩ := hr1
    have S15 := Lib.hid ((S14.out.on hb).add hi1)
    have p64 := Lib.hid h1
    have pC := Lib.hid hc1
    clear h1 hi1 hc1 hb S14
    obtain ⟨po, hpo⟩ : ∃ z, z = powOut ps pn := ⟨_, rfl⟩
    have Hpo := Lib.hid hpo
    clear hpo
    obtain ⟨pb, hpb⟩ : ∃ z, z = powOk ps pn := ⟨_, rfl⟩
    have Hpb := Lib.hid hpb
    clear hpb
    have hpol : po.length ≤ 1048576 := by rw [Hpo.out]; exact pow_le _ _
    go_wp2_with fail
    refine (implPow_any pa pc ps pn _ (St.get S15 (by simp)) pC p64 (by omega) (by omega)).mono ?_
    rw [← Hpo.out, ← Hpb.out]
    rintro e w16 ⟨v1, rfl, hr1, hb⟩
    obtain ⟨ma, mc, rfl, hi1, -, hc1⟩ := hr1
    have S16 := Lib.hid ((S15.out.on hb).add hi1)
    clear hi1 hc1 hb S15
    go_wp2_with fail
    refine (specPow_any pa pc ps pn _ (St.get S16 (by simp)) pC p64 (by omega) (by omega)).mono ?_
    rw [← Hpo.out, ← Hpb.out]
    rintro e w17 ⟨v1, rfl, hr1, hb⟩
    obtain ⟨na, nc, rfl, hi1, -, hc1⟩ := hr1
    have S17 := Lib.hid ((S16.out.on hb).add hi1)
    clear hi1 hc1 hb S16
    go_wp2_with fail
    refine (rInts_any ma na mc nc po po _ (St.get S17 (by simp)) (St.get S17 (by simp)) (by omega)).mono ?_
    intro e w18 he
    obtain ⟨rfl, hb⟩ := eqr he
    have S18 := Lib.hid (S17.out.on hb)
    clear he hb S17
    obtain ⟨tx, htx⟩ : ∃ z, z = wordText ws := ⟨_, rfl⟩
    have Htx := Lib.hid htx
    clear htx
    go_wp2_with fail
    refine (implText_any wa wc ws _ (St.get S18 (by simp)) w64 (by omega)).mono ?_
    rw [← Htx.out, ← Hone.out]
    rintro e w19 ⟨rfl, hb⟩
    have S19 := Lib.hid (S18.out.on hb)
    clear hb S18
    go_wp2_with fail
    refine (specText_any wa wc ws _ (St.get S19 (by simp)) w64 (by omega)).mono ?_
    rw [← Htx.out, ← Hone.out]
    rintro e w20 ⟨rfl, hb⟩
    have S20 := Lib.hid (S19.out.on hb)
    clear hb S19
    go_wp2_with fail
    refine (drawParse_any a0 len0 cap0 _ (Lib.hid S20.out.1)).mono ?_
    rintro e w21 ⟨sp, rfl, hspl, hb⟩
    have S21 := Lib.hid (S20.out.on hb)
    clear hb S20
    obtain ⟨qo, hqo⟩ : ∃ z, z = parseOut sp := ⟨_, rfl⟩
    have Hqo := Lib.hid hqo
    clear hqo
    obtain ⟨qb, hqb⟩ : ∃ z, z = parseB sp := ⟨_, rfl⟩
    have Hqb := Lib.hid hqb
    clear hqb
    have hqol : qo.length ≤ 3000 := by rw [Hqo.out]; exact Nat.le_trans (parseOut_le _) hspl
    go_wp2_with fail
    refine (implParseW_any sp _ (by omega)).mono ?_
    rw [← Hqo.out, ← Hqb.out]
    rintro e w22 ⟨v1, rfl, hr1, hb⟩
    obtain ⟨ya, yc, rfl, hi1, -, hc1⟩ := hr1
    have S22 := Lib.hid ((S21.out.on hb).add hi1)
    clear hi1 hc1 hb S21
    go_wp2_with fail
    refine (specParseW_any sp _ (by omega)).mono ?_
    rw [← Hqo.out, ← Hqb.out]
    rintro e w23 ⟨v1, rfl, hr1, hb⟩
    obtain ⟨za, zc, rfl, hi1, -, hc1⟩ := hr1
    have S23 := Lib.hid ((S22.out.on hb).add hi1)
    clear hi1 hc1 hb S22
    go_wp2_with fail
    refine (rInts_any ya za yc zc qo qo _ (St.get S23 (by simp)) (St.get S23 (by simp)) (by omega)).mono ?_
    intro e w24 he
    obtain ⟨rfl, hb⟩ := eqr he
    have S24 := Lib.hid (S23.out.on hb)
    clear he hb S23
    go_wp2_with fail
    refine (drawLess_any a0 len0 cap0 _ (Lib.hid S24.out.1)).mono ?_
    rintro e w25 ⟨v1, v2, ds, fs, rfl, h1, hdl, h2, hfl, hr1, hr2, hb⟩
    obtain ⟨da, dc, rfl, hi1, -, hc1⟩ := hr1
    obtain ⟨fa, fc, rfl, hi2, -, hc2⟩ := hr2
    have S25 := Lib.hid (((S24.out.on hb).add hi1).add hi2)
    have d64 := Lib.hid h1
    have dC := Lib.hid hc1
    have f64 := Lib.hid h2
    have fC := Lib.hid hc2
    clear h1 h2 hi1 hi2 hc1 hc2 hb S24
    obtain ⟨ls, hls⟩ : ∃ z, z = lessWB ds fs := ⟨_, rfl⟩
    have Hls := Lib.hid hls
    clear hls
    obtain ⟨lb, hlb⟩ : ∃ z, z = pairB ds fs := ⟨_, rfl⟩
    have Hlb := Lib.hid hlb
    clear hlb
    go_wp2_with fail
    refine (implLessW_any da fa dc fc ds fs _ (St.get S25 (by simp)) d64 (St.get S25 (by simp)) f64 (by omega) (by omega)).mono ?_
    rw [← Hls.out, ← Hlb.out]
    rintro e w26 ⟨rfl, hb⟩
    have S26 := Lib.hid (S25.out.on hb)
    clear hb S25
    go_wp2_with fail
    refine (specLessW_any da fa dc fc ds fs _ (St.get S26 (by simp)) d64 (St.get S26 (by simp)) f64 (by omega) (by omega)).mono ?_
    rw [← Hls.out, ← Hlb.out]
    rintro e w27 ⟨rfl, hb⟩
    have S27 := Lib.hid (S26.out.on hb)
    clear hb S26
    obtain ⟨no, hno⟩ : ∃ z, z = nailsOut ws := ⟨_, rfl⟩
    have Hno := Lib.hid hno
    clear hno
    go_wp2_with fail
    refine (implNails_any wa wc ws _ (St.get S27 (by simp)) w64 (by omega)).mono ?_
    rw [← Hno.out, ← Hone.out]
    rintro e w28 ⟨rfl, hb⟩
    have S28 := Lib.hid (S27.out.on hb)
    clear hb S27
    go_wp2_with fail
    refine (specNails_any wa wc ws _ (St.get S28 (by simp)) w64 (by omega)).mono ?_
    rw [← Hno.out, ← Hone.out]
    rintro e w29 ⟨rfl, hb⟩
    have S29 := Lib.hid (S28.out.on hb)
    clear hb S28
    obtain ⟨r0, hr0⟩ : ∃ z, z = ((cntOf ws 0 : Nat) : Int) := ⟨_, rfl⟩
    have Hr0 := Lib.hid hr0
    clear hr0
    obtain ⟨r1, hr1⟩ : ∃ z, z = ((cntOf ws 1 : Nat) : Int) := ⟨_, rfl⟩
    have Hr1 := Lib.hid hr1
    clear hr1
    obtain ⟨r2, hr2⟩ : ∃ z, z = ((cntOf ws 2 : Nat) : Int) := ⟨_, rfl⟩
    have Hr2 := Lib.hid hr2
    clear hr2
    obtain ⟨r3, hr3⟩ : ∃ z, z = ((cntOf ws 3 : Nat) : Int) := ⟨_, rfl⟩
    have Hr3 := Lib.hid hr3
    clear hr3
    obtain ⟨r4, hr4⟩ : ∃ z, z = ((cntOf ws 4 : Nat) : Int) := ⟨_, rfl⟩
    have Hr4 := Lib.hid hr4
    clear hr4
    obtain ⟨r5, hr5⟩ : ∃ z, z = ((cntOf ws 5 : Nat) : Int) := ⟨_, rfl⟩
    have Hr5 := Lib.hid hr5
    clear hr5
    obtain ⟨r6, hr6⟩ : ∃ z, z = ((cntOf ws 6 : Nat) : Int) := ⟨_, rfl⟩
    have Hr6 := Lib.hid hr6
    clear hr6
    have Hcc : Hid (cells7 (cntOf ws) = #[.int .i64 r0, .int .i64 r1, .int .i64 r2, .int .i64 r3, .int .i64 r4, .int .i64 r5, .int .i64 r6]) := Lib.hid (by rw [Hr0.out, Hr1.out, Hr2.out, Hr3.out, Hr4.out, Hr5.out, Hr6.out]; rfl)
    go_wp2_with fail
    refine (implCnt_any wa wc ws _ (St.get S29 (by simp)) w64 (by omega)).mono ?_
    intro e w30 hcp
    unfold CntPost at hcp
    rw [Hcc.out, ← Hone.out] at hcp
    obtain ⟨rfl, hb⟩ := hcp
    have S30 := Lib.hid (S29.out.on hb)
    clear hb S29
    have hb : Below w30.heap.size w30 (w30.alloc (.cells #[.int .i64 r0, .int .i64 r1, .int .i64 r2, .int .i64 r3, .int .i64 r4, .int .i64 r5, .int .i64 r6] 56)) := (Below.refl _ _).alloc (Nat.le_refl _) _
    have ha : ArrV (w30.alloc (.cells #[.int .i64 r0, .int .i64 r1, .int .i64 r2, .int .i64 r3, .int .i64 r4, .int .i64 r5, .int .i64 r6] 56)) w30.heap.size r0 r1 r2 r3 r4 r5 r6 := arrV_new _ _ _ _ _ _ _ _
    have S30y := Lib.hid (S30.out.on hb)
    clear S30
    have A1 := Lib.hid ha
    clear ha hb
    go_wp2_with fail
    generalize (w30.alloc (.cells #[.int .i64 r0, .int .i64 r1, .int .i64 r2, .int .i64 r3, .int .i64 r4, .int .i64 r5, .int .i64 r6] 56)) = w31 at S30y A1 ⊢
    have S31 := S30y
    clear S30y
    refine (specCnt_any wa wc ws _ (St.get S31 (by simp)) w64 (by omega)).mono ?_
    intro e w32 hcp
    unfold CntPost at hcp
    rw [Hcc.out, ← Hone.out] at hcp
    obtain ⟨rfl, hb⟩ := hcp
    have S32 := Lib.hid (S31.out.on hb)
    have A1x := Lib.hid (A1.out.on hb)
    clear hb A1 S31
    have hb : Below w32.heap.size w32 (w32.alloc (.cells #[.int .i64 r0, .int .i64 r1, .int .i64 r2, .int .i64 r3, .int .i64 r4, .int .i64 r5, .int .i64 r6] 56)) := (Below.refl _ _).alloc (Nat.le_refl _) _
    have ha : ArrV (w32.alloc (.cells #[.int .i64 r0, .int .i64 r1, .int .i64 r2, .int .i64 r3, .int .i64 r4, .int .i64 r5, .int .i64 r6] 56)) w32.heap.size r0 r1 r2 r3 r4 r5 r6 := arrV_new _ _ _ _ _ _ _ _
    have hw := A1x.out.on hb
    obtain ⟨q0, q1, q2, q3, q4, q5, q6⟩ := hw.cells
    obtain ⟨g0, g1, g2, g3, g4, g5, g6⟩ := ha.cells
    have S32y := Lib.hid (S32.out.on hb)
    have A1 := Lib.hid hw
    have A2 := Lib.hid ha
    clear hw ha hb A1x S32
    have b0 := Lib.hid (cnt_in ws 0 hwl)
    rw [← Hr0.out] at b0
    have b1 := Lib.hid (cnt_in ws 1 hwl)
    rw [← Hr1.out] at b1
    have b2 := Lib.hid (cnt_in ws 2 hwl)
    rw [← Hr2.out] at b2
    have b3 := Lib.hid (cnt_in ws 3 hwl)
    rw [← Hr3.out] at b3
    have b4 := Lib.hid (cnt_in ws 4 hwl)
    rw [← Hr4.out] at b4
    have b5 := Lib.hid (cnt_in ws 5 hwl)
    rw [← Hr5.out] at b5
    have b6 := Lib.hid (cnt_in ws 6 hwl)
    rw [← Hr6.out] at b6
    have hrun := run_seven (w32.alloc (.cells #[.int .i64 r0, .int .i64 r1, .int .i64 r2, .int .i64 r3, .int .i64 r4, .int .i64 r5, .int .i64 r6] 56)) b0.out b1.out b2.out b3.out b4.out b5.out b6.out
    have SA := S32y
    clear S32y
    skip
    go_upto_if 302 with fail
    go_cut [] from 302 to 326 (fun wx => Below (w32.alloc (.cells #[.int .i64 r0, .int .i64 r1, .int .i64 r2, .int .i64 r3, .int .i64 r4, .int .i64 r5, .int .i64 r6] 56)).heap.size (w32.alloc (.cells #[.int .i64 r0, .int .i64 r1, .int .i64 r2, .int .i64 r3, .int .i64 r4, .int .i64 r5, .int .i64 r6] 56)) wx)
    case first =>
      cases lb with
      | false =>
        go_wp2_with fail
        go_meet
        case rel => exact Below.refl _ _
      | true =>
        obtain ⟨hl1, hl2, hl3⟩ := less_facts Hlb.out.symm
        rw [← Hls.out] at hl1
        obtain ⟨bh, hbh⟩ : ∃ z, z = Plain.lessB fs ds := ⟨_, rfl⟩
        have has : ls = true → bh = false := by rw [hl1, hbh]; exact Plain.less_asym
        have heq : Hid (decide (ds = fs) = !(ls || bh)) := Lib.hid (by rw [hl1, hbh]; exact Plain.less_eq ds fs)
        have ID := St.get SA (a := da) (xs := ds) (by simp)
        have IF := St.get SA (a := fa) (xs := fs) (by simp)
        clear SA A1 A2 q0 q1 q2 q3 q4 q5 q6 g0 g1 g2 g3 g4 g5 g6 hrun Hcc
        go_wp2_with fail
        refine (implLessW_any fa da fc dc fs ds _ IF f64 ID d64 (by omega) (by omega)).mono ?_
        rw [hl2, hl3, ← hbh]
        rintro e w50 ⟨rfl, hb⟩
        have B50 := Lib.hid hb
        have ID1 := Lib.hid (ID.out.on hb)
        have IF1 := Lib.hid (IF.out.on hb)
        clear hb hl1 hl2 hl3 hbh ID IF
        rcases Bool.eq_false_or_eq_true ls with e1 | e1 <;> rcases Bool.eq_false_or_eq_true bh with e2 | e2
        · subst e1
          subst e2
          exact absurd (has rfl) (by simp)
        · subst e1
          subst e2
          clear has
          go_wp2_with fail
          refine (rInts_any da fa dc fc ds fs _ ID1 IF1 (by omega)).mono ?_
          rw [heq.out]
          intro e w51 he
          obtain ⟨rfl, hb⟩ := he.on
          have B51 := Lib.hid (B50.out.trans (hb.mono B50.out.size))
          clear he hb B50 ID1 IF1
          go_wp2_with fail
          go_meet
          case rel => exact B51.out
        · subst e1
          subst e2
          clear has
          go_wp2_with fail
          refine (rInts_any da fa dc fc ds fs _ ID1 IF1 (by omega)).mono ?_
          rw [heq.out]
          intro e w51 he
          obtain ⟨rfl, hb⟩ := he.on
          have B51 := Lib.hid (B50.out.trans (hb.mono B50.out.size))
          clear he hb B50 ID1 IF1
          go_wp2_with fail
          go_meet
          case rel => exact B51.out
        · subst e1
          subst e2
          clear has
          go_wp2_with fail
          refine (rInts_any da fa dc fc ds fs _ ID1 IF1 (by omega)).mono ?_
          rw [heq.out]
          intro e w51 he
          obtain ⟨rfl, hb⟩ := he.on
          have B51 := Lib.hid (B50.out.trans (hb.mono B50.out.size))
          clear he hb B50 ID1 IF1
          go_wp2_with fail
          go_meet
          case rel => exact B51.out
    case rest =>
      obtain ⟨wd, rfl⟩ : ∃ z, z = wc := ⟨wc, rfl⟩
      have hcc := hcut
      clear hcut
      have SB1 := Lib.hid (SA.out.on hcc)
      have A3 := Lib.hid (A1.out.on hcc)
      clear SA A1 A2 q0 q1 q2 q3 q4 q5 q6 g0 g1 g2 g3 g4 g5 g6 hrun Hcc hcc
      go_upto_if 327 with fail
      go_cut [] from 327 to 408 (fun wx => Below wd.heap.size wd wx)
      case first =>
        have SC : Hid (St wd wd a0 len0 _) := Lib.hid ⟨SB1.out.1, Below.refl _ _, SB1.out.2.2⟩
        clear SB1
        cases one with
        | false =>
          go_wp2_with fail
          go_meet
          case rel => exact Below.refl _ _
        | true =>
          have HW := Lib.hid (Hone.out.symm)
          obtain ⟨f1, f2, f3, f4, f5⟩ := word_facts HW.out
          have G1 : Hid (ro = Plain.red ws) := Lib.hid (Hro.out.trans f1)
          rw [← G1.out] at f2 f3 f4
          have G2 := Lib.hid f2
          have G3 := Lib.hid f3
          have G4 := Lib.hid f4
          have G5 := Lib.hid f5
          clear f1 f2 f3 f4 f5
          obtain ⟨f1, f2⟩ := text_facts HW.out
          rw [← Htx.out] at f1 f2
          have G6 := Lib.hid f1
          have G7 := Lib.hid f2
          clear f1 f2
          have htxl : tx.size ≤ 100 := by rw [Htx.out, wordText_yes HW.out, textOf_size]; exact hwl
          obtain ⟨f1, f2, f3⟩ := inv_facts HW.out
          rw [← Hio.out] at f1 f2 f3
          have G8 := Lib.hid f1
          have G9 := Lib.hid f2
          have G10 := Lib.hid f3
          clear f1 f2 f3
          go_wp2_with fail
          refine (implIsReduced_any ra rc ro _ (St.get SC (by simp)) G4 (by omega)).mono ?_
          rw [G2.out, G3.out]
          rintro e w54 ⟨rfl, hb⟩
          have SC1 := Lib.hid (SC.out.on hb)
          clear hb SC
          go_wp2_with fail
          refine (implParseW_any tx _ (by omega)).mono ?_
          rw [G6.out, G7.out]
          rintro e w55 ⟨v1, rfl, hr1, hb⟩
          obtain ⟨ba, bc, rfl, hi1, -, hc1⟩ := hr1
          have SC2 := Lib.hid ((SC1.out.on hb).add hi1)
          clear hi1 hc1 hb SC1
          go_wp2_with fail
          refine (implJoinW_any wa ia wc ic ws io _ (St.get SC2 (by simp)) wC w64 (St.get SC2 (by simp)) iC G8 (by omega) (by omega)).mono ?_
          rw [G9.out, G10.out]
          rintro e w56 ⟨v1, rfl, hr1, hb⟩
          obtain ⟨na, nc, rfl, hi1, -, hc1⟩ := hr1
          have SC3 := Lib.hid ((SC2.out.on hb).add hi1)
          clear hi1 hc1 hb SC2
          go_wp2_with fail
          refine (rInts_any ba wa bc wc ws ws _ (St.get SC3 (by simp)) (St.get SC3 (by simp)) (by omega)).mono ?_
          intro e w57 he
          obtain ⟨rfl, hb⟩ := eqr he
          have SC4 := Lib.hid (SC3.out.on hb)
          clear he hb SC3
          have hev : ((ws.length : Int) - (ro.length : Int)) % 2 = 0 := by rw [G1.out]; exact even_red ws
          have hge : ro.length ≤ ws.length := by rw [G1.out]; exact Plain.red_length ws
          go_wp2_with fail
          refine (rReduce_any wa wc ws _ (St.get SC4 (by simp)) G5 (by omega)).mono ?_
          rintro e w58 ⟨v1, rfl, hr1, hb⟩
          rw [← G1.out] at hr1
          obtain ⟨ma, mc, rfl, hi1, -, hc1⟩ := hr1
          have SC5 := Lib.hid ((SC4.out.on hb).add hi1)
          clear hi1 hc1 hb SC4
          go_wp2_with fail
          refine (rInts_any ra ma rc mc ro ro _ (St.get SC5 (by simp)) (St.get SC5 (by simp)) (by omega)).mono ?_
          intro e w59 he
          obtain ⟨rfl, hb⟩ := eqr he
          have SC6 := Lib.hid (SC5.out.on hb)
          clear he hb SC5
          have HB6 := Lib.hid SC6.out.2.1
          have A4 := Lib.hid (A3.out.on SC6.out.2.1)
          clear A3 SC6
          go_wp2_with fail
          go_loopw [60, 61] (fun s i wr => ∃ (k : Nat) (i1 t : Int), k ≤ 6 ∧ i1 = (k : Int) + 1 ∧ i = .int .i64 i1 ∧ s = .int .i64 t ∧ t = part ws k ∧ ∃ n, wr = w59.drewN n) (fun _ i _ => 8 - (intOf i).toNat)
          case atStart => exact ⟨0, 1, 0, by omega, by omega, rfl, rfl, rfl, 0, rfl⟩
          case round =>
            obtain ⟨k, i1, t, hk, hi1, rfl, rfl, ht, nd, rfl⟩ := hrel
            obtain ⟨hp0, hp1⟩ := part_in ws hwl k
            rw [← ht] at hp0 hp1
            have hk7 : k = 0 ∨ k = 1 ∨ k = 2 ∨ k = 3 ∨ k = 4 ∨ k = 5 ∨ k = 6 := by omega
            obtain ⟨q0, q1, q2, q3, q4, q5, q6⟩ := A4.out.cells
            rcases hk7 with rfl | rfl | rfl | rfl | rfl | rfl | rfl
            · obtain rfl : i1 = 1 := by omega
              have HT := Lib.hid ht
              clear ht hi1
              have HP : Hid (part ws 1 = t + r1) := Lib.hid (by rw [HT.out, Hr1.out]; rfl)
              obtain ⟨hc0, hc1⟩ := b1.out
              have hbit := bit_of HW.out 0 1 rfl
              rw [← Hno.out, ← Hr1.out] at hbit
              rw [show no / ((1 : Nat) : Int) = no by simp] at hbit
              clear q0 q2 q3 q4 q5 q6
              rcases hbit with ⟨hpos, hand⟩ | ⟨hz, hand⟩
              · skip
                go_wp2_with fail
                go_quiet (fail)
                go_wp2_with fail
                go_roundw
                case rel => exact ⟨1, 2, _, by omega, by omega, rfl, rfl, (by have := HP.out; omega), _, rfl⟩
                case measure => simp [intOf]
              · skip
                subst hz
                go_wp2_with fail
                go_quiet (fail)
                go_wp2_with fail
                go_roundw
                case rel => exact ⟨1, 2, _, by omega, by omega, rfl, rfl, (by have := HP.out; omega), _, rfl⟩
                case measure => simp [intOf]
            · obtain rfl : i1 = 2 := by omega
              have HT := Lib.hid ht
              clear ht hi1
              have HP : Hid (part ws 2 = t + r2) := Lib.hid (by rw [HT.out, Hr2.out]; rfl)
              obtain ⟨hc0, hc1⟩ := b2.out
              have hbit := bit_of HW.out 1 2 rfl
              rw [← Hno.out, ← Hr2.out] at hbit
              rw [show ((2 : Nat) : Int) = 2 from rfl] at hbit
              clear q0 q1 q3 q4 q5 q6
              rcases hbit with ⟨hpos, hand⟩ | ⟨hz, hand⟩
              · skip
                go_wp2_with fail
                go_quiet (fail)
                go_wp2_with fail
                go_roundw
                case rel => exact ⟨2, 3, _, by omega, by omega, rfl, rfl, (by have := HP.out; omega), _, rfl⟩
                case measure => simp [intOf]
              · skip
                subst hz
                go_wp2_with fail
                go_quiet (fail)
                go_wp2_with fail
                go_roundw
                case rel => exact ⟨2, 3, _, by omega, by omega, rfl, rfl, (by have := HP.out; omega), _, rfl⟩
                case measure => simp [intOf]
            · obtain rfl : i1 = 3 := by omega
              have HT := Lib.hid ht
              clear ht hi1
              have HP : Hid (part ws 3 = t + r3) := Lib.hid (by rw [HT.out, Hr3.out]; rfl)
              obtain ⟨hc0, hc1⟩ := b3.out
              have hbit := bit_of HW.out 2 4 rfl
              rw [← Hno.out, ← Hr3.out] at hbit
              rw [show ((4 : Nat) : Int) = 4 from rfl] at hbit
              clear q0 q1 q2 q4 q5 q6
              rcases hbit with ⟨hpos, hand⟩ | ⟨hz, hand⟩
              · skip
                go_wp2_with fail
                go_quiet (fail)
                go_wp2_with fail
                go_roundw
                case rel => exact ⟨3, 4, _, by omega, by omega, rfl, rfl, (by have := HP.out; omega), _, rfl⟩
                case measure => simp [intOf]
              · skip
                subst hz
                go_wp2_with fail
                go_quiet (fail)
                go_wp2_with fail
                go_roundw
                case rel => exact ⟨3, 4, _, by omega, by omega, rfl, rfl, (by have := HP.out; omega), _, rfl⟩
                case measure => simp [intOf]
            · obtain rfl : i1 = 4 := by omega
              have HT := Lib.hid ht
              clear ht hi1
              have HP : Hid (part ws 4 = t + r4) := Lib.hid (by rw [HT.out, Hr4.out]; rfl)
              obtain ⟨hc0, hc1⟩ := b4.out
              have hbit := bit_of HW.out 3 8 rfl
              rw [← Hno.out, ← Hr4.out] at hbit
              rw [show ((8 : Nat) : Int) = 8 from rfl] at hbit
              clear q0 q1 q2 q3 q5 q6
              rcases hbit with ⟨hpos, hand⟩ | ⟨hz, hand⟩
              · skip
                go_wp2_with fail
                go_quiet (fail)
                go_wp2_with fail
                go_roundw
                case rel => exact ⟨4, 5, _, by omega, by omega, rfl, rfl, (by have := HP.out; omega), _, rfl⟩
                case measure => simp [intOf]
              · skip
                subst hz
                go_wp2_with fail
                go_quiet (fail)
                go_wp2_with fail
                go_roundw
                case rel => exact ⟨4, 5, _, by omega, by omega, rfl, rfl, (by have := HP.out; omega), _, rfl⟩
                case measure => simp [intOf]
            · obtain rfl : i1 = 5 := by omega
              have HT := Lib.hid ht
              clear ht hi1
              have HP : Hid (part ws 5 = t + r5) := Lib.hid (by rw [HT.out, Hr5.out]; rfl)
              obtain ⟨hc0, hc1⟩ := b5.out
              have hbit := bit_of HW.out 4 16 rfl
              rw [← Hno.out, ← Hr5.out] at hbit
              rw [show ((16 : Nat) : Int) = 16 from rfl] at hbit
              clear q0 q1 q2 q3 q4 q6
              rcases hbit with ⟨hpos, hand⟩ | ⟨hz, hand⟩
              · skip
                go_wp2_with fail
                go_quiet (fail)
                go_wp2_with fail
                go_roundw
                case rel => exact ⟨5, 6, _, by omega, by omega, rfl, rfl, (by have := HP.out; omega), _, rfl⟩
                case measure => simp [intOf]
              · skip
                subst hz
                go_wp2_with fail
                go_quiet (fail)
                go_wp2_with fail
                go_roundw
                case rel => exact ⟨5, 6, _, by omega, by omega, rfl, rfl, (by have := HP.out; omega), _, rfl⟩
                case measure => simp [intOf]
            · obtain rfl : i1 = 6 := by omega
              have HT := Lib.hid ht
              clear ht hi1
              have HP : Hid (part ws 6 = t + r6) := Lib.hid (by rw [HT.out, Hr6.out]; rfl)
              obtain ⟨hc0, hc1⟩ := b6.out
              have hbit := bit_of HW.out 5 32 rfl
              rw [← Hno.out, ← Hr6.out] at hbit
              rw [show ((32 : Nat) : Int) = 32 from rfl] at hbit
              clear q0 q1 q2 q3 q4 q5
              rcases hbit with ⟨hpos, hand⟩ | ⟨hz, hand⟩
              · skip
                go_wp2_with fail
                go_quiet (fail)
                go_wp2_with fail
                go_roundw
                case rel => exact ⟨6, 7, _, by omega, by omega, rfl, rfl, (by have := HP.out; omega), _, rfl⟩
                case measure => simp [intOf]
              · skip
                subst hz
                go_wp2_with fail
                go_quiet (fail)
                go_wp2_with fail
                go_roundw
                case rel => exact ⟨6, 7, _, by omega, by omega, rfl, rfl, (by have := HP.out; omega), _, rfl⟩
                case measure => simp [intOf]
            · obtain rfl : i1 = 7 := by omega
              rw [part_all HW.out] at ht
              subst ht
              clear q0 q1 q2 q3 q4 q5 q6
              go_wp2_with fail
              go_meet
              case rel => exact below_drewN HB6.out _
      case rest =>
        obtain ⟨we, rfl⟩ : ∃ z, z = wc := ⟨wc, rfl⟩
        have hcc := hcut
        clear hcut
        have SD := Lib.hid (SB1.out.on hcc)
        clear SB1 A3 hcc
        cases jb with
        | false =>
          go_wp2
          go_ret
          exact ⟨rfl, SD.out.2.1⟩
        | true =>
          obtain ⟨hjo2, hLu, hLv⟩ := prod_full Hjb.out.symm
          rw [← Hjo.out] at hjo2
          have HJ := Lib.hid hjo2
          clear hjo2
          have HLuv : Hid (Plain.Letters (us ++ vs)) := Lib.hid (hLu.append hLv)
          clear hLu hLv
          have HC := Lib.hid (coll_start we)
          have HI := Lib.hid ((St.get SD (by simp)).out.on HC.out.2.1 : Ints _ ua us)
          go_wp2_with (at_builtin; refine wpList_append_ints rfl _ _ 24 i0 rfl Try.underlying24 hi0 hz0 hz1 hz2 we.heap.size _ 0 [] rfl HC.out.1 ua us.length uc us rfl rfl HI.out uC.out (by omega) HC.out.2.2 ?_)
          intro v6 w60 hown hgrow _
          have HC2 := Lib.hid (coll_more HC.out rfl (by simpa using hown) hgrow)
          rw [List.nil_append] at HC2
          have HI2 := Lib.hid ((St.get SD (by simp)).out.on HC2.out.2.1 : Ints _ va vs)
          clear hown hgrow
          go_wp2_with (at_builtin; refine wpList_append_ints rfl _ _ 24 i0 rfl Try.underlying24 hi0 hz0 hz1 hz2 we.heap.size _ _ us rfl HC2.out.1 va vs.length vc vs rfl rfl HI2.out vC.out (by omega) HC2.out.2.2 ?_)
          intro v7 w61 hown hgrow _
          have HC3 := Lib.hid (coll_more HC2.out rfl hown hgrow)
          clear hown hgrow
          have S61 := Lib.hid (SD.out.on HC3.out.2.1)
          have hzl : (us ++ vs).length ≤ 1048576 := by simp; omega
          obtain ⟨zs, hzs⟩ : ∃ z, z = us ++ vs := ⟨_, rfl⟩
          rw [← hzs] at HC3 HLuv HJ hzl
          clear hzs HC HC2 HI HI2
          obtain ⟨ta, tc, rfl, hti, -, -⟩ := (coll_res HC3.out).1
          have HT := Lib.hid hti
          clear hti
          go_wp2_with fail
          refine (rReduce_any ta tc zs _ HT HLuv hzl).mono ?_
          rintro e w62 ⟨v8, rfl, hr, hb⟩
          rw [← HJ.out] at hr
          obtain ⟨ea, ec, rfl, hi1, -, -⟩ := hr
          have S62 := Lib.hid ((S61.out.on hb).add hi1)
          clear hi1 hb
          go_wp2_with fail
          refine (rInts_any ja ea jc ec jo jo _ (St.get S62 (by simp)) (St.get S62 (by simp)) (by omega)).mono ?_
          intro e w63 he
          obtain ⟨rfl, hb⟩ := eqr he
          have S63 := Lib.hid (S62.out.on hb)
          clear he hb
          go_wp2
          go_ret
          exact ⟨rfl, S63.out.2.1⟩


end Go.Proofs.Yteidddagpnfalaa
