/- The walk of laws.FnCommutators: it returns true and leaves its argument as it was. Condition: the code's bytes lie in memory. -/
import Derived.Test.YtmcbaejgimopmaaGreatBalSpec
import Derived.Test.YtmcbaejgimopmaaGreatBdDrawComm
import Derived.Test.YtmcbaejgimopmaaGreatBdJoinWWalks
import Derived.Test.YtmcbaejgimopmaaGreatBdLastFacts
import Derived.Test.YtmcbaejgimopmaaGreatBdNailText
import Derived.Test.YtmcbaejgimopmaaGreatBdStK
import Derived.Test.YtmcbaejgimopmaaGreatBdTopsZ
import Derived.Test.YtmcbaejgimopmaaGreatCommImpl
import Derived.Test.YtmcbaejgimopmaaGreatCoreWWalks
import Derived.Test.YtmcbaejgimopmaaGreatDrawWicks
import Derived.Test.YtmcbaejgimopmaaGreatLeftSpec
import Derived.Test.YtmcbaejgimopmaaGreatLenImpl
import Derived.Test.YtmcbaejgimopmaaGreatNailTops
import Derived.Test.YtmcbaejgimopmaaGreatRInv
import Derived.Test.YtmcbaejgimopmaaGreatWicksSpec
import Derived.Test.YtmcbaejgimopmaaGreatWicksTop
namespace Go.Proofs.YtmcbaejgimopmaaGreat
open Go.ChangeShapes Go.WideShapes Go.ChangeAt Go.RowKit
set_option linter.unusedVariables false

set_option maxRecDepth 100000 in
set_option maxHeartbeats 8000000 in
theorem fnComm_walk (a0 : Option Addr) (len0 cap0 : Nat) (w : World) (C0 : Hid (Code8 w a0 len0)) (hlen : len0 ≤ 9223372036854775807) :
    Calls Tryz.prog 3 #[.slice a0 len0 cap0] w fun e w' => e = .returned (.bool true) ∧ Below w.heap.size w w' := by
  obtain ⟨i0, hi0, hz0, hz1, hz2⟩ := info_parts infoInt
  by_cases hbig : 65536 < len0
  · go_enter Tryz.func3, Tryz.ntmps3
    go_wp2_with fail
    refine (rBig_any a0 len0 cap0 _ hlen).mono ?_
    rintro e w' ⟨rfl, rfl⟩
    rw [decide_eq_true hbig]
    go_wp2_with fail
    go_ret
    exact ⟨rfl, Below.refl _ _⟩
  · have S0 : Hid (St w w a0 len0 []) := Lib.hid ⟨C0.out, Below.refl _ _, fun p hp => by simp at hp⟩
    go_enter Tryz.func3, Tryz.ntmps3
    go_wp2_with fail
    refine (rBig_any a0 len0 cap0 _ hlen).mono ?_
    rintro e w' ⟨rfl, rfl⟩
    rw [decide_eq_false hbig]
    go_wp2_with fail
    refine (drawComm_any a0 len0 cap0 _ (Lib.hid S0.out.1)).mono ?_
    rintro e w1 ⟨v1, v2, us, vs, rfl, h1, hul, h2, hvl, hr1, hr2, hb⟩
    obtain ⟨ua, uc, rfl, hi1, -, hc1⟩ := hr1
    obtain ⟨va, vc, rfl, hi2, -, hc2⟩ := hr2
    have S1 := Lib.hid ((((S0.out.on hb).add hi1).add hi2))
    have u64 := Lib.hid h1
    have uC := Lib.hid hc1
    clear h1 hi1 hc1
    have v64 := Lib.hid h2
    have vC := Lib.hid hc2
    clear h2 hi2 hc2
    clear hb S0
    obtain ⟨co, hco⟩ : ∃ z, z = prodOut us vs (commZ us vs) := ⟨_, rfl⟩
    have Hco := Lib.hid hco
    clear hco
    obtain ⟨ok, hok⟩ : ∃ z, z = prodOk us vs (commZ us vs) := ⟨_, rfl⟩
    have Hok := Lib.hid hok
    clear hok
    have hcl : co.length ≤ 1048576 := by rw [Hco.out]; exact prod_le _ _ _
    go_wp2_with fail
    refine (implCommutatorOf_any ua va uc vc us vs _ (St.get S1 (by repeat (first | exact List.mem_cons_self | apply List.mem_cons_of_mem))) uC u64 (St.get S1 (by repeat (first | exact List.mem_cons_self | apply List.mem_cons_of_mem))) vC v64 (by omega) (by omega)).mono ?_
    rw [← Hco.out, ← Hok.out]
    rintro e w2 ⟨v1, rfl, hr1, hb⟩
    obtain ⟨ca, cc, rfl, hi1, -, hc1⟩ := hr1
    have S2 := Lib.hid ((S1.out.on hb).add hi1)
    clear hi1 hc1 hb S1
    go_wp2_with fail
    refine (specCommutatorOf_any ua va uc vc us vs _ (St.get S2 (by repeat (first | exact List.mem_cons_self | apply List.mem_cons_of_mem))) uC u64 (St.get S2 (by repeat (first | exact List.mem_cons_self | apply List.mem_cons_of_mem))) vC v64 (by omega) (by omega)).mono ?_
    rw [← Hco.out, ← Hok.out]
    rintro e w3 ⟨v1, rfl, hr1, hb⟩
    obtain ⟨da, dc, rfl, hi1, -, hc1⟩ := hr1
    have S3 := Lib.hid ((S2.out.on hb).add hi1)
    clear hi1 hc1 hb S2
    go_wp2_with fail
    refine (rInts_any ca da cc dc co co _ (St.get S3 (by repeat (first | exact List.mem_cons_self | apply List.mem_cons_of_mem))) (St.get S3 (by repeat (first | exact List.mem_cons_self | apply List.mem_cons_of_mem))) (by omega)).mono ?_
    intro e w4 he
    obtain ⟨rfl, hb⟩ := eqr he
    have S4 := Lib.hid (S3.out.on hb)
    clear he hb S3
    go_wp2_with fail
    refine (drawLeft_any a0 len0 cap0 _ (Lib.hid S4.out.1)).mono ?_
    rintro e w5 ⟨v1, ns, rfl, h1, hnl, hr1, hb⟩
    obtain ⟨na, nc, rfl, hi1, -, hc1⟩ := hr1
    have S5 := Lib.hid (((S4.out.on hb).add hi1))
    have n64 := Lib.hid h1
    have nC := Lib.hid hc1
    clear h1 hi1 hc1
    clear hb S4
    obtain ⟨lo, hlo⟩ : ∃ z, z = nailW ns (Plain.leftTo ns (ns.length - 1)) := ⟨_, rfl⟩
    have Hlo := Lib.hid hlo
    clear hlo
    obtain ⟨lb, hlb⟩ : ∃ z, z = nailW_B ns (Plain.leftTo ns (ns.length - 1)) := ⟨_, rfl⟩
    have Hlb := Lib.hid hlb
    clear hlb
    have hll : lo.length ≤ 64 := by rw [Hlo.out]; exact nailW_le _ _
    go_wp2_with fail
    refine (implLeftWord_any na nc ns _ (St.get S5 (by repeat (first | exact List.mem_cons_self | apply List.mem_cons_of_mem))) nC n64 (by omega)).mono ?_
    rw [← Hlo.out, ← Hlb.out]
    rintro e w6 ⟨v1, rfl, hr1, hb⟩
    obtain ⟨la, lc, rfl, hi1, -, hc1⟩ := hr1
    have S6 := Lib.hid ((S5.out.on hb).add hi1)
    clear hi1 hc1 hb S5
    go_wp2_with fail
    refine (specLeftWord_any na nc ns _ (St.get S6 (by repeat (first | exact List.mem_cons_self | apply List.mem_cons_of_mem))) nC n64 (by omega)).mono ?_
    rw [← Hlo.out, ← Hlb.out]
    rintro e w7 ⟨v1, rfl, hr1, hb⟩
    obtain ⟨ma, mc, rfl, hi1, -, hc1⟩ := hr1
    have S7 := Lib.hid ((S6.out.on hb).add hi1)
    clear hi1 hc1 hb S6
    go_wp2_with fail
    refine (rInts_any la ma lc mc lo lo _ (St.get S7 (by repeat (first | exact List.mem_cons_self | apply List.mem_cons_of_mem))) (St.get S7 (by repeat (first | exact List.mem_cons_self | apply List.mem_cons_of_mem))) (by omega)).mono ?_
    intro e w8 he
    obtain ⟨rfl, hb⟩ := eqr he
    have S8 := Lib.hid (S7.out.on hb)
    clear he hb S7
    obtain ⟨bo, hbo⟩ : ∃ z, z = nailW ns (Plain.bal 3 ns) := ⟨_, rfl⟩
    have Hbo := Lib.hid hbo
    clear hbo
    obtain ⟨nb, hnb⟩ : ∃ z, z = Plain.nailsOk ns := ⟨_, rfl⟩
    have Hnb := Lib.hid hnb
    clear hnb
    obtain ⟨tt, htt⟩ : ∃ z, z = treeText ns := ⟨_, rfl⟩
    have Htt := Lib.hid htt
    clear htt
    have hbl : bo.length ≤ 64 := by rw [Hbo.out]; exact nailW_le _ _
    go_wp2_with fail
    refine (implBalancedWord_any na nc ns _ (St.get S8 (by repeat (first | exact List.mem_cons_self | apply List.mem_cons_of_mem))) nC n64 (by omega)).mono ?_
    rw [two_is, ← Hbo.out, ← Hnb.out]
    rintro e w9 ⟨v1, rfl, hr1, hb⟩
    obtain ⟨ba, bc, rfl, hi1, -, hc1⟩ := hr1
    have S9 := Lib.hid ((S8.out.on hb).add hi1)
    clear hi1 hc1 hb S8
    go_wp2_with fail
    refine (specBalancedWord_any na nc ns _ (St.get S9 (by repeat (first | exact List.mem_cons_self | apply List.mem_cons_of_mem))) nC n64 (by omega)).mono ?_
    rw [two_is, ← Hbo.out, ← Hnb.out]
    rintro e w10 ⟨v1, rfl, hr1, hb⟩
    obtain ⟨ea, ec, rfl, hi1, -, hc1⟩ := hr1
    have S10 := Lib.hid ((S9.out.on hb).add hi1)
    clear hi1 hc1 hb S9
    go_wp2_with fail
    refine (rInts_any ba ea bc ec bo bo _ (St.get S10 (by repeat (first | exact List.mem_cons_self | apply List.mem_cons_of_mem))) (St.get S10 (by repeat (first | exact List.mem_cons_self | apply List.mem_cons_of_mem))) (by omega)).mono ?_
    intro e w11 he
    obtain ⟨rfl, hb⟩ := eqr he
    have S11 := Lib.hid (S10.out.on hb)
    clear he hb S10
    go_wp2_with fail
    refine (implBalancedTree_any na nc ns _ (St.get S11 (by repeat (first | exact List.mem_cons_self | apply List.mem_cons_of_mem))) nC n64 (by omega)).mono ?_
    rw [← Htt.out, ← Hnb.out]
    rintro e w12 ⟨rfl, hb⟩
    have S12 := Lib.hid (S11.out.on hb)
    clear hb S11
    go_wp2_with fail
    refine (specBalancedTree_any na nc ns _ (St.get S12 (by repeat (first | exact List.mem_cons_self | apply List.mem_cons_of_mem))) nC n64 (by omega)).mono ?_
    rw [← Htt.out, ← Hnb.out]
    rintro e w13 ⟨rfl, hb⟩
    have S13 := Lib.hid (S12.out.on hb)
    clear hb S12
    cases nb with
    | false =>
      go_wp2_with fail
      refine (drawLeftLen_any a0 len0 cap0 _ (Lib.hid S13.out.1)).mono ?_
      rintro e w14 ⟨n1, rfl, n10, n11, hb⟩
      have S14 := Lib.hid (S13.out.on hb)
      clear hb S13
      obtain ⟨ll, hll⟩ : ∃ z, z = leftL n1 := ⟨_, rfl⟩
      have Hll := Lib.hid hll
      clear hll
      obtain ⟨lk, hlk⟩ : ∃ z, z = lenB n1 := ⟨_, rfl⟩
      have Hlk := Lib.hid hlk
      clear hlk
      go_wp2_with fail
      refine (implLeftLength_any n1 _ ⟨by omega, by omega⟩).mono ?_
      rw [← Hll.out, ← Hlk.out]
      rintro e w15 ⟨rfl, hb⟩
      have S15 := Lib.hid (S14.out.on hb)
      clear hb S14
      go_wp2_with fail
      refine (specLeftLength_any n1 _ ⟨by omega, by omega⟩).mono ?_
      rw [← Hll.out, ← Hlk.out]
      rintro e w16 ⟨rfl, hb⟩
      have S16 := Lib.hid (S15.out.on hb)
      clear hb S15
      go_wp2_with fail
      refine (drawBalLen_any a0 len0 cap0 _ (Lib.hid S16.out.1)).mono ?_
      rintro e w17 ⟨n2, rfl, n20, n21, hb⟩
      have S17 := Lib.hid (S16.out.on hb)
      clear hb S16
      obtain ⟨bl, hbl⟩ : ∃ z, z = balL n2 := ⟨_, rfl⟩
      have Hbl := Lib.hid hbl
      clear hbl
      obtain ⟨bk, hbk⟩ : ∃ z, z = lenB n2 := ⟨_, rfl⟩
      have Hbk := Lib.hid hbk
      clear hbk
      go_wp2_with fail
      refine (implBalancedLength_any n2 _ ⟨by omega, by omega⟩).mono ?_
      rw [← Hbl.out, ← Hbk.out]
      rintro e w18 ⟨rfl, hb⟩
      have S18 := Lib.hid (S17.out.on hb)
      clear hb S17
      go_wp2_with fail
      refine (specBalancedLength_any n2 _ ⟨by omega, by omega⟩).mono ?_
      rw [← Hbl.out, ← Hbk.out]
      rintro e w19 ⟨rfl, hb⟩
      have S19 := Lib.hid (S18.out.on hb)
      clear hb S18
      go_wp2_with fail
      refine (drawWicks_any a0 len0 cap0 _ (Lib.hid S19.out.1)).mono ?_
      rintro e w20 ⟨v1, ws, rfl, h1, hwl, hr1, hb⟩
      obtain ⟨wa, wc, rfl, hi1, -, hc1⟩ := hr1
      have S20 := Lib.hid (((S19.out.on hb).add hi1))
      have w64 := Lib.hid h1
      have wC := Lib.hid hc1
      clear h1 hi1 hc1
      clear hb S19
      obtain ⟨xo, hxo⟩ : ∃ z, z = wicksA ws := ⟨_, rfl⟩
      have Hxo := Lib.hid hxo
      clear hxo
      obtain ⟨yo, hyo⟩ : ∃ z, z = wicksB ws := ⟨_, rfl⟩
      have Hyo := Lib.hid hyo
      clear hyo
      obtain ⟨zo, hzo⟩ : ∃ z, z = wicksC ws := ⟨_, rfl⟩
      have Hzo := Lib.hid hzo
      clear hzo
      obtain ⟨kk, hkk⟩ : ∃ z, z = wicksK ws := ⟨_, rfl⟩
      have Hkk := Lib.hid hkk
      clear hkk
      obtain ⟨so, hso⟩ : ∃ z, z = wicksOk ws := ⟨_, rfl⟩
      have Hso := Lib.hid hso
      clear hso
      go_wp2_with fail
      refine (implWicks_any wa wc ws _ (St.get S20 (by repeat (first | exact List.mem_cons_self | apply List.mem_cons_of_mem))) w64 (by omega)).mono ?_
      rw [← Hxo.out, ← Hyo.out, ← Hzo.out, ← Hkk.out, ← Hso.out]
      rintro e w21 ⟨xa, xc, ya, yc, za, zc, rfl, hi1, -, hc1, hi2, -, hc2, hi3, -, hc3, -, -, -, hb⟩
      have S21 := Lib.hid ((((S20.out.on hb).add hi1).add hi2).add hi3)
      have xC := Lib.hid hc1
      have yC := Lib.hid hc2
      have zC := Lib.hid hc3
      clear hi1 hc1 hi2 hc2 hi3 hc3 hb S20
      go_wp2_with fail
      refine (specWicks_any wa wc ws _ (St.get S21 (by repeat (first | exact List.mem_cons_self | apply List.mem_cons_of_mem))) w64 (by omega)).mono ?_
      rw [← Hxo.out, ← Hyo.out, ← Hzo.out, ← Hkk.out, ← Hso.out]
      rintro e w22 ⟨fa, fc, ga, gc, ha, hc, rfl, hi1, -, hc1, hi2, -, hc2, hi3, -, hc3, -, -, -, hb⟩
      have S22 := Lib.hid ((((S21.out.on hb).add hi1).add hi2).add hi3)
      clear hi1 hc1 hi2 hc2 hi3 hc3 hb S21
      go_wp2_with fail
      refine (rInts_any xa fa xc fc xo xo _ (St.get S22 (by repeat (first | exact List.mem_cons_self | apply List.mem_cons_of_mem))) (St.get S22 (by repeat (first | exact List.mem_cons_self | apply List.mem_cons_of_mem))) (by have h1 := xC.out.1; have h2 := xC.out.2.1; omega)).mono ?_
      intro e w23 he
      obtain ⟨rfl, hb⟩ := eqr he
      have S23 := Lib.hid (S22.out.on hb)
      clear he hb S22
      go_wp2_with fail
      refine (rInts_any ya ga yc gc yo yo _ (St.get S23 (by repeat (first | exact List.mem_cons_self | apply List.mem_cons_of_mem))) (St.get S23 (by repeat (first | exact List.mem_cons_self | apply List.mem_cons_of_mem))) (by have h1 := yC.out.1; have h2 := yC.out.2.1; omega)).mono ?_
      intro e w24 he
      obtain ⟨rfl, hb⟩ := eqr he
      have S24 := Lib.hid (S23.out.on hb)
      clear he hb S23
      go_wp2_with fail
      refine (rInts_any za ha zc hc zo zo _ (St.get S24 (by repeat (first | exact List.mem_cons_self | apply List.mem_cons_of_mem))) (St.get S24 (by repeat (first | exact List.mem_cons_self | apply List.mem_cons_of_mem))) (by have h1 := zC.out.1; have h2 := zC.out.2.1; omega)).mono ?_
      intro e w25 he
      obtain ⟨rfl, hb⟩ := eqr he
      have S25 := Lib.hid (S24.out.on hb)
      clear he hb S24
      obtain rfl : lb = false := by rw [Hlb.out]; exact (nailW_no Hnb.out.symm).2
      go_upto_if 300 with fail
      go_cut [] from 300 to 369 (fun wx => Below w25.heap.size w25 wx)
      case first =>
        cases so with
        | false =>
          go_wp2_with fail
          go_meet
          case rel => exact Below.refl _ _
        | true =>
          have B25 : Hid (Below w25.heap.size w25 w25) := Lib.hid (Below.refl _ _)
          obtain ⟨f1, f2, f3, f4, ⟨f5, f6, f7⟩, ⟨f8, f9⟩, ⟨f10, f11⟩, ⟨f12, f13⟩, f14⟩ := six_facts Hso.out.symm
          have HW := Lib.hid (wicks_word Hso.out.symm)
          rw [← Hkk.out] at f3 f4 f12
          rw [← Hxo.out, ← Hyo.out] at f8 f9
          rw [← Hxo.out, ← Hzo.out] at f10 f11
          rw [← Hxo.out, ← Hyo.out, ← Hzo.out] at f12 f13 f14
          rw [← Hxo.out] at f5
          rw [← Hyo.out] at f6
          rw [← Hzo.out] at f7
          obtain ⟨ko, hko⟩ : ∃ z, z = Plain.core (Plain.red ws) := ⟨_, rfl⟩
          have Hko := Lib.hid hko
          clear hko
          obtain ⟨jo, hjo⟩ : ∃ z, z = Plain.by_ (Plain.red ws) := ⟨_, rfl⟩
          have Hjo := Lib.hid hjo
          clear hjo
          have hkb := (wicks_made HW.out Hso.out.symm).2.2.2.2.1
          rw [← Hkk.out] at hkb
          rw [← Hko.out] at f1 f2 f3 f4 f12 f14 hkb
          have htl := Nat.le_of_eq (turn_length ko kk)
          obtain ⟨tz, htz⟩ : ∃ z, z = turn ko kk := ⟨_, rfl⟩
          rw [← htz] at f3 f12 htl
          clear htz
          have hf1 := Plain.red_length (xo ++ yo)
          have hf2 := Plain.red_length (zo ++ Plain.inv xo)
          have hil : (Plain.inv xo).length ≤ xo.length := Nat.le_of_eq (Plain.inv_length _)
          rw [List.length_append] at hf1 hf2
          have g1 := letters_in64 (f5.append f6).red
          have g2 := letters_in64 (f7.append f5.inv).red
          have g3 := letters_in64 f5.inv
          obtain ⟨fo, hfo⟩ : ∃ z, z = Plain.red (xo ++ yo) := ⟨_, rfl⟩
          rw [← hfo] at f8 f12 f13 hf1 g1
          clear hfo
          obtain ⟨gz, hgo⟩ : ∃ z, z = Plain.red (zo ++ Plain.inv xo) := ⟨_, rfl⟩
          rw [← hgo] at f10 f12 f13 hf2 g2
          clear hgo
          obtain ⟨io, hio⟩ : ∃ z, z = Plain.inv xo := ⟨_, rfl⟩
          rw [← hio] at f10 f11 hf2 hil g3
          have Hio := Lib.hid hio
          clear hio
          have F3 := Lib.hid f3
          have F4 := Lib.hid f4
          have F5 := Lib.hid f5
          have F8 := Lib.hid f8
          have F9 := Lib.hid f9
          have F10 := Lib.hid f10
          have F11 := Lib.hid f11
          have F12 := Lib.hid f12
          have F13 := Lib.hid f13
          have x64 := Lib.hid (letters_in64 f5)
          have y64 := Lib.hid (letters_in64 f6)
          have z64 := Lib.hid (letters_in64 f7)
          have k64 := Lib.hid (letters_in64 f2)
          have fo64 := Lib.hid g1
          have go64 := Lib.hid g2
          have io64 := Lib.hid g3
          have f15 := Nat.le_of_eq f14
          have f16 := Nat.le_of_eq f14.symm
          clear f14
          clear f2 f3 f4 f5 f6 f7 f8 f9 f10 f11 f12 f13 g1 g2 g3
          go_wp2_with fail
          refine (implCoreOf_any wa wc ws _ (St.get S25 (by repeat (first | exact List.mem_cons_self | apply List.mem_cons_of_mem))) w64 (by omega)).mono ?_
          rw [ifWord_yes HW.out, ifWord_yes HW.out, HW.out, ← Hko.out, ← Hjo.out]
          rintro e w26 ⟨pa, pc, qa, qc, rfl, hi1, -, hc1, hi2, -, hc2, -, hb⟩
          have S26 := Lib.hid (((S25.out.on hb).add hi1).add hi2)
          have B26 := Lib.hid (B25.out.trans (hb.mono B25.out.size))
          clear B25
          have pC := Lib.hid hc1
          have qC := Lib.hid hc2
          clear hi1 hc1 hi2 hc2 hb S25
          go_wp2_with fail
          refine (implTurnW_any pa pc ko (kk : Int) _ (St.get S26 (by repeat (first | exact List.mem_cons_self | apply List.mem_cons_of_mem))) pC k64 (by omega) ⟨by omega, by omega⟩).mono ?_
          rw [F3.out, F4.out]
          rintro e w27 ⟨v1, rfl, hr1, hb⟩
          obtain ⟨ra, rc, rfl, hi1, -, hc1⟩ := hr1
          have S27 := Lib.hid ((S26.out.on hb).add hi1)
          have B27 := Lib.hid (B26.out.trans (hb.mono B26.out.size))
          clear B26
          clear hi1 hc1 hb S26
          go_wp2_with fail
          refine (implJoinW_any xa ya xc yc xo yo _ (St.get S27 (by repeat (first | exact List.mem_cons_self | apply List.mem_cons_of_mem))) xC x64 (St.get S27 (by repeat (first | exact List.mem_cons_self | apply List.mem_cons_of_mem))) yC y64 (by omega) (by omega)).mono ?_
          rw [F8.out, F9.out]
          rintro e w28 ⟨v1, rfl, hr1, hb⟩
          obtain ⟨sa, sc, rfl, hi1, -, hc1⟩ := hr1
          have S28 := Lib.hid ((S27.out.on hb).add hi1)
          have B28 := Lib.hid (B27.out.trans (hb.mono B27.out.size))
          clear B27
          have sC := Lib.hid hc1
          clear hi1 hc1 hb S27
          go_wp2_with fail
          refine (rInverse_any xa xc xo _ (St.get S28 (by repeat (first | exact List.mem_cons_self | apply List.mem_cons_of_mem))) F5 (by omega)).mono ?_
          rw [← Hio.out]
          rintro e w29 ⟨v1, rfl, hcol⟩
          obtain ⟨⟨ia, ic, rfl, hi1, -, hc1⟩, hb⟩ := coll_res hcol
          have S29 := Lib.hid ((S28.out.on hb).add hi1)
          have B29 := Lib.hid (B28.out.trans (hb.mono B28.out.size))
          clear B28
          have iC := Lib.hid hc1
          clear hi1 hc1 hb hcol S28
          go_wp2_with fail
          refine (implJoinW_any za ia zc ic zo io _ (St.get S29 (by repeat (first | exact List.mem_cons_self | apply List.mem_cons_of_mem))) zC z64 (St.get S29 (by repeat (first | exact List.mem_cons_self | apply List.mem_cons_of_mem))) iC io64 (by omega) (by omega)).mono ?_
          rw [F10.out, F11.out]
          rintro e w30 ⟨v1, rfl, hr1, hb⟩
          obtain ⟨ja, jc, rfl, hi1, -, hc1⟩ := hr1
          have S30 := Lib.hid ((S29.out.on hb).add hi1)
          have B30 := Lib.hid (B29.out.trans (hb.mono B29.out.size))
          clear B29
          have jC := Lib.hid hc1
          clear hi1 hc1 hb S29
          go_wp2_with fail
          refine (implCommutatorOf_any sa ja sc jc fo gz _ (St.get S30 (by repeat (first | exact List.mem_cons_self | apply List.mem_cons_of_mem))) sC fo64 (St.get S30 (by repeat (first | exact List.mem_cons_self | apply List.mem_cons_of_mem))) jC go64 (by omega) (by omega)).mono ?_
          rw [F12.out, F13.out]
          rintro e w31 ⟨v1, rfl, hr1, hb⟩
          obtain ⟨ka, kc, rfl, hi1, -, hc1⟩ := hr1
          have S31 := Lib.hid ((S30.out.on hb).add hi1)
          have B31 := Lib.hid (B30.out.trans (hb.mono B30.out.size))
          clear B30
          clear hi1 hc1 hb S30
          have hsum : (2 * ((xo.length : Int) + (yo.length : Int) + (zo.length : Int))) = (ko.length : Int) := by omega
          go_wp2_with fail
          refine (rInts_any ka ra kc rc tz tz _ (St.get S31 (by repeat (first | exact List.mem_cons_self | apply List.mem_cons_of_mem))) (St.get S31 (by repeat (first | exact List.mem_cons_self | apply List.mem_cons_of_mem))) (by omega)).mono ?_
          intro e w32 he
          obtain ⟨rfl, hb⟩ := eqr he
          have S32 := Lib.hid (S31.out.on hb)
          have B32 := Lib.hid (B31.out.trans (hb.mono B31.out.size))
          clear B31
          clear he hb S31
          go_wp2_with fail
          go_meet
          case rel => exact B32.out
      case rest =>
        obtain ⟨w26, rfl⟩ : ∃ z, z = wc := ⟨wc, rfl⟩
        have hcc := hcut
        clear hcut
        have S26 := Lib.hid (S25.out.on hcc)
        clear hcc S25
        cases ok with
        | false =>
          go_wp2_with fail
          go_ret
          exact ⟨rfl, S26.out.2.1⟩
        | true =>
          obtain ⟨o1, o2, o3, o4⟩ := ok_facts Hok.out.symm
          rw [← Hco.out] at o1 o2 o3
          have O1 := Lib.hid o1
          have O3 := Lib.hid o3
          have O4 := Lib.hid o4
          have hnol : (Plain.inv co).length ≤ co.length := Nat.le_of_eq (Plain.inv_length _)
          obtain ⟨no, hno⟩ : ∃ z, z = Plain.inv co := ⟨_, rfl⟩
          rw [← hno] at O3 hnol
          have Hno := Lib.hid hno
          clear o1 o3 o4 hno
          go_wp2_with fail
          refine (implCommutatorOf_any va ua vc uc vs us _ (St.get S26 (by repeat (first | exact List.mem_cons_self | apply List.mem_cons_of_mem))) vC v64 (St.get S26 (by repeat (first | exact List.mem_cons_self | apply List.mem_cons_of_mem))) uC u64 (by omega) (by omega)).mono ?_
          rw [O3.out, O4.out]
          rintro e w27 ⟨v1, rfl, hr1, hb⟩
          obtain ⟨aaa, aac, rfl, hi1, -, hc1⟩ := hr1
          have S27 := Lib.hid ((S26.out.on hb).add hi1)
          clear hi1 hc1 hb S26
          go_wp2_with fail
          refine (rInverse_any ca cc co _ (St.get S27 (by repeat (first | exact List.mem_cons_self | apply List.mem_cons_of_mem))) O1 (by omega)).mono ?_
          rw [← Hno.out]
          rintro e w28 ⟨v1, rfl, hcol⟩
          obtain ⟨⟨bba, bbc, rfl, hi1, -, hc1⟩, hb⟩ := coll_res hcol
          have S28 := Lib.hid ((S27.out.on hb).add hi1)
          clear hi1 hc1 hb hcol S27
          go_wp2_with fail
          refine (rInts_any aaa bba aac bbc no no _ (St.get S28 (by repeat (first | exact List.mem_cons_self | apply List.mem_cons_of_mem))) (St.get S28 (by repeat (first | exact List.mem_cons_self | apply List.mem_cons_of_mem))) (by omega)).mono ?_
          intro e w29 he
          obtain ⟨rfl, hb⟩ := eqr he
          have S29 := Lib.hid (S28.out.on hb)
          clear he hb S28
          go_wp2_with fail
          go_ret
          exact ⟨rfl, S29.out.2.1⟩
    | true =>
      go_wp2_with fail
      refine (drawLeftLen_any a0 len0 cap0 _ (Lib.hid S13.out.1)).mono ?_
      rintro e w14 ⟨n1, rfl, n10, n11, hb⟩
      have S14 := Lib.hid (S13.out.on hb)
      clear hb S13
      obtain ⟨ll, hll⟩ : ∃ z, z = leftL n1 := ⟨_, rfl⟩
      have Hll := Lib.hid hll
      clear hll
      obtain ⟨lk, hlk⟩ : ∃ z, z = lenB n1 := ⟨_, rfl⟩
      have Hlk := Lib.hid hlk
      clear hlk
      go_wp2_with fail
      refine (implLeftLength_any n1 _ ⟨by omega, by omega⟩).mono ?_
      rw [← Hll.out, ← Hlk.out]
      rintro e w15 ⟨rfl, hb⟩
      have S15 := Lib.hid (S14.out.on hb)
      clear hb S14
      go_wp2_with fail
      refine (specLeftLength_any n1 _ ⟨by omega, by omega⟩).mono ?_
      rw [← Hll.out, ← Hlk.out]
      rintro e w16 ⟨rfl, hb⟩
      have S16 := Lib.hid (S15.out.on hb)
      clear hb S15
      go_wp2_with fail
      refine (drawBalLen_any a0 len0 cap0 _ (Lib.hid S16.out.1)).mono ?_
      rintro e w17 ⟨n2, rfl, n20, n21, hb⟩
      have S17 := Lib.hid (S16.out.on hb)
      clear hb S16
      obtain ⟨bl, hbl⟩ : ∃ z, z = balL n2 := ⟨_, rfl⟩
      have Hbl := Lib.hid hbl
      clear hbl
      obtain ⟨bk, hbk⟩ : ∃ z, z = lenB n2 := ⟨_, rfl⟩
      have Hbk := Lib.hid hbk
      clear hbk
      go_wp2_with fail
      refine (implBalancedLength_any n2 _ ⟨by omega, by omega⟩).mono ?_
      rw [← Hbl.out, ← Hbk.out]
      rintro e w18 ⟨rfl, hb⟩
      have S18 := Lib.hid (S17.out.on hb)
      clear hb S17
      go_wp2_with fail
      refine (specBalancedLength_any n2 _ ⟨by omega, by omega⟩).mono ?_
      rw [← Hbl.out, ← Hbk.out]
      rintro e w19 ⟨rfl, hb⟩
      have S19 := Lib.hid (S18.out.on hb)
      clear hb S18
      go_wp2_with fail
      refine (drawWicks_any a0 len0 cap0 _ (Lib.hid S19.out.1)).mono ?_
      rintro e w20 ⟨v1, ws, rfl, h1, hwl, hr1, hb⟩
      obtain ⟨wa, wc, rfl, hi1, -, hc1⟩ := hr1
      have S20 := Lib.hid (((S19.out.on hb).add hi1))
      have w64 := Lib.hid h1
      have wC := Lib.hid hc1
      clear h1 hi1 hc1
      clear hb S19
      obtain ⟨xo, hxo⟩ : ∃ z, z = wicksA ws := ⟨_, rfl⟩
      have Hxo := Lib.hid hxo
      clear hxo
      obtain ⟨yo, hyo⟩ : ∃ z, z = wicksB ws := ⟨_, rfl⟩
      have Hyo := Lib.hid hyo
      clear hyo
      obtain ⟨zo, hzo⟩ : ∃ z, z = wicksC ws := ⟨_, rfl⟩
      have Hzo := Lib.hid hzo
      clear hzo
      obtain ⟨kk, hkk⟩ : ∃ z, z = wicksK ws := ⟨_, rfl⟩
      have Hkk := Lib.hid hkk
      clear hkk
      obtain ⟨so, hso⟩ : ∃ z, z = wicksOk ws := ⟨_, rfl⟩
      have Hso := Lib.hid hso
      clear hso
      go_wp2_with fail
      refine (implWicks_any wa wc ws _ (St.get S20 (by repeat (first | exact List.mem_cons_self | apply List.mem_cons_of_mem))) w64 (by omega)).mono ?_
      rw [← Hxo.out, ← Hyo.out, ← Hzo.out, ← Hkk.out, ← Hso.out]
      rintro e w21 ⟨xa, xc, ya, yc, za, zc, rfl, hi1, -, hc1, hi2, -, hc2, hi3, -, hc3, -, -, -, hb⟩
      have S21 := Lib.hid ((((S20.out.on hb).add hi1).add hi2).add hi3)
      have xC := Lib.hid hc1
      have yC := Lib.hid hc2
      have zC := Lib.hid hc3
      clear hi1 hc1 hi2 hc2 hi3 hc3 hb S20
      go_wp2_with fail
      refine (specWicks_any wa wc ws _ (St.get S21 (by repeat (first | exact List.mem_cons_self | apply List.mem_cons_of_mem))) w64 (by omega)).mono ?_
      rw [← Hxo.out, ← Hyo.out, ← Hzo.out, ← Hkk.out, ← Hso.out]
      rintro e w22 ⟨fa, fc, ga, gc, ha, hc, rfl, hi1, -, hc1, hi2, -, hc2, hi3, -, hc3, -, -, -, hb⟩
      have S22 := Lib.hid ((((S21.out.on hb).add hi1).add hi2).add hi3)
      clear hi1 hc1 hi2 hc2 hi3 hc3 hb S21
      go_wp2_with fail
      refine (rInts_any xa fa xc fc xo xo _ (St.get S22 (by repeat (first | exact List.mem_cons_self | apply List.mem_cons_of_mem))) (St.get S22 (by repeat (first | exact List.mem_cons_self | apply List.mem_cons_of_mem))) (by have h1 := xC.out.1; have h2 := xC.out.2.1; omega)).mono ?_
      intro e w23 he
      obtain ⟨rfl, hb⟩ := eqr he
      have S23 := Lib.hid (S22.out.on hb)
      clear he hb S22
      go_wp2_with fail
      refine (rInts_any ya ga yc gc yo yo _ (St.get S23 (by repeat (first | exact List.mem_cons_self | apply List.mem_cons_of_mem))) (St.get S23 (by repeat (first | exact List.mem_cons_self | apply List.mem_cons_of_mem))) (by have h1 := yC.out.1; have h2 := yC.out.2.1; omega)).mono ?_
      intro e w24 he
      obtain ⟨rfl, hb⟩ := eqr he
      have S24 := Lib.hid (S23.out.on hb)
      clear he hb S23
      go_wp2_with fail
      refine (rInts_any za ha zc hc zo zo _ (St.get S24 (by repeat (first | exact List.mem_cons_self | apply List.mem_cons_of_mem))) (St.get S24 (by repeat (first | exact List.mem_cons_self | apply List.mem_cons_of_mem))) (by have h1 := zC.out.1; have h2 := zC.out.2.1; omega)).mono ?_
      intro e w25 he
      obtain ⟨rfl, hb⟩ := eqr he
      have S25 := Lib.hid (S24.out.on hb)
      clear he hb S24
      obtain ⟨p1, p2, p3, p4, -, p6, p7, p8⟩ := two_facts Hnb.out.symm
      rw [← Htt.out] at p1 p2 p3 p4 p8
      rw [← Hbo.out] at p4 p6
      rw [← p6] at p3 p7
      have P0 := Lib.hid (nails_one Hnb.out.symm)
      have P6 := Lib.hid p6
      have TV : Hid (∀ W : World, Calls Tryz.prog 25 #[.string tt] W (SB bo true W)) := Lib.hid (fun W => by have h := treeValue_own tt W (by omega) p1 p2; rw [p4] at h; exact h)
      have TL : Hid (∀ W : World, Calls Tryz.prog 26 #[.string tt] W (Val (.tuple #[.int .i64 (bo.length : Int), .bool true]) W)) := Lib.hid (fun W => by have h := treeLength_own tt W (by omega) p1 (by omega); rw [p3] at h; exact h)
      clear p1 p2 p3 p4 p6 p7 p8
      go_upto_if 241 with fail
      go_cut [] from 241 to 255 (fun wx => Below w25.heap.size w25 wx)
      case first =>
        cases lb with
        | false =>
          go_wp2_with fail
          go_meet
          case rel => exact Below.refl _ _
        | true =>
          have B25 : Hid (Below w25.heap.size w25 w25) := Lib.hid (Below.refl _ _)
          obtain ⟨q1, q2, q3⟩ := one_facts Hlb.out.symm
          rw [← Hlo.out] at q2
          have Q2 := Lib.hid q2
          clear q1 q2 q3
          go_wp2_with fail
          refine (implLeftLength_any (ns.length : Int) _ ⟨by omega, by omega⟩).mono ?_
          rw [P0.out, ← Q2.out]
          rintro e w26 ⟨rfl, hb⟩
          have S26 := Lib.hid (S25.out.on hb)
          have B26 := Lib.hid (B25.out.trans (hb.mono B25.out.size))
          clear B25
          clear hb S25
          go_wp2_with fail
          go_meet
          case rel => exact B26.out
      case rest =>
        obtain ⟨w26, rfl⟩ : ∃ z, z = wc := ⟨wc, rfl⟩
        have hcc := hcut
        clear hcut
        have S26 := Lib.hid (S25.out.on hcc)
        clear hcc S25
        go_wp2_with fail
        refine (implBalancedLength_any (ns.length : Int) _ ⟨by omega, by omega⟩).mono ?_
        rw [P0.out, ← P6.out]
        rintro e w27 ⟨rfl, hb⟩
        have S27 := Lib.hid (S26.out.on hb)
        clear hb S26
        go_wp2_with fail
        refine (TV.out _).mono ?_
        rintro e w28 ⟨v1, rfl, hr1, hb⟩
        obtain ⟨ta, tc, rfl, hi1, -, hc1⟩ := hr1
        have S28 := Lib.hid ((S27.out.on hb).add hi1)
        clear hi1 hc1 hb S27
        go_wp2_with fail
        refine (TL.out _).mono ?_
        rintro e w29 ⟨rfl, hb⟩
        have S29 := Lib.hid (S28.out.on hb)
        clear hb S28
        go_wp2_with fail
        refine (rInts_any ta ba tc bc bo bo _ (St.get S29 (by repeat (first | exact List.mem_cons_self | apply List.mem_cons_of_mem))) (St.get S29 (by repeat (first | exact List.mem_cons_self | apply List.mem_cons_of_mem))) (by omega)).mono ?_
        intro e w30 he
        obtain ⟨rfl, hb⟩ := eqr he
        have S30 := Lib.hid (S29.out.on hb)
        clear he hb S29
        go_upto_if 300 with fail
        go_cut [] from 300 to 369 (fun wx => Below w30.heap.size w30 wx)
        case first =>
          cases so with
          | false =>
            go_wp2_with fail
            go_meet
            case rel => exact Below.refl _ _
          | true =>
            have B30 : Hid (Below w30.heap.size w30 w30) := Lib.hid (Below.refl _ _)
            obtain ⟨f1, f2, f3, f4, ⟨f5, f6, f7⟩, ⟨f8, f9⟩, ⟨f10, f11⟩, ⟨f12, f13⟩, f14⟩ := six_facts Hso.out.symm
            have HW := Lib.hid (wicks_word Hso.out.symm)
            rw [← Hkk.out] at f3 f4 f12
            rw [← Hxo.out, ← Hyo.out] at f8 f9
            rw [← Hxo.out, ← Hzo.out] at f10 f11
            rw [← Hxo.out, ← Hyo.out, ← Hzo.out] at f12 f13 f14
            rw [← Hxo.out] at f5
            rw [← Hyo.out] at f6
            rw [← Hzo.out] at f7
            obtain ⟨ko, hko⟩ : ∃ z, z = Plain.core (Plain.red ws) := ⟨_, rfl⟩
            have Hko := Lib.hid hko
            clear hko
            obtain ⟨jo, hjo⟩ : ∃ z, z = Plain.by_ (Plain.red ws) := ⟨_, rfl⟩
            have Hjo := Lib.hid hjo
            clear hjo
            have hkb := (wicks_made HW.out Hso.out.symm).2.2.2.2.1
            rw [← Hkk.out] at hkb
            rw [← Hko.out] at f1 f2 f3 f4 f12 f14 hkb
            have htl := Nat.le_of_eq (turn_length ko kk)
            obtain ⟨tz, htz⟩ : ∃ z, z = turn ko kk := ⟨_, rfl⟩
            rw [← htz] at f3 f12 htl
            clear htz
            have hf1 := Plain.red_length (xo ++ yo)
            have hf2 := Plain.red_length (zo ++ Plain.inv xo)
            have hil : (Plain.inv xo).length ≤ xo.length := Nat.le_of_eq (Plain.inv_length _)
            rw [List.length_append] at hf1 hf2
            have g1 := letters_in64 (f5.append f6).red
            have g2 := letters_in64 (f7.append f5.inv).red
            have g3 := letters_in64 f5.inv
            obtain ⟨fo, hfo⟩ : ∃ z, z = Plain.red (xo ++ yo) := ⟨_, rfl⟩
            rw [← hfo] at f8 f12 f13 hf1 g1
            clear hfo
            obtain ⟨gz, hgo⟩ : ∃ z, z = Plain.red (zo ++ Plain.inv xo) := ⟨_, rfl⟩
            rw [← hgo] at f10 f12 f13 hf2 g2
            clear hgo
            obtain ⟨io, hio⟩ : ∃ z, z = Plain.inv xo := ⟨_, rfl⟩
            rw [← hio] at f10 f11 hf2 hil g3
            have Hio := Lib.hid hio
            clear hio
            have F3 := Lib.hid f3
            have F4 := Lib.hid f4
            have F5 := Lib.hid f5
            have F8 := Lib.hid f8
            have F9 := Lib.hid f9
            have F10 := Lib.hid f10
            have F11 := Lib.hid f11
            have F12 := Lib.hid f12
            have F13 := Lib.hid f13
            have x64 := Lib.hid (letters_in64 f5)
            have y64 := Lib.hid (letters_in64 f6)
            have z64 := Lib.hid (letters_in64 f7)
            have k64 := Lib.hid (letters_in64 f2)
            have fo64 := Lib.hid g1
            have go64 := Lib.hid g2
            have io64 := Lib.hid g3
            have f15 := Nat.le_of_eq f14
            have f16 := Nat.le_of_eq f14.symm
            clear f14
            clear f2 f3 f4 f5 f6 f7 f8 f9 f10 f11 f12 f13 g1 g2 g3
            go_wp2_with fail
            refine (implCoreOf_any wa wc ws _ (St.get S30 (by repeat (first | exact List.mem_cons_self | apply List.mem_cons_of_mem))) w64 (by omega)).mono ?_
            rw [ifWord_yes HW.out, ifWord_yes HW.out, HW.out, ← Hko.out, ← Hjo.out]
            rintro e w31 ⟨pa, pc, qa, qc, rfl, hi1, -, hc1, hi2, -, hc2, -, hb⟩
            have S31 := Lib.hid (((S30.out.on hb).add hi1).add hi2)
            have B31 := Lib.hid (B30.out.trans (hb.mono B30.out.size))
            clear B30
            have pC := Lib.hid hc1
            have qC := Lib.hid hc2
            clear hi1 hc1 hi2 hc2 hb S30
            go_wp2_with fail
            refine (implTurnW_any pa pc ko (kk : Int) _ (St.get S31 (by repeat (first | exact List.mem_cons_self | apply List.mem_cons_of_mem))) pC k64 (by omega) ⟨by omega, by omega⟩).mono ?_
            rw [F3.out, F4.out]
            rintro e w32 ⟨v1, rfl, hr1, hb⟩
            obtain ⟨ra, rc, rfl, hi1, -, hc1⟩ := hr1
            have S32 := Lib.hid ((S31.out.on hb).add hi1)
            have B32 := Lib.hid (B31.out.trans (hb.mono B31.out.size))
            clear B31
            clear hi1 hc1 hb S31
            go_wp2_with fail
            refine (implJoinW_any xa ya xc yc xo yo _ (St.get S32 (by repeat (first | exact List.mem_cons_self | apply List.mem_cons_of_mem))) xC x64 (St.get S32 (by repeat (first | exact List.mem_cons_self | apply List.mem_cons_of_mem))) yC y64 (by omega) (by omega)).mono ?_
            rw [F8.out, F9.out]
            rintro e w33 ⟨v1, rfl, hr1, hb⟩
            obtain ⟨sa, sc, rfl, hi1, -, hc1⟩ := hr1
            have S33 := Lib.hid ((S32.out.on hb).add hi1)
            have B33 := Lib.hid (B32.out.trans (hb.mono B32.out.size))
            clear B32
            have sC := Lib.hid hc1
            clear hi1 hc1 hb S32
            go_wp2_with fail
            refine (rInverse_any xa xc xo _ (St.get S33 (by repeat (first | exact List.mem_cons_self | apply List.mem_cons_of_mem))) F5 (by omega)).mono ?_
            rw [← Hio.out]
            rintro e w34 ⟨v1, rfl, hcol⟩
            obtain ⟨⟨ia, ic, rfl, hi1, -, hc1⟩, hb⟩ := coll_res hcol
            have S34 := Lib.hid ((S33.out.on hb).add hi1)
            have B34 := Lib.hid (B33.out.trans (hb.mono B33.out.size))
            clear B33
            have iC := Lib.hid hc1
            clear hi1 hc1 hb hcol S33
            go_wp2_with fail
            refine (implJoinW_any za ia zc ic zo io _ (St.get S34 (by repeat (first | exact List.mem_cons_self | apply List.mem_cons_of_mem))) zC z64 (St.get S34 (by repeat (first | exact List.mem_cons_self | apply List.mem_cons_of_mem))) iC io64 (by omega) (by omega)).mono ?_
            rw [F10.out, F11.out]
            rintro e w35 ⟨v1, rfl, hr1, hb⟩
            obtain ⟨ja, jc, rfl, hi1, -, hc1⟩ := hr1
            have S35 := Lib.hid ((S34.out.on hb).add hi1)
            have B35 := Lib.hid (B34.out.trans (hb.mono B34.out.size))
            clear B34
            have jC := Lib.hid hc1
            clear hi1 hc1 hb S34
            go_wp2_with fail
            refine (implCommutatorOf_any sa ja sc jc fo gz _ (St.get S35 (by repeat (first | exact List.mem_cons_self | apply List.mem_cons_of_mem))) sC fo64 (St.get S35 (by repeat (first | exact List.mem_cons_self | apply List.mem_cons_of_mem))) jC go64 (by omega) (by omega)).mono ?_
            rw [F12.out, F13.out]
            rintro e w36 ⟨v1, rfl, hr1, hb⟩
            obtain ⟨ka, kc, rfl, hi1, -, hc1⟩ := hr1
            have S36 := Lib.hid ((S35.out.on hb).add hi1)
            have B36 := Lib.hid (B35.out.trans (hb.mono B35.out.size))
            clear B35
            clear hi1 hc1 hb S35
            have hsum : (2 * ((xo.length : Int) + (yo.length : Int) + (zo.length : Int))) = (ko.length : Int) := by omega
            go_wp2_with fail
            refine (rInts_any ka ra kc rc tz tz _ (St.get S36 (by repeat (first | exact List.mem_cons_self | apply List.mem_cons_of_mem))) (St.get S36 (by repeat (first | exact List.mem_cons_self | apply List.mem_cons_of_mem))) (by omega)).mono ?_
            intro e w37 he
            obtain ⟨rfl, hb⟩ := eqr he
            have S37 := Lib.hid (S36.out.on hb)
            have B37 := Lib.hid (B36.out.trans (hb.mono B36.out.size))
            clear B36
            clear he hb S36
            go_wp2_with fail
            go_meet
            case rel => exact B37.out
        case rest =>
          obtain ⟨w31, rfl⟩ : ∃ z, z = wc := ⟨wc, rfl⟩
          have hcc := hcut
          clear hcut
          have S31 := Lib.hid (S30.out.on hcc)
          clear hcc S30
          cases ok with
          | false =>
            go_wp2_with fail
            go_ret
            exact ⟨rfl, S31.out.2.1⟩
          | true =>
            obtain ⟨o1, o2, o3, o4⟩ := ok_facts Hok.out.symm
            rw [← Hco.out] at o1 o2 o3
            have O1 := Lib.hid o1
            have O3 := Lib.hid o3
            have O4 := Lib.hid o4
            have hnol : (Plain.inv co).length ≤ co.length := Nat.le_of_eq (Plain.inv_length _)
            obtain ⟨no, hno⟩ : ∃ z, z = Plain.inv co := ⟨_, rfl⟩
            rw [← hno] at O3 hnol
            have Hno := Lib.hid hno
            clear o1 o3 o4 hno
            go_wp2_with fail
            refine (implCommutatorOf_any va ua vc uc vs us _ (St.get S31 (by repeat (first | exact List.mem_cons_self | apply List.mem_cons_of_mem))) vC v64 (St.get S31 (by repeat (first | exact List.mem_cons_self | apply List.mem_cons_of_mem))) uC u64 (by omega) (by omega)).mono ?_
            rw [O3.out, O4.out]
            rintro e w32 ⟨v1, rfl, hr1, hb⟩
            obtain ⟨aaa, aac, rfl, hi1, -, hc1⟩ := hr1
            have S32 := Lib.hid ((S31.out.on hb).add hi1)
            clear hi1 hc1 hb S31
            go_wp2_with fail
            refine (rInverse_any ca cc co _ (St.get S32 (by repeat (first | exact List.mem_cons_self | apply List.mem_cons_of_mem))) O1 (by omega)).mono ?_
            rw [← Hno.out]
            rintro e w33 ⟨v1, rfl, hcol⟩
            obtain ⟨⟨bba, bbc, rfl, hi1, -, hc1⟩, hb⟩ := coll_res hcol
            have S33 := Lib.hid ((S32.out.on hb).add hi1)
            clear hi1 hc1 hb hcol S32
            go_wp2_with fail
            refine (rInts_any aaa bba aac bbc no no _ (St.get S33 (by repeat (first | exact List.mem_cons_self | apply List.mem_cons_of_mem))) (St.get S33 (by repeat (first | exact List.mem_cons_self | apply List.mem_cons_of_mem))) (by omega)).mono ?_
            intro e w34 he
            obtain ⟨rfl, hb⟩ := eqr he
            have S34 := Lib.hid (S33.out.on hb)
            clear he hb S33
            go_wp2_with fail
            go_ret
            exact ⟨rfl, S34.out.2.1⟩

end Go.Proofs.YtmcbaejgimopmaaGreat
