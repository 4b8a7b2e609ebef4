/- The walk of laws.FnTurns: it returns true and leaves its argument as it was. Condition: the code's bytes lie in memory. -/
import Derived.Test.YtoikehpnpealpaaTurnsFacts
import Derived.Test.YtoikehpnpealpaaDrawTurns
import Derived.Test.YtoikehpnpealpaaSt
import Derived.Test.YtoikehpnpealpaaConjWalks
import Derived.Test.YtoikehpnpealpaaConjKit
import Derived.Test.YtoikehpnpealpaaLessWWalks
namespace Go.Proofs.Ytoikehpnpealpaa
open Go.ChangeShapes Go.WideShapes Go.ChangeAt Go.RowKit
set_option linter.unusedVariables false

set_option maxRecDepth 100000 in
set_option maxHeartbeats 8000000 in
theorem fnTurns_walk (a0 : Option Addr) (len0 cap0 : Nat) (w : World) (C0 : Hid (Code8 w a0 len0)) (hlen : len0 ≤ 9223372036854775807) :
    Calls Try.prog 3 #[.slice a0 len0 cap0] w fun e w' => e = .returned (.bool true) ∧ Below w.heap.size w w' := by
  obtain ⟨i0, hi0, hz0, hz1, hz2⟩ := info_parts infoInt
  by_cases hbig : 65536 < len0
  · go_enter Try.func3, Try.ntmps3
    go_wp2_with fail
    refine (rBig_any a0 len0 cap0 _ hlen).mono ?_
    rintro e w' ⟨rfl, rfl⟩
    rw [decide_eq_true hbig]
    go_wp2_with fail
    go_ret
    exact ⟨rfl, Below.refl _ _⟩
  · have S0 : Hid (St w w a0 len0 []) := Lib.hid ⟨C0.out, Below.refl _ _, fun p hp => by simp at hp⟩
    go_enter Try.func3, Try.ntmps3
    go_wp2_with fail
    refine (rBig_any a0 len0 cap0 _ hlen).mono ?_
    rintro e w' ⟨rfl, rfl⟩
    rw [decide_eq_false hbig]
    go_wp2_with fail
    refine (drawCoreOf_any a0 len0 cap0 _ (Lib.hid S0.out.1)).mono ?_
    rintro e w1 ⟨v1, ws, rfl, h1, hwl, hr1, hb⟩
    obtain ⟨wa, wc, rfl, hi1, -, hc1⟩ := hr1
    have S1 := Lib.hid (((S0.out.on hb).add hi1))
    have w64 := Lib.hid h1
    have wC := Lib.hid hc1
    clear h1 hi1 hc1
    clear hb S0
    obtain ⟨co, hco⟩ : ∃ z, z = ifWord ws (Plain.core (Plain.red ws)) := ⟨_, rfl⟩
    have Hco := Lib.hid hco
    clear hco
    obtain ⟨bo, hbo⟩ : ∃ z, z = ifWord ws (Plain.by_ (Plain.red ws)) := ⟨_, rfl⟩
    have Hbo := Lib.hid hbo
    clear hbo
    obtain ⟨ok, hok⟩ : ∃ z, z = Plain.wordB ws := ⟨_, rfl⟩
    have Hok := Lib.hid hok
    clear hok
    have hcl : co.length ≤ 100 := by rw [Hco.out]; exact ifWord_le (Nat.le_trans (core_small _) (Nat.le_trans (Plain.red_length ws) hwl))
    have hbl : bo.length ≤ 100 := by rw [Hbo.out]; exact ifWord_le (Nat.le_trans (by_small _) (Nat.le_trans (Plain.red_length ws) hwl))
    go_wp2_with fail
    refine (implCoreOf_any wa wc ws _ (St.get S1 (by simp)) w64 (by omega)).mono ?_
    rw [← Hco.out, ← Hbo.out, ← Hok.out]
    rintro e w2 ⟨ca, cc, ba, bc, rfl, hi1, -, hc1, hi2, -, hc2, -, hb⟩
    have S2 := Lib.hid (((S1.out.on hb).add hi1).add hi2)
    have cC := Lib.hid hc1
    have bC := Lib.hid hc2
    clear hi1 hc1 hi2 hc2 hb S1
    go_wp2_with fail
    refine (specCoreOf_any wa wc ws _ (St.get S2 (by simp)) w64 (by omega)).mono ?_
    rw [← Hco.out, ← Hbo.out, ← Hok.out]
    rintro e w3 ⟨da, dc, ea, ec, rfl, hi1, -, hc1, hi2, -, hc2, -, hb⟩
    have S3 := Lib.hid (((S2.out.on hb).add hi1).add hi2)
    clear hi1 hc1 hi2 hc2 hb S2
    go_wp2_with fail
    refine (isWord_any wa wc ws _ (St.get S3 (by simp)) w64 (by omega)).mono ?_
    rw [← Hok.out]
    rintro e w' ⟨rfl, rfl⟩
    go_wp2_with fail
    refine (rInts_any ca da cc dc co co _ (St.get S3 (by simp)) (St.get S3 (by simp)) (by omega)).mono ?_
    intro e w4 he
    obtain ⟨rfl, hb⟩ := eqr he
    have S4 := Lib.hid (S3.out.on hb)
    clear he hb S3
    go_wp2_with fail
    refine (rInts_any ba ea bc ec bo bo _ (St.get S4 (by simp)) (St.get S4 (by simp)) (by omega)).mono ?_
    intro e w5 he
    obtain ⟨rfl, hb⟩ := eqr he
    have S5 := Lib.hid (S4.out.on hb)
    clear he hb S4
    obtain ⟨lo, hlo⟩ : ∃ z, z = ifWord ws (leastOf ws) := ⟨_, rfl⟩
    have Hlo := Lib.hid hlo
    clear hlo
    have hll : lo.length ≤ 100 := by rw [Hlo.out]; exact ifWord_le (Nat.le_trans (leastOf_le ws) hwl)
    go_wp2_with fail
    refine (implLeastTurn_any wa wc ws _ (St.get S5 (by simp)) w64 (by omega)).mono ?_
    rw [← Hlo.out, ← Hok.out]
    rintro e w6 ⟨v1, rfl, hr1, hb⟩
    obtain ⟨la, lc, rfl, hi1, -, hc1⟩ := hr1
    have S6 := Lib.hid ((S5.out.on hb).add hi1)
    clear hi1 hc1 hb S5
    go_wp2_with fail
    refine (specLeastTurn_any wa wc ws _ (St.get S6 (by simp)) w64 (by omega)).mono ?_
    rw [← Hlo.out, ← Hok.out]
    rintro e w7 ⟨v1, rfl, hr1, hb⟩
    obtain ⟨ma, mc, rfl, hi1, -, hc1⟩ := hr1
    have S7 := Lib.hid ((S6.out.on hb).add hi1)
    clear hi1 hc1 hb S6
    go_wp2_with fail
    refine (rInts_any la ma lc mc lo lo _ (St.get S7 (by simp)) (St.get S7 (by simp)) (by omega)).mono ?_
    intro e w8 he
    obtain ⟨rfl, hb⟩ := eqr he
    have S8 := Lib.hid (S7.out.on hb)
    clear he hb S7
    go_wp2_with fail
    refine (drawConjW_any a0 len0 cap0 _ (Lib.hid S8.out.1)).mono ?_
    rintro e w9 ⟨v1, v2, ps, qs, rfl, h1, hpl, h2, hql, hr1, hr2, hb⟩
    obtain ⟨pa, pc, rfl, hi1, -, hc1⟩ := hr1
    obtain ⟨qa, qc, rfl, hi2, -, hc2⟩ := hr2
    have S9 := Lib.hid ((((S8.out.on hb).add hi1).add hi2))
    have p64 := Lib.hid h1
    have pC := Lib.hid hc1
    clear h1 hi1 hc1
    have q64 := Lib.hid h2
    have qC := Lib.hid hc2
    clear h2 hi2 hc2
    clear hb S8
    obtain ⟨jo, hjo⟩ : ∃ z, z = prodOut ps qs (ps ++ (qs ++ Plain.inv ps)) := ⟨_, rfl⟩
    have Hjo := Lib.hid hjo
    clear hjo
    obtain ⟨jb, hjb⟩ : ∃ z, z = prodOk ps qs (ps ++ (qs ++ Plain.inv ps)) := ⟨_, rfl⟩
    have Hjb := Lib.hid hjb
    clear hjb
    have hjl : jo.length ≤ 1048576 := by rw [Hjo.out]; exact prod_le _ _ _
    go_wp2_with fail
    refine (implConj_any pa qa pc qc ps qs _ (St.get S9 (by simp)) pC p64 (St.get S9 (by simp)) qC q64 (by omega) (by omega)).mono ?_
    rw [← Hjo.out, ← Hjb.out]
    rintro e w10 ⟨v1, rfl, hr1, hb⟩
    obtain ⟨ja, jc, rfl, hi1, -, hc1⟩ := hr1
    have S10 := Lib.hid ((S9.out.on hb).add hi1)
    clear hi1 hc1 hb S9
    go_wp2_with fail
    refine (specConj_any pa qa pc qc ps qs _ (St.get S10 (by simp)) pC p64 (St.get S10 (by simp)) qC q64 (by omega) (by omega)).mono ?_
    rw [← Hjo.out, ← Hjb.out]
    rintro e w11 ⟨v1, rfl, hr1, hb⟩
    obtain ⟨ka, kc, rfl, hi1, -, hc1⟩ := hr1
    have S11 := Lib.hid ((S10.out.on hb).add hi1)
    clear hi1 hc1 hb S10
    go_wp2_with fail
    refine (rInts_any ja ka jc kc jo jo _ (St.get S11 (by simp)) (St.get S11 (by simp)) (by omega)).mono ?_
    intro e w12 he
    obtain ⟨rfl, hb⟩ := eqr he
    have S12 := Lib.hid (S11.out.on hb)
    clear he hb S11
    go_wp2_with fail
    refine (drawTurn_any a0 len0 cap0 _ (Lib.hid S12.out.1)).mono ?_
    rintro e w13 ⟨v1, ts, tn, rfl, h1, htl, hn0, hn1, hr1, hb⟩
    obtain ⟨ta, tc, rfl, hi1, -, hc1⟩ := hr1
    have S13 := Lib.hid (((S12.out.on hb).add hi1))
    have t64 := Lib.hid h1
    have tC := Lib.hid hc1
    clear h1 hi1 hc1
    clear hb S12
    obtain ⟨ro, hro⟩ : ∃ z, z = turnOut ts tn := ⟨_, rfl⟩
    have Hro := Lib.hid hro
    clear hro
    obtain ⟨tb, htb⟩ : ∃ z, z = turnB ts tn := ⟨_, rfl⟩
    have Htb := Lib.hid htb
    clear htb
    have hrl : ro.length ≤ 100 := by rw [Hro.out]; exact Nat.le_trans (turnOut_le _ _) htl
    go_wp2_with fail
    refine (implTurnW_any ta tc ts tn _ (St.get S13 (by simp)) tC t64 (by omega) ⟨by omega, by omega⟩).mono ?_
    rw [← Hro.out, ← Htb.out]
    rintro e w14 ⟨v1, rfl, hr1, hb⟩
    obtain ⟨ra, rc, rfl, hi1, -, hc1⟩ := hr1
    have S14 := Lib.hid ((S13.out.on hb).add hi1)
    clear hi1 hc1 hb S13
    go_wp2_with fail
    refine (specTurnW_any ta tc ts tn _ (St.get S14 (by simp)) tC t64 (by omega) ⟨by omega, by omega⟩).mono ?_
    rw [← Hro.out, ← Htb.out]
    rintro e w15 ⟨v1, rfl, hr1, hb⟩
    obtain ⟨sa, sc, rfl, hi1, -, hc1⟩ := hr1
    have S15 := Lib.hid ((S14.out.on hb).add hi1)
    clear hi1 hc1 hb S14
    go_wp2_with fail
    refine (rInts_any ra sa rc sc ro ro _ (St.get S15 (by simp)) (St.get S15 (by simp)) (by omega)).mono ?_
    intro e w16 he
    obtain ⟨rfl, hb⟩ := eqr he
    have S16 := Lib.hid (S15.out.on hb)
    clear he hb S15
    go_wp2_with fail
    refine (drawAre_any a0 len0 cap0 _ (Lib.hid S16.out.1)).mono ?_
    rintro e w17 ⟨v1, v2, us, vs, rfl, h1, hul, h2, hvl, hr1, hr2, hb⟩
    obtain ⟨ua, uc, rfl, hi1, -, hc1⟩ := hr1
    obtain ⟨va, vc, rfl, hi2, -, hc2⟩ := hr2
    have S17 := Lib.hid ((((S16.out.on hb).add hi1).add hi2))
    have u64 := Lib.hid h1
    have uC := Lib.hid hc1
    clear h1 hi1 hc1
    have v64 := Lib.hid h2
    have vC := Lib.hid hc2
    clear h2 hi2 hc2
    clear hb S16
    obtain ⟨ab, hab⟩ : ∃ z, z = conjB us vs := ⟨_, rfl⟩
    have Hab := Lib.hid hab
    clear hab
    obtain ⟨wb, hwb⟩ : ∃ z, z = wordsB us vs := ⟨_, rfl⟩
    have Hwb := Lib.hid hwb
    clear hwb
    go_wp2_with fail
    refine (implConjugate_any ua va uc vc us vs _ (St.get S17 (by simp)) u64 (St.get S17 (by simp)) v64 (by omega) (by omega)).mono ?_
    rw [← Hab.out, ← Hwb.out]
    rintro e w18 ⟨rfl, hb⟩
    have S18 := Lib.hid (S17.out.on hb)
    clear hb S17
    go_wp2_with fail
    refine (specConjugate_any ua va uc vc us vs _ (St.get S18 (by simp)) u64 (St.get S18 (by simp)) v64 (by omega) (by omega)).mono ?_
    rw [← Hab.out, ← Hwb.out]
    rintro e w19 ⟨rfl, hb⟩
    have S19 := Lib.hid (S18.out.on hb)
    clear hb S18
    go_upto_if 182 with fail
    go_cut [] from 182 to 194 (fun wx => Below w19.heap.size w19 wx)
    case first =>
      cases jb with
      | false =>
        go_wp2_with fail
        go_meet
        case rel => exact Below.refl _ _
      | true =>
        obtain ⟨f1, f2, f3⟩ := conj_facts Hjb.out.symm
        rw [← Hjo.out] at f1 f2 f3
        have G1 := Lib.hid f1
        have G2 := Lib.hid f2
        have G3 := Lib.hid f3
        clear f1 f2 f3
        go_wp2_with fail
        refine (implConjugate_any ja qa jc qc jo qs _ (St.get S19 (by simp)) G1 (St.get S19 (by simp)) q64 (by omega) (by omega)).mono ?_
        rw [G2.out, G3.out]
        rintro e wx ⟨rfl, hb⟩
        have HB := Lib.hid hb
        clear hb
        go_wp2_with fail
        go_meet
        case rel => exact HB.out
    case rest =>
      obtain ⟨w20, rfl⟩ : ∃ z, z = wc := ⟨wc, rfl⟩
      have hcc := hcut
      clear hcut
      have S20 := Lib.hid (S19.out.on hcc)
      clear hcc S19
      obtain ⟨b2, hb2⟩ : ∃ z, z = (tb && decide (0 < ts.length)) := ⟨_, rfl⟩
      have Hb2 := Lib.hid hb2
      clear hb2
      go_upto_region 31 with fail
      go_cut [200] from 195 to 199 (fun s wx => s = .bool b2 ∧ wx = w20)
      case first =>
        cases tb with
        | false =>
          go_wp2_with fail
          go_meet
          case rel => exact ⟨by rw [Hb2.out]; rfl, rfl⟩
        | true =>
          by_cases h0 : 0 < ts.length
          · have hi0 : (0 : Int) < (ts.length : Int) := by omega
            go_wp2_with fail
            go_meet
            case rel => exact ⟨by rw [Hb2.out]; simp [h0], rfl⟩
          · have hi0 : ¬ (0 : Int) < (ts.length : Int) := by omega
            go_wp2_with fail
            go_meet
            case rel => exact ⟨by rw [Hb2.out]; simp [h0], rfl⟩
      case rest =>
        obtain ⟨rfl, hwc⟩ := hcut
        have hwc2 := hwc.symm
        clear hwc
        subst hwc2
        go_upto_if 200 with fail
        go_cut [] from 200 to 227 (fun wx => Below w20.heap.size w20 wx)
        case first =>
          cases b2 with
          | false =>
            go_wp2_with fail
            go_meet
            case rel => exact Below.refl _ _
          | true =>
            have hbb := Hb2.out.symm
            simp only [Bool.and_eq_true, decide_eq_true_eq] at hbb
            obtain ⟨hbt, hpos⟩ := hbb
            obtain ⟨k, rfl, hk, f1, f2, f3, f4, f5⟩ := turn_facts (Htb.out.symm.trans hbt) hpos
            rw [← f1, ← Hro.out] at f2 f3 f4 f5
            have hro := turn_length ts k
            rw [← f1, ← Hro.out] at hro
            obtain ⟨x, hx⟩ := at_some ts k hk
            rw [hx] at f5
            obtain ⟨b1, o1, e1, hc1⟩ := (St.get S20 (a := ra) (xs := ro) (by simp)).out 0 x f5
            rw [Nat.add_zero] at hc1
            obtain ⟨b2, o2, e2, hc2⟩ := (St.get S20 (a := ta) (xs := ts) (by simp)).out k x hx
            have G2 := Lib.hid f2
            have G3 := Lib.hid f3
            have G4 := Lib.hid f4
            have IR := St.get S20 (a := ra) (xs := ro) (by simp)
            have IT := St.get S20 (a := ta) (xs := ts) (by simp)
            subst e1
            subst e2
            have hne1 : ((ro.length : Int) != (ts.length : Int)) = false := by rw [hro]; simp
            have hne2 : ((ro.length : Int) == (ts.length : Int)) = true := by rw [hro]; simp
            have hi1 : (0 : Int) < (ro.length : Int) := by omega
            have hi2 : (k : Int) < (ts.length : Int) := by omega
            have hi3 : (0 : Int) ≤ (k : Int) := by omega
            have hrp : 0 < ro.length := by omega
            clear f1 f2 f3 f4 f5 hx hro hbt Hb2
            go_wp2_with fail
            go_quiet (fail)
            go_wp2_with fail
            refine (implConjugate_any _ _ _ _ ro ts _ (Lib.hid (IR.out.drewN _)) G2 (Lib.hid (IT.out.drewN _)) t64 (by omega) (by omega)).mono ?_
            rw [G3.out, G4.out]
            rintro e wx ⟨rfl, hb⟩
            have HB : Hid (Below w20.heap.size w20 wx) := Lib.hid ((below_drewN (Below.refl _ _) _).trans hb)
            clear hb
            go_wp2_with fail
            go_meet
            case rel => exact HB.out
        case rest =>
          obtain ⟨w21, rfl⟩ : ∃ z, z = wc := ⟨wc, rfl⟩
          have hcc := hcut
          clear hcut
          have S21 := Lib.hid (S20.out.on hcc)
          clear hcc S20
          cases ok with
          | false =>
            go_wp2
            go_ret
            exact ⟨rfl, S21.out.2.1⟩
          | true =>
            have HW := Lib.hid (Hok.out.symm)
            obtain ⟨f1, f2, f3, f4, f5, f6, f7, f8, f9⟩ := core_facts HW.out
            have HF : Hid (∀ i : Nat, i < co.length → _) := Lib.hid (fun i (hi : i < co.length) => least_facts HW.out (by rw [← Hco.out]; exact hi))
            have G1 : Hid (lo = leastOf ws) := Lib.hid (Hlo.out.trans f1)
            rw [← G1.out] at f2 f9
            rw [← Hco.out] at f2 f3 f5 f6 f7
            rw [← Hbo.out] at f4 f6
            have hF : ∀ i : Nat, i < co.length → turnOut co (i : Int) = turn co i ∧ turnB co (i : Int) = true ∧ In64 (turn co i) ∧ lessWB (turn co i) lo = false ∧ pairB (turn co i) lo = true := fun i hi => by have := HF.out i hi; rw [← Hco.out, ← G1.out] at this; exact this
            have HF2 := Lib.hid hF
            clear hF HF
            have G2 := Lib.hid f2
            have G3 := Lib.hid f3
            have G4 := Lib.hid f4
            have G6 := Lib.hid f6
            have G7 := Lib.hid f7
            have G8 := Lib.hid f8
            have c64 := Lib.hid (letters_in64 f3)
            have l64 := Lib.hid (letters_in64 (Plain.wordB_iff.1 f9).2)
            clear f1 f2 f3 f4 f5 f6 f7 f8 f9
            have hne1 : ((lo.length : Int) != (co.length : Int)) = false := by rw [G2.out]; simp
            have hne2 : ((lo.length : Int) == (co.length : Int)) = true := by rw [G2.out]; simp
            go_upto_region 39 with fail
            go_cut [252] from 230 to 251 (fun s wx => s = .bool false ∧ Below w21.heap.size w21 wx)
            case first =>
              by_cases h1 : 1 < co.length
              · obtain ⟨x, y, hx, hy, hx2, hy2⟩ := ends_at h1
                have hxy := G7.out x y hx2 hy2
                obtain ⟨hy0, hy1, hy3⟩ := G3.out.at hy
                obtain ⟨b1, o1, e1, hc1⟩ := (St.get S21 (a := ca) (xs := co) (by simp)).out 0 x hx
                rw [Nat.add_zero] at hc1
                obtain ⟨b2, o2, e2, hc2⟩ := (St.get S21 (a := ca) (xs := co) (by simp)).out _ y hy
                subst e1
                simp only [Option.some.injEq, Addr.mk.injEq, and_true] at e2
                obtain ⟨rfl, rfl⟩ := e2
                have hq : (x == -y) = false := by simpa using hxy
                have hi1 : (1 : Int) < (co.length : Int) := by omega
                have hi2 : (0 : Int) < (co.length : Int) := by omega
                have hi3 : (0 : Int) ≤ (co.length : Int) - 1 := by omega
                have hi4 : (co.length : Int) - 1 < (co.length : Int) := by omega
                have ht : ((co.length : Int) - 1).toNat = co.length - 1 := by omega
                have hp : 0 < co.length := by omega
                clear hx hy hx2 hy2 hxy
                go_wp2_with fail
                go_quiet (fail)
                go_wp2_with fail
                go_meet
                case rel => exact ⟨rfl, below_drewN (Below.refl _ _) _⟩
              · have hi1 : ¬ (1 : Int) < (co.length : Int) := by omega
                have hd : decide ((1 : Int) < (co.length : Int)) = false := by simpa using hi1
                go_wp2_with fail
                go_quiet (fail)
                go_wp2_with fail
                go_meet
                case rel => exact ⟨rfl, below_drewN (Below.refl _ _) _⟩
            case rest =>
              obtain ⟨rfl, hcc⟩ := hcut
              obtain ⟨w22, rfl⟩ : ∃ z, z = wc := ⟨wc, rfl⟩
              have S22 := Lib.hid (S21.out.on hcc)
              clear hcc S21 hne1 hne2
              have HC := Lib.hid (coll_start w22)
              have HI := Lib.hid ((St.get S22 (by simp)).out.on HC.out.2.1 : Ints _ ba bo)
              go_wp2_with (at_builtin; refine wpList_append_ints rfl _ _ 24 i0 rfl Try.underlying24 hi0 hz0 hz1 hz2 w22.heap.size _ 0 [] rfl HC.out.1 ba bo.length bc bo rfl rfl HI.out bC.out (by omega) HC.out.2.2 ?_)
              intro v6 x60 hown hgrow _
              have HC2 := Lib.hid (coll_more HC.out rfl (by simpa using hown) hgrow)
              rw [List.nil_append] at HC2
              have HI2 := Lib.hid ((St.get S22 (by simp)).out.on HC2.out.2.1 : Ints _ ca co)
              clear hown hgrow
              go_wp2_with (at_builtin; refine wpList_append_ints rfl _ _ 24 i0 rfl Try.underlying24 hi0 hz0 hz1 hz2 w22.heap.size _ _ bo rfl HC2.out.1 ca co.length cc co rfl rfl HI2.out cC.out (by omega) HC2.out.2.2 ?_)
              intro v7 x61 hown hgrow _
              have HC3 := Lib.hid (coll_more HC2.out rfl hown hgrow)
              clear hown hgrow HC2 HI2 HI HC
              have HI3 := Lib.hid ((St.get S22 (by simp)).out.on HC3.out.2.1 : Ints _ ba bo)
              have hil : (Plain.inv bo).length ≤ 100 := by rw [Plain.inv_length]; exact hbl
              obtain ⟨io, hio⟩ : ∃ z, z = Plain.inv bo := ⟨_, rfl⟩
              have Hio := Lib.hid hio
              rw [← hio] at hil G6
              clear hio
              go_wp2_with fail
              refine (rInverse_any ba bc bo _ HI3 G4 (by omega)).mono ?_
              rw [← Hio.out]
              rintro e x62 ⟨v8, rfl, hcol⟩
              have HC4 := Lib.hid (HC3.out.later hcol.2.1)
              obtain ⟨fa, fc, rfl, hfi, -, hfc⟩ := (coll_res hcol).1
              have HI4 := Lib.hid hfi
              have fC := Lib.hid hfc
              clear hcol hfi hfc HC3 HI3
              go_wp2_with (at_builtin; refine wpList_append_ints rfl _ _ 24 i0 rfl Try.underlying24 hi0 hz0 hz1 hz2 w22.heap.size _ _ (bo ++ co) rfl HC4.out.1 fa io.length fc io rfl rfl HI4.out fC.out (by simp; omega) HC4.out.2.2 ?_)
              intro v9 x63 hown hgrow _
              have HC5 := Lib.hid (coll_more (ys := io) (m := io.length) HC4.out rfl (by simpa using hown) hgrow)
              clear hown hgrow HC4 HI4 fC
              obtain ⟨rd, hrd⟩ : ∃ z, z = Plain.red ws := ⟨_, rfl⟩
              rw [← hrd] at G6 G8
              have hrdl : rd.length ≤ 100 := by rw [hrd]; exact Nat.le_trans (Plain.red_length ws) hwl
              have Hrd := Lib.hid hrd
              clear hrd
              rw [G6.out] at HC5
              have T1 := Lib.hid (S22.out.on HC5.out.2.1)
              obtain ⟨xa, xc, rfl, hxi, -, -⟩ := (coll_res HC5.out).1
              have T2 := Lib.hid (T1.out.add hxi)
              clear hxi T1 HC5
              go_wp2_with fail
              refine (implReduce_any wa wc ws _ (St.get T2 (by simp)) w64 (by omega)).mono ?_
              rw [← Hrd.out, G8.out, HW.out]
              rintro e x64 ⟨v1, rfl, hr1, hb⟩
              obtain ⟨ya, yc, rfl, hi1, -, -⟩ := hr1
              have T3 := Lib.hid ((T2.out.on hb).add hi1)
              clear hi1 hb T2
              go_wp2_with fail
              refine (rInts_any xa ya xc yc rd rd _ (St.get T3 (by simp)) (St.get T3 (by simp)) (by omega)).mono ?_
              intro e x65 he
              obtain ⟨rfl, hb⟩ := eqr he
              have T4 := Lib.hid (T3.out.on hb)
              clear he hb T3
              go_wp2_with fail
              go_loopw [39] (fun i wr => ∃ k : Nat, k ≤ co.length ∧ i = .int .i64 k ∧ Below x65.heap.size x65 wr) (fun i _ => co.length - (intOf i).toNat)
              case atStart => exact ⟨0, Nat.zero_le _, rfl, Below.refl _ _⟩
              case round =>
                obtain ⟨k, hk, rfl, hrel⟩ := hrel
                have T5 := Lib.hid (T4.out.on hrel)
                have HB := Lib.hid hrel
                clear hrel
                by_cases hlt : k < co.length
                · obtain ⟨f1, f2, f3, f4, f5⟩ := HF2.out k hlt
                  have htl2 := turn_length co k
                  obtain ⟨tno, hto⟩ : ∃ z, z = turn co k := ⟨_, rfl⟩
                  rw [← hto] at f1 f3 f4 f5 htl2
                  have K1 := Lib.hid f1
                  have K2 := Lib.hid f2
                  have K3 := Lib.hid f3
                  have K4 := Lib.hid f4
                  have K5 := Lib.hid f5
                  have htl3 : tno.length ≤ 100 := by omega
                  clear f1 f2 f3 f4 f5 hto htl2
                  have hi : (k : Int) < (co.length : Int) := by omega
                  go_wp2_with fail
                  refine (implTurnW_any ca cc co (k : Int) _ (St.get T5 (by simp)) cC c64 (by omega) ⟨by omega, by omega⟩).mono ?_
                  rw [K1.out, K2.out]
                  rintro e x66 ⟨v1, rfl, hr1, hb⟩
                  obtain ⟨na, nc, rfl, hi1, -, -⟩ := hr1
                  have T6 := Lib.hid ((T5.out.on hb).add hi1)
                  have HB2 := Lib.hid (HB.out.trans (hb.mono HB.out.size))
                  clear hi1 hb T5 HB
                  go_wp2_with fail
                  refine (implLessW_any na la nc lc tno lo _ (St.get T6 (by simp)) K3 (St.get T6 (by simp)) l64 (by omega) (by omega)).mono ?_
                  rw [K4.out, K5.out]
                  rintro e x67 ⟨rfl, hb⟩
                  have HB3 := Lib.hid (HB2.out.trans (hb.mono HB2.out.size))
                  clear hb HB2 T6
                  go_wp2_with fail
                  go_roundw
                  case rel => exact ⟨k + 1, by omega, by go_num, HB3.out⟩
                  case measure => simp [intOf]; omega
                · have hi : ¬ (k : Int) < (co.length : Int) := by omega
                  go_wp2_with fail
                  go_ret
                  exact ⟨rfl, T5.out.2.1⟩

end Go.Proofs.Ytoikehpnpealpaa
