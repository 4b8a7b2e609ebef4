/- The walk of laws.FnOrders: it returns true and leaves its argument as it was. Condition: the code's bytes lie in memory. -/
import Derived.Test.YtnmjanhpjnlfcaaBdJoinWWalks
import Derived.Test.YtnmjanhpjnlfcaaBdOrdLast
import Derived.Test.YtnmjanhpjnlfcaaBdStK
import Derived.Test.YtnmjanhpjnlfcaaCommImpl
import Derived.Test.YtnmjanhpjnlfcaaConjKit
import Derived.Test.YtnmjanhpjnlfcaaCurW
import Derived.Test.YtnmjanhpjnlfcaaDrawOrd
import Derived.Test.YtnmjanhpjnlfcaaFour
import Derived.Test.YtnmjanhpjnlfcaaRInv
import Derived.Test.YtnmjanhpjnlfcaaWindPair
import Derived.Test.YtnmjanhpjnlfcaaWindSame
namespace Go.Proofs.Ytnmjanhpjnlfcaa
open Go.ChangeShapes Go.WideShapes Go.ChangeAt Go.RowKit
set_option linter.unusedVariables false

set_option maxRecDepth 100000 in
set_option maxHeartbeats 8000000 in
theorem fnOrders_walk (a0 : Option Addr) (len0 cap0 : Nat) (w : World) (C0 : Hid (Code8 w a0 len0)) (hlen : len0 ≤ 9223372036854775807) :
    Calls Try.prog 3 #[.slice a0 len0 cap0] w fun e w' => e = .returned (.bool true) ∧ Below w.heap.size w w' := by
  obtain ⟨i0, hi0, hz0, hz1, hz2⟩ := info_parts infoInt
  by_cases hbig : 65536 < len0
  · go_enter Try.func3, Try.ntmps3
    go_wp2_with fail
    refine (rBig_any a0 len0 cap0 _ hlen).mono ?_
    rintro e w' ⟨rfl, rfl⟩
    rw [decide_eq_true hbig]
    go_wp2_with fail
    go_ret
    exact ⟨rfl, Below.refl _ _⟩
  · have S0 : Hid (St w w a0 len0 []) := Lib.hid ⟨C0.out, Below.refl _ _, fun p hp => by simp at hp⟩
    go_enter Try.func3, Try.ntmps3
    go_wp2_with fail
    refine (rBig_any a0 len0 cap0 _ hlen).mono ?_
    rintro e w' ⟨rfl, rfl⟩
    rw [decide_eq_false hbig]
    go_wp2_with fail
    refine (drawOrderOf_any a0 len0 cap0 _ (Lib.hid S0.out.1)).mono ?_
    rintro e w1 ⟨v1, us, rfl, h1, hul, hr1, hb⟩
    obtain ⟨ua, uc, rfl, hi1, -, hc1⟩ := hr1
    have S1 := Lib.hid (((S0.out.on hb).add hi1))
    have u64 := Lib.hid h1
    have uC := Lib.hid hc1
    clear h1 hi1 hc1
    clear hb S0
    obtain ⟨oz, hoz⟩ : ∃ z, z = ordV us := ⟨_, rfl⟩
    have Hoz := Lib.hid hoz
    clear hoz
    obtain ⟨ok, hok⟩ : ∃ z, z = Plain.wordB us := ⟨_, rfl⟩
    have Hok := Lib.hid hok
    clear hok
    go_wp2_with fail
    refine (implOrderOf_any ua uc us _ (St.get S1 (by repeat (first | exact List.mem_cons_self | apply List.mem_cons_of_mem))) u64 (by omega)).mono ?_
    rw [← Hoz.out, ← Hok.out]
    rintro e w2 ⟨rfl, hb⟩
    have S2 := Lib.hid (S1.out.on hb)
    clear hb S1
    go_wp2_with fail
    refine (specOrderOf_any ua uc us _ (St.get S2 (by repeat (first | exact List.mem_cons_self | apply List.mem_cons_of_mem))) u64 (by omega)).mono ?_
    rw [← Hoz.out, ← Hok.out]
    rintro e w3 ⟨rfl, hb⟩
    have S3 := Lib.hid (S2.out.on hb)
    clear hb S2
    go_wp2_with fail
    refine (isWord_any ua uc us _ (St.get S3 (by repeat (first | exact List.mem_cons_self | apply List.mem_cons_of_mem))) u64 (by omega)).mono ?_
    rw [← Hok.out]
    rintro e w' ⟨rfl, rfl⟩
    obtain ⟨fl, hfl⟩ : ∃ z, z = fcL us := ⟨_, rfl⟩
    have Hfl := Lib.hid hfl
    clear hfl
    obtain ⟨fv, hfv⟩ : ∃ z, z = fcV us := ⟨_, rfl⟩
    have Hfv := Lib.hid hfv
    clear hfv
    obtain ⟨fb, hfb⟩ : ∃ z, z = fcB us := ⟨_, rfl⟩
    have Hfb := Lib.hid hfb
    clear hfb
    have hfll : fl.length ≤ 1048576 := by rw [Hfl.out]; exact fcL_len us
    go_wp2_with fail
    refine (implFirstCoefficient_any ua uc us _ (St.get S3 (by repeat (first | exact List.mem_cons_self | apply List.mem_cons_of_mem))) u64 (by omega)).mono ?_
    rw [← Hfl.out, ← Hfv.out, ← Hfb.out]
    rintro e w4 ⟨v1, rfl, hr1, hb⟩
    obtain ⟨ia, ic, rfl, hi1, -, hc1⟩ := hr1
    have S4 := Lib.hid ((S3.out.on hb).add hi1)
    have iC := Lib.hid hc1
    clear hi1 hc1 hb S3
    go_wp2_with fail
    refine (specFirstCoefficient_any ua uc us _ (St.get S4 (by repeat (first | exact List.mem_cons_self | apply List.mem_cons_of_mem))) u64 (by omega)).mono ?_
    rw [← Hfl.out, ← Hfv.out, ← Hfb.out]
    rintro e w5 ⟨v1, rfl, hr1, hb⟩
    obtain ⟨ja, jc, rfl, hi1, -, hc1⟩ := hr1
    have S5 := Lib.hid ((S4.out.on hb).add hi1)
    clear hi1 hc1 hb S4
    go_upto_region 10 with fail
    go_cut [123] from 84 to 122 (fun s wx => s = .bool false ∧ Below w5.heap.size w5 wx)
    case first =>
      cases ok with
      | false =>
        obtain rfl : fb = false := by rw [Hfb.out]; exact (fc_none (fcQ_no Hok.out.symm)).2.2
        go_wp2_with fail
        refine (rInts_any ia ja ic jc fl fl _ (St.get S5 (by repeat (first | exact List.mem_cons_self | apply List.mem_cons_of_mem))) (St.get S5 (by repeat (first | exact List.mem_cons_self | apply List.mem_cons_of_mem))) (by omega)).mono ?_
        intro e wx he
        obtain ⟨rfl, hb⟩ := eqr he
        have HB := Lib.hid hb
        clear he hb
        go_wp2_with fail
        go_meet
        case rel => exact ⟨rfl, HB.out⟩
      | true =>
        obtain ⟨f1, f2⟩ := fc_fact Hok.out.symm
        rw [← Hfb.out] at f1 f2
        rw [← Hfl.out, ← Hfv.out] at f2
        have hoz := Hoz.out
        rw [ord_yes Hok.out.symm] at hoz
        have hK := (ordN_le (Plain.wordB_iff.1 Hok.out.symm).2).2
        obtain ⟨K, eK⟩ : ∃ K, K = ordN us := ⟨_, rfl⟩
        rw [← eK] at f1 f2 hoz hK
        clear eK
        have hKs : K = 0 ∨ K = 1 ∨ K = 2 ∨ K = 3 ∨ K = 4 := by omega
        rcases hKs with rfl | rfl | rfl | rfl | rfl
        · obtain rfl : fb = false := by rw [f1]; rfl
          obtain rfl : oz = 0 := hoz
          clear f1 f2
          go_wp2_with fail
          refine (rInts_any ia ja ic jc fl fl _ (St.get S5 (by repeat (first | exact List.mem_cons_self | apply List.mem_cons_of_mem))) (St.get S5 (by repeat (first | exact List.mem_cons_self | apply List.mem_cons_of_mem))) (by omega)).mono ?_
          intro e wx he
          obtain ⟨rfl, hb⟩ := eqr he
          have HB := Lib.hid hb
          clear he hb
          go_wp2_with fail
          go_meet
          case rel => exact ⟨rfl, HB.out⟩
        · obtain rfl : fb = true := by rw [f1]; rfl
          obtain rfl : oz = 1 := hoz
          obtain ⟨f3, f4⟩ := f2 rfl
          have q1 : ((fl.length : Int) != 1) = false := by rw [f3]; rfl
          have q2 : (fv == 0) = false := by simpa using f4
          clear f3 f4
          clear f1 f2
          go_wp2_with fail
          refine (rInts_any ia ja ic jc fl fl _ (St.get S5 (by repeat (first | exact List.mem_cons_self | apply List.mem_cons_of_mem))) (St.get S5 (by repeat (first | exact List.mem_cons_self | apply List.mem_cons_of_mem))) (by omega)).mono ?_
          intro e wx he
          obtain ⟨rfl, hb⟩ := eqr he
          have HB := Lib.hid hb
          clear he hb
          go_wp2_with fail
          go_meet
          case rel => exact ⟨rfl, HB.out⟩
        · obtain rfl : fb = true := by rw [f1]; rfl
          obtain rfl : oz = 2 := hoz
          obtain ⟨f3, f4⟩ := f2 rfl
          have q1 : ((fl.length : Int) != 2) = false := by rw [f3]; rfl
          have q2 : (fv == 0) = false := by simpa using f4
          clear f3 f4
          clear f1 f2
          go_wp2_with fail
          refine (rInts_any ia ja ic jc fl fl _ (St.get S5 (by repeat (first | exact List.mem_cons_self | apply List.mem_cons_of_mem))) (St.get S5 (by repeat (first | exact List.mem_cons_self | apply List.mem_cons_of_mem))) (by omega)).mono ?_
          intro e wx he
          obtain ⟨rfl, hb⟩ := eqr he
          have HB := Lib.hid hb
          clear he hb
          go_wp2_with fail
          go_meet
          case rel => exact ⟨rfl, HB.out⟩
        · obtain rfl : fb = true := by rw [f1]; rfl
          obtain rfl : oz = 3 := hoz
          obtain ⟨f3, f4⟩ := f2 rfl
          have q1 : ((fl.length : Int) != 3) = false := by rw [f3]; rfl
          have q2 : (fv == 0) = false := by simpa using f4
          clear f3 f4
          clear f1 f2
          go_wp2_with fail
          refine (rInts_any ia ja ic jc fl fl _ (St.get S5 (by repeat (first | exact List.mem_cons_self | apply List.mem_cons_of_mem))) (St.get S5 (by repeat (first | exact List.mem_cons_self | apply List.mem_cons_of_mem))) (by omega)).mono ?_
          intro e wx he
          obtain ⟨rfl, hb⟩ := eqr he
          have HB := Lib.hid hb
          clear he hb
          go_wp2_with fail
          go_meet
          case rel => exact ⟨rfl, HB.out⟩
        · obtain rfl : fb = false := by rw [f1]; rfl
          obtain rfl : oz = 4 := hoz
          clear f1 f2
          go_wp2_with fail
          refine (rInts_any ia ja ic jc fl fl _ (St.get S5 (by repeat (first | exact List.mem_cons_self | apply List.mem_cons_of_mem))) (St.get S5 (by repeat (first | exact List.mem_cons_self | apply List.mem_cons_of_mem))) (by omega)).mono ?_
          intro e wx he
          obtain ⟨rfl, hb⟩ := eqr he
          have HB := Lib.hid hb
          clear he hb
          go_wp2_with fail
          go_meet
          case rel => exact ⟨rfl, HB.out⟩
    case rest =>
      obtain ⟨rfl, hcc⟩ := hcut
      obtain ⟨w6, rfl⟩ : ∃ z, z = wc := ⟨wc, rfl⟩
      have S6 := Lib.hid (S5.out.on hcc)
      clear hcc S5
      obtain ⟨r0, h0⟩ : ∃ z, z = ccW us 0 := ⟨_, rfl⟩
      obtain ⟨r1, h1⟩ : ∃ z, z = ccW us 1 := ⟨_, rfl⟩
      obtain ⟨r2, h2⟩ : ∃ z, z = ccW us 2 := ⟨_, rfl⟩
      obtain ⟨r3, h3⟩ : ∃ z, z = ccW us 3 := ⟨_, rfl⟩
      have E0 := Lib.hid h0
      have E1 := Lib.hid h1
      have E2 := Lib.hid h2
      have E3 := Lib.hid h3
      clear h0 h1 h2 h3
      go_wp2_with fail
      refine (implCountCoefficients_any ua uc us _ (St.get S6 (by repeat (first | exact List.mem_cons_self | apply List.mem_cons_of_mem))) u64 (by omega)).mono ?_
      rw [ints4_lit, ← E0.out, ← E1.out, ← E2.out, ← E3.out, ← Hok.out]
      rintro e w7 ⟨rfl, hb⟩
      have S7 := Lib.hid (S6.out.on hb)
      clear hb S6
      have hb : Below w7.heap.size w7 (w7.alloc (.cells #[.int .i64 r0, .int .i64 r1, .int .i64 r2, .int .i64 r3] 32)) := (Below.refl _ _).alloc (Nat.le_refl _) _
      have ha : (w7.alloc (.cells #[.int .i64 r0, .int .i64 r1, .int .i64 r2, .int .i64 r3] 32)).heap[w7.heap.size]? = some (.cells #[.int .i64 r0, .int .i64 r1, .int .i64 r2, .int .i64 r3] 32 (0, 0)) := heap_alloc_new _ _
      have Xhb := Lib.hid hb
      have X1 := Lib.hid ha
      clear ha
      clear hb
      go_wp2_with fail
      refine (specCountCoefficients_any ua uc us _ (Lib.hid ((St.get S7 (by repeat (first | exact List.mem_cons_self | apply List.mem_cons_of_mem))).out.on Xhb.out)) u64 (by omega)).mono ?_
      rw [ints4_lit, ← E0.out, ← E1.out, ← E2.out, ← E3.out, ← Hok.out]
      rintro e w8 ⟨rfl, hb⟩
      have X2 := Lib.hid ((hb.block w7.heap.size (Array.getElem?_eq_some_iff.1 X1.out).1).trans X1.out)
      have S8 := Lib.hid ((S7.out.on Xhb.out).on hb)
      clear hb X1 Xhb S7
      have hb : Below w8.heap.size w8 (w8.alloc (.cells #[.int .i64 r0, .int .i64 r1, .int .i64 r2, .int .i64 r3] 32)) := (Below.refl _ _).alloc (Nat.le_refl _) _
      have ha : (w8.alloc (.cells #[.int .i64 r0, .int .i64 r1, .int .i64 r2, .int .i64 r3] 32)).heap[w8.heap.size]? = some (.cells #[.int .i64 r0, .int .i64 r1, .int .i64 r2, .int .i64 r3] 32 (0, 0)) := heap_alloc_new _ _
      have Xhb := Lib.hid hb
      have Y1 := Lib.hid ha
      clear ha
      have X3 := Lib.hid ((hb.block w7.heap.size (Array.getElem?_eq_some_iff.1 X2.out).1).trans X2.out)
      clear hb X2
      go_upto_region 14 with fail
      obtain ⟨V, hV⟩ : ∃ V, V = w8.alloc (.cells #[.int .i64 r0, .int .i64 r1, .int .i64 r2, .int .i64 r3] 32) := ⟨_, rfl⟩
      rw [← hV] at Xhb X3 Y1 ⊢
      clear hV
      obtain ⟨w9, rfl⟩ : ∃ z, z = V := ⟨V, rfl⟩
      have S9 := Lib.hid (S8.out.on Xhb.out)
      clear Xhb S8
      have qx0 : w9.cell? ⟨w7.heap.size, 0, none⟩ = some (.int .i64 r0) := by simp [World.cell?, X3.out]
      have qy0 : w9.cell? ⟨w8.heap.size, 0, none⟩ = some (.int .i64 r0) := by simp [World.cell?, Y1.out]
      have qx1 : w9.cell? ⟨w7.heap.size, 1, none⟩ = some (.int .i64 r1) := by simp [World.cell?, X3.out]
      have qy1 : w9.cell? ⟨w8.heap.size, 1, none⟩ = some (.int .i64 r1) := by simp [World.cell?, Y1.out]
      have qx2 : w9.cell? ⟨w7.heap.size, 2, none⟩ = some (.int .i64 r2) := by simp [World.cell?, X3.out]
      have qy2 : w9.cell? ⟨w8.heap.size, 2, none⟩ = some (.int .i64 r2) := by simp [World.cell?, Y1.out]
      have qx3 : w9.cell? ⟨w7.heap.size, 3, none⟩ = some (.int .i64 r3) := by simp [World.cell?, X3.out]
      have qy3 : w9.cell? ⟨w8.heap.size, 3, none⟩ = some (.int .i64 r3) := by simp [World.cell?, Y1.out]
      have hrun := run_counts us w9 E0.out E1.out E2.out E3.out
      go_cut [154] from 134 to 153 (fun s wx => s = .bool false ∧ Below w9.heap.size w9 wx)
      case first =>
        cases ok with
        | false =>
          go_wp2_with fail
          go_meet
          case rel => exact ⟨rfl, Below.refl _ _⟩
        | true =>
          have q3 : (r0 != 1) = false := by rw [show r0 = 1 by rw [E0.out]; exact (cc_fact Hok.out.symm).1]; rfl
          go_wp2_with fail
          go_meet
          case rel => exact ⟨rfl, Below.refl _ _⟩
      case rest =>
        obtain ⟨rfl, hcc⟩ := hcut
        obtain ⟨w10, rfl⟩ : ∃ z, z = wc := ⟨wc, rfl⟩
        have S10 := Lib.hid (S9.out.on hcc)
        have X4 := Lib.hid ((hcc.block w7.heap.size (Array.getElem?_eq_some_iff.1 X3.out).1).trans X3.out)
        clear hcc hrun X3 Y1 qx0 qx1 qx2 qx3 qy0 qy1 qy2 qy3 S9
        go_wp2_with fail
        refine (drawSameTo_any a0 len0 cap0 _ (Lib.hid S10.out.1)).mono ?_
        rintro e w11 ⟨v1, v2, ps, qs, n, rfl, hp64, hpl, hq64, hql, hn0, hn1, hr1, hr2, hb⟩
        obtain ⟨pa, pc, rfl, hi1, -, hc1⟩ := hr1
        obtain ⟨qa, qc, rfl, hi2, -, hc2⟩ := hr2
        have X5 := Lib.hid ((hb.block w7.heap.size (Array.getElem?_eq_some_iff.1 X4.out).1).trans X4.out)
        have S11 := Lib.hid (((S10.out.on hb).add hi1).add hi2)
        have p64 := Lib.hid hp64
        have q64 := Lib.hid hq64
        have pC := Lib.hid hc1
        have qC := Lib.hid hc2
        clear hp64 hq64 hi1 hi2 hc1 hc2 hb X4 S10
        obtain ⟨sv, hsv⟩ : ∃ z, z = sameV ps qs n := ⟨_, rfl⟩
        have Hsv := Lib.hid hsv
        clear hsv
        obtain ⟨sb, hsb⟩ : ∃ z, z = sameB ps qs n := ⟨_, rfl⟩
        have Hsb := Lib.hid hsb
        clear hsb
        go_wp2_with fail
        refine (implSameToOrder_any pa qa pc qc ps qs n _ (St.get S11 (by repeat (first | exact List.mem_cons_self | apply List.mem_cons_of_mem))) (St.get S11 (by repeat (first | exact List.mem_cons_self | apply List.mem_cons_of_mem))) p64 q64 (by omega) (by omega) ⟨by omega, by omega⟩).mono ?_
        rw [← Hsv.out, ← Hsb.out]
        rintro e w12 ⟨rfl, hb⟩
        have S12 := Lib.hid (S11.out.on hb)
        have X6 := Lib.hid ((hb.block w7.heap.size (Array.getElem?_eq_some_iff.1 X5.out).1).trans X5.out)
        clear X5
        clear hb S11
        go_wp2_with fail
        refine (specSameToOrder_any pa qa pc qc ps qs n _ (St.get S12 (by repeat (first | exact List.mem_cons_self | apply List.mem_cons_of_mem))) (St.get S12 (by repeat (first | exact List.mem_cons_self | apply List.mem_cons_of_mem))) p64 q64 (by omega) (by omega) ⟨by omega, by omega⟩).mono ?_
        rw [← Hsv.out, ← Hsb.out]
        rintro e w13 ⟨rfl, hb⟩
        have S13 := Lib.hid (S12.out.on hb)
        have X7 := Lib.hid ((hb.block w7.heap.size (Array.getElem?_eq_some_iff.1 X6.out).1).trans X6.out)
        clear X6
        clear hb S12
        go_upto_if 183 with fail
        go_cut [] from 183 to 209 (fun wx => Below w13.heap.size w13 wx)
        case first =>
          cases sb with
          | false =>
            go_wp2_with fail
            go_meet
            case rel => exact Below.refl _ _
          | true =>
            have hs := Hsb.out.symm
            unfold sameB at hs
            simp only [Bool.and_eq_true, decide_eq_true_eq] at hs
            obtain ⟨⟨hs1, hs2⟩, hs3, hs4⟩ := hs
            have LP := Lib.hid (Plain.wordB_iff.1 hs1).2
            have LQ := Lib.hid (Plain.wordB_iff.1 hs2).2
            have WP := Lib.hid hs1
            have WQ := Lib.hid hs2
            have hp6 := (Plain.wordB_iff.1 hs1).1
            have hq6 := (Plain.wordB_iff.1 hs2).1
            clear hs1 hs2
            have B13 : Hid (Below w13.heap.size w13 w13) := Lib.hid (Below.refl _ _)
            have hqil : (Plain.inv qs).length ≤ qs.length := Nat.le_of_eq (Plain.inv_length _)
            obtain ⟨is, his⟩ : ∃ z, z = Plain.inv qs := ⟨_, rfl⟩
            rw [← his] at hqil
            have His := Lib.hid his
            have LI : Hid (Plain.Letters is) := Lib.hid (by rw [his]; exact LQ.out.inv)
            have I64 := Lib.hid (letters_in64 LI.out)
            clear his
            go_wp2_with fail
            refine (rInverse_any qa qc qs _ (St.get S13 (by repeat (first | exact List.mem_cons_self | apply List.mem_cons_of_mem))) LQ (by omega)).mono ?_
            rw [← His.out]
            rintro e w14 ⟨v1, rfl, hcol⟩
            obtain ⟨⟨ya, yc, rfl, hi1, -, hc1⟩, hb⟩ := coll_res hcol
            have S14 := Lib.hid ((S13.out.on hb).add hi1)
            have B14 := Lib.hid (B13.out.trans (hb.mono B13.out.size))
            clear B13
            have yC := Lib.hid hc1
            clear hi1 hc1 hb hcol S13
            obtain ⟨po, hpo⟩ : ∃ z, z = prodOut ps is (ps ++ is) := ⟨_, rfl⟩
            have Hpo := Lib.hid hpo
            clear hpo
            obtain ⟨pk, hpk⟩ : ∃ z, z = prodOk ps is (ps ++ is) := ⟨_, rfl⟩
            have Hpk := Lib.hid hpk
            clear hpk
            have hpol : po.length ≤ 1048576 := by rw [Hpo.out]; exact prod_le _ _ _
            go_wp2_with fail
            refine (implJoinW_any pa ya pc yc ps is _ (St.get S14 (by repeat (first | exact List.mem_cons_self | apply List.mem_cons_of_mem))) pC p64 (St.get S14 (by repeat (first | exact List.mem_cons_self | apply List.mem_cons_of_mem))) yC I64 (by omega) (by omega)).mono ?_
            rw [← Hpo.out, ← Hpk.out]
            rintro e w15 ⟨v1, rfl, hr1, hb⟩
            obtain ⟨ra, rc, rfl, hi1, -, hc1⟩ := hr1
            have S15 := Lib.hid ((S14.out.on hb).add hi1)
            have B15 := Lib.hid (B14.out.trans (hb.mono B14.out.size))
            clear B14
            clear hi1 hc1 hb S14
            cases pk with
            | false =>
              go_wp2_with fail
              go_meet
              case rel => exact B15.out
            | true =>
              obtain ⟨hg1, hg2⟩ := prod_good (LP.out.append LI.out) Hpk.out.symm
              rw [← Hpo.out] at hg1
              rw [← hg1] at hg2
              have hpw := hg2
              have hpo : po = Plain.red (ps ++ Plain.inv qs) := by rw [hg1, His.out]
              clear hg1 hg2
              have HPW := Lib.hid hpw
              have P64 := Lib.hid (letters_in64 (Plain.wordB_iff.1 hpw).2)
              have hqf := quot_fact LP.out LQ.out (k := n.toNat) (by omega)
              rw [← hpo] at hqf
              have hsv : sv = decide (ordN po = 0 ∨ n.toNat < ordN po) := by rw [Hsv.out, ← hqf]; unfold sameV; rw [← Hsb.out]; rfl
              have hov : ordV po = (ordN po : Nat) := ord_yes hpw
              have hol := (ordN_le (Plain.wordB_iff.1 hpw).2).2
              obtain ⟨K, hK⟩ : ∃ K, K = ordN po := ⟨_, rfl⟩
              rw [← hK] at hsv hov hol
              have HSV := Lib.hid hsv
              have HOV := Lib.hid hov
              clear hpo hpw hqf hsv hov hK
              go_wp2_with fail
              refine (implOrderOf_any ra rc po _ (St.get S15 (by repeat (first | exact List.mem_cons_self | apply List.mem_cons_of_mem))) P64 (by omega)).mono ?_
              rw [HOV.out, HPW.out]
              rintro e w16 ⟨rfl, hb⟩
              have S16 := Lib.hid (S15.out.on hb)
              have B16 := Lib.hid (B15.out.trans (hb.mono B15.out.size))
              clear B15
              clear hb S15
              by_cases hk0 : K = 0
              · subst hk0
                obtain rfl : sv = true := by rw [HSV.out]; simp
                go_wp2_with fail
                go_meet
                case rel => exact B16.out
              · have hk1 : ((K : Int) == 0) = false := by simp; omega
                by_cases hk2 : n.toNat < K
                · have hk3 : n < (K : Int) := by omega
                  obtain rfl : sv = true := by rw [HSV.out]; simp [hk2]
                  go_wp2_with fail
                  go_meet
                  case rel => exact B16.out
                · have hk3 : ¬ n < (K : Int) := by omega
                  obtain rfl : sv = false := by rw [HSV.out]; simp [hk2, hk0]
                  go_wp2_with fail
                  go_meet
                  case rel => exact B16.out
        case rest =>
          obtain ⟨w14, rfl⟩ : ∃ z, z = wc := ⟨wc, rfl⟩
          have hb := hcut
          clear hcut
          have S14 := Lib.hid (S13.out.on hb)
          have X8 := Lib.hid ((hb.block w7.heap.size (Array.getElem?_eq_some_iff.1 X7.out).1).trans X7.out)
          clear hb X7 S13
          go_upto_if 210 with fail
          go_cut [] from 210 to 257 (fun wx => Below w14.heap.size w14 wx)
          case first =>
            cases sb with
            | false =>
              go_wp2_with fail
              go_meet
              case rel => exact Below.refl _ _
            | true =>
              have hs := Hsb.out.symm
              unfold sameB at hs
              simp only [Bool.and_eq_true, decide_eq_true_eq] at hs
              obtain ⟨⟨hs1, hs2⟩, hs3, hs4⟩ := hs
              have LP := Lib.hid (Plain.wordB_iff.1 hs1).2
              have LQ := Lib.hid (Plain.wordB_iff.1 hs2).2
              have WP := Lib.hid hs1
              have WQ := Lib.hid hs2
              have hp6 := (Plain.wordB_iff.1 hs1).1
              have hq6 := (Plain.wordB_iff.1 hs2).1
              clear hs1 hs2
              have B14 : Hid (Below w14.heap.size w14 w14) := Lib.hid (Below.refl _ _)
              obtain ⟨po, hpo⟩ : ∃ z, z = prodOut ps qs (commZ ps qs) := ⟨_, rfl⟩
              have Hpo := Lib.hid hpo
              clear hpo
              obtain ⟨pk, hpk⟩ : ∃ z, z = prodOk ps qs (commZ ps qs) := ⟨_, rfl⟩
              have Hpk := Lib.hid hpk
              clear hpk
              have hpol : po.length ≤ 1048576 := by rw [Hpo.out]; exact prod_le _ _ _
              go_wp2_with fail
              refine (implCommutatorOf_any pa qa pc qc ps qs _ (St.get S14 (by repeat (first | exact List.mem_cons_self | apply List.mem_cons_of_mem))) pC p64 (St.get S14 (by repeat (first | exact List.mem_cons_self | apply List.mem_cons_of_mem))) qC q64 (by omega) (by omega)).mono ?_
              rw [← Hpo.out, ← Hpk.out]
              rintro e w15 ⟨v1, rfl, hr1, hb⟩
              obtain ⟨ra, rc, rfl, hi1, -, hc1⟩ := hr1
              have S15 := Lib.hid ((S14.out.on hb).add hi1)
              have B15 := Lib.hid (B14.out.trans (hb.mono B14.out.size))
              clear B14
              clear hi1 hc1 hb S14
              cases pk with
              | false =>
                go_wp2_with fail
                go_meet
                case rel => exact B15.out
              | true =>
                obtain ⟨hg1, hg2⟩ := prod_good (zs := commZ ps qs) (show Plain.Letters (commZ ps qs) from LP.out.append (LQ.out.append (LP.out.inv.append LQ.out.inv))) Hpk.out.symm
                rw [← Hpo.out] at hg1
                rw [← hg1] at hg2
                have HPW := Lib.hid hg2
                have P64 := Lib.hid (letters_in64 (Plain.wordB_iff.1 hg2).2)
                have hcf := comm_fact LP.out LQ.out
                rw [show Plain.comm ps qs = po from hg1.symm] at hcf
                have ho1 := (ordN_le (Plain.wordB_iff.1 hg2).2).2
                have ho2 := (ordN_le LP.out).2
                have ho3 := (ordN_le LQ.out).2
                obtain ⟨K, hK⟩ : ∃ K, K = ordN po := ⟨_, rfl⟩
                obtain ⟨A, hA⟩ : ∃ K, K = ordN ps := ⟨_, rfl⟩
                obtain ⟨D, hD⟩ : ∃ K, K = ordN qs := ⟨_, rfl⟩
                have HOV : Hid (ordV po = (K : Int)) := Lib.hid (by rw [ord_yes hg2, hK])
                have HOA : Hid (ordV ps = (A : Int)) := Lib.hid (by rw [ord_yes WP.out, hA])
                have HOD : Hid (ordV qs = (D : Int)) := Lib.hid (by rw [ord_yes WQ.out, hD])
                rw [← hK, ← hA, ← hD] at hcf
                rw [← hK] at ho1
                rw [← hA] at ho2
                rw [← hD] at ho3
                have HCF := Lib.hid hcf
                clear hg1 hg2 hcf hK hA hD
                go_wp2_with fail
                refine (implOrderOf_any ra rc po _ (St.get S15 (by repeat (first | exact List.mem_cons_self | apply List.mem_cons_of_mem))) P64 (by omega)).mono ?_
                rw [HOV.out, HPW.out]
                rintro e w16 ⟨rfl, hb⟩
                have S16 := Lib.hid (S15.out.on hb)
                have B16 := Lib.hid (B15.out.trans (hb.mono B15.out.size))
                clear B15
                clear hb S15
                go_wp2_with fail
                refine (implOrderOf_any pa pc ps _ (St.get S16 (by repeat (first | exact List.mem_cons_self | apply List.mem_cons_of_mem))) p64 (by omega)).mono ?_
                rw [HOA.out, WP.out]
                rintro e w17 ⟨rfl, hb⟩
                have S17 := Lib.hid (S16.out.on hb)
                have B17 := Lib.hid (B16.out.trans (hb.mono B16.out.size))
                clear B16
                clear hb S16
                go_wp2_with fail
                refine (implOrderOf_any qa qc qs _ (St.get S17 (by repeat (first | exact List.mem_cons_self | apply List.mem_cons_of_mem))) q64 (by omega)).mono ?_
                rw [HOD.out, WQ.out]
                rintro e w18 ⟨rfl, hb⟩
                have S18 := Lib.hid (S17.out.on hb)
                have B18 := Lib.hid (B17.out.trans (hb.mono B17.out.size))
                clear B17
                clear hb S17
                by_cases hk0 : K = 0
                · subst hk0
                  go_wp2_with fail
                  go_meet
                  case rel => exact B18.out
                · have hk1 : ((K : Int) != 0) = true := by simp; omega
                  by_cases hk2 : K < 4
                  · have hk3 : (K : Int) < 4 := by omega
                    have hk4 := HCF.out hk0 hk2
                    have hk5 : ¬ (K : Int) < (A : Int) + (D : Int) := by omega
                    go_wp2_with fail
                    go_meet
                    case rel => exact B18.out
                  · have hk3 : ¬ (K : Int) < 4 := by omega
                    go_wp2_with fail
                    go_meet
                    case rel => exact B18.out
          case rest =>
            obtain ⟨w15, rfl⟩ : ∃ z, z = wc := ⟨wc, rfl⟩
            have hb := hcut
            clear hcut
            have S15 := Lib.hid (S14.out.on hb)
            have X9 := Lib.hid ((hb.block w7.heap.size (Array.getElem?_eq_some_iff.1 X8.out).1).trans X8.out)
            clear hb X8 S14
            cases ok with
            | false =>
              go_wp2_with fail
              go_ret
              exact ⟨rfl, S15.out.2.1⟩
            | true =>
              obtain ⟨hq0, hq⟩ := cc_fact Hok.out.symm
              have hoz := Hoz.out
              rw [ord_yes Hok.out.symm] at hoz
              obtain ⟨K, hK⟩ : ∃ K, K = ordN us := ⟨_, rfl⟩
              rw [← hK] at hoz hq
              have HK := Lib.hid hK
              have HZ := Lib.hid hoz
              have k1 := hq 1 (by omega) (by omega)
              rw [← E1.out] at k1
              have F1 := Lib.hid k1
              have k2 := hq 2 (by omega) (by omega)
              rw [← E2.out] at k2
              have F2 := Lib.hid k2
              have k3 := hq 3 (by omega) (by omega)
              rw [← E3.out] at k3
              have F3 := Lib.hid k3
              clear hq hq0 hoz hK k1 k2 k3
              have qx0 : w15.cell? ⟨w7.heap.size, 0, none⟩ = some (.int .i64 r0) := by simp [World.cell?, X9.out]
              have qx1 : w15.cell? ⟨w7.heap.size, 1, none⟩ = some (.int .i64 r1) := by simp [World.cell?, X9.out]
              have qx2 : w15.cell? ⟨w7.heap.size, 2, none⟩ = some (.int .i64 r2) := by simp [World.cell?, X9.out]
              have qx3 : w15.cell? ⟨w7.heap.size, 3, none⟩ = some (.int .i64 r3) := by simp [World.cell?, X9.out]
              go_wp2_with fail
              go_loopw [37] (fun i wr => (i = .int .i64 1 ∨ i = .int .i64 2 ∨ i = .int .i64 3 ∨ i = .int .i64 4) ∧ wr = w15) (fun i _ => 4 - (intOf i).toNat)
              case atStart => exact ⟨.inl rfl, rfl⟩
              case round =>
                obtain ⟨hi, hwr⟩ := hrel
                rw [hwr]
                clear hwr
                rcases hi with rfl | rfl | rfl | rfl
                · obtain ⟨f1, f2, f3⟩ := F1.out
                  have z := HZ.out
                  by_cases c1 : 0 < r1
                  · have p1 : (r1 == 0) = false := by simp; omega
                    have c2 : ¬ (1 : Int) < oz := fun h => by have := f1 (by omega); omega
                    by_cases c3 : oz = 1
                    · have p2 : (oz == 1) = true := by simp [c3]
                      clear f1 f2 f3 z c3
                      go_wp2_with fail
                      go_roundw
                      case rel => exact ⟨.inr (.inl rfl), by first | trivial | rfl⟩
                      case measure => simp [intOf]
                    · have p2 : (oz == 1) = false := by simpa using c3
                      clear f1 f2 f3 z c3
                      go_wp2_with fail
                      go_roundw
                      case rel => exact ⟨.inr (.inl rfl), by first | trivial | rfl⟩
                      case measure => simp [intOf]
                  · have p1 : (r1 == 0) = true := by simp; omega
                    have p2 : (oz == 1) = false := by simp; intro h; have := f2 (by omega); omega
                    clear f1 f2 f3 z
                    go_wp2_with fail
                    go_roundw
                    case rel => exact ⟨.inr (.inl rfl), by first | trivial | rfl⟩
                    case measure => simp [intOf]
                · obtain ⟨f1, f2, f3⟩ := F2.out
                  have z := HZ.out
                  by_cases c1 : 0 < r2
                  · have p1 : (r2 == 0) = false := by simp; omega
                    have c2 : ¬ (2 : Int) < oz := fun h => by have := f1 (by omega); omega
                    by_cases c3 : oz = 2
                    · have p2 : (oz == 2) = true := by simp [c3]
                      clear f1 f2 f3 z c3
                      go_wp2_with fail
                      go_roundw
                      case rel => exact ⟨.inr (.inr (.inl rfl)), by first | trivial | rfl⟩
                      case measure => simp [intOf]
                    · have p2 : (oz == 2) = false := by simpa using c3
                      clear f1 f2 f3 z c3
                      go_wp2_with fail
                      go_roundw
                      case rel => exact ⟨.inr (.inr (.inl rfl)), by first | trivial | rfl⟩
                      case measure => simp [intOf]
                  · have p1 : (r2 == 0) = true := by simp; omega
                    have p2 : (oz == 2) = false := by simp; intro h; have := f2 (by omega); omega
                    clear f1 f2 f3 z
                    go_wp2_with fail
                    go_roundw
                    case rel => exact ⟨.inr (.inr (.inl rfl)), by first | trivial | rfl⟩
                    case measure => simp [intOf]
                · obtain ⟨f1, f2, f3⟩ := F3.out
                  have z := HZ.out
                  by_cases c1 : 0 < r3
                  · have p1 : (r3 == 0) = false := by simp; omega
                    have c2 : ¬ (3 : Int) < oz := fun h => by have := f1 (by omega); omega
                    by_cases c3 : oz = 3
                    · have p2 : (oz == 3) = true := by simp [c3]
                      clear f1 f2 f3 z c3
                      go_wp2_with fail
                      go_roundw
                      case rel => exact ⟨.inr (.inr (.inr rfl)), by first | trivial | rfl⟩
                      case measure => simp [intOf]
                    · have p2 : (oz == 3) = false := by simpa using c3
                      clear f1 f2 f3 z c3
                      go_wp2_with fail
                      go_roundw
                      case rel => exact ⟨.inr (.inr (.inr rfl)), by first | trivial | rfl⟩
                      case measure => simp [intOf]
                  · have p1 : (r3 == 0) = true := by simp; omega
                    have p2 : (oz == 3) = false := by simp; intro h; have := f2 (by omega); omega
                    clear f1 f2 f3 z
                    go_wp2_with fail
                    go_roundw
                    case rel => exact ⟨.inr (.inr (.inr rfl)), by first | trivial | rfl⟩
                    case measure => simp [intOf]
                · clear F1 F2 F3 qx0 qx1 qx2 qx3 E0 E1 E2 E3 X9
                  go_wp2_with fail
                  obtain ⟨V, hV⟩ : ∃ V, V = w15.alloc (.cells #[.int .i64 2, .int .i64 (-1)] 3) := ⟨_, rfl⟩
                  have HG : Hid (Ints V (some ⟨w15.heap.size, 0, none⟩) [2, -1]) := Lib.hid (by rw [hV]; exact ints_pair w15 2 (-1))
                  have hb : Below w15.heap.size w15 V := by rw [hV]; exact (Below.refl _ _).alloc (Nat.le_refl _) _
                  rw [← hV]
                  clear hV
                  obtain ⟨w16, rfl⟩ : ∃ z, z = V := ⟨V, rfl⟩
                  have S16 := Lib.hid (S15.out.on hb)
                  clear hb S15
                  obtain ⟨po, hpo⟩ : ∃ z, z = prodOut [2, -1] us ([2, -1] ++ (us ++ Plain.inv [2, -1])) := ⟨_, rfl⟩
                  have Hpo := Lib.hid hpo
                  clear hpo
                  obtain ⟨pk, hpk⟩ : ∃ z, z = prodOk [2, -1] us ([2, -1] ++ (us ++ Plain.inv [2, -1])) := ⟨_, rfl⟩
                  have Hpk := Lib.hid hpk
                  clear hpk
                  have hpol : po.length ≤ 1048576 := by rw [Hpo.out]; exact prod_le _ _ _
                  have HC2 : Hid (Cap (some ⟨w15.heap.size, 0, none⟩) ([2, -1] : List Int).length 2) := Lib.hid ⟨by decide, by decide, fun h => (by cases h), fun x h => ⟨_, _, (Option.some.inj h).symm⟩⟩
                  have HN2 : Hid (In64 [2, -1]) := Lib.hid (letters_in64 two_letters)
                  go_wp2_with fail
                  refine (implConj_any (some ⟨w15.heap.size, 0, none⟩) ua 2 uc [2, -1] us _ HG HC2 HN2 (St.get S16 (by repeat (first | exact List.mem_cons_self | apply List.mem_cons_of_mem))) uC u64 (by decide) (by omega)).mono ?_
                  rw [← Hpo.out, ← Hpk.out]
                  rintro e w17 ⟨v1, rfl, hr1, hb⟩
                  obtain ⟨ra, rc, rfl, hi1, -, hc1⟩ := hr1
                  have S17 := Lib.hid ((S16.out.on hb).add hi1)
                  clear hi1 hc1 hb S16
                  clear HG HC2 HN2
                  cases pk with
                  | false =>
                    go_wp2_with fail
                    go_ret
                    exact ⟨rfl, S17.out.2.1⟩
                  | true =>
                    have hwu := Hok.out.symm
                    have hLu := (Plain.wordB_iff.1 hwu).2
                    obtain ⟨hg1, hg2⟩ := prod_good (zs := [2, -1] ++ (us ++ Plain.inv [2, -1])) (two_letters.append (hLu.append two_letters.inv)) Hpk.out.symm
                    have hcc := (conj_fact two_letters hLu).1
                    have HCF : Hid (fb = true → coefW po fl = fv ∧ coefB po fl = true ∧ In64 fl) := Lib.hid (fun h => by rw [Hpo.out, hg1, Hfl.out, Hfv.out]; exact coef_conj hwu hg2 (by rw [← Hfb.out]; exact h))
                    rw [← Hpo.out] at hg1
                    rw [← hg1] at hg2 hcc
                    have P64 := Lib.hid (letters_in64 (Plain.wordB_iff.1 hg2).2)
                    have HPW := Lib.hid hg2
                    have HOV : Hid (ordV po = oz) := Lib.hid (by rw [ord_yes hg2, hcc, HZ.out, HK.out])
                    clear hwu hLu hg1 hg2 hcc
                    have q5 : (oz != oz) = false := by simp
                    have q6 : (fv != fv) = false := by simp
                    go_wp2_with fail
                    refine (implOrderOf_any ra rc po _ (St.get S17 (by repeat (first | exact List.mem_cons_self | apply List.mem_cons_of_mem))) P64 (by omega)).mono ?_
                    rw [HOV.out, HPW.out]
                    rintro e w18 ⟨rfl, hb⟩
                    have S18 := Lib.hid (S17.out.on hb)
                    clear hb S17
                    cases fb with
                    | false =>
                      go_wp2_with fail
                      go_ret
                      exact ⟨rfl, S18.out.2.1⟩
                    | true =>
                      obtain ⟨hc1, hc2, hc3⟩ := HCF.out rfl
                      have C1 := Lib.hid hc1
                      have C2 := Lib.hid hc2
                      have C3 := Lib.hid hc3
                      clear hc1 hc2 hc3 HCF
                      go_wp2_with fail
                      refine (implCoefficientOf_any ra ia rc ic po fl _ (St.get S18 (by repeat (first | exact List.mem_cons_self | apply List.mem_cons_of_mem))) (St.get S18 (by repeat (first | exact List.mem_cons_self | apply List.mem_cons_of_mem))) P64 C3 (by omega) (by omega)).mono ?_
                      rw [C1.out, C2.out]
                      rintro e w19 ⟨rfl, hb⟩
                      have S19 := Lib.hid (S18.out.on hb)
                      clear hb S18
                      go_wp2_with fail
                      go_ret
                      exact ⟨rfl, S19.out.2.1⟩

end Go.Proofs.Ytnmjanhpjnlfcaa
