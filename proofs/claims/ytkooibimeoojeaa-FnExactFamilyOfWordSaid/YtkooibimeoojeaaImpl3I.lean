/- Contracts: impl's fallTable.hangsBy, impl.HangsBy. Conditions: numbers of 64 bits, lengths that fit. -/
import Derived.Test.YtkooibimeoojeaaImpl3H
import Derived.Test.YtkooibimeoojeaaFallRest
namespace Go.Proofs.Ytkooibimeoojeaa
open Go.ChangeShapes Go.WideShapes Go.ChangeAt Go.RowKit
set_option linter.unusedVariables false

theorem sameTo_stop {t : Nat → Bool} {k m : Nat} (h : Plain.sameTo t k (m + 1) = false) : ∀ q, m + 1 ≤ q → Plain.sameTo t k q = false := by
  intro q
  induction q with
  | zero => intro h; omega
  | succ q ih =>
    intro hq
    by_cases e : q = m
    · subst e; exact h
    · rw [Plain.sameTo, ih (by omega)]; rfl
set_option maxRecDepth 100000 in
set_option maxHeartbeats 1000000 in
theorem hangsBy_any (t : Nat → Bool) (p k : Nat) (w : World) (hp : p ≤ 5) (hk : k ≤ 7) :
    Calls Try.prog 55 #[.agg (bools t), .int .i64 ((p : Int) + 1), .int .i64 (k : Int)] w (Val (.bool (Plain.sameTo t k (2 ^ (p + 1)))) w) := by
  have HT := Lib.hid (tabF_box w t)
  obtain ⟨q, hq⟩ : ∃ q, q = 2 ^ (p + 1) := ⟨_, rfl⟩
  have hq64 : q ≤ 64 := by rw [hq]; exact Nat.le_trans (Nat.pow_le_pow_right (by decide) (by omega : p + 1 ≤ 6)) (by decide)
  have hpow : (2 : Int) ^ (p + 1) = (q : Int) := by rw [hq]; simp
  have htn : ((p : Int) + 1).toNat = p + 1 := by omega
  rw [← hq]
  clear hq
  go_enter Try.func55, Try.ntmps55
  go_wp2_with fail
  obtain ⟨W, hW⟩ : ∃ W, W = w.alloc (.cells (bools t) 50) := ⟨_, rfl⟩
  rw [← hW] at HT ⊢
  clear hW
  go_loopw [10] (fun i wr => ∃ m : Nat, m ≤ q ∧ i = .int .i64 (m : Int) ∧ Plain.sameTo t k m = true ∧ TabF wr w.heap.size t ∧ Below w.heap.size w wr) (fun i _ => q - (intOf i).toNat)
  case atStart => exact ⟨0, Nat.zero_le _, rfl, rfl, HT.out.1, HT.out.2⟩
  case round =>
    obtain ⟨m, hm, rfl, hS0, hT2, hB2⟩ := hrel
    have HT2 := Lib.hid hT2
    have HB2 := Lib.hid hB2
    have HS0 := Lib.hid hS0
    clear hT2 hB2 hS0
    by_cases hlt : m < q
    · have hm64 : m < 64 := by omega
      have hc := HT2.out.cell hm64
      have hml := Plain.many_le m
      have hS : Plain.sameTo t k (m + 1) = (t m == decide (k ≤ Plain.many m)) := by rw [Plain.sameTo, HS0.out, Bool.true_and]
      have hj0 : (0 : Int) ≤ (m : Int) := by omega
      have hj1 : (m : Int) < 64 := by omega
      have hj2 : (m : Int) < (q : Int) := by omega
      have HLT := Lib.hid hlt
      by_cases hle : k ≤ Plain.many m
      · have hd : decide (k ≤ Plain.many m) = true := by simpa using hle
        have hle1 : (k : Int) ≤ ((Plain.many m : Nat) : Int) := by omega
        rw [hd] at hS
        clear hd
        cases htm : t m with
        | true =>
          rw [htm] at hS hc
          have HS := Lib.hid hS
          clear hS htm
          go_wp2_with fail
          go_quiet ((go_at_call 49; exact Calls.quiet_of_same ((sizeOf_any m _ hm64).mono fun _ _ h => ⟨h.1, h.2.symm⟩)))
          go_wp2_with fail
          go_roundw
          case rel => exact ⟨m + 1, by omega, by go_num, by rw [HS.out]; rfl, HT2.out, below_drewN HB2.out _⟩
          case measure => simp [intOf]; omega
        | false =>
          rw [htm] at hS hc
          have HS : Hid (Plain.sameTo t k q = false) := Lib.hid (sameTo_stop (by rw [hS]; rfl) q hlt)
          clear hS htm
          go_wp2_with fail
          go_quiet ((go_at_call 49; exact Calls.quiet_of_same ((sizeOf_any m _ hm64).mono fun _ _ h => ⟨h.1, h.2.symm⟩)))
          go_wp2_with fail
          go_ret
          exact ⟨ret_bool HS.out.symm, below_drewN HB2.out _⟩
      · have hd : decide (k ≤ Plain.many m) = false := by simpa using hle
        have hle1 : ¬ (k : Int) ≤ ((Plain.many m : Nat) : Int) := by omega
        rw [hd] at hS
        clear hd
        cases htm : t m with
        | true =>
          rw [htm] at hS hc
          have HS : Hid (Plain.sameTo t k q = false) := Lib.hid (sameTo_stop (by rw [hS]; rfl) q hlt)
          clear hS htm
          go_wp2_with fail
          go_quiet ((go_at_call 49; exact Calls.quiet_of_same ((sizeOf_any m _ hm64).mono fun _ _ h => ⟨h.1, h.2.symm⟩)))
          go_wp2_with fail
          go_ret
          exact ⟨ret_bool HS.out.symm, below_drewN HB2.out _⟩
        | false =>
          rw [htm] at hS hc
          have HS := Lib.hid hS
          clear hS htm
          go_wp2_with fail
          go_quiet ((go_at_call 49; exact Calls.quiet_of_same ((sizeOf_any m _ hm64).mono fun _ _ h => ⟨h.1, h.2.symm⟩)))
          go_wp2_with fail
          go_roundw
          case rel => exact ⟨m + 1, by omega, by go_num, by rw [HS.out]; rfl, HT2.out, below_drewN HB2.out _⟩
          case measure => simp [intOf]; omega
    · obtain rfl : m = q := by omega
      go_wp2_with fail
      go_ret
      exact ⟨ret_bool HS0.out.symm, HB2.out⟩

set_option maxRecDepth 100000 in
set_option maxHeartbeats 2000000 in
theorem implHangsBy_any (a : Option Addr) (cap : Nat) (xs : List Int) (n : Int) (w : World) (h : Hid (Ints w a xs)) (h64 : Hid (In64 xs)) (hn : xs.length ≤ 9223372036854775807) (hr : -9223372036854775808 ≤ n ∧ n ≤ 9223372036854775807) :
    Calls Try.prog 29 #[.slice a xs.length cap, .int .i64 n] w (Val (.tuple #[.int .i64 (hangV xs n : Nat), .bool (hangOk xs n)]) w) := by
  cases hw : Plain.wordB xs with
  | false =>
    have HE := Lib.hid (hang_no (n := n) (.inl hw))
    have HW := Lib.hid hw
    clear hw hr
    go_enter Try.func29, Try.ntmps29
    go_wp2_with fail
    refine (isWord_any _ _ xs _ h h64 hn).mono ?_
    rw [HW.out]
    rintro e w' ⟨rfl, rfl⟩
    go_wp2_with fail
    go_ret2
    exact val_ib HE.out.1.symm HE.out.2.symm ⟨rfl, Below.refl _ _⟩
  | true =>
    have m1 := (Plain.wordB_iff.1 hw).1
    have HL := Lib.hid (Plain.wordB_iff.1 hw).2
    have HW := Lib.hid hw
    cases hs : nailB n with
    | false =>
      have HE := Lib.hid (hang_no (xs := xs) (.inr hs))
      have HN := Lib.hid hs
      have HR := Lib.hid hr
      clear hw hs hr
      go_enter Try.func29, Try.ntmps29
      go_wp2_with fail
      refine (isWord_any _ _ xs _ h h64 hn).mono ?_
      rw [HW.out]
      rintro e w' ⟨rfl, rfl⟩
      go_wp2_with fail
      refine (isNail_any n _ HR.out).mono ?_
      rw [HN.out]
      rintro e w' ⟨rfl, rfl⟩
      go_wp2_with fail
      go_ret2
      exact val_ib HE.out.1.symm HE.out.2.symm ⟨rfl, Below.refl _ _⟩
    | true =>
      have hE := hang_yes hw hs
      obtain ⟨p, rfl, hp⟩ := nail_nat hs
      rw [show ((p : Int) + 1).toNat = p + 1 by omega] at hE
      have HN := Lib.hid hs
      have HR := Lib.hid hr
      obtain ⟨t, ht⟩ : ∃ t, t = Plain.fallsB xs := ⟨_, rfl⟩
      rw [← ht] at hE
      have HE := Lib.hid hE
      have HTT := Lib.hid ht
      clear hw hs hr hE ht
      go_enter Try.func29, Try.ntmps29
      go_wp2_with fail
      refine (isWord_any _ _ xs _ h h64 hn).mono ?_
      rw [HW.out]
      rintro e w' ⟨rfl, rfl⟩
      go_wp2_with fail
      refine (isNail_any ((p : Int) + 1) _ HR.out).mono ?_
      rw [HN.out]
      rintro e w' ⟨rfl, rfl⟩
      go_wp2_with fail
      refine (fallTable_any _ _ xs _ h HL (by omega)).mono ?_
      rw [← HTT.out]
      rintro e w1 ⟨rfl, hb⟩
      have HB := Lib.hid (hb.alloc hb.size (.cells (bools fun _ => false) 50))
      have HT0 := Lib.hid (tabF_new w1 (fun _ => false))
      have HB1 := Lib.hid (below_setRow HB.out hb.size (bools t))
      have HT := Lib.hid (tabF_row (t := t) HT0.out)
      clear hb
      go_wp2_with (refine wpList_store_row rfl 50 _ _ rfl w1.heap.size (bools t) rfl rfl 50 (bools fun _ => false) (by rw [bools_zero]; exact heap_alloc_new _ _) info64f rfl (bools_one _) ?_)
      rw [← bools_zero]
      obtain ⟨W, hW⟩ : ∃ W, W = ((w1.alloc (.cells (bools fun _ => false) 50)).setRow w1.heap.size (bools t)) := ⟨_, rfl⟩
      rw [← hW] at HB1 HT ⊢
      clear hW HB HT0
      go_loopw [20] (fun i wr => ∃ k : Nat, k ≤ p + 2 ∧ i = .int .i64 (k : Int) ∧ Plain.byFrom t (p + 1) (p + 2 - k) k = Plain.hangsBy t (p + 1) ∧ TabF wr w1.heap.size t ∧ Below w.heap.size w wr) (fun i _ => p + 3 - (intOf i).toNat)
      case atStart => exact ⟨0, by omega, rfl, rfl, HT.out, HB1.out⟩
      case round =>
        obtain ⟨k, hk, rfl, hby, hT1, hB1⟩ := hrel
        have HBY := Lib.hid hby
        have HT1 := Lib.hid hT1
        have HBl1 := Lib.hid hB1
        clear hby hT1 hB1
        by_cases hlt : k < p + 2
        · have hi : (k : Int) < (p : Int) + 1 + 1 := by omega
          obtain ⟨f, hf⟩ : ∃ f, p + 2 - k = f + 1 := ⟨p + 1 - k, by omega⟩
          have HF := Lib.hid hf
          clear hf
          go_wp2_with (refine wpList_load_row rfl 50 _ rfl w1.heap.size rfl 50 (bools t) (0, 0) _ HT1.out Try.underlying50 rfl info64f ?_)
          refine (hangsBy_any t p k _ hp (by omega)).mono ?_
          rintro e w2 ⟨rfl, hb⟩
          have HT2 := Lib.hid (HT1.out.on hb)
          have HB2 := Lib.hid (HBl1.out.trans (hb.mono HBl1.out.size))
          clear hb
          cases hsm : Plain.sameTo t k (2 ^ (p + 1)) with
          | true =>
            have HR2 : Hid (Plain.hangsBy t (p + 1) = some k) := Lib.hid (by
              rw [← HBY.out, HF.out]
              exact byFrom_hit hsm)
            clear hsm
            go_wp2_with fail
            go_ret2
            exact val_ib (by rw [HE.out.1, HR2.out]; rfl) (by rw [HE.out.2, HR2.out]; rfl) ⟨rfl, HB2.out⟩
          | false =>
            have HR2 : Hid (Plain.byFrom t (p + 1) (p + 2 - (k + 1)) (k + 1) = Plain.hangsBy t (p + 1)) := Lib.hid (by
              rw [← HBY.out, HF.out, byFrom_miss hsm]
              congr 1
              have := HF.out
              omega)
            clear hsm
            go_wp2_with fail
            go_roundw
            case rel => exact ⟨k + 1, by omega, by go_num, HR2.out, HT2.out, HB2.out⟩
            case measure => simp [intOf]; omega
        · obtain rfl : k = p + 2 := by omega
          have HR2 : Hid (Plain.hangsBy t (p + 1) = none) := Lib.hid (by rw [← HBY.out, Nat.sub_self]; rfl)
          have hi : ¬ ((p + 2 : Nat) : Int) < (p : Int) + 1 + 1 := by omega
          go_wp2_with fail
          go_ret2
          exact val_ib (by rw [HE.out.1, HR2.out]; rfl) (by rw [HE.out.2, HR2.out]; rfl) ⟨rfl, HBl1.out⟩

end Go.Proofs.Ytkooibimeoojeaa
