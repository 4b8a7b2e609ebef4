/- Contracts: spec.HangsBy, HidesNail, FallOrder, LettersLeft. Conditions: numbers of 64 bits, lengths that fit. -/
import Derived.Test.YtkooibimeoojeaaFallMore
namespace Go.Proofs.Ytkooibimeoojeaa
open Go.ChangeShapes Go.WideShapes Go.ChangeAt Go.RowKit
set_option linter.unusedVariables false

def nailB (n : Int) : Bool := decide (1 ≤ n ∧ n ≤ 6)
theorem nail_nat {n : Int} (h : nailB n = true) : ∃ p : Nat, n = (p : Int) + 1 ∧ p ≤ 5 := by
  have h' : 1 ≤ n ∧ n ≤ 6 := by simpa [nailB] using h
  exact ⟨(n - 1).toNat, by omega, by omega⟩
def okW (xs : List Int) (n : Int) : Bool := Plain.wordB xs && nailB n
/-- What HangsBy answers. -/
def hangOk (xs : List Int) (n : Int) : Bool := okW xs n && (Plain.hangsBy (Plain.fallsB xs) n.toNat).isSome
def hangV (xs : List Int) (n : Int) : Nat := if okW xs n = true then (Plain.hangsBy (Plain.fallsB xs) n.toNat).getD 0 else 0
theorem ok_no {xs : List Int} {n : Int} (h : Plain.wordB xs = false ∨ nailB n = false) : okW xs n = false := by rcases h with h | h <;> simp [okW, h]
theorem hang_no {xs : List Int} {n : Int} (h : Plain.wordB xs = false ∨ nailB n = false) : hangV xs n = 0 ∧ hangOk xs n = false := by simp [hangV, hangOk, ok_no h]
theorem hang_yes {xs : List Int} {n : Int} (h : Plain.wordB xs = true) (hn : nailB n = true) : hangV xs n = (Plain.hangsBy (Plain.fallsB xs) n.toNat).getD 0 ∧ hangOk xs n = (Plain.hangsBy (Plain.fallsB xs) n.toNat).isSome := by simp [hangV, hangOk, okW, h, hn]
theorem byFrom_hit {t : Nat → Bool} {n f k : Nat} (h : Plain.sameTo t k (2 ^ n) = true) : Plain.byFrom t n (f + 1) k = some k := if_pos h
theorem byFrom_miss {t : Nat → Bool} {n f k : Nat} (h : Plain.sameTo t k (2 ^ n) = false) : Plain.byFrom t n (f + 1) k = Plain.byFrom t n f (k + 1) := if_neg (by rw [h]; simp)

set_option maxRecDepth 100000 in
set_option maxHeartbeats 2000000 in
theorem specHangsBy_any (a : Option Addr) (cap : Nat) (xs : List Int) (n : Int) (w : World) (h : Hid (Ints w a xs)) (h64 : Hid (In64 xs)) (hn : xs.length ≤ 9223372036854775807) (hr : -9223372036854775808 ≤ n ∧ n ≤ 9223372036854775807) :
    Calls Try.prog 28 #[.slice a xs.length cap, .int .i64 n] w (Val (.tuple #[.int .i64 (hangV xs n : Nat), .bool (hangOk xs n)]) w) := by
  cases hw : Plain.wordB xs with
  | false =>
    have HE := Lib.hid (hang_no (n := n) (.inl hw))
    have HW := Lib.hid hw
    clear hw hr
    go_enter Try.func28, Try.ntmps28
    go_wp2_with fail
    refine (l2Word_any _ _ xs _ h h64 hn).mono ?_
    rw [HW.out]
    rintro e w' ⟨rfl, rfl⟩
    go_wp2_with fail
    go_ret2
    exact val_ib HE.out.1.symm HE.out.2.symm ⟨rfl, Below.refl _ _⟩
  | true =>
    have m1 := (Plain.wordB_iff.1 hw).1
    have HL := Lib.hid (Plain.wordB_iff.1 hw).2
    have HW := Lib.hid hw
    cases hs : nailB n with
    | false =>
      have HE := Lib.hid (hang_no (xs := xs) (.inr hs))
      have HN : Hid (decide (1 ≤ n ∧ n ≤ 6) = false) := Lib.hid hs
      have HR := Lib.hid hr
      clear hw hs hr
      go_enter Try.func28, Try.ntmps28
      go_wp2_with fail
      refine (l2Word_any _ _ xs _ h h64 hn).mono ?_
      rw [HW.out]
      rintro e w' ⟨rfl, rfl⟩
      go_wp2_with fail
      refine (l1In_any n 1 6 _ HR.out).mono ?_
      rw [HN.out]
      rintro e w' ⟨rfl, rfl⟩
      go_wp2_with fail
      go_ret2
      exact val_ib HE.out.1.symm HE.out.2.symm ⟨rfl, Below.refl _ _⟩
    | true =>
      have hE := hang_yes hw hs
      obtain ⟨p, rfl, hp⟩ := nail_nat hs
      rw [show ((p : Int) + 1).toNat = p + 1 by omega] at hE
      have HN : Hid (decide (1 ≤ (p : Int) + 1 ∧ (p : Int) + 1 ≤ 6) = true) := Lib.hid hs
      have HR := Lib.hid hr
      obtain ⟨t, ht⟩ : ∃ t, t = Plain.fallsB xs := ⟨_, rfl⟩
      rw [← ht] at hE
      have HE := Lib.hid hE
      have HTT := Lib.hid ht
      clear hw hs hr hE ht
      obtain ⟨q, hq⟩ : ∃ q, q = 2 ^ (p + 1) := ⟨_, rfl⟩
      have hq64 : q ≤ 64 := by rw [hq]; exact Nat.le_trans (Nat.pow_le_pow_right (by decide) (by omega : p + 1 ≤ 6)) (by decide)
      have hpow : (2 : Int) ^ (p + 1) = (q : Int) := by rw [hq]; simp
      have HQ := Lib.hid hq
      have htn : ((p : Int) + 1).toNat = p + 1 := by omega
      clear hq
      go_enter Try.func28, Try.ntmps28
      go_wp2_with fail
      refine (l2Word_any _ _ xs _ h h64 hn).mono ?_
      rw [HW.out]
      rintro e w' ⟨rfl, rfl⟩
      go_wp2_with fail
      refine (l1In_any ((p : Int) + 1) 1 6 _ HR.out).mono ?_
      rw [HN.out]
      rintro e w' ⟨rfl, rfl⟩
      go_wp2_with fail
      refine (l3Table_any _ _ xs _ h HL (by omega)).mono ?_
      rw [← HTT.out]
      rintro e w1 ⟨rfl, hb⟩
      have HB := Lib.hid (hb.alloc hb.size (.cells (bools fun _ => false) 23))
      have HT0 := Lib.hid (tab_new w1 (fun _ => false))
      have HB1 := Lib.hid (below_setRow HB.out hb.size (bools t))
      have HT := Lib.hid (tab_row (t := t) HT0.out)
      clear hb
      go_wp2_with (refine wpList_store_row rfl 23 _ _ rfl w1.heap.size (bools t) rfl rfl 23 (bools fun _ => false) (by rw [bools_zero]; exact heap_alloc_new _ _) info64 rfl (bools_one _) ?_)
      rw [← bools_zero]
      obtain ⟨W, hW⟩ : ∃ W, W = ((w1.alloc (.cells (bools fun _ => false) 23)).setRow w1.heap.size (bools t)) := ⟨_, rfl⟩
      rw [← hW] at HB1 HT ⊢
      clear hW HB HT0
      go_loopw [7, 8, 9] (fun i b j wr => ∃ k : Nat, k ≤ p + 2 ∧ i = .int .i64 (k : Int) ∧ Plain.byFrom t (p + 1) (p + 2 - k) k = Plain.hangsBy t (p + 1) ∧ Tab wr w1.heap.size t ∧ Below w.heap.size w wr) (fun i _ _ _ => p + 3 - (intOf i).toNat)
      case atStart => exact ⟨0, by omega, rfl, rfl, HT.out, HB1.out⟩
      case round =>
        obtain ⟨k, hk, rfl, hby, hT1, hB1⟩ := hrel
        have HBY := Lib.hid hby
        have HT1 := Lib.hid hT1
        have HBl1 := Lib.hid hB1
        clear hby hT1 hB1
        by_cases hlt : k < p + 2
        · have hi : (k : Int) ≤ (p : Int) + 1 := by omega
          obtain ⟨f, hf⟩ : ∃ f, p + 2 - k = f + 1 := ⟨p + 1 - k, by omega⟩
          have HF := Lib.hid hf
          clear hf
          go_wp2_with fail
          obtain ⟨wo, rfl⟩ : ∃ wo : World, wo = wr := ⟨_, rfl⟩
          go_loopw [8, 9] (fun b j wr => ∃ m : Nat, m ≤ q ∧ j = .int .i64 (m : Int) ∧ b = .bool (Plain.sameTo t k m) ∧ Tab wr w1.heap.size t ∧ Below w.heap.size w wr) (fun _ j _ => q - (intOf j).toNat)
          case atStart => exact ⟨0, Nat.zero_le _, rfl, rfl, HT1.out, HBl1.out⟩
          case round =>
            obtain ⟨m, hm, rfl, rfl, hT2, hB2⟩ := hrel
            have HT2 := Lib.hid hT2
            have HB2 := Lib.hid hB2
            clear hT2 hB2
            by_cases hlt2 : m < q
            · have hm64 : m < 64 := by omega
              have hc := HT2.out.cell hm64
              have hml := Plain.many_le m
              have hS : Plain.sameTo t k (m + 1) = (Plain.sameTo t k m && (t m == decide (k ≤ Plain.many m))) := rfl
              have hcall := fun W => l3Many_any m W hm64
              have HC := Lib.hid hcall
              have hj0 : (0 : Int) ≤ (m : Int) := by omega
              have hj1 : (m : Int) < 64 := by omega
              have hj2 : (m : Int) < (q : Int) := by omega
              clear hcall
              cases hsm : Plain.sameTo t k m with
              | false =>
                rw [hsm] at hS
                have HS := Lib.hid hS
                clear hS hsm
                go_wp2_with fail
                go_quiet (fail)
                go_wp2_with fail
                go_roundw
                case rel => exact ⟨m + 1, by omega, by go_num, by rw [HS.out]; rfl, HT2.out, below_drewN HB2.out _⟩
                case measure => simp [intOf]; omega
              | true =>
                rw [hsm] at hS
                by_cases hle : k ≤ Plain.many m
                · have hd : decide (k ≤ Plain.many m) = true := by simpa using hle
                  have hle1 : (k : Int) ≤ ((Plain.many m : Nat) : Int) := by omega
                  rw [hd] at hS
                  clear hd
                  cases htm : t m
                  all_goals
                    rw [htm] at hS hc
                    have HS := Lib.hid hS
                    clear hS hsm htm
                    go_wp2_with fail
                    go_quiet ((go_at_call 48; exact Calls.quiet_of_same ((HC.out _).mono fun _ _ h => ⟨h.1, h.2.symm⟩)))
                    go_wp2_with fail
                    go_roundw
                    case rel => exact ⟨m + 1, by omega, by go_num, by rw [HS.out]; rfl, HT2.out, below_drewN HB2.out _⟩
                    case measure => simp [intOf]; omega
                · have hd : decide (k ≤ Plain.many m) = false := by simpa using hle
                  have hle1 : ¬ (k : Int) ≤ ((Plain.many m : Nat) : Int) := by omega
                  rw [hd] at hS
                  clear hd
                  cases htm : t m
                  all_goals
                    rw [htm] at hS hc
                    have HS := Lib.hid hS
                    clear hS hsm htm
                    go_wp2_with fail
                    go_quiet ((go_at_call 48; exact Calls.quiet_of_same ((HC.out _).mono fun _ _ h => ⟨h.1, h.2.symm⟩)))
                    go_wp2_with fail
                    go_roundw
                    case rel => exact ⟨m + 1, by omega, by go_num, by rw [HS.out]; rfl, HT2.out, below_drewN HB2.out _⟩
                    case measure => simp [intOf]; omega
            · obtain rfl : m = q := by omega
              cases hsm : Plain.sameTo t k m with
              | true =>
                have HR2 : Hid (Plain.hangsBy t (p + 1) = some k) := Lib.hid (by
                  rw [← HBY.out, HF.out]
                  exact byFrom_hit (by rw [← HQ.out]; exact hsm))
                clear hsm
                go_wp2_with fail
                go_ret2
                exact val_ib (by rw [HE.out.1, HR2.out]; rfl) (by rw [HE.out.2, HR2.out]; rfl) ⟨rfl, HB2.out⟩
              | false =>
                have HR2 : Hid (Plain.byFrom t (p + 1) (p + 2 - (k + 1)) (k + 1) = Plain.hangsBy t (p + 1)) := Lib.hid (by
                  rw [← HBY.out, HF.out, byFrom_miss (by rw [← HQ.out]; exact hsm)]
                  congr 1
                  have := HF.out
                  omega)
                clear hsm
                go_wp2_with fail
                go_roundw
                case rel => exact ⟨k + 1, by omega, by go_num, HR2.out, HT2.out, HB2.out⟩
                case measure => simp [intOf]; omega
        · obtain rfl : k = p + 2 := by omega
          have HR2 : Hid (Plain.hangsBy t (p + 1) = none) := Lib.hid (by rw [← HBY.out, Nat.sub_self]; rfl)
          have hi : ¬ ((p + 2 : Nat) : Int) ≤ (p : Int) + 1 := by omega
          go_wp2_with fail
          go_ret2
          exact val_ib (by rw [HE.out.1, HR2.out]; rfl) (by rw [HE.out.2, HR2.out]; rfl) ⟨rfl, HBl1.out⟩

end Go.Proofs.Ytkooibimeoojeaa
