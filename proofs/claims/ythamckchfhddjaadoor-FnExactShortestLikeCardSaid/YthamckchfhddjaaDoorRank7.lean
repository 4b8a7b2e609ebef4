/- Contracts: impl.firstRankBehind, rankBefore, slices.Index at numbers; spec.l7Rank; RankWord of both. Conditions: numbers of 64 bits, lengths that fit. -/
import Derived.Test.YthamckchfhddjaaDoorWordOf
import Derived.Test.YthamckchfhddjaaDoorBehind
import Derived.Test.YthamckchfhddjaaDoorLessWalks
import Derived.Deep.RegionLaw
namespace Go.Proofs.YthamckchfhddjaaDoor
open Go.ChangeShapes Go.WideShapes Go.ChangeAt Go.RowKit
set_option linter.unusedVariables false

theorem ints_take {w : World} {a : Option Addr} {xs : List Int} (h : Ints w a xs) (k : Nat) : Ints w a (xs.take k) := fun j x hx => by
  have hl := at_lt hx
  simp at hl
  rw [List.getElem?_take_of_lt (by omega)] at hx
  exact h j x hx
theorem fold_keeps (l : List Int) : ∀ (s p : Nat), s.testBit p = true → (l.foldl nailStep s).testBit p = true := by
  induction l with
  | nil => intro s p h; exact h
  | cons x l ih => intro s p h; exact ih _ p (by rw [nailStep, Nat.testBit_or, h]; rfl)
theorem fold_bit {x : Int} (l : List Int) : ∀ s, x ∈ l → (l.foldl nailStep s).testBit ((Plain.nail x).toNat - 1) = true := by
  induction l with
  | nil => intro s h; cases h
  | cons y l ih =>
    intro s h
    rcases List.mem_cons.1 h with rfl | h
    · exact fold_keeps l _ _ (by rw [nailStep, Nat.testBit_or, Nat.testBit_two_pow_self]; simp)
    · exact ih _ h
theorem nailSet_bit {x : Int} {xs : List Int} (h : x ∈ xs) : (nailSet xs).testBit ((Plain.nail x).toNat - 1) = true := fold_bit xs 0 h
/-- What the words of the nails 1..n are. -/
theorem good_of {xs : List Int} {n : Nat} (h : wordOfB xs (n : Int) = true) : Plain.Good n xs ∧ xs.length ≤ 64 ∧ Plain.Letters xs ∧ 1 ≤ n ∧ n ≤ 6 := by
  obtain ⟨h1, h2, h3, h4⟩ := wordOf_word h
  obtain ⟨hl, hL⟩ := Plain.wordB_iff.1 h1
  rw [Int.toNat_natCast] at h4
  simp only [n6B, decide_eq_true_eq] at h3
  refine ⟨fun k x hx => ⟨?_, ?_⟩, hl, hL, by omega, by omega⟩
  · obtain ⟨hx0, hx1, hx2⟩ := hL.at hx
    refine ⟨(Plain.codeOf x).toNat, ?_, (Plain.letter_code hx0).symm⟩
    have hbit : (nailSet xs).testBit ((Plain.nail x).toNat - 1) = true := nailSet_bit (List.mem_of_getElem? hx)
    have hlt : (Plain.nail x).toNat - 1 < n := by
      refine Nat.not_le.1 fun hle => ?_
      have hz := Nat.testBit_lt_two_pow (Nat.lt_of_lt_of_le h4 (Nat.pow_le_pow_right (by decide) hle))
      rw [hz] at hbit
      cases hbit
    unfold Plain.nail at hlt
    unfold Plain.codeOf
    split at hlt <;> split <;> omega
  · cases k with
    | zero => rw [List.take_zero]; exact Plain.stays_nil x
    | succ k =>
      have hk := at_lt hx
      obtain ⟨y, hy⟩ := at_some xs k (by omega)
      have hlen : (xs.take (k + 1)).length = k + 1 := by simp; omega
      have hy' : (xs.take (k + 1))[(xs.take (k + 1)).length - 1]? = some y := by rw [hlen, List.getElem?_take_of_lt (by omega)]; exact hy
      rw [Plain.stays_some hy']
      have hr := (reduced_take_succ hy hx).1 (reduced_part (k := k + 2) (red_iff.1 h2))
      simpa using hr.2

theorem code_nat {x : Int} (h : x ≠ 0) : ∃ c : Nat, Plain.codeOf x = (c : Int) := ⟨(Plain.codeOf x).toNat, by unfold Plain.codeOf; split <;> omega⟩

end Go.Proofs.YthamckchfhddjaaDoor
