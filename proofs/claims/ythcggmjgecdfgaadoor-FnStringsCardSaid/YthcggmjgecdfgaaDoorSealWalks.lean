/- Contracts: spec.l1Stands, spec.l1Seal, spec.AppendChecksum, impl.AppendChecksum, spec.VerifyChecksum, impl.VerifyChecksum. Condition: the library's table of powers of ten, and its search bound, lie as a program has them. -/
import Derived.Test.YthcggmjgecdfgaaDoorFmtWalks
import Derived.Test.YthcggmjgecdfgaaDoorSumWalks
import Derived.Test.YthcggmjgecdfgaaDoorSplitWalks
import Derived.Test.YthcggmjgecdfgaaDoorSeal
import Derived.Test.YthcggmjgecdfgaaDoorStandWalks
namespace Go.Proofs.YthcggmjgecdfgaaDoor
open Go.ChangeShapes Go.WideShapes Go.ChangeAt Go.RowKit

/-- Texts of at most 2^20 bytes: the sums of sizes stay small. -/
theorem l1Seal_any (s : ByteArray) (w : World) (hs : s.size ≤ 1048576) :
    Calls Tryd.prog 34 #[.string s] w fun e w' => e = .returned (.string (Plain.sealS s)) ∧ ∃ m, w' = w.drewN m := by
  have hn := Lib.hid (l1Num_nat (Plain.sumOf s.data.toList) (by have := Plain.sumOf_lt s.data.toList; omega))
  have h1 : (s.size : Int) ≤ 8388608 := by omega
  have h2 : ((⟨#[35]⟩ : ByteArray).size : Int) ≤ 8388608 := by show ((1 : Nat) : Int) ≤ _; omega
  have h3 : ((s ++ ⟨#[35]⟩).size : Int) ≤ 8388608 := by rw [ByteArray.size_append]; show ((s.size + 1 : Nat) : Int) ≤ _; omega
  have h4 : ((Plain.numS (Plain.sumOf s.data.toList)).size : Int) ≤ 8388608 := by have := Plain.sumS_size s; unfold Plain.sumS at this; omega
  have hl : s.size ≤ maxLen := by unfold maxLen; omega
  go_enter Tryd.func34, Tryd.ntmps34
  go_wp2_with (first | (go_at_call 43; refine (l1Sum_any _ _ hl).mono ?_; rintro e w' ⟨rfl, rfl⟩) | (go_at_call 25; refine (hn.out _).mono ?_; rintro e w' ⟨rfl, m, rfl⟩))
  go_ret
  exact ⟨rfl, _, rfl⟩

theorem l1Stands_mark (s : ByteArray) (w : World) (hs : s.size ≤ maxLen) :
    Calls Tryd.prog 33 #[.string s, .int .u8 35] w fun e w' => e = .returned (.bool (Plain.has s 35)) ∧ w = w' := l1Stands_any s 35 w hs

theorem contains_mark (s : ByteArray) (w : World) :
    Calls Tryd.prog 32 #[.string s, .string ⟨#[35]⟩] w fun e w' => e = .returned (.bool (Plain.has s 35)) ∧ w = w' := by
  refine (Tryd.strings_Contains_one s 35 w).mono ?_
  rintro e w' ⟨rfl, rfl⟩
  exact ⟨ret_bool (Plain.has_index s 35), rfl⟩

/-- Can the text be sealed? -/
def sealOk (s : ByteArray) : Bool := decide (s.size ≤ 4000) && !Plain.has s 35 && decide ((Plain.sealS s).size ≤ 4000)

theorem specAppend_no (s : ByteArray) (w : World) (hs : s.size ≤ 1048576) (h : sealOk s = false) :
    Calls Tryd.prog 17 #[.string s] w fun e w' => e = .returned (.tuple #[.string ByteArray.empty, .bool false]) ∧ ∃ m, w' = w.drewN m := by
  have hl : s.size ≤ maxLen := by unfold maxLen; omega
  have HH := Lib.hid h
  clear h
  by_cases h1 : 4000 < s.size
  · go_enter Tryd.func17, Tryd.ntmps17
    go_wp2_with fail
    go_ret2
    exact ⟨rfl, 0, rfl⟩
  · cases h2 : Plain.has s 35 with
    | true =>
      go_enter Tryd.func17, Tryd.ntmps17
      go_wp2_with (go_at_call 33; refine (l1Stands_mark _ _ hl).mono ?_; rintro e w' ⟨rfl, rfl⟩)
      go_ret2
      exact ⟨rfl, 0, rfl⟩
    | false =>
      have h3 : 4000 < (Plain.sealS s).size := by
        have := HH.out
        unfold sealOk at this
        rw [h2] at this
        simp at this
        exact this (by omega)
      go_enter Tryd.func17, Tryd.ntmps17
      go_wp2_with (first | (go_at_call 33; refine (l1Stands_mark _ _ hl).mono ?_; rintro e w' ⟨rfl, rfl⟩) | (go_at_call 34; refine (l1Seal_any _ _ hs).mono ?_; rintro e w' ⟨rfl, m, rfl⟩))
      go_ret2
      exact ⟨rfl, _, rfl⟩

theorem specAppend_yes (s : ByteArray) (w : World) (h : sealOk s = true) :
    Calls Tryd.prog 17 #[.string s] w fun e w' => e = .returned (.tuple #[.string (Plain.sealS s), .bool true]) ∧ ∃ m, w' = w.drewN m := by
  unfold sealOk at h
  simp only [Bool.and_eq_true, decide_eq_true_eq, Bool.not_eq_true'] at h
  obtain ⟨⟨h1, h2⟩, h3⟩ := h
  have hl : s.size ≤ maxLen := by unfold maxLen; omega
  have hs : s.size ≤ 1048576 := by omega
  go_enter Tryd.func17, Tryd.ntmps17
  go_wp2_with fail
  go_at_call 33
  refine (l1Stands_mark _ _ hl).mono ?_
  rintro e w' ⟨rfl, rfl⟩
  go_wp2_with fail
  go_at_call 34
  refine (l1Seal_any _ _ hs).mono ?_
  rintro e w' ⟨rfl, m, rfl⟩
  go_wp2_with fail
  go_at_call 34
  refine (l1Seal_any _ _ hs).mono ?_
  rintro e w' ⟨rfl, m2, rfl⟩
  go_wp2
  go_ret2
  exact ⟨rfl, _, rfl⟩

end Go.Proofs.YthcggmjgecdfgaaDoor
