/- Contracts: spec.l1Stands, spec.l1Seal, spec.AppendChecksum, impl.AppendChecksum, spec.VerifyChecksum, impl.VerifyChecksum. Condition: the library's table of powers of ten, and its search bound, lie as a program has them. -/
import Derived.Test.YthcggmjgecdfgaaDoorFmtWalks
import Derived.Test.YthcggmjgecdfgaaDoorSumWalks
import Derived.Test.YthcggmjgecdfgaaDoorSplitWalks
import Derived.Test.YthcggmjgecdfgaaDoorSeal
namespace Go.Proofs.YthcggmjgecdfgaaDoor
open Go.ChangeShapes Go.WideShapes Go.ChangeAt Go.RowKit

theorem ret_bool {a b : Bool} (h : a = b) : Ending.returned (.bool a) = .returned (.bool b) := by rw [h]

theorem l1Stands_any (s : ByteArray) (c : UInt8) (w : World) (hs : s.size ≤ maxLen) :
    Calls Tryd.prog 33 #[.string s, .int .u8 (c.toNat : Int)] w fun e w' => e = .returned (.bool (Plain.has s c)) ∧ w = w' := by
  unfold maxLen at hs
  go_enter Tryd.func33, Tryd.ntmps33
  go_wp2
  go_loop [5] (fun i => ∃ k : Nat, k ≤ s.size ∧ i = .int .i64 k ∧ c ∉ s.data.toList.take k) (fun i => s.size - (intOf i).toNat)
  case atStart => exact ⟨0, Nat.zero_le _, rfl, by simp⟩
  case round =>
    obtain ⟨k, hk, rfl, hno⟩ := hrel
    have HN := Lib.hid hno
    clear hno
    by_cases hlt : k < s.size
    · by_cases he : s[k] = c
      · have hbq : ((s[k].toNat : Int) == (c.toNat : Int)) = true := by rw [he]; simp
        have HE := Lib.hid he
        clear he
        go_wp2
        go_ret
        exact ⟨ret_bool (by
          have h1 := Plain.take_snoc s k hlt
          have h2 : c ∈ s.data.toList := List.mem_of_mem_take (i := k + 1) (by rw [h1, HE.out]; simp)
          unfold Plain.has; simp [h2]), rfl⟩
      · have hbq : ((s[k].toNat : Int) == (c.toNat : Int)) = false := by
          rw [beq_eq_false_iff_ne]
          intro e
          exact he (UInt8.toNat_inj.1 (by omega))
        have HE := Lib.hid he
        clear he
        go_wp2
        go_round
        case rel => exact ⟨k + 1, by omega, by go_num, by rw [Plain.take_snoc s k hlt]; simp only [List.mem_append, List.mem_singleton, not_or]; exact ⟨HN.out, fun e => HE.out e.symm⟩⟩
        case measure => simp [intOf]; omega
    · go_wp2
      go_ret
      exact ⟨ret_bool (by
        have h := HN.out
        rw [Plain.take_all s k (by omega)] at h
        unfold Plain.has; simp [h]), rfl⟩

/-- Texts of at most 2^20 bytes: the sums of sizes stay small. -/
theorem l1Seal_any (s : ByteArray) (w : World) (hs : s.size ≤ 1048576) :
    Calls Tryd.prog 34 #[.string s] w fun e w' => e = .returned (.string (Plain.sealS s)) ∧ ∃ m, w' = w.drewN m := by
  have hn := Lib.hid (l1Num_nat (Plain.sumOf s.data.toList) (by have := Plain.sumOf_lt s.data.toList; omega))
  have h1 : (s.size : Int) ≤ 8388608 := by omega
  have h2 : ((⟨#[35]⟩ : ByteArray).size : Int) ≤ 8388608 := by show ((1 : Nat) : Int) ≤ _; omega
  have h3 : ((s ++ ⟨#[35]⟩).size : Int) ≤ 8388608 := by rw [ByteArray.size_append]; show ((s.size + 1 : Nat) : Int) ≤ _; omega
  have h4 : ((Plain.numS (Plain.sumOf s.data.toList)).size : Int) ≤ 8388608 := by have := Plain.sumS_size s; unfold Plain.sumS at this; omega
  have hl : s.size ≤ maxLen := by unfold maxLen; omega
  go_enter Tryd.func34, Tryd.ntmps34
  go_wp2_with (first | (go_at_call 43; refine (l1Sum_any _ _ hl).mono ?_; rintro e w' ⟨rfl, rfl⟩) | (go_at_call 25; refine (hn.out _).mono ?_; rintro e w' ⟨rfl, m, rfl⟩))
  go_ret
  exact ⟨rfl, _, rfl⟩

theorem l1Stands_mark (s : ByteArray) (w : World) (hs : s.size ≤ maxLen) :
    Calls Tryd.prog 33 #[.string s, .int .u8 35] w fun e w' => e = .returned (.bool (Plain.has s 35)) ∧ w = w' := l1Stands_any s 35 w hs

theorem contains_mark (s : ByteArray) (w : World) :
    Calls Tryd.prog 32 #[.string s, .string ⟨#[35]⟩] w fun e w' => e = .returned (.bool (Plain.has s 35)) ∧ w = w' := by
  refine (Tryd.strings_Contains_one s 35 w).mono ?_
  rintro e w' ⟨rfl, rfl⟩
  exact ⟨ret_bool (Plain.has_index s 35), rfl⟩

/-- Can the text be sealed? -/
def sealOk (s : ByteArray) : Bool := decide (s.size ≤ 4000) && !Plain.has s 35 && decide ((Plain.sealS s).size ≤ 4000)

theorem specAppend_no (s : ByteArray) (w : World) (hs : s.size ≤ 1048576) (h : sealOk s = false) :
    Calls Tryd.prog 17 #[.string s] w fun e w' => e = .returned (.tuple #[.string ByteArray.empty, .bool false]) ∧ ∃ m, w' = w.drewN m := by
  have hl : s.size ≤ maxLen := by unfold maxLen; omega
  have HH := Lib.hid h
  clear h
  by_cases h1 : 4000 < s.size
  · go_enter Tryd.func17, Tryd.ntmps17
    go_wp2_with fail
    go_ret2
    exact ⟨rfl, 0, rfl⟩
  · cases h2 : Plain.has s 35 with
    | true =>
      go_enter Tryd.func17, Tryd.ntmps17
      go_wp2_with (go_at_call 33; refine (l1Stands_mark _ _ hl).mono ?_; rintro e w' ⟨rfl, rfl⟩)
      go_ret2
      exact ⟨rfl, 0, rfl⟩
    | false =>
      have h3 : 4000 < (Plain.sealS s).size := by
        have := HH.out
        unfold sealOk at this
        rw [h2] at this
        simp at this
        exact this (by omega)
      go_enter Tryd.func17, Tryd.ntmps17
      go_wp2_with (first | (go_at_call 33; refine (l1Stands_mark _ _ hl).mono ?_; rintro e w' ⟨rfl, rfl⟩) | (go_at_call 34; refine (l1Seal_any _ _ hs).mono ?_; rintro e w' ⟨rfl, m, rfl⟩))
      go_ret2
      exact ⟨rfl, _, rfl⟩

theorem specAppend_yes (s : ByteArray) (w : World) (h : sealOk s = true) :
    Calls Tryd.prog 17 #[.string s] w fun e w' => e = .returned (.tuple #[.string (Plain.sealS s), .bool true]) ∧ ∃ m, w' = w.drewN m := by
  unfold sealOk at h
  simp only [Bool.and_eq_true, decide_eq_true_eq, Bool.not_eq_true'] at h
  obtain ⟨⟨h1, h2⟩, h3⟩ := h
  have hl : s.size ≤ maxLen := by unfold maxLen; omega
  have hs : s.size ≤ 1048576 := by omega
  go_enter Tryd.func17, Tryd.ntmps17
  go_wp2_with fail
  go_at_call 33
  refine (l1Stands_mark _ _ hl).mono ?_
  rintro e w' ⟨rfl, rfl⟩
  go_wp2_with fail
  go_at_call 34
  refine (l1Seal_any _ _ hs).mono ?_
  rintro e w' ⟨rfl, m, rfl⟩
  go_wp2_with fail
  go_at_call 34
  refine (l1Seal_any _ _ hs).mono ?_
  rintro e w' ⟨rfl, m2, rfl⟩
  go_wp2
  go_ret2
  exact ⟨rfl, _, rfl⟩

end Go.Proofs.YthcggmjgecdfgaaDoor
