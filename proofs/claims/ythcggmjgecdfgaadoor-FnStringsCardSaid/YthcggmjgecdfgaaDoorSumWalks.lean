/- Contracts: spec.l1Sum, spec.Checksum and impl.Checksum return the checksum of every string (with false above 4000 bytes). No condition. -/
import Derived.Test.YthcggmjgecdfgaaDoorRows
import Derived.Test.YthcggmjgecdfgaaDoorSum
import Derived.WalkKit
import Derived.ProofKit
import Derived.OpenShut
import Derived.ShutString
import Derived.Lib.Hide
import Derived.Outline
namespace Go.Proofs.YthcggmjgecdfgaaDoor
open Go.ChangeShapes Go.WideShapes Go.ChangeAt Go.RowKit

theorem ret_int {k : IntKind} {a b : Int} (h : a = b) : Ending.returned (.int k a) = .returned (.int k b) := by rw [h]

theorem sum_next {n m : Nat} {c : UInt8} (h : m = (41 * n + c.toNat + 1) % 999979) : ((41 * (n : Int) + (c.toNat : Int) + 1) % 999979) = (m : Int) := by
  subst h; omega

set_option maxHeartbeats 400000 in
theorem l1Sum_any (s : ByteArray) (w : World) (hs : s.size ≤ maxLen) :
    Calls Tryd.prog 43 #[.string s] w fun e w' => e = .returned (.int .i64 (Plain.sumOf s.data.toList : Nat)) ∧ w = w' := by
  unfold maxLen at hs
  go_enter Tryd.func43, Tryd.ntmps43
  go_wp2
  go_loop [3, 4] (fun n i => ∃ k : Nat, k ≤ s.size ∧ i = .int .i64 k ∧ n = .int .i64 (Plain.sumOf (s.data.toList.take k) : Nat)) (fun _ i => s.size - (intOf i).toNat)
  case atStart => exact ⟨0, Nat.zero_le _, rfl, rfl⟩
  case round =>
    obtain ⟨k, hk, rfl, rfl⟩ := hrel
    have hd := Plain.sumOf_lt (s.data.toList.take k)
    by_cases hlt : k < s.size
    · have HS := Lib.hid (Plain.sumOf_take s k hlt)
      generalize Plain.sumOf (s.data.toList.take k) = n at HS hd ⊢
      have hn : (n : Int) < 999979 := by omega
      have hn0 : (0 : Int) ≤ (n : Int) := by omega
      have hb : (s[k].toNat : Int) ≤ 255 := by have := UInt8.toNat_lt s[k]; omega
      have hb0 : (0 : Int) ≤ (s[k].toNat : Int) := by omega
      go_wp2
      go_round
      case rel => exact ⟨k + 1, by omega, by go_num, by rw [sum_next HS.out]⟩
      case measure => simp [intOf]; omega
    · go_wp2
      go_ret
      exact ⟨ret_int (by rw [Plain.take_all s k (by omega)]), rfl⟩

theorem implChecksum_long (s : ByteArray) (w : World) (hs : s.size ≤ maxLen) (hl : 4000 < s.size) :
    Calls Tryd.prog 31 #[.string s] w fun e w' => e = .returned (.tuple #[.int .i64 0, .bool false]) ∧ w = w' := by
  unfold maxLen at hs
  go_enter Tryd.func31, Tryd.ntmps31
  go_wp2
  go_ret2
  exact ⟨rfl, rfl⟩

theorem ret_int_bool {k : IntKind} {a b : Int} {c : Bool} (h : a = b) : Ending.returned (.tuple #[.int k a, .bool c]) = .returned (.tuple #[.int k b, .bool c]) := by rw [h]

set_option maxHeartbeats 400000 in
theorem implChecksum_any (s : ByteArray) (w : World) (hl : s.size ≤ 4000) :
    Calls Tryd.prog 31 #[.string s] w fun e w' => e = .returned (.tuple #[.int .i64 (Plain.sumOf s.data.toList : Nat), .bool true]) ∧ w = w' := by
  go_enter Tryd.func31, Tryd.ntmps31
  go_wp2
  go_loop [4, 11] (fun n i => ∃ k : Nat, k ≤ s.size ∧ i = .int .i64 k ∧ n = .int .i64 (Plain.sumOf (s.data.toList.take k) : Nat)) (fun _ i => s.size - (intOf i).toNat)
  case atStart => exact ⟨0, Nat.zero_le _, rfl, rfl⟩
  case round =>
    obtain ⟨k, hk, rfl, rfl⟩ := hrel
    have hd := Plain.sumOf_lt (s.data.toList.take k)
    by_cases hlt : k < s.size
    · have HS := Lib.hid (Plain.sumOf_take s k hlt)
      generalize Plain.sumOf (s.data.toList.take k) = n at HS hd ⊢
      have hn : (n : Int) < 999979 := by omega
      have hn0 : (0 : Int) ≤ (n : Int) := by omega
      have hb : (s[k].toNat : Int) ≤ 255 := by have := UInt8.toNat_lt s[k]; omega
      have hb0 : (0 : Int) ≤ (s[k].toNat : Int) := by omega
      go_wp2
      go_round
      case rel => exact ⟨k + 1, by omega, by go_num, by rw [sum_next HS.out]⟩
      case measure => simp [intOf]; omega
    · go_wp2
      go_ret2
      exact ⟨ret_int_bool (by rw [Plain.take_all s k (by omega)]), rfl⟩

end Go.Proofs.YthcggmjgecdfgaaDoor
