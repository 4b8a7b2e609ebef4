/- Contract: laws.markText returns the same text for the same number, in new memory. Condition: a number from 1 to 9999999. -/
import Derived.Test.YthcggmjgecdfgaaRows
import Derived.WalkKit
import Derived.ProofKit
import Derived.OpenShut
import Derived.ShutString
import Derived.Lib.Hide
import Derived.Outline
import Derived.WalkSpells
import Derived.Lib.ConvBytes
namespace Go.Proofs.Ythcggmjgecdfgaa
open Go.ChangeShapes Go.WideShapes Go.ChangeAt Go.RowKit

/-- The digit of a number at its end, and what the loop comes to from a number and a text. -/
def digB (r : Nat) : ByteArray := ⟨#[UInt8.ofNat (48 + r % 10)]⟩
def mkS : Nat → Nat → ByteArray → ByteArray
  | 0, _, out => out
  | f + 1, r, out => if r = 0 then out else mkS f (r / 10) (digB r ++ out)
def markS (k : Nat) : ByteArray := ⟨#[109]⟩ ++ mkS 8 k ⟨#[]⟩

theorem mk_step (f r : Nat) (out : ByteArray) (h : ¬ r = 0) : mkS (f + 1) r out = mkS f (r / 10) (digB r ++ out) := by rw [mkS, if_neg h]
theorem mk_zero (f : Nat) (out : ByteArray) : mkS f 0 out = out := by cases f <;> simp [mkS]

/-- The loop's bound: a text of j bytes, and what is left. -/
theorem room_next {r j b : Nat} (h : r * 10 ^ j ≤ b) : r / 10 * 10 ^ (j + 1) ≤ b := by
  refine Nat.le_trans ?_ h
  rw [Nat.pow_succ, Nat.mul_comm (10 ^ j) 10, ← Nat.mul_assoc]
  exact Nat.mul_le_mul_right _ (Nat.div_mul_le_self r 10)
theorem room_le {r j : Nat} (hr : 1 ≤ r) (h : r * 10 ^ j ≤ 9999999) : j ≤ 6 := by
  refine Nat.le_of_not_lt fun hj => ?_
  have h1 : 10 ^ 7 ≤ 10 ^ j := Nat.pow_le_pow_right (by decide) hj
  have h2 : 1 * 10 ^ j ≤ r * 10 ^ j := Nat.mul_le_mul_right _ hr
  omega

theorem run_dig (r : Nat) (w : World) : (convert 22 9 (.slice (some ⟨w.heap.size, 0, none⟩) 1 1)).run Try.prog (w.alloc (.cells #[.int .u8 (48 + (r : Int) % 10)] 5)) = .ok (.string (digB r)) (w.alloc (.cells #[.int .u8 (48 + (r : Int) % 10)] 5)) := by
  have h := run_convert_bytes_back (P := Try.prog) (w.alloc (.cells #[.int .u8 (48 + (r : Int) % 10)] 5)) 22 9 5 ⟨w.heap.size, 0, none⟩ 1 [UInt8.ofNat (48 + r % 10)] Try.underlying22 Try.underlying5 Try.underlying9 (fun j hj => by
    have hj0 : j = 0 := by simpa using hj
    subst hj0
    rw [add_plain, World.cell?_alloc_at _ _ _ _ rfl]
    simp
    omega)
  exact h

def MarkPost (k : Nat) (w : World) (e : Ending) (w' : World) : Prop := e = .returned (.string (markS k)) ∧ Below w.heap.size w w'

set_option maxHeartbeats 400000 in
theorem mark_any (k : Nat) (h1 : 1 ≤ k) (h2 : k ≤ 9999999) (w : World) : Calls Try.prog 36 #[.int .i64 k] w (MarkPost k w) := by
  go_enter Try.func36, Try.ntmps36
  go_wp2_with fail
  go_loopw [0, 3] (fun n o wr => ∃ (r f : Nat) (out : ByteArray), n = .int .i64 r ∧ o = .string out ∧ mkS f r out = mkS 8 k ⟨#[]⟩ ∧ r * 10 ^ out.size ≤ 9999999 ∧ f + out.size = 8 ∧ Below w.heap.size w wr ∧ w.heap.size ≤ wr.heap.size) (fun n _ _ => (intOf n).toNat)
  case atStart => exact ⟨k, 8, ⟨#[]⟩, rfl, rfl, rfl, by show k * 10 ^ 0 ≤ _; omega, rfl, Below.refl _ _, Nat.le_refl _⟩
  case round =>
    obtain ⟨r, f, out, rfl, rfl, hm, hroom, hf, hb, hws⟩ := hrel
    have HM := Lib.hid hm
    have HB := Lib.hid hb
    have HF := Lib.hid hf
    clear hm hb
    by_cases hr : 0 < r
    · have hj := room_le hr hroom
      have HR := Lib.hid (room_next hroom)
      have hcv := run_dig r
      have b1 : (out.size : Int) ≤ 8388608 := by omega
      have b2 : ((digB r).size : Int) ≤ 8388608 := by show ((1 : Nat) : Int) ≤ _; omega
      have hr9 : (r : Int) ≤ 9999999 := by
        have : 1 * r ≤ 10 ^ out.size * r := Nat.mul_le_mul_right _ (Nat.one_le_pow _ _ (by decide))
        rw [Nat.mul_comm r] at hroom
        omega
      obtain ⟨f', hf'⟩ : ∃ f', f = f' + 1 := ⟨f - 1, by omega⟩
      subst hf'
      have HS := Lib.hid ((mk_step f' r out (by omega)).symm.trans HM.out)
      clear hroom hf hj
      go_wp2
      go_roundw
      case rel => exact ⟨r / 10, f', digB r ++ out, by go_num, rfl, HS.out, by rw [ByteArray.size_append, show (digB r).size = 1 from rfl, Nat.add_comm 1]; exact HR.out, by rw [ByteArray.size_append, show (digB r).size = 1 from rfl]; have := HF.out; omega, HB.out.alloc hws _, by simp; omega⟩
      case measure => simp [intOf]; omega
    · obtain rfl : r = 0 := by omega
      have HZ := Lib.hid (mk_zero f out)
      have hs8 : (out.size : Int) ≤ 8388608 := by omega
      have hs9 : ((⟨#[109]⟩ : ByteArray).size : Int) ≤ 8388608 := by show ((1 : Nat) : Int) ≤ _; omega
      clear hf hroom
      go_wp2
      go_ret
      exact ⟨by rw [← HZ.out, HM.out]; rfl, HB.out⟩

end Go.Proofs.Ythcggmjgecdfgaa
