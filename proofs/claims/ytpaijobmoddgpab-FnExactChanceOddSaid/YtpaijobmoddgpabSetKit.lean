/- Contracts: spec.l3Set, l3In, l3Many, impl.isSet, nailSet; the operations on bits at sets. Conditions: sets from 0 to 63. -/
import Derived.Test.YtpaijobmoddgpabRange
import Derived.Test.YtpaijobmoddgpabLawKit
import Derived.Test.YtpaijobmoddgpabWord
import Derived.Laws.BitsAllLaws
namespace Go.Proofs.Ytpaijobmoddgpab
open Go.ChangeShapes Go.WideShapes Go.ChangeAt Go.RowKit
set_option linter.unusedVariables false

/-- Behind a call that hands back a list. -/
def ListPost (out : List Int) (w : World) (e : Ending) (w' : World) : Prop := ∃ v, e = .returned v ∧ Res w.heap.size w' v out ∧ Below w.heap.size w w'
def setB (n : Int) : Bool := decide (0 ≤ n ∧ n ≤ 63)
theorem and_bit (a : Nat) (ha : a < 64) : bits .and .i64 (a : Int) 1 = ((a % 2 : Nat) : Int) := by
  show IntKind.i64.wrap ((BitVec.ofInt 64 (a : Int) &&& BitVec.ofInt 64 ((1 : Nat) : Int)).toNat : Int) = _
  rw [BitVec.toNat_and, ofInt_u64 a (by omega), ofInt_u64 1 (by omega), Nat.and_one_is_mod]
  exact IntWalk.i64_in _ (by omega)
theorem bit_at (s p : Nat) (hs : s < 64) : bits .and .i64 ((s : Int) / ((2 ^ p : Nat) : Int)) 1 = if s.testBit p = true then 1 else 0 := by
  have he : (s : Int) / ((2 ^ p : Nat) : Int) = ((s / 2 ^ p : Nat) : Int) := (Int.natCast_ediv _ _).symm
  have hl : s / 2 ^ p < 64 := Nat.lt_of_le_of_lt (Nat.div_le_self _ _) hs
  rw [he, and_bit _ hl, Nat.testBit_eq_decide_div_mod_eq]
  generalize s / 2 ^ p = z
  by_cases h : z % 2 = 1
  · simp [h]
  · simp [h]; omega
theorem l3In_any (s p : Nat) (w : World) (hs : s < 64) (hp : p ≤ 5) : Calls Try.prog 63 #[.int .i64 (s : Int), .int .i64 ((p : Int) + 1)] w fun e w' => e = .returned (.bool (s.testBit p)) ∧ w = w' := by
  have hb := bit_at s p hs
  have h6 : p = 0 ∨ p = 1 ∨ p = 2 ∨ p = 3 ∨ p = 4 ∨ p = 5 := by omega
  cases ht : s.testBit p with
  | true =>
    rw [ht] at hb
    rcases h6 with rfl | rfl | rfl | rfl | rfl | rfl
    all_goals
      simp at hb
      clear ht
      go_enter Try.func63, Try.ntmps63
      go_wp2_with fail
      go_ret
      exact ⟨rfl, rfl⟩
  | false =>
    rw [ht] at hb
    rcases h6 with rfl | rfl | rfl | rfl | rfl | rfl
    all_goals
      simp at hb
      clear ht
      go_enter Try.func63, Try.ntmps63
      go_wp2_with fail
      go_ret
      exact ⟨rfl, rfl⟩
theorem set_nat {n : Int} (h : setB n = true) : ∃ s : Nat, n = (s : Int) ∧ s < 64 := by
  have h' : 0 ≤ n ∧ n ≤ 63 := by simpa [setB] using h
  obtain ⟨s, rfl⟩ := Int.eq_ofNat_of_zero_le h'.1
  exact ⟨s, rfl, by omega⟩
theorem sb_of {out out' : List Int} {ok ok' : Bool} {w w' : World} {e : Ending} (h1 : out = out') (h2 : ok = ok') (h : SB out ok w e w') : SB out' ok' w e w' := by subst h1; subst h2; exact h
theorem val_bb {a b a' b' : Bool} {w w' : World} {e : Ending} (h1 : a = a') (h2 : b = b') (h : Val (.tuple #[.bool a, .bool b]) w e w') : Val (.tuple #[.bool a', .bool b']) w e w' := by subst h1; subst h2; exact h
theorem or_small (a b : Nat) (ha : a < 64) (hb : b < 64) : bits .or .i64 (a : Int) (b : Int) = ((a ||| b : Nat) : Int) := by
  show IntKind.i64.wrap ((BitVec.ofInt 64 (a : Int) ||| BitVec.ofInt 64 (b : Int)).toNat : Int) = _
  rw [BitVec.toNat_or, ofInt_u64 a (by omega), ofInt_u64 b (by omega)]
  have : a ||| b < 64 := Nat.or_lt_two_pow (n := 6) ha hb
  exact IntWalk.i64_in _ (by omega)
theorem nailSet_any (p q : Nat) (w : World) (hp : p ≤ 5) (hq : (2 : Int) ^ p = (q : Int)) : Calls Try.prog 78 #[.int .i64 ((p : Int) + 1)] w fun e w' => e = .returned (.int .i64 (q : Int)) ∧ w = w' := by
  have hq32 : q ≤ 32 := by
    have h1 : (2 : Nat) ^ p = q := by exact_mod_cast hq
    rw [← h1]
    exact Nat.le_trans (Nat.pow_le_pow_right (by decide) hp) (by decide)
  go_enter Try.func78, Try.ntmps78
  go_wp2_with fail
  go_ret
  exact ⟨rfl, rfl⟩
theorem xor_small (a b : Nat) (ha : a < 64) (hb : b < 64) : bits .xor .i64 (a : Int) (b : Int) = ((a ^^^ b : Nat) : Int) := by
  show IntKind.i64.wrap ((BitVec.ofInt 64 (a : Int) ^^^ BitVec.ofInt 64 (b : Int)).toNat : Int) = _
  rw [BitVec.toNat_xor, ofInt_u64 a (by omega), ofInt_u64 b (by omega)]
  have : a ^^^ b < 64 := Nat.xor_lt_two_pow (n := 6) ha hb
  exact IntWalk.i64_in _ (by omega)
theorem pow_small {n : Nat} (h : n < 6) : 2 ^ n ≤ 32 := Nat.le_trans (Nat.pow_le_pow_right (by decide) (by omega : n ≤ 5)) (by decide)
theorem and_small (a b : Nat) (ha : a < 64) (hb : b < 64) : bits .and .i64 (a : Int) (b : Int) = ((a &&& b : Nat) : Int) := by
  show IntKind.i64.wrap ((BitVec.ofInt 64 (a : Int) &&& BitVec.ofInt 64 (b : Int)).toNat : Int) = _
  rw [BitVec.toNat_and, ofInt_u64 a (by omega), ofInt_u64 b (by omega)]
  have : a &&& b < 64 := Nat.and_lt_two_pow (n := 6) a hb
  exact IntWalk.i64_in _ (by omega)
theorem and_nail {s p q : Nat} (hs : s < 64) (hp : p ≤ 5) (hq : (2 : Int) ^ p = (q : Int)) : bits .and .i64 (s : Int) (q : Int) = if s.testBit p = true then (q : Int) else 0 := by
  have h1 : (2 : Nat) ^ p = q := by exact_mod_cast hq
  have h2 : q ≤ 32 := by
    rw [← h1]
    exact Nat.le_trans (Nat.pow_le_pow_right (by decide) hp) (by decide)
  rw [and_small s q hs (by omega), ← h1]
  have he : s &&& 2 ^ p = if s.testBit p = true then 2 ^ p else 0 := by
    apply Nat.eq_of_testBit_eq
    intro i
    rw [Nat.testBit_and, Nat.testBit_two_pow]
    by_cases e : p = i
    · subst e
      cases ht : s.testBit p <;> simp
    · cases ht : s.testBit p <;> simp [e]
  rw [he]
  cases s.testBit p <;> simp
theorem clr_all : ((List.range 64).all fun a => (List.range 64).all fun b => decide (bits .andNot .i64 (a : Int) (b : Int) = ((Plain.clr a b : Nat) : Int))) = true := by kernel_rfl
theorem clr_small {a b : Nat} (ha : a < 64) (hb : b < 64) : bits .andNot .i64 (a : Int) (b : Int) = ((Plain.clr a b : Nat) : Int) := by
  have h1 := List.all_eq_true.1 (List.all_eq_true.1 clr_all a (List.mem_range.2 ha)) b (List.mem_range.2 hb)
  simpa using h1
theorem clr_lt {a : Nat} (b : Nat) (ha : a < 64) : Plain.clr a b < 64 := Nat.xor_lt_two_pow (n := 6) ha (Nat.lt_of_le_of_lt Nat.and_le_left ha)

end Go.Proofs.Ytpaijobmoddgpab
