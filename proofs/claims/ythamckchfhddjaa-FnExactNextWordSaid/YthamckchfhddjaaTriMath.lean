/- Plain mathematics of cyclic words: how many there are of a length, by how they end. Conditions: at least one nail. -/
import Derived.Test.YthamckchfhddjaaRankMath
namespace Go.Proofs.Ythamckchfhddjaa.Plain
set_option linter.unusedVariables false

/-- Words with k + 1 letters that begin with one letter: those that end with it, with its opposite, with another one. -/
def tri (n : Int) : Nat → Int × Int × Int
  | 0 => (1, 0, 0)
  | k + 1 => ((tri n k).1 + (tri n k).2.2, (tri n k).2.1 + (tri n k).2.2, (2 * n - 2) * ((tri n k).1 + (tri n k).2.1) + (2 * n - 3) * (tri n k).2.2)
theorem tri_inv {n : Nat} (hn : 1 ≤ n) (k : Nat) : 0 ≤ (tri n k).1 ∧ 0 ≤ (tri n k).2.1 ∧ 0 ≤ (tri n k).2.2 ∧ (n = 1 → (tri n k).2.2 = 0) ∧ 2 * (n : Int) * ((tri n k).1 + (tri n k).2.1 + (tri n k).2.2) = (manyN n k : Nat) := by
  induction k with
  | zero => simp [tri, manyN]
  | succ k ih =>
    obtain ⟨h1, h2, h3, h4, h5⟩ := ih
    obtain ⟨s, hs⟩ : ∃ s, s = (tri n k).1 := ⟨_, rfl⟩
    obtain ⟨b, hb⟩ : ∃ b, b = (tri n k).2.1 := ⟨_, rfl⟩
    obtain ⟨o, ho⟩ : ∃ o, o = (tri n k).2.2 := ⟨_, rfl⟩
    simp only [tri, ← hs, ← hb, ← ho] at h1 h2 h3 h4 h5 ⊢
    have hq : ((manyN n (k + 1) : Nat) : Int) = (manyN n k : Nat) * (2 * (n : Int) - 1) := by
      rw [manyN_step, Int.natCast_mul]
      congr 1
      omega
    refine ⟨by omega, by omega, ?_, fun e => ?_, ?_⟩
    · have p1 : 0 ≤ (2 * (n : Int) - 2) * (s + b) := Int.mul_nonneg (by omega) (by omega)
      by_cases e : n = 1
      · rw [h4 e]; simpa using p1
      · have p2 : 0 ≤ (2 * (n : Int) - 3) * o := Int.mul_nonneg (by omega) h3
        omega
    · subst e; rw [h4 rfl]; simp
    · rw [hq, ← h5]
      generalize 2 * (n : Int) = N
      rw [Int.mul_assoc]
      congr 1
      rw [Int.mul_comm _ (N - 1)]
      simp only [Int.sub_mul, Int.mul_add, Int.one_mul]
      omega

/-- The answers: how many words, how many cyclic ones; whether there are not too many. -/
def fitB (n L : Nat) : Bool := decide (cntN n L ≤ 1000000000000)
def cycN (n : Nat) : Nat → Int
  | 0 => 1
  | k + 1 => 2 * (n : Int) * ((tri n k).1 + (tri n k).2.2)
def cntB (n L : Int) : Bool := decide (1 ≤ n ∧ n ≤ 6 ∧ 0 ≤ L ∧ L ≤ 64) && fitB n.toNat L.toNat
def cntW (n L : Int) : Int := if cntB n L = true then (cntN n.toNat L.toNat : Nat) else 0
def cycW (n L : Int) : Int := if cntB n L = true then cycN n.toNat L.toNat else 0
/-- The counts of the program: same and opposite ends. -/
def endS (n k : Nat) : Int := 2 * (n : Int) * (tri n k).1
def endO (n k : Nat) : Int := 2 * (n : Int) * (tri n k).2.1
theorem end_step {n : Nat} (hn : 1 ≤ n) (k : Nat) : endS n (k + 1) = (manyN n k : Nat) - endO n k ∧ endO n (k + 1) = (manyN n k : Nat) - endS n k := by
  obtain ⟨-, -, -, -, h5⟩ := tri_inv hn k
  rw [← h5]
  simp only [endS, endO, tri, Int.mul_add]
  constructor <;> omega
theorem end_range {n : Nat} (hn : 1 ≤ n) (k : Nat) : 0 ≤ endS n k ∧ endS n k ≤ (manyN n k : Nat) ∧ 0 ≤ endO n k ∧ endO n k ≤ (manyN n k : Nat) := by
  obtain ⟨h1, h2, h3, -, h5⟩ := tri_inv hn k
  have p1 : 0 ≤ 2 * (n : Int) * (tri n k).1 := Int.mul_nonneg (by omega) h1
  have p2 : 0 ≤ 2 * (n : Int) * (tri n k).2.1 := Int.mul_nonneg (by omega) h2
  have p3 : 0 ≤ 2 * (n : Int) * (tri n k).2.2 := Int.mul_nonneg (by omega) h3
  rw [← h5]
  simp only [endS, endO, Int.mul_add]
  omega
theorem cyc_end {n : Nat} (hn : 1 ≤ n) (k : Nat) : cycN n (k + 1) = (manyN n k : Nat) - endO n k := by
  obtain ⟨-, -, -, -, h5⟩ := tri_inv hn k
  rw [← h5]
  simp only [endO, cycN, Int.mul_add]
  omega

end Go.Proofs.Ythamckchfhddjaa.Plain
