/- Counting by halves. No condition. -/
import Derived.Test.YtfikbjfgieiifaaRises
namespace Go.Proofs.Ytfikbjfgieiifaa
open Go.ChangeShapes Go.WideShapes Go.ChangeAt Go.RowKit
set_option linter.unusedVariables false

def upC (f : Nat → Bool) : Nat → Nat
  | 0 => 0
  | k + 1 => upC f k + (f k).toNat
def cntB (f : Nat → Bool) (lo : Nat) : Nat → Nat
  | 0 => (f lo).toNat
  | d + 1 => cntB f lo d + cntB f (lo + 2 ^ d) d
theorem upC_more (f : Nat → Bool) : ∀ d lo, upC f (lo + 2 ^ d) = upC f lo + cntB f lo d
  | 0, lo => rfl
  | d + 1, lo => by
    rw [show lo + 2 ^ (d + 1) = (lo + 2 ^ d) + 2 ^ d by rw [Nat.pow_succ]; omega, upC_more f d, upC_more f d, cntB]
    omega
theorem upC_all (f : Nat → Bool) (d : Nat) : upC f (2 ^ d) = cntB f 0 d := by
  have := upC_more f d 0
  rw [Nat.zero_add] at this
  rw [this, upC, Nat.zero_add]
theorem cnt_join {f : Nat → Bool} {lo lo2 d d2 a b s : Nat} (h1 : cntB f lo d = a) (h2 : cntB f lo2 d = b) (hl : lo2 = lo + 2 ^ d) (hd : d2 = d + 1) (hs : a + b = s) : cntB f lo d2 = s := by
  subst hl; subst hd; rw [cntB, h1, h2]; exact hs
theorem upC_to {f : Nat → Bool} {d N s : Nat} (h : N = 2 ^ d) (hc : cntB f 0 d = s) : upC f N = s := by
  subst h; rw [upC_all]; exact hc
theorem upC_le (f : Nat → Bool) : ∀ k, upC f k ≤ k
  | 0 => Nat.le_refl _
  | k + 1 => by
    have := upC_le f k
    have h2 : (f k).toNat ≤ 1 := by cases f k <;> decide
    rw [upC]; omega
theorem upC_in {f : Nat → Bool} {k : Nat} (h : f k = true) : upC f (k + 1) = upC f k + 1 := by rw [upC, h]; rfl
theorem upC_out {f : Nat → Bool} {k : Nat} (h : f k = false) : upC f (k + 1) = upC f k := by rw [upC, h]; rfl

end Go.Proofs.Ytfikbjfgieiifaa
