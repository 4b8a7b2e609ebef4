/- How many tables of bits keep the rule, and how many codes the program makes. No condition. -/
import Derived.Test.YtfikbjfgieiifaaChunkA
import Derived.Test.YtfikbjfgieiifaaChunkB
import Derived.Test.YtfikbjfgieiifaaChunkC
import Derived.Test.YtfikbjfgieiifaaChunkD
import Derived.Test.YtfikbjfgieiifaaMoreCodes
namespace Go.Proofs.Ytfikbjfgieiifaa
open Go.ChangeShapes Go.WideShapes Go.ChangeAt Go.RowKit
set_option linter.unusedVariables false

theorem many0 : upC (risesB 0) 2 = 2 := (upC_all _ 1).trans (by kernel_rfl)
theorem many1 : upC (risesB 1) 4 = 3 := (upC_all _ 2).trans (by kernel_rfl)
theorem many2 : upC (risesB 2) 16 = 6 := (upC_all _ 4).trans (by kernel_rfl)
theorem many3 : upC (risesB 3) 256 = 20 := (upC_all _ 8).trans (by kernel_rfl)
theorem k13_0 : cntB (risesB 4) 0 13 = 1 := cnt_join k12_0 k12_1 (by decide) (by decide) (by decide)
theorem k13_1 : cntB (risesB 4) 8192 13 = 0 := cnt_join k12_2 k12_3 (by decide) (by decide) (by decide)
theorem k13_2 : cntB (risesB 4) 16384 13 = 0 := cnt_join k12_4 k12_5 (by decide) (by decide) (by decide)
theorem k13_3 : cntB (risesB 4) 24576 13 = 0 := cnt_join k12_6 k12_7 (by decide) (by decide) (by decide)
theorem k13_4 : cntB (risesB 4) 32768 13 = 5 := cnt_join k12_8 k12_9 (by decide) (by decide) (by decide)
theorem k13_5 : cntB (risesB 4) 40960 13 = 14 := cnt_join k12_10 k12_11 (by decide) (by decide) (by decide)
theorem k13_6 : cntB (risesB 4) 49152 13 = 14 := cnt_join k12_12 k12_13 (by decide) (by decide) (by decide)
theorem k13_7 : cntB (risesB 4) 57344 13 = 134 := cnt_join k12_14 k12_15 (by decide) (by decide) (by decide)
theorem k14_0 : cntB (risesB 4) 0 14 = 1 := cnt_join k13_0 k13_1 (by decide) (by decide) (by decide)
theorem k14_1 : cntB (risesB 4) 16384 14 = 0 := cnt_join k13_2 k13_3 (by decide) (by decide) (by decide)
theorem k14_2 : cntB (risesB 4) 32768 14 = 19 := cnt_join k13_4 k13_5 (by decide) (by decide) (by decide)
theorem k14_3 : cntB (risesB 4) 49152 14 = 148 := cnt_join k13_6 k13_7 (by decide) (by decide) (by decide)
theorem k15_0 : cntB (risesB 4) 0 15 = 1 := cnt_join k14_0 k14_1 (by decide) (by decide) (by decide)
theorem k15_1 : cntB (risesB 4) 32768 15 = 167 := cnt_join k14_2 k14_3 (by decide) (by decide) (by decide)
theorem k16_0 : cntB (risesB 4) 0 16 = 168 := cnt_join k15_0 k15_1 (by decide) (by decide) (by decide)
theorem many4 : upC (risesB 4) 65536 = 168 := upC_to (d := 16) (by decide) k16_0
/-- The codes that the program makes. -/
def codesAt : Nat → List Int
  | 0 => [0, 1]
  | k + 1 => moreTo (codesAt k) (2 ^ k) (codesAt k).length
theorem codes_len : ((List.range 5).map fun k => (codesAt k).length) = [2, 3, 6, 20, 168] := by kernel_rfl
theorem codes_at {k : Nat} {v : Nat} (h : [2, 3, 6, 20, 168][k]? = some v) : (codesAt k).length = v := by
  rw [← codes_len, List.getElem?_map] at h
  have hk : k < 5 := by
    rcases Nat.lt_or_ge k 5 with h5 | h5
    · exact h5
    · rw [List.getElem?_eq_none (by simp; omega)] at h; cases h
  rw [List.getElem?_range hk] at h
  simpa using h
theorem codes_le {k : Nat} (h : k ≤ 4) : (codesAt k).length ≤ 168 := by
  have : k = 0 ∨ k = 1 ∨ k = 2 ∨ k = 3 ∨ k = 4 := by omega
  rcases this with rfl | rfl | rfl | rfl | rfl
  · rw [codes_at (k := 0) rfl]; decide
  · rw [codes_at (k := 1) rfl]; decide
  · rw [codes_at (k := 2) rfl]; decide
  · rw [codes_at (k := 3) rfl]; decide
  · rw [codes_at (k := 4) rfl]; decide
/-- What CountFamilies answers. -/
def cfB (n : Int) : Bool := decide (0 ≤ n ∧ n ≤ 4)
def cfV (n : Int) : Int := if cfB n = true then ((codesAt n.toNat).length : Int) else 0
theorem cf_no {n : Int} (h : cfB n = false) : cfV n = 0 ∧ cfB n = false := ⟨by rw [cfV, h]; rfl, h⟩
theorem cf_yes {p : Nat} (h : p ≤ 4) : cfV (p : Int) = ((codesAt p).length : Int) ∧ cfB (p : Int) = true := by
  have hb : cfB (p : Int) = true := by simp [cfB]; omega
  exact ⟨by rw [cfV, hb, Int.toNat_natCast]; rfl, hb⟩
theorem cf_nat {n : Int} (h : cfB n = true) : ∃ p : Nat, n = (p : Int) ∧ p ≤ 4 := by
  simp [cfB] at h
  exact ⟨n.toNat, by omega, by omega⟩

end Go.Proofs.Ytfikbjfgieiifaa
