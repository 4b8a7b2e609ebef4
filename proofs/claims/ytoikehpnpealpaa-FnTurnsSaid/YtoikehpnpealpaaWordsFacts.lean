/- Facts of FnWords' walk: a short product is the reduced list, how pairs compare, bounds of the counts. No condition. -/
import Derived.Test.YtoikehpnpealpaaWordsMath
import Derived.Test.YtoikehpnpealpaaJoinWWalks
import Derived.Test.YtoikehpnpealpaaDrawWord
namespace Go.Proofs.Ytoikehpnpealpaa
open Go.ChangeShapes Go.WideShapes Go.ChangeAt Go.RowKit
set_option linter.unusedVariables false

theorem prod_full {xs ys zs : List Int} (h : prodOk xs ys zs = true) : prodOut xs ys zs = Plain.red zs ∧ Plain.Letters xs ∧ Plain.Letters ys := by
  unfold prodOk bothB at h
  simp only [Bool.and_eq_true] at h
  obtain ⟨⟨h1, h2⟩, h3⟩ := h
  refine ⟨?_, (Plain.wordB_iff.1 h1).2, (Plain.wordB_iff.1 h2).2⟩
  rw [(prod_yes (zs := zs) h1 h2).1]
  exact (short_yes (by simpa [shortB] using h3)).1
theorem less_facts {xs ys : List Int} (h : pairB xs ys = true) : lessWB xs ys = Plain.lessB xs ys ∧ lessWB ys xs = Plain.lessB ys xs ∧ pairB ys xs = true := by
  have h' : pairB ys xs = true := by
    unfold pairB at h ⊢
    simp only [Bool.and_eq_true] at h ⊢
    exact ⟨h.2, h.1⟩
  exact ⟨by simp [lessWB, h], by simp [lessWB, h'], h'⟩
theorem cnt_in (ws : List Int) (k : Nat) (h : ws.length ≤ 100) : 0 ≤ ((cntOf ws k : Nat) : Int) ∧ ((cntOf ws k : Nat) : Int) ≤ 1000 := by
  have := cnt_le ws k
  unfold cntOf
  split <;> omega

/-! what a word's text, inverse, counts and nails are -/
theorem inv_word {ws : List Int} (h : Plain.wordB ws = true) : Plain.wordB (Plain.inv ws) = true := by
  rw [Plain.wordB_iff] at h ⊢
  exact ⟨by simpa [Plain.inv] using h.1, h.2.inv⟩
theorem word_facts {ws : List Int} (h : Plain.wordB ws = true) : ifWord ws (Plain.red ws) = Plain.red ws ∧ isRedB (Plain.red ws) = true ∧ Plain.wordB (Plain.red ws) = true ∧ In64 (Plain.red ws) ∧ Plain.Letters ws := by
  have hl := (Plain.wordB_iff.1 h).2
  exact ⟨ifWord_yes h, isRed_red h, word_red h, letters_in64 hl.red, hl⟩
theorem text_facts {ws : List Int} (h : Plain.wordB ws = true) : parseOut (wordText ws) = ws ∧ parseB (wordText ws) = true := by
  rw [wordText_yes h]
  exact ⟨(parse_text h).2, (parse_text h).1⟩
theorem inv_facts {ws : List Int} (h : Plain.wordB ws = true) : In64 (ifWord ws (Plain.inv ws)) ∧ prodOut ws (ifWord ws (Plain.inv ws)) (ws ++ ifWord ws (Plain.inv ws)) = [] ∧ prodOk ws (ifWord ws (Plain.inv ws)) (ws ++ ifWord ws (Plain.inv ws)) = true := by
  have hl := (Plain.wordB_iff.1 h).2
  have hi := inv_word h
  rw [ifWord_yes h]
  refine ⟨letters_in64 (Plain.wordB_iff.1 hi).2, ?_, ?_⟩
  · rw [(prod_yes h hi).1, Plain.red_inv]
    simp [short]
  · rw [(prod_yes h hi).2, Plain.red_inv]
    simp [shortB]
theorem and_one (a : Nat) (ha : a < 64) : bits .and .i64 (a : Int) 1 = ((a % 2 : Nat) : Int) := by
  show IntKind.i64.wrap ((BitVec.ofInt 64 (a : Int) &&& BitVec.ofInt 64 ((1 : Nat) : Int)).toNat : Int) = _
  rw [BitVec.toNat_and, ofInt_u64 a (by omega), ofInt_u64 1 (by omega), Nat.and_one_is_mod]
  exact IntWalk.i64_in _ (by omega)
theorem bit_of {ws : List Int} (h : Plain.wordB ws = true) (p q : Nat) (hq : q = 2 ^ p) :
    (0 < ((cntOf ws (p + 1) : Nat) : Int) ∧ bits .and .i64 (nailsOut ws / (q : Int)) 1 = 1) ∨ (((cntOf ws (p + 1) : Nat) : Int) = 0 ∧ bits .and .i64 (nailsOut ws / (q : Int)) 1 = 0) := by
  subst hq
  have hl := (Plain.wordB_iff.1 h).2
  have hlt := nailSet_lt hl
  have hb := nail_bit hl p
  rw [Nat.testBit_eq_decide_div_mod_eq] at hb
  have he : nailsOut ws / ((2 ^ p : Nat) : Int) = ((nailSet ws / 2 ^ p : Nat) : Int) := by rw [nails_yes h]; exact (Int.natCast_ediv _ _).symm
  have hs : nailSet ws / 2 ^ p < 64 := Nat.lt_of_le_of_lt (Nat.div_le_self _ _) hlt
  rw [he, and_one _ hs, ← cntOf_yes h]
  generalize nailSet ws / 2 ^ p = z at hb hs ⊢
  by_cases h0 : 0 < cnt ws (p + 1)
  · left
    have : z % 2 = 1 := by simpa [h0] using hb.symm
    omega
  · right
    have : ¬ z % 2 = 1 := by simpa [h0] using hb.symm
    omega
/-- The sum of the counts of the nails before a place. -/
def part (ws : List Int) : Nat → Int
  | 0 => 0
  | k + 1 => part ws k + ((cntOf ws (k + 1) : Nat) : Int)
theorem part_all {ws : List Int} (h : Plain.wordB ws = true) : part ws 6 = (ws.length : Int) := by
  have := cnt_sum (Plain.wordB_iff.1 h).2
  have k : ∀ n, cntOf ws n = cnt ws n := fun n => if_pos h
  have e : part ws 6 = 0 + ((cntOf ws 1 : Nat) : Int) + ((cntOf ws 2 : Nat) : Int) + ((cntOf ws 3 : Nat) : Int) + ((cntOf ws 4 : Nat) : Int) + ((cntOf ws 5 : Nat) : Int) + ((cntOf ws 6 : Nat) : Int) := rfl
  rw [e, k, k, k, k, k, k]
  omega
theorem part_in (ws : List Int) (h : ws.length ≤ 100) (k : Nat) : 0 ≤ part ws k ∧ part ws k ≤ 1000 * (k : Int) := by
  induction k with
  | zero => simp [part]
  | succ k ih =>
    have := cnt_in ws (k + 1) h
    simp only [part]
    omega

end Go.Proofs.Ytoikehpnpealpaa
