/- Plain mathematics: looking for the fewest nails from the least set on, strictly fewer each time, finds the same set as looking downwards. No condition. -/
import Derived.Test.YtkooibimeoojeaaFall
import Derived.ProofKit
namespace Go.Proofs.Ytkooibimeoojeaa.Plain
set_option linter.unusedVariables false

def fewTo (t : Nat → Bool) : Nat → Nat
  | 0 => 63
  | k + 1 => if (t k && decide (many k < many (fewTo t k))) = true then k else fewTo t k
theorem fewTo_lt (t : Nat → Bool) : ∀ k, k ≤ 64 → fewTo t k < 64 := by
  intro k
  induction k with
  | zero => intro _; exact Nat.lt_of_sub_eq_succ rfl
  | succ k ih =>
    intro hk
    have := ih (by omega)
    rw [fewTo]; split <;> omega
theorem many_six : ((List.range 63).all fun s => decide (many s < 6)) = true := by kernel_rfl
theorem many_lt {s : Nat} (h : s < 63) : many s < 6 := by
  have h1 := List.all_eq_true.1 many_six s (List.mem_range.2 h)
  simpa using h1
theorem many_top : many 63 = 6 := by kernel_rfl
theorem few_min (t : Nat → Bool) : ∀ k, k ≤ 63 → (fewTo t k = 63 ∨ (fewTo t k < k ∧ t (fewTo t k) = true)) ∧ (∀ s, s < k → t s = true → many (fewTo t k) * 64 + fewTo t k ≤ many s * 64 + s) := by
  intro k
  induction k with
  | zero => intro _; exact ⟨.inl rfl, fun s h => absurd h (by omega)⟩
  | succ k ih =>
    intro hk
    obtain ⟨h1, h2⟩ := ih (by omega)
    rw [fewTo]
    split
    · rename_i hc
      simp only [Bool.and_eq_true, decide_eq_true_eq] at hc
      refine ⟨.inr ⟨by omega, hc.1⟩, fun s hs ht => ?_⟩
      by_cases e : s = k
      · subst e; omega
      · have := h2 s (by omega) ht
        rcases h1 with h1 | h1 <;> omega
    · rename_i hc
      simp only [Bool.and_eq_true, decide_eq_true_eq, not_and] at hc
      refine ⟨?_, fun s hs ht => ?_⟩
      · rcases h1 with h1 | h1
        · exact .inl h1
        · exact .inr ⟨by omega, h1.2⟩
      · by_cases e : s = k
        · subst e
          have h3 := hc ht
          rcases h1 with h1 | h1
          · have h4 := many_lt (s := s) (by omega)
            rw [h1, many_top] at h3
            omega
          · omega
        · exact h2 s (by omega) ht
theorem best_min (t : Nat → Bool) : ∀ k, k ≤ 63 → (bestTo t k = 63 ∨ (63 - k ≤ bestTo t k ∧ bestTo t k < 63 ∧ t (bestTo t k) = true)) ∧ (∀ s, 63 - k ≤ s → s < 63 → t s = true → many (bestTo t k) * 64 + bestTo t k ≤ many s * 64 + s) := by
  intro k
  induction k with
  | zero => intro _; exact ⟨.inl rfl, fun s h h' _ => by omega⟩
  | succ k ih =>
    intro hk
    obtain ⟨h1, h2⟩ := ih (by omega)
    rw [bestTo]
    split
    · rename_i hc
      simp only [Bool.and_eq_true, decide_eq_true_eq] at hc
      refine ⟨.inr ⟨by omega, by omega, hc.1⟩, fun s hs hs2 ht => ?_⟩
      by_cases e : s = 62 - k
      · subst e; omega
      · have := h2 s (by omega) hs2 ht
        rcases h1 with h1 | h1 <;> omega
    · rename_i hc
      simp only [Bool.and_eq_true, decide_eq_true_eq, not_and] at hc
      refine ⟨?_, fun s hs hs2 ht => ?_⟩
      · rcases h1 with h1 | h1
        · exact .inl h1
        · exact .inr ⟨by omega, h1.2⟩
      · by_cases e : s = 62 - k
        · subst e
          have h3 := hc ht
          have h4 := bestTo_lt t k
          omega
        · exact h2 s (by omega) hs2 ht
theorem few_best (t : Nat → Bool) : fewTo t 64 = best t := by
  obtain ⟨a1, a2⟩ := few_min t 63 (by omega)
  obtain ⟨b1, b2⟩ := best_min t 63 (by omega)
  have h63 : fewTo t 64 = fewTo t 63 := by
    rw [fewTo]
    refine if_neg ?_
    simp only [Bool.and_eq_true, decide_eq_true_eq, not_and]
    intro _
    have := many_le (fewTo t 63)
    rw [many_top]
    omega
  rw [h63, best]
  have key : ∀ x y : Nat, many x * 64 + x ≤ many y * 64 + y → many y * 64 + y ≤ many x * 64 + x → x < 64 → y < 64 → x = y := fun x y h1 h2 hx hy => by omega
  have m1 := fewTo_lt t 63 (by omega)
  have m2 := bestTo_lt t 63
  rcases a1 with a1 | a1
  · rcases b1 with b1 | b1
    · rw [a1, b1]
    · have h := a2 (bestTo t 63) b1.2.1 b1.2.2
      have h4 := many_lt b1.2.1
      rw [a1, many_top] at h
      omega
  · rcases b1 with b1 | b1
    · have h := b2 (fewTo t 63) (by omega) a1.1 a1.2
      have h4 := many_lt a1.1
      rw [b1, many_top] at h
      omega
    · exact key _ _ (a2 _ b1.2.1 b1.2.2) (b2 _ (by omega) a1.1 a1.2) m1 m2

end Go.Proofs.Ytkooibimeoojeaa.Plain
