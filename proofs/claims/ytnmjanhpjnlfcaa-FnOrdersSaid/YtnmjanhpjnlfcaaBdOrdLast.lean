/- Plain mathematics: what the law of orders asks of quotients, commutators, conjugates, as the program reckons the orders. Conditions: letters. -/
import Derived.Test.YtnmjanhpjnlfcaaOrdMath
import Derived.Test.YtnmjanhpjnlfcaaProd
import Derived.Test.YtnmjanhpjnlfcaaWindCount
import Derived.Test.YtnmjanhpjnlfcaaWindFirst
import Derived.Test.YtnmjanhpjnlfcaaWindPair
namespace Go.Proofs.Ytnmjanhpjnlfcaa
set_option linter.unusedVariables false

theorem red_nil_of {l : List Int} (h : (Plain.red l).length = 0) : Plain.red l = [] := List.eq_nil_of_length_eq_zero h
theorem ordN_red {l : List Int} (h : Plain.Letters l) : ordN (Plain.red l) = ordN l := by
  unfold ordN
  rw [Plain.red_idem]
  by_cases e : (Plain.red l).length = 0
  · rw [if_pos e, if_pos e]
  · rw [if_neg e, if_neg e]
    obtain ⟨k1, k2, k3, k4⟩ := Plain.ordK_low h
    refine Plain.ordK_is h.red k1 k2 (by rw [Plain.serS_red h.nz]; exact k3) fun h3 => ?_
    obtain ⟨R, _, hl, _, hne⟩ := k4 h3
    exact ⟨R, hl, by rw [Plain.serS_red h.nz]; exact hne⟩
theorem ordN_le {l : List Int} (h : Plain.Letters l) : ordN l ≤ Plain.ordK (Plain.cof l) ∧ ordN l ≤ 4 := by
  obtain ⟨k1, k2, -⟩ := Plain.ordK_low h
  unfold ordN
  split <;> omega
/-- A quotient's order tells how far the words' windings are alike. -/
theorem quot_fact {us vs : List Int} (hu : Plain.Letters us) (hv : Plain.Letters vs) {k : Nat} (hk : k ≤ 3) : sameN us vs k = decide (ordN (Plain.red (us ++ Plain.inv vs)) = 0 ∨ k < ordN (Plain.red (us ++ Plain.inv vs))) := by
  have hL := hu.append hv.inv
  have hq := Plain.quot_ord hu hv hk
  have hs : sameN us vs k = true ↔ k < Plain.ordK (Plain.cof (Plain.red (us ++ Plain.inv vs))) := by
    rw [hq]
    unfold sameN
    exact eqTo_iff
  obtain ⟨k1, k2, k3, k4⟩ := Plain.ordK_low hL.red
  by_cases e : (Plain.red (us ++ Plain.inv vs)).length = 0
  · have h0 : ordN (Plain.red (us ++ Plain.inv vs)) = 0 := by unfold ordN; rw [Plain.red_idem, if_pos e]
    have h4 : Plain.ordK (Plain.cof (Plain.red (us ++ Plain.inv vs))) = 4 := by
      rw [red_nil_of e]
      refine Plain.ordK_is Plain.Letters.nil (by omega) (by omega) (fun R h1 h2 => ?_) fun h => by omega
      cases R with
      | nil => exact absurd rfl h1
      | cons m R => rfl
    rw [hs.2 (by omega), h0]; simp
  · have h0 : ordN (Plain.red (us ++ Plain.inv vs)) = Plain.ordK (Plain.cof (Plain.red (us ++ Plain.inv vs))) := by unfold ordN; rw [Plain.red_idem, if_neg e]
    rw [Bool.eq_iff_iff, hs, h0]
    simp
    omega
/-- A commutator's order. -/
theorem comm_fact {us vs : List Int} (hu : Plain.Letters us) (hv : Plain.Letters vs) (h0 : ordN (Plain.comm us vs) ≠ 0) (h4 : ordN (Plain.comm us vs) < 4) : ordN us + ordN vs ≤ ordN (Plain.comm us vs) := by
  have e : ordN (Plain.comm us vs) = Plain.ordK (Plain.cof (Plain.comm us vs)) := by
    unfold ordN at h0 ⊢
    split at h0
    · exact absurd rfl h0
    · rename_i h
      rw [if_neg h]
  have h := Plain.comm_ord hu hv (by omega)
  have h1 := (ordN_le hu).1
  have h2 := (ordN_le hv).1
  omega
theorem conj_nil {g w : List Int} : Plain.red (g ++ (w ++ Plain.inv g)) = [] ↔ Plain.red w = [] := by
  constructor
  · intro h
    have e1 : Plain.red (Plain.inv g ++ Plain.red (g ++ (w ++ Plain.inv g)) ++ g) = [] := by
      rw [h, List.append_nil]
      have := Plain.red_inv (Plain.inv g)
      rwa [Plain.inv_inv] at this
    have e2 : Plain.red (Plain.inv g ++ g) = [] := by
      have := Plain.red_inv (Plain.inv g)
      rwa [Plain.inv_inv] at this
    rw [← Plain.red_red_append, Plain.red_append_red, Plain.red_red_append, ← List.append_assoc, List.append_assoc, ← Plain.red_red_append, e2, List.nil_append, List.append_assoc, ← Plain.red_append_red, e2, List.append_nil] at e1
    exact e1
  · intro h
    rw [← Plain.red_append_red, ← Plain.red_red_append w, h, List.nil_append, Plain.red_append_red, Plain.red_inv]
/-- A conjugate's order, and its coefficient at the first list. -/
theorem conj_fact {g w : List Int} (hg : Plain.Letters g) (hw : Plain.Letters w) : ordN (Plain.red (g ++ (w ++ Plain.inv g))) = ordN w ∧ ∀ q, Plain.firstQ (Plain.cof w) = some q → Plain.cof (Plain.red (g ++ (w ++ Plain.inv g))) q = Plain.cof w q := by
  obtain ⟨h1, h2⟩ := Plain.conj_ord hg hw
  refine ⟨?_, h2⟩
  have hc := conj_nil (g := g) (w := w)
  unfold ordN
  rw [Plain.red_idem]
  by_cases e : (Plain.red w).length = 0
  · rw [if_pos e, if_pos (by rw [hc.2 (red_nil_of e)]; rfl)]
  · rw [if_neg e, if_neg (fun x => e (by rw [hc.1 (red_nil_of x)]; rfl)), h1]

end Go.Proofs.Ytnmjanhpjnlfcaa

/- Plain mathematics: what the law of orders asks of the first coefficient and of the counts. Conditions: a valid word. -/
namespace Go.Proofs.Ytnmjanhpjnlfcaa
set_option linter.unusedVariables false

theorem lenQ_place {q : Nat} (hq : q < 259) (h0 : q ≠ 0) : ∃ j, j < Plain.manyL (Plain.lenQ q) ∧ q = Plain.cntL (Plain.lenQ q) + j := by
  obtain ⟨e1, e2, e3, e4, m1, m2, m3⟩ := Plain.cnt_vals
  by_cases a : q < 7
  · have e : Plain.lenQ q = 1 := by unfold Plain.lenQ; rw [if_neg h0, if_pos a]
    rw [e, e1, m1]; exact ⟨q - 1, by omega, by omega⟩
  · by_cases b : q < 43
    · have e : Plain.lenQ q = 2 := by unfold Plain.lenQ; rw [if_neg h0, if_neg a, if_pos b]
      rw [e, e2, m2]; exact ⟨q - 7, by omega, by omega⟩
    · have e : Plain.lenQ q = 3 := by unfold Plain.lenQ; rw [if_neg h0, if_neg a, if_neg b]
      rw [e, e3, m3]; exact ⟨q - 43, by omega, by omega⟩
theorem lenQ_zero {q : Nat} : Plain.lenQ q = 0 ↔ q = 0 := by
  unfold Plain.lenQ
  constructor
  · intro h
    by_cases h0 : q = 0
    · exact h0
    · rw [if_neg h0] at h
      split at h
      · omega
      · split at h <;> omega
  · intro h; rw [if_pos h]
theorem cc_start {c : Nat → Int} (h : c 0 = 1) : Plain.cntTo c 259 0 = 1 := by
  unfold Plain.cntTo
  have e : ((List.range 259).filter fun q => decide (Plain.lenQ q = 0 ∧ c q ≠ 0)) = (List.range 259).filter fun q => decide (q = 0) := by
    refine List.filter_congr fun q _ => ?_
    by_cases h0 : q = 0
    · subst h0; simp [h, lenQ_zero]
    · simp [lenQ_zero, h0]
  rw [e]; decide +kernel
theorem cc_less {c : Nat → Int} {i : Nat} (h1 : 1 ≤ i) (hi : i < Plain.ordK c) : Plain.cntTo c 259 i = 0 := by
  unfold Plain.cntTo
  rw [List.length_eq_zero_iff, List.filter_eq_nil_iff]
  intro q hq
  have hq := List.mem_range.1 hq
  simp only [decide_eq_true_eq, not_and, Decidable.not_not]
  intro hl
  have h0 : q ≠ 0 := fun e => by rw [lenQ_zero.2 e] at hl; omega
  obtain ⟨j, hj, he⟩ := lenQ_place hq h0
  rw [he, hl]
  exact (Plain.ord_ok c).zero i h1 hi j (by rw [← hl]; exact hj)
theorem cc_hit {c : Nat → Int} {q : Nat} (h : Plain.firstQ c = some q) : 0 < Plain.cntTo c 259 (Plain.lenQ q) := by
  obtain ⟨h0, h1, h2, -⟩ := first_facts h
  unfold Plain.cntTo
  rw [List.length_pos_iff]
  intro e
  have : q ∈ ((List.range 259).filter fun p => decide (Plain.lenQ p = Plain.lenQ q ∧ c p ≠ 0)) := List.mem_filter.2 ⟨List.mem_range.2 h1, by simp [h2]⟩
  rw [e] at this
  simp at this
theorem cof_none {us : List Int} (h : Plain.Letters us) (e : (Plain.red us).length = 0) : Plain.firstQ (Plain.cof us) = none :=
  Plain.firstQ_none fun p h0 h1 => by
    rw [← Plain.cof_red h h1, red_nil_of e, Plain.cof_nil]
    exact if_neg (by omega)
/-- The first coefficient: there is one if the order is 1, 2 or 3; its list is as long. -/
theorem fc_fact {us : List Int} (h : Plain.wordB us = true) : fcB us = decide (1 ≤ ordN us ∧ ordN us ≤ 3) ∧ (fcB us = true → (fcL us).length = ordN us ∧ fcV us ≠ 0) := by
  have hL := (Plain.wordB_iff.1 h).2
  have hQ := fcQ_yes h
  obtain ⟨k1, k2, k3, k4⟩ := Plain.ordK_low hL
  by_cases e : (Plain.red us).length = 0
  · have h0 : ordN us = 0 := by unfold ordN; rw [if_pos e]
    rw [cof_none hL e] at hQ
    obtain ⟨-, -, e3⟩ := fc_none hQ
    rw [e3, h0]
    exact ⟨by simp, fun x => by cases x⟩
  · have h0 : ordN us = Plain.ordK (Plain.cof us) := by unfold ordN; rw [if_neg e]
    rw [h0]
    cases hf : Plain.firstQ (Plain.cof us) with
    | none =>
      have e4 : Plain.ordK (Plain.cof us) = 4 := by unfold Plain.ordK; rw [hf]
      rw [hf] at hQ
      obtain ⟨-, -, e3⟩ := fc_none hQ
      rw [e3, e4]
      exact ⟨by simp, fun x => by cases x⟩
    | some q =>
      have e4 : Plain.ordK (Plain.cof us) = Plain.lenQ q := by unfold Plain.ordK; rw [hf]
      rw [hf] at hQ
      obtain ⟨e1, e2, e3⟩ := fc_some hQ
      obtain ⟨f0, f1, f2, -⟩ := first_facts hf
      rw [e3, e4, e1, e2]
      have h3 := Plain.lenQ_le q
      have hp : Plain.lenQ q ≠ 0 := fun x => by have := lenQ_zero.1 x; omega
      exact ⟨by simp; omega, fun _ => ⟨(Plain.listP_fact f1).2.2, f2⟩⟩
/-- The counts by the order. -/
theorem cc_fact {us : List Int} (h : Plain.wordB us = true) : ccW us 0 = 1 ∧ ∀ i, 1 ≤ i → i ≤ 3 → (i < ordN us → ccW us i = 0) ∧ (i = ordN us → 0 < ccW us i) ∧ 0 ≤ ccW us i := by
  have hL := (Plain.wordB_iff.1 h).2
  rw [cc_yes h]
  have hb := Plain.bd_cof us
  refine ⟨by unfold ccV; rw [cc_start hb.1]; rfl, fun i h1 h3 => ?_⟩
  unfold ccV
  by_cases e : (Plain.red us).length = 0
  · have h0 : ordN us = 0 := by unfold ordN; rw [if_pos e]
    rw [h0]
    exact ⟨fun x => by omega, fun x => by omega, by omega⟩
  · have h0 : ordN us = Plain.ordK (Plain.cof us) := by unfold ordN; rw [if_neg e]
    rw [h0]
    refine ⟨fun x => by rw [cc_less h1 x]; rfl, fun x => ?_, by omega⟩
    obtain ⟨k1, k2, k3, k4⟩ := Plain.ordK_low hL
    obtain ⟨R, hN, hl, hf, hne⟩ := k4 (by omega)
    have e4 : Plain.ordK (Plain.cof us) = Plain.lenQ (Plain.plc R) := by unfold Plain.ordK; rw [hf]
    have := cc_hit hf
    rw [x, e4]
    omega

end Go.Proofs.Ytnmjanhpjnlfcaa

/- Plain mathematics: a conjugate by the letters 2 and -1 has the first coefficient of the word. Conditions: valid words. -/
namespace Go.Proofs.Ytnmjanhpjnlfcaa
set_option linter.unusedVariables false

theorem two_letters : Plain.Letters [2, -1] := by
  intro x hx
  simp only [List.mem_cons, List.not_mem_nil, or_false] at hx
  rcases hx with rfl | rfl <;> exact ⟨by omega, by omega, by omega⟩
theorem coef_conj {us : List Int} (h : Plain.wordB us = true) (hw : Plain.wordB (Plain.red ([2, -1] ++ (us ++ Plain.inv [2, -1]))) = true) (hb : fcB us = true) :
    coefW (Plain.red ([2, -1] ++ (us ++ Plain.inv [2, -1]))) (fcL us) = fcV us ∧ coefB (Plain.red ([2, -1] ++ (us ++ Plain.inv [2, -1]))) (fcL us) = true ∧ In64 (fcL us) := by
  have hL := (Plain.wordB_iff.1 h).2
  have hQ := fcQ_yes h
  cases hf : Plain.firstQ (Plain.cof us) with
  | none => rw [hf] at hQ; rw [(fc_none hQ).2.2] at hb; cases hb
  | some q =>
    rw [hf] at hQ
    obtain ⟨e1, e2, e3⟩ := fc_some hQ
    obtain ⟨f0, f1, f2, -⟩ := first_facts hf
    obtain ⟨g1, g2, g3⟩ := Plain.listP_fact f1
    have hB : coefB (Plain.red ([2, -1] ++ (us ++ Plain.inv [2, -1]))) (fcL us) = true := by unfold coefB; rw [hw, e1, g1]; rfl
    refine ⟨?_, hB, ?_⟩
    · rw [coef_yes hB, e1, e2, g2]
      exact (conj_fact two_letters hL).2 q hf
    · rw [e1]
      intro j x hx
      have := (Plain.listB_iff.1 g1).2 x (List.mem_of_getElem? hx)
      omega

end Go.Proofs.Ytnmjanhpjnlfcaa
