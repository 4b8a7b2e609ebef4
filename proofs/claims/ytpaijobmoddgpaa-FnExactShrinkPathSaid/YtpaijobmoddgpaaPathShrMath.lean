/- Plain mathematics: steps there and back taken out. No condition. -/
import Derived.Test.YtpaijobmoddgpaaPathBack
namespace Go.Proofs.Ytpaijobmoddgpaa
namespace Plain
set_option linter.unusedVariables false
set_option linter.unusedSimpArgs false

def pushS (R : List UInt8) (b : UInt8) : List UInt8 := if R.getLast? = some (backB b) then R.dropLast else R ++ [b]
def shrinkL (l : List UInt8) : List UInt8 := l.foldl pushS []
theorem shrink_snoc (l : List UInt8) (b : UInt8) : shrinkL (l ++ [b]) = pushS (shrinkL l) b := by simp [shrinkL, List.foldl_append]
def AllSteps (l : List UInt8) : Prop := ∀ b ∈ l, isStepB b = true
def Red (R : List UInt8) : Prop := ∀ (j : Nat) (a b : UInt8), R[j]? = some a → R[j + 1]? = some b → b ≠ backB a
theorem last_at {R : List UInt8} {c : UInt8} (h : R.getLast? = some c) : ∃ R', R = R' ++ [c] := List.getLast?_eq_some_iff.1 h
theorem red_drop {R' : List UInt8} {c : UInt8} (h : Red (R' ++ [c])) : Red R' := fun j a b ha hb => by
  have h1 : j + 1 < R'.length := (List.getElem?_eq_some_iff.1 hb).1
  exact h j a b (by rw [List.getElem?_append_left (by omega)]; exact ha) (by rw [List.getElem?_append_left h1]; exact hb)
theorem back_back {a : UInt8} (h : isStepB a = true) : backB (backB a) = a := (back_step h).2.2.2
theorem push_red {R : List UInt8} {b : UInt8} (hr : Red R) (hs : AllSteps R) (hb : isStepB b = true) : Red (pushS R b) ∧ AllSteps (pushS R b) := by
  unfold pushS
  by_cases h : R.getLast? = some (backB b)
  · rw [if_pos h]
    obtain ⟨R', rfl⟩ := last_at h
    rw [List.dropLast_concat]
    exact ⟨red_drop hr, fun x hx => hs x (by simp [hx])⟩
  · rw [if_neg h]
    refine ⟨fun j x y hx hy => ?_, fun x hx => ?_⟩
    · by_cases hj : j + 1 < R.length
      · rw [List.getElem?_append_left (by omega)] at hx
        rw [List.getElem?_append_left hj] at hy
        exact hr j x y hx hy
      · have hj2 : j + 1 < (R ++ [b]).length := (List.getElem?_eq_some_iff.1 hy).1
        rw [List.length_append, List.length_singleton] at hj2
        have hje : j + 1 = R.length := by omega
        rw [List.getElem?_append_left (by omega)] at hx
        rw [hje, List.getElem?_append_right (Nat.le_refl _), Nat.sub_self] at hy
        simp at hy
        subst hy
        intro e
        apply h
        have hxl : R.getLast? = some x := by rw [List.getLast?_eq_getElem?, ← hje]; simpa using hx
        rw [hxl, e, back_back (hs x (List.mem_of_getElem? hx))]
    · rcases List.mem_append.1 hx with h1 | h1
      · exact hs x h1
      · rw [List.mem_singleton.1 h1]; exact hb
theorem push_back {R : List UInt8} {a : UInt8} (hr : Red R) (ha : isStepB a = true) : pushS (pushS R a) (backB a) = R := by
  unfold pushS
  by_cases h : R.getLast? = some (backB a)
  · rw [if_pos h]
    obtain ⟨R', rfl⟩ := last_at h
    rw [List.dropLast_concat]
    rw [if_neg]
    intro e
    rw [back_back ha] at e
    obtain ⟨R2, rfl⟩ := last_at e
    refine hr R2.length a (backB a) ?_ ?_ rfl
    · simp
    · simp
  · rw [if_neg h, if_pos (by rw [back_back ha]; simp), List.dropLast_concat]
theorem shrink_red (l : List UInt8) (h : AllSteps l) : Red (shrinkL l) ∧ AllSteps (shrinkL l) := by
  have key : ∀ k, k ≤ l.length → Red (shrinkL (l.take k)) ∧ AllSteps (shrinkL (l.take k)) := by
    intro k
    induction k with
    | zero => intro _; exact ⟨fun j a b h => by simp [shrinkL] at h, fun b hb => by simp [shrinkL] at hb⟩
    | succ k ih =>
      intro hk
      have hb : l[k]? = some l[k] := List.getElem?_eq_getElem (by omega)
      obtain ⟨h1, h2⟩ := ih (by omega)
      rw [at_get hb, shrink_snoc]
      exact push_red h1 h2 (h _ (List.getElem_mem _))
  have := key l.length (Nat.le_refl _)
  rwa [List.take_length] at this
theorem shrink_same {us : List UInt8} (hs : AllSteps us) (hr : Red us) : shrinkL us = us := by
  have key : ∀ k, k ≤ us.length → shrinkL (us.take k) = us.take k := by
    intro k
    induction k with
    | zero => intro _; rfl
    | succ k ih =>
      intro hk
      have hb : us[k]? = some us[k] := List.getElem?_eq_getElem (by omega)
      rw [at_get hb, shrink_snoc, ih (by omega)]
      unfold pushS
      rw [if_neg]
      intro e
      cases k with
      | zero => simp at e
      | succ k =>
        have hb2 : us[k]? = some us[k] := List.getElem?_eq_getElem (by omega)
        have hl : (us.take (k + 1)).getLast? = some us[k] := by rw [at_get hb2, List.getLast?_concat]
        rw [hl] at e
        refine hr k us[k] us[k + 1] hb2 hb ?_
        rw [Option.some.inj e, back_back (hs _ (List.getElem_mem _))]
  have := key us.length (Nat.le_refl _)
  rwa [List.take_length] at this
/-- Two steps taken out. -/
def cutL (us : List UInt8) (k : Nat) : List UInt8 := us.take k ++ us.drop (k + 2)
theorem cut_length {us : List UInt8} {k : Nat} (h : k + 2 ≤ us.length) : (cutL us k).length + 2 = us.length := by
  unfold cutL; rw [List.length_append, List.length_take, List.length_drop]; omega
theorem cut_steps {us : List UInt8} (k : Nat) (h : AllSteps us) : AllSteps (cutL us k) := fun b hb => by
  unfold cutL at hb
  rcases List.mem_append.1 hb with h1 | h1
  · exact h b (List.mem_of_mem_take h1)
  · exact h b (List.mem_of_mem_drop h1)
theorem cut_shrink {us : List UInt8} {k : Nat} {a : UInt8} (hs : AllSteps us) (ha : us[k]? = some a) (hb : us[k + 1]? = some (backB a)) : shrinkL (cutL us k) = shrinkL us := by
  have hk : k + 1 < us.length := (List.getElem?_eq_some_iff.1 hb).1
  have hsa : isStepB a = true := hs a (List.mem_of_getElem? ha)
  have e : us = us.take k ++ ([a, backB a] ++ us.drop (k + 2)) := by
    have h1 := (List.take_append_drop k us).symm
    have h2 : us.drop k = a :: backB a :: us.drop (k + 2) := by
      obtain ⟨hk1, e1⟩ := List.getElem?_eq_some_iff.1 ha
      obtain ⟨hk2, e2⟩ := List.getElem?_eq_some_iff.1 hb
      rw [List.drop_eq_getElem_cons hk1, List.drop_eq_getElem_cons hk2, e1, e2]
    rw [h2] at h1
    exact h1
  have hr := shrink_red (us.take k) (fun x hx => hs x (List.mem_of_mem_take hx))
  have h3 : shrinkL us = (us.drop (k + 2)).foldl pushS (pushS (pushS (shrinkL (us.take k)) a) (backB a)) := by
    rw [show shrinkL us = shrinkL (us.take k ++ ([a, backB a] ++ us.drop (k + 2))) from by rw [← e]]
    simp [shrinkL, List.foldl_append]
  rw [h3, push_back hr.1 hsa]
  simp [cutL, shrinkL, List.foldl_append]
theorem cut_get {us : List UInt8} {k j : Nat} (h : k + 2 ≤ us.length) : (cutL us k)[j]? = if j < k then us[j]? else us[j + 2]? := by
  unfold cutL
  by_cases hj : j < k
  · rw [if_pos hj, List.getElem?_append_left (by rw [List.length_take]; omega), List.getElem?_take_of_lt hj]
  · rw [if_neg hj, List.getElem?_append_right (by rw [List.length_take]; omega), List.length_take, List.getElem?_drop]
    congr 1; omega
theorem cut_atP {us : List UInt8} {k : Nat} {a : UInt8} (hs : AllSteps us) (ha : us[k]? = some a) (hb : us[k + 1]? = some (backB a)) : ∀ j, j + 2 ≤ us.length → atP (cutL us k) j = if j ≤ k then atP us j else atP us (j + 2)
  | 0, _ => by rw [if_pos (Nat.zero_le _)]; rfl
  | j + 1, hj => by
    have hk : k + 1 < us.length := (List.getElem?_eq_some_iff.1 hb).1
    have hsa : isStepB a = true := hs a (List.mem_of_getElem? ha)
    have ih := cut_atP hs ha hb j (by omega)
    have hg := cut_get (us := us) (k := k) (j := j) (by omega)
    by_cases h1 : j < k
    · have hj1 : us[j]? = some (us[j]'(by omega)) := List.getElem?_eq_getElem (by omega)
      rw [if_pos h1, hj1] at hg
      rw [atP_step hg, ih, if_pos (by omega), if_pos (by omega), atP_step hj1]
    · have hj1 : us[j + 2]? = some (us[j + 2]'(by omega)) := List.getElem?_eq_getElem (by omega)
      rw [if_neg h1, hj1] at hg
      have hr : (if j + 1 ≤ k then atP us (j + 1) else atP us (j + 1 + 2)) = atP us (j + 1 + 2) := if_neg (by omega)
      rw [atP_step hg, ih, hr]
      have hst : atP us (j + 1 + 2) = nextP (atP us (j + 2)) us[j + 2] := atP_step (k := j + 2) (List.getElem?_eq_getElem (by omega))
      rw [hst]
      by_cases h2 : j ≤ k
      · rw [if_pos h2]
        obtain rfl : j = k := by omega
        have h3 : atP us (j + 2) = atP us j := by
          rw [atP_step hb, atP_step ha]
          obtain ⟨-, e1, e2, -⟩ := back_step hsa
          unfold nextP
          simp only []
          rw [e1, e2]
          apply Prod.ext
          · simp only []; omega
          · simp only []; omega
        rw [h3]
      · rw [if_neg h2]
theorem same_iff {us : List UInt8} {k : Nat} {a b : UInt8} (hs : AllSteps us) (ha : us[k]? = some a) (hb : us[k + 1]? = some b) : atP us k = atP us (k + 2) ↔ b = backB a := by
  rw [atP_step hb, atP_step ha]
  have h1 := hs a (List.mem_of_getElem? ha)
  have h2 := hs b (List.mem_of_getElem? hb)
  have key : (dxB a + dxB b = 0 ∧ dyB a + dyB b = 0) ↔ b = backB a := by
    rcases step_cases a with ⟨-, rfl | rfl | rfl | rfl⟩ | ⟨h, -⟩
    all_goals first
      | (rw [h] at h1; cases h1)
      | (rcases step_cases b with ⟨-, rfl | rfl | rfl | rfl⟩ | ⟨h, -⟩
         all_goals first
           | (rw [h] at h2; cases h2)
           | decide)
  rw [← key]
  generalize atP us k = p
  obtain ⟨x, y⟩ := p
  unfold nextP
  simp only [Prod.mk.injEq]
  omega
end Plain
end Go.Proofs.Ytpaijobmoddgpaa
