/- Plain mathematics: where the steps of a text lead, and when they stay on the grid. No condition. -/
import Derived.Test.YtpaijobmoddgpaaRows
namespace Go.Proofs.Ytpaijobmoddgpaa
namespace Plain
set_option linter.unusedVariables false
set_option linter.unusedSimpArgs false

abbrev Pt := Int × Int
def dxB (b : UInt8) : Int := if b = 108 then -1 else if b = 114 then 1 else 0
def dyB (b : UInt8) : Int := if b = 117 then 1 else if b = 100 then -1 else 0
def isStepB (b : UInt8) : Bool := b == 108 || b == 114 || b == 117 || b == 100
def inGrid (p : Pt) : Bool := decide (-12 ≤ p.1 ∧ p.1 ≤ 12 ∧ -12 ≤ p.2 ∧ p.2 ≤ 12)
def nextP (p : Pt) (b : UInt8) : Pt := (p.1 + dxB b, p.2 + dyB b)
def goP (l : List UInt8) : Pt := l.foldl nextP (0, 0)
/-- The point behind k steps. -/
def atP (l : List UInt8) (k : Nat) : Pt := goP (l.take k)
def stepB (l : List UInt8) (k : Nat) : Bool := match l[k]? with
  | some b => isStepB b && inGrid (atP l (k + 1))
  | none => false
def okTo (l : List UInt8) (k : Nat) : Bool := (List.range k).all (stepB l)
/-- Whether a text is a path. -/
def pathB (l : List UInt8) : Bool := decide (l.length ≤ 400) && okTo l l.length
/-- The points from the first one to the one behind k steps. -/
def ptsTo (l : List UInt8) (k : Nat) : List Pt := (List.range (k + 1)).map (atP l)
def pts (l : List UInt8) : List Pt := ptsTo l l.length

theorem step_cases (b : UInt8) : (isStepB b = true ∧ (b = 108 ∨ b = 114 ∨ b = 117 ∨ b = 100)) ∨ (isStepB b = false ∧ b ≠ 108 ∧ b ≠ 114 ∧ b ≠ 117 ∧ b ≠ 100 ∧ dxB b = 0 ∧ dyB b = 0) := by
  by_cases h1 : b = 108
  · subst h1; exact .inl ⟨rfl, .inl rfl⟩
  by_cases h2 : b = 114
  · subst h2; exact .inl ⟨rfl, .inr (.inl rfl)⟩
  by_cases h3 : b = 117
  · subst h3; exact .inl ⟨rfl, .inr (.inr (.inl rfl))⟩
  by_cases h4 : b = 100
  · subst h4; exact .inl ⟨rfl, .inr (.inr (.inr rfl))⟩
  · exact .inr ⟨by simp [isStepB, h1, h2, h3, h4], h1, h2, h3, h4, by simp [dxB, h1, h2], by simp [dyB, h3, h4]⟩
theorem goP_snoc (l : List UInt8) (b : UInt8) : goP (l ++ [b]) = nextP (goP l) b := by simp [goP, List.foldl_append]
theorem atP_zero (l : List UInt8) : atP l 0 = (0, 0) := rfl
theorem at_get {l : List UInt8} {k : Nat} {b : UInt8} (h : l[k]? = some b) : l.take (k + 1) = l.take k ++ [b] := by
  obtain ⟨hk, rfl⟩ := List.getElem?_eq_some_iff.1 h
  rw [List.take_succ_eq_append_getElem hk]
theorem atP_step {l : List UInt8} {k : Nat} {b : UInt8} (h : l[k]? = some b) : atP l (k + 1) = nextP (atP l k) b := by
  unfold atP; rw [at_get h, goP_snoc]
theorem okTo_zero (l : List UInt8) : okTo l 0 = true := rfl
theorem okTo_step (l : List UInt8) (k : Nat) : okTo l (k + 1) = (okTo l k && stepB l k) := by
  unfold okTo; rw [List.range_succ, List.all_append]; simp
theorem okTo_get {l : List UInt8} {k : Nat} {b : UInt8} (h : l[k]? = some b) : okTo l (k + 1) = (okTo l k && (isStepB b && inGrid (nextP (atP l k) b))) := by
  rw [okTo_step]; unfold stepB; rw [h]; simp only []; rw [atP_step h]
theorem okTo_le {l : List UInt8} {k m : Nat} (h : okTo l m = true) (hk : k ≤ m) : okTo l k = true := by
  unfold okTo at *
  rw [List.all_eq_true] at *
  intro j hj
  exact h j (by rw [List.mem_range] at *; omega)
theorem okTo_no {l : List UInt8} {k m : Nat} (h : okTo l k = false) (hk : k ≤ m) : okTo l m = false := by
  cases hm : okTo l m with
  | false => rfl
  | true => rw [okTo_le hm hk] at h; cases h
theorem okTo_at {l : List UInt8} {k m : Nat} (h : okTo l m = true) (hk : k < m) : ∃ b, l[k]? = some b ∧ isStepB b = true ∧ inGrid (atP l (k + 1)) = true := by
  have h1 := okTo_le h (show k + 1 ≤ m by omega)
  rw [okTo_step] at h1
  simp only [Bool.and_eq_true] at h1
  have h2 := h1.2
  unfold stepB at h2
  cases hb : l[k]? with
  | none => rw [hb] at h2; cases h2
  | some b =>
    rw [hb] at h2
    simp only [Bool.and_eq_true] at h2
    exact ⟨b, rfl, h2.1, h2.2⟩
theorem grid_bd {p : Pt} (h : inGrid p = true) : -12 ≤ p.1 ∧ p.1 ≤ 12 ∧ -12 ≤ p.2 ∧ p.2 ≤ 12 := by simpa [inGrid] using h
theorem at_bd {l : List UInt8} {k m : Nat} (h : okTo l m = true) (hk : k ≤ m) : -12 ≤ (atP l k).1 ∧ (atP l k).1 ≤ 12 ∧ -12 ≤ (atP l k).2 ∧ (atP l k).2 ≤ 12 := by
  cases k with
  | zero => rw [atP_zero]; simp
  | succ k => obtain ⟨b, _, _, hg⟩ := okTo_at h (show k < m by omega); exact grid_bd hg
theorem dx_bd (b : UInt8) : -1 ≤ dxB b ∧ dxB b ≤ 1 ∧ -1 ≤ dyB b ∧ dyB b ≤ 1 := by
  unfold dxB dyB
  refine ⟨?_, ?_, ?_, ?_⟩ <;> (repeat' split) <;> omega
/-- A step moves if and only if it is one. -/
theorem next_ne {p : Pt} {b : UInt8} : (nextP p b = p) ↔ isStepB b = false := by
  obtain ⟨px, py⟩ := p
  rcases step_cases b with ⟨h, rfl | rfl | rfl | rfl⟩ | ⟨h, _, _, _, _, hx, hy⟩
  · simp [nextP, dxB, dyB, h, isStepB]; omega
  · simp [nextP, dxB, dyB, h, isStepB]; try omega
  · simp [nextP, dxB, dyB, h, isStepB]; try omega
  · simp [nextP, dxB, dyB, h, isStepB]; try omega
  · simp [nextP, hx, hy, h]
theorem ptsTo_length (l : List UInt8) (k : Nat) : (ptsTo l k).length = k + 1 := by simp [ptsTo]
theorem ptsTo_zero (l : List UInt8) : ptsTo l 0 = [(0, 0)] := by simp [ptsTo, atP_zero, List.range_succ]
theorem ptsTo_step (l : List UInt8) (k : Nat) : ptsTo l (k + 1) = ptsTo l k ++ [atP l (k + 1)] := by
  unfold ptsTo
  rw [show List.range (k + 1 + 1) = List.range (k + 1) ++ [k + 1] from List.range_succ, List.map_append]; rfl
theorem ptsTo_get {l : List UInt8} {k j : Nat} (h : j ≤ k) : (ptsTo l k)[j]? = some (atP l j) := by
  unfold ptsTo
  rw [List.getElem?_map, List.getElem?_range (by omega)]; rfl
theorem pts_length (l : List UInt8) : (pts l).length = l.length + 1 := ptsTo_length _ _
theorem pts_get {l : List UInt8} {j : Nat} (h : j ≤ l.length) : (pts l)[j]? = some (atP l j) := ptsTo_get h
theorem path_ok {l : List UInt8} (h : pathB l = true) : l.length ≤ 400 ∧ okTo l l.length = true := by simpa [pathB] using h
theorem atP_full (l : List UInt8) : atP l l.length = goP l := by unfold atP; rw [List.take_length]
end Plain
end Go.Proofs.Ytpaijobmoddgpaa
