/- Plain mathematics of cores: how many letters at both ends of a list are opposites. No condition. -/
import Derived.Test.YtepmldbleconfaaWord
namespace Go.Proofs.Ytepmldbleconfaa.Plain
set_option linter.unusedVariables false

/-- The letters at place j from both ends are no opposites, or nothing is left. -/
def stopsB (l : List Int) (j : Nat) : Bool := decide (l.length ≤ 2 * j) || decide (l[j]? ≠ (l[l.length - 1 - j]?).map (- ·))
def depthFrom (l : List Int) : Nat → Nat → Nat
  | 0, j => j
  | f + 1, j => if stopsB l j = true then j else depthFrom l f (j + 1)
/-- How many letters the core leaves at each end. -/
def depth (l : List Int) : Nat := depthFrom l l.length 0
def mid (l : List Int) (j : Nat) : List Int := (l.drop j).take (l.length - 2 * j)
def core (l : List Int) : List Int := mid l (depth l)
def by_ (l : List Int) : List Int := l.take (depth l)

/-- The loop has come to place j. -/
def Deep (l : List Int) (j : Nat) : Prop := depthFrom l (l.length - j) j = depth l ∧ 2 * j ≤ l.length ∧ ∀ i, i < j → stopsB l i = false
theorem deep_zero (l : List Int) : Deep l 0 := ⟨rfl, by omega, fun i h => by omega⟩
theorem stops_end {l : List Int} {j : Nat} (h : l.length ≤ 2 * j) : stopsB l j = true := by simp [stopsB, h]
theorem stops_no {l : List Int} {j : Nat} {x y : Int} (hx : l[j]? = some x) (hy : l[l.length - 1 - j]? = some y) (hne : x ≠ -y) : stopsB l j = true := by
  simp [stopsB, hx, hy, hne]
theorem goes_on {l : List Int} {j : Nat} {x y : Int} (h : 2 * j < l.length) (hx : l[j]? = some x) (hy : l[l.length - 1 - j]? = some y) (he : x = -y) : stopsB l j = false := by
  have : ¬ l.length ≤ 2 * j := by omega
  simp [stopsB, hx, hy, he, this]
theorem deep_stop {l : List Int} {j : Nat} (h : Deep l j) (hs : stopsB l j = true) : depth l = j := by
  obtain ⟨h1, h2, _⟩ := h
  rw [← h1]
  cases l.length - j with
  | zero => rfl
  | succ f => simp [depthFrom, hs]
theorem deep_succ {l : List Int} {j : Nat} (h : Deep l j) (hs : stopsB l j = false) (hl : 2 * j + 1 < l.length) : Deep l (j + 1) := by
  obtain ⟨h1, h2, h3⟩ := h
  refine ⟨?_, by omega, fun i hi => ?_⟩
  · rw [← h1, show l.length - j = (l.length - (j + 1)) + 1 by omega]
    simp [depthFrom, hs]
  · by_cases e : i = j
    · rw [e]; exact hs
    · exact h3 i (by omega)
/-- A letter is not its own opposite. -/
theorem stops_mid {l : List Int} (hl : Letters l) {j : Nat} (h : 2 * j + 1 = l.length) : stopsB l j = true := by
  obtain ⟨x, hx⟩ : ∃ x, l[j]? = some x := ⟨_, List.getElem?_eq_getElem (by omega)⟩
  have h0 := (hl.at hx).1
  refine stops_no hx (y := x) ?_ (by omega)
  rw [show l.length - 1 - j = j by omega]
  exact hx
theorem deep_depth {l : List Int} (hl : Letters l) : Deep l (depth l) := by
  have key : ∀ f j, f = l.length - j → Deep l j → Deep l (depth l) := by
    intro f
    induction f with
    | zero => intro j hf h; rw [deep_stop h (stops_end (by have := h.2.1; omega))]; exact h
    | succ f ih =>
      intro j hf h
      cases hs : stopsB l j with
      | true => rw [deep_stop h hs]; exact h
      | false =>
        have h1 : 2 * j < l.length := by
          rcases Nat.lt_or_ge (2 * j) l.length with h1 | h1
          · exact h1
          · rw [stops_end h1] at hs; cases hs
        have h2 : 2 * j + 1 ≠ l.length := fun e => by rw [stops_mid hl e] at hs; cases hs
        exact ih (j + 1) (by omega) (deep_succ h hs (by omega))
  exact key _ 0 rfl (deep_zero l)
theorem mid_length (l : List Int) (j : Nat) (h : 2 * j ≤ l.length) : (mid l j).length = l.length - 2 * j := by simp [mid]; omega
theorem mid_zero (l : List Int) : mid l 0 = l := by simp [mid]
theorem mid_at {l : List Int} {j i : Nat} (h : i < l.length - 2 * j) : (mid l j)[i]? = l[j + i]? := by
  rw [mid, List.getElem?_take_of_lt h, List.getElem?_drop]
theorem depth_le {l : List Int} (hl : Letters l) : 2 * depth l ≤ l.length := (deep_depth hl).2.1
theorem core_length {l : List Int} (hl : Letters l) : (core l).length + 2 * depth l = l.length := by
  have := depth_le hl
  rw [core, mid_length l _ this]
  omega
theorem by_length {l : List Int} (hl : Letters l) : (by_ l).length = depth l := by have := depth_le hl; simp [by_]; omega
theorem core_mem {l : List Int} {x : Int} (h : x ∈ core l) : x ∈ l := List.mem_of_mem_drop (List.mem_of_mem_take h)
theorem Letters.core {l : List Int} (h : Letters l) : Letters (core l) := h.sub fun x hx => core_mem hx

end Go.Proofs.Ytepmldbleconfaa.Plain
