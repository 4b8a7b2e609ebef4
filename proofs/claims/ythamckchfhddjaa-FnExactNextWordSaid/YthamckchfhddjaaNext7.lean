/- Plain mathematics of the next word; contract: spec.NextWord. Conditions: numbers of 64 bits, lengths that fit. -/
import Derived.Test.YthamckchfhddjaaFill7
import Derived.Test.YthamckchfhddjaaRank7
namespace Go.Proofs.Ythamckchfhddjaa.Plain
set_option linter.unusedVariables false

/-- The letter that comes next behind a letter, at its place. -/
def nextAt (n : Nat) (p : List Int) (x : Int) : Option Int := (behind p (2 * n))[placeOf p x + 1]?
/-- The next word of the same length, changed at one of the first i places. -/
def nextFrom (n : Nat) (w : List Int) : Nat → Option (List Int)
  | 0 => none
  | i + 1 => match nextAt n (w.take i) (w.getD i 0) with
    | some y => some (fillW (w.length - (i + 1)) (w.take i ++ [y]))
    | none => nextFrom n w i
theorem next_some {n i : Nat} {w : List Int} {x y : Int} (hx : w[i]? = some x) (h : nextAt n (w.take i) x = some y) : nextFrom n w (i + 1) = some (fillW (w.length - (i + 1)) (w.take i ++ [y])) := by
  have hg : w.getD i 0 = x := by rw [List.getD_eq_getElem?_getD, hx]; rfl
  rw [nextFrom, hg, h]
theorem next_none {n i : Nat} {w : List Int} {x : Int} (hx : w[i]? = some x) (h : nextAt n (w.take i) x = none) : nextFrom n w (i + 1) = nextFrom n w i := by
  have hg : w.getD i 0 = x := by rw [List.getD_eq_getElem?_getD, hx]; rfl
  rw [nextFrom, hg, h]
theorem place_code {n : Nat} {w : List Int} (h : Good n w) {k : Nat} {x : Int} (hx : w[k]? = some x) : ∃ c, c < 2 * n ∧ x = letterAt c ∧ (behind (w.take k) (c + 1)).length = placeOf (w.take k) x + 1 := by
  obtain ⟨⟨c, hc, rfl⟩, hs⟩ := h k x hx
  refine ⟨c, hc, rfl, ?_⟩
  rw [behind_step, if_pos hs, List.length_append, placeOf, code_letter, Int.toNat_natCast]
  rfl
theorem next_hit {n c : Nat} {p : List Int} {x : Int} (hc : c < 2 * n) (hs : stays p (letterAt c) = true) (h : (behind p c).length = placeOf p x + 1) : nextAt n p x = some (letterAt c) := by
  rw [nextAt, ← h]; exact behind_hit hs hc
theorem next_miss {n : Nat} {p : List Int} {x : Int} (h : (behind p (2 * n)).length = placeOf p x + 1) : nextAt n p x = none := by
  rw [nextAt]; exact List.getElem?_eq_none (by omega)
theorem nextFrom_len {n : Nat} {w r : List Int} : ∀ {i : Nat}, i ≤ w.length → nextFrom n w i = some r → r.length = w.length := by
  intro i
  induction i with
  | zero => intro _ h; cases h
  | succ i ih =>
    intro hi h
    rw [nextFrom] at h
    split at h
    · cases h
      rw [fill_len, List.length_append, List.length_take]
      simp; omega
    · exact ih (by omega) h

end Go.Proofs.Ythamckchfhddjaa.Plain

namespace Go.Proofs.Ythamckchfhddjaa
open Go.ChangeShapes Go.WideShapes Go.ChangeAt Go.RowKit
set_option linter.unusedVariables false

/-- What NextWord answers. -/
def nxW (xs : List Int) (n : Int) : List Int := if wordOfB xs n = true then (match Plain.nextFrom n.toNat xs xs.length with
  | some r => r
  | none => if xs.length = 64 then [] else Plain.fillW (xs.length + 1) []) else []
def nxB (xs : List Int) (n : Int) : Bool := wordOfB xs n && ((Plain.nextFrom n.toNat xs xs.length).isSome || decide (xs.length ≠ 64))
theorem nx_no {xs : List Int} {n : Int} (h : wordOfB xs n = false) : nxW xs n = [] ∧ nxB xs n = false := by simp [nxW, nxB, h]
theorem nx_some {xs r : List Int} {n : Nat} (h : wordOfB xs (n : Int) = true) (hr : Plain.nextFrom n xs xs.length = some r) : nxW xs (n : Int) = r ∧ nxB xs (n : Int) = true := by simp [nxW, nxB, h, hr]
theorem nx_end {xs : List Int} {n : Nat} (h : wordOfB xs (n : Int) = true) (hr : Plain.nextFrom n xs xs.length = none) (hl : xs.length = 64) : nxW xs (n : Int) = [] ∧ nxB xs (n : Int) = false := by
  rw [hl] at hr
  simp [nxW, nxB, h, hr, hl]
theorem nx_more {xs : List Int} {n : Nat} (h : wordOfB xs (n : Int) = true) (hr : Plain.nextFrom n xs xs.length = none) (hl : xs.length ≠ 64) : nxW xs (n : Int) = Plain.fillW (xs.length + 1) [] ∧ nxB xs (n : Int) = true := by simp [nxW, nxB, h, hr, hl]
theorem nx_le {xs : List Int} {n : Int} : (nxW xs n).length ≤ 64 := by
  unfold nxW
  split
  · rename_i h
    have hl : xs.length ≤ 64 := (Plain.wordB_iff.1 (wordOf_word h).1).1
    split
    · rename_i r hr
      have := Plain.nextFrom_len (Nat.le_refl _) hr
      omega
    · split
      · simp
      · rw [Plain.fill_len]; simp; omega
  · simp

end Go.Proofs.Ythamckchfhddjaa
