/- Plain mathematics of the order of words. No condition. -/
import Derived.Test.YtepmldbleconfaaCore
namespace Go.Proofs.Ytepmldbleconfaa.Plain
set_option linter.unusedVariables false

def codeOf (x : Int) : Int := if 0 < x then 2 * x - 2 else -2 * x - 1
def nail (x : Int) : Int := if 0 < x then x else -x
theorem code_inj {x y : Int} (h : codeOf x = codeOf y) : x = y := by unfold codeOf at h; split at h <;> split at h <;> omega
def lexB : List Int → List Int → Bool
  | x :: xs, y :: ys => if x = y then lexB xs ys else decide (codeOf x < codeOf y)
  | _, _ => false
def lessB (u v : List Int) : Bool := if u.length = v.length then lexB u v else decide (u.length < v.length)
theorem lex_same (u : List Int) : lexB u u = false := by
  induction u with
  | nil => rfl
  | cons x u ih => simp [lexB, ih]
theorem lex_at {u v : List Int} {k : Nat} {x y : Int} (h : ∀ (j : Nat) (a b : Int), j < k → u[j]? = some a → v[j]? = some b → a = b) (hx : u[k]? = some x) (hy : v[k]? = some y) (hne : x ≠ y) : lexB u v = decide (codeOf x < codeOf y) := by
  induction k generalizing u v with
  | zero =>
    cases u with
    | nil => simp at hx
    | cons a u =>
      cases v with
      | nil => simp at hy
      | cons b v => simp at hx hy; subst hx hy; simp [lexB, hne]
  | succ k ih =>
    cases u with
    | nil => simp at hx
    | cons a u =>
      cases v with
      | nil => simp at hy
      | cons b v =>
        have e := h 0 a b (by omega) rfl rfl
        subst e
        simp only [List.getElem?_cons_succ] at hx hy
        rw [lexB, if_pos rfl]
        exact ih (fun j c d hj hc hd => h (j + 1) c d (by omega) hc hd) hx hy
theorem less_len {u v : List Int} (h : u.length ≠ v.length) : lessB u v = decide (u.length < v.length) := if_neg h
theorem less_lex {u v : List Int} (h : u.length = v.length) : lessB u v = lexB u v := if_pos h
theorem less_at {u v : List Int} {k : Nat} {x y : Int} (hl : u.length = v.length) (h : ∀ (j : Nat) (a b : Int), j < k → u[j]? = some a → v[j]? = some b → a = b) (hx : u[k]? = some x) (hy : v[k]? = some y) (hne : x ≠ y) : lessB u v = decide (codeOf x < codeOf y) :=
  (less_lex hl).trans (lex_at h hx hy hne)
theorem less_same {u v : List Int} (h : u = v) : lessB u v = false := by subst h; rw [less_lex rfl, lex_same]

/-- How letters are compared. -/
def cmpL (a b : Int) : Int := if nail a = nail b then b - a else nail a - nail b
theorem cmp_neg {a b : Int} (ha : a ≠ 0) (hb : b ≠ 0) : cmpL a b < 0 ↔ codeOf a < codeOf b := by unfold cmpL codeOf nail; split <;> split <;> (try split) <;> (try split) <;> omega
theorem cmp_zero {a b : Int} (ha : a ≠ 0) (hb : b ≠ 0) : cmpL a b = 0 ↔ a = b := by unfold cmpL nail; split <;> split <;> (try split) <;> (try split) <;> omega
theorem cmp_in {a b : Int} (ha : -6 ≤ a ∧ a ≤ 6) (hb : -6 ≤ b ∧ b ≤ 6) : -100 ≤ cmpL a b ∧ cmpL a b ≤ 100 := by unfold cmpL nail; split <;> split <;> (try split) <;> (try split) <;> omega

end Go.Proofs.Ytepmldbleconfaa.Plain
