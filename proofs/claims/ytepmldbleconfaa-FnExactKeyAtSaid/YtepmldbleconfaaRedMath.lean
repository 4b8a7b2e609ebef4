/- Plain mathematics of reduced lists: what cancels, and reducing a part first. No condition. -/
import Derived.Test.YtepmldbleconfaaWord
namespace Go.Proofs.Ytepmldbleconfaa.Plain
set_option linter.unusedVariables false

theorem red_cancel (p q : List Int) (a : Int) : red (p ++ (a :: -a :: q)) = red (p ++ q) := by
  have h1 : p ++ (a :: -a :: q) = (p ++ [a, -a]) ++ q := by simp
  have h2 : red (p ++ [a, -a]) = red p := by
    unfold red
    rw [stack_append]
    show (push (push (stack [] p) a) (-a)).reverse = _
    rw [push_push (stack_reduced p [] trivial)]
  rw [h1, ← red_red_append, h2, red_red_append]
theorem stack_red (st : List Int) (hs : Reduced st) (l : List Int) : stack st (red l) = stack st l := by
  have key : ∀ r : List Int, stack st (red r.reverse) = stack st r.reverse := by
    intro r
    induction r with
    | nil => rfl
    | cons x r ih =>
      rw [List.reverse_cons, stack_snoc, ← ih]
      have e : red (r.reverse ++ [x]) = (push (stack [] r.reverse) x).reverse := by rw [red, stack_snoc]
      rw [e]
      have hr : red r.reverse = (stack [] r.reverse).reverse := rfl
      rw [hr]
      generalize stack [] r.reverse = s
      by_cases h : ∃ t, s = -x :: t
      · obtain ⟨t, rfl⟩ := h
        rw [push_hit rfl, List.reverse_cons, stack_snoc]
        have := push_push (st := stack st t.reverse) (x := -x) (stack_reduced _ st hs)
        rw [Int.neg_neg] at this
        exact this.symm
      · rw [push_miss (fun t ht => h ⟨t, ht⟩), List.reverse_cons, stack_snoc]
  have := key l.reverse
  rwa [List.reverse_reverse] at this
theorem red_append_red (a b : List Int) : red (a ++ red b) = red (a ++ b) := by
  unfold red
  rw [stack_append, stack_append]
  congr 1
  exact stack_red _ (stack_reduced a [] trivial) b

end Go.Proofs.Ytepmldbleconfaa.Plain
