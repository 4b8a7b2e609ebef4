/- Plain mathematics of reduced lists: what cancels, and reducing a part first. Plain mathematics of commutators: commutators, lists of nails, left and balanced words and their lengths. No condition. -/
import Derived.Test.YtpaijobmoddgpabWord
namespace Go.Proofs.Ytpaijobmoddgpab.Plain
set_option linter.unusedVariables false

theorem red_cancel (p q : List Int) (a : Int) : red (p ++ (a :: -a :: q)) = red (p ++ q) := by
  have h1 : p ++ (a :: -a :: q) = (p ++ [a, -a]) ++ q := by simp
  have h2 : red (p ++ [a, -a]) = red p := by
    unfold red
    rw [stack_append]
    show (push (push (stack [] p) a) (-a)).reverse = _
    rw [push_push (stack_reduced p [] trivial)]
  rw [h1, ← red_red_append, h2, red_red_append]
theorem stack_red (st : List Int) (hs : Reduced st) (l : List Int) : stack st (red l) = stack st l := by
  have key : ∀ r : List Int, stack st (red r.reverse) = stack st r.reverse := by
    intro r
    induction r with
    | nil => rfl
    | cons x r ih =>
      rw [List.reverse_cons, stack_snoc, ← ih]
      have e : red (r.reverse ++ [x]) = (push (stack [] r.reverse) x).reverse := by rw [red, stack_snoc]
      rw [e]
      have hr : red r.reverse = (stack [] r.reverse).reverse := rfl
      rw [hr]
      generalize stack [] r.reverse = s
      by_cases h : ∃ t, s = -x :: t
      · obtain ⟨t, rfl⟩ := h
        rw [push_hit rfl, List.reverse_cons, stack_snoc]
        have := push_push (st := stack st t.reverse) (x := -x) (stack_reduced _ st hs)
        rw [Int.neg_neg] at this
        exact this.symm
      · rw [push_miss (fun t ht => h ⟨t, ht⟩), List.reverse_cons, stack_snoc]
  have := key l.reverse
  rwa [List.reverse_reverse] at this
theorem red_append_red (a b : List Int) : red (a ++ red b) = red (a ++ b) := by
  unfold red
  rw [stack_append, stack_append]
  congr 1
  exact stack_red _ (stack_reduced a [] trivial) b

end Go.Proofs.Ytpaijobmoddgpab.Plain

namespace Go.Proofs.Ytpaijobmoddgpab.Plain
set_option linter.unusedVariables false

/-- The commutator of two lists, reduced. -/
def comm (u v : List Int) : List Int := red (u ++ (v ++ (inv u ++ inv v)))
theorem comm_red (u v : List Int) : red (red (u ++ v) ++ red (inv u ++ inv v)) = comm u v := by
  rw [red_red_append, red_append_red, comm, List.append_assoc]
theorem Letters.comm {u v : List Int} (hu : Letters u) (hv : Letters v) : Letters (comm u v) := (hu.append (hv.append (hu.inv.append hv.inv))).red
theorem comm_le (u v : List Int) : (comm u v).length ≤ 2 * u.length + 2 * v.length := by
  have := red_length (u ++ (v ++ (inv u ++ inv v)))
  simp [inv_length] at this
  unfold comm
  omega

/-! lists of nails -/
def memB (l : List Int) (x : Int) : Bool := l.any (fun y => decide (y = x))
def nailAt (ns : List Int) (k : Nat) : Bool := decide (1 ≤ ns.getD k 0 ∧ ns.getD k 0 ≤ 6) && !memB (ns.take k) (ns.getD k 0)
def goodTo (ns : List Int) : Nat → Bool
  | 0 => true
  | k + 1 => goodTo ns k && nailAt ns k
/-- At least one nail, at most six, all different. -/
def nailsOk (ns : List Int) : Bool := decide (1 ≤ ns.length ∧ ns.length ≤ 6) && goodTo ns ns.length
theorem goodTo_no {ns : List Int} {k : Nat} (h : nailAt ns k = false) : ∀ m, k < m → goodTo ns m = false := by
  intro m
  induction m with
  | zero => intro h; omega
  | succ m ih =>
    intro hm
    rw [goodTo]
    by_cases e : k = m
    · subst e; rw [h, Bool.and_false]
    · rw [ih (by omega)]; rfl
theorem goodTo_at {ns : List Int} {m k : Nat} (h : goodTo ns m = true) (hk : k < m) : nailAt ns k = true := by
  cases hh : nailAt ns k with
  | true => rfl
  | false => rw [goodTo_no hh m hk] at h; cases h
theorem nailsOk_iff {ns : List Int} : nailsOk ns = true ↔ (1 ≤ ns.length ∧ ns.length ≤ 6) ∧ goodTo ns ns.length = true := by simp [nailsOk]
theorem nailsOk_letters {ns : List Int} (h : nailsOk ns = true) : Letters ns ∧ ∀ x ∈ ns, 1 ≤ x ∧ x ≤ 6 := by
  have hg := (nailsOk_iff.1 h).2
  have key : ∀ x ∈ ns, 1 ≤ x ∧ x ≤ 6 := by
    intro x hx
    obtain ⟨j, hj⟩ := List.getElem?_of_mem hx
    have hlt : j < ns.length := (List.getElem?_eq_some_iff.1 hj).1
    have := goodTo_at hg hlt
    unfold nailAt at this
    rw [List.getD_eq_getElem?_getD, hj] at this
    simp at this
    exact this.1
  exact ⟨fun x hx => by have := key x hx; omega, key⟩

/-! left words -/
def leftTo (ns : List Int) : Nat → List Int
  | 0 => ns.take 1
  | k + 1 => comm (leftTo ns k) [ns.getD (k + 1) 0]
def leftLen : Nat → Nat
  | 0 => 1
  | k + 1 => 2 * leftLen k + 2
theorem leftTo_le (ns : List Int) (k : Nat) : (leftTo ns k).length ≤ leftLen k := by
  induction k with
  | zero => simp [leftTo, leftLen]; omega
  | succ k ih =>
    have := comm_le (leftTo ns k) [ns.getD (k + 1) 0]
    simp only [leftTo, leftLen, List.length_singleton] at this ⊢
    omega
theorem Letters.leftTo {ns : List Int} (h : Letters ns) : ∀ k, k < ns.length → Letters (leftTo ns k) := by
  intro k
  induction k with
  | zero => intro _; exact h.sub fun x hx => List.mem_of_mem_take hx
  | succ k ih =>
    intro hk
    refine (ih (by omega)).comm fun x hx => ?_
    simp only [List.mem_singleton] at hx
    subst hx
    rw [List.getD_eq_getElem?_getD, List.getElem?_eq_getElem hk]
    exact h _ (List.getElem_mem hk)
theorem leftLen_pow (k : Nat) : leftLen k + 2 = 3 * 2 ^ k := by
  induction k with
  | zero => rfl
  | succ k ih => rw [leftLen, Nat.pow_succ]; omega
theorem leftLen_le {k : Nat} (h : k ≤ 39) : leftLen k ≤ 1649267441662 := by
  have h1 := leftLen_pow k
  have h2 : 2 ^ k ≤ 2 ^ 39 := Nat.pow_le_pow_right (by decide) h
  have h3 : (2 : Nat) ^ 39 = 549755813888 := by decide
  omega

/-! balanced words -/
def balLen : Nat → Nat → Nat
  | 0, _ => 1
  | f + 1, n => if n = 1 then 1 else 2 * (balLen f ((n + 1) / 2) + balLen f (n / 2))
theorem balLen_le (f : Nat) : ∀ n, balLen f n ≤ 4 ^ f := by
  induction f with
  | zero => intro n; simp [balLen]
  | succ f ih =>
    intro n
    have h1 := ih ((n + 1) / 2)
    have h2 := ih (n / 2)
    have h3 : 1 ≤ 4 ^ f := Nat.pow_pos (by decide)
    rw [balLen, Nat.pow_succ]
    split <;> omega
def bal : Nat → List Int → List Int
  | 0, ns => ns.take 1
  | f + 1, ns => if ns.length = 1 then ns.take 1 else comm (bal f (ns.take ((ns.length + 1) / 2))) (bal f (ns.drop ((ns.length + 1) / 2)))
theorem bal_le (f : Nat) : ∀ ns, (bal f ns).length ≤ 4 ^ f := by
  induction f with
  | zero => intro ns; simp [bal]; omega
  | succ f ih =>
    intro ns
    have h1 := ih (ns.take ((ns.length + 1) / 2))
    have h2 := ih (ns.drop ((ns.length + 1) / 2))
    have h3 : 1 ≤ 4 ^ f := Nat.pow_pos (by decide)
    rw [bal, Nat.pow_succ]
    split
    · simp; omega
    · have := comm_le (bal f (ns.take ((ns.length + 1) / 2))) (bal f (ns.drop ((ns.length + 1) / 2)))
      omega
theorem Letters.bal (f : Nat) : ∀ {ns : List Int}, Letters ns → Letters (bal f ns) := by
  induction f with
  | zero => intro ns h; exact h.sub fun x hx => List.mem_of_mem_take hx
  | succ f ih =>
    intro ns h
    rw [Plain.bal]
    split
    · exact h.sub fun x hx => List.mem_of_mem_take hx
    · exact (ih (h.sub fun x hx => List.mem_of_mem_take hx)).comm (ih (h.sub fun x hx => List.mem_of_mem_drop hx))

end Go.Proofs.Ytpaijobmoddgpab.Plain
