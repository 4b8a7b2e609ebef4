/- Plain mathematics of words: letters, reducing, inverses, cores, turns, the order of words. No condition. -/
namespace Go.Proofs.Ytepmldbleconfaa.Plain
set_option linter.unusedVariables false

/-! letters and words -/
def letterB (x : Int) : Bool := decide (x ≠ 0 ∧ -6 ≤ x ∧ x ≤ 6)
def Letters (l : List Int) : Prop := ∀ x ∈ l, x ≠ 0 ∧ -6 ≤ x ∧ x ≤ 6
def wordB (l : List Int) : Bool := decide (l.length ≤ 64) && l.all letterB
theorem letterB_iff {x : Int} : letterB x = true ↔ x ≠ 0 ∧ -6 ≤ x ∧ x ≤ 6 := by simp [letterB]
theorem wordB_iff {l : List Int} : wordB l = true ↔ l.length ≤ 64 ∧ Letters l := by
  simp only [wordB, Bool.and_eq_true, decide_eq_true_eq, List.all_eq_true, letterB_iff, Letters]
theorem Letters.nil : Letters [] := fun x h => by simp at h
theorem Letters.append {a b : List Int} (h : Letters a) (k : Letters b) : Letters (a ++ b) := fun x hx => by
  rcases List.mem_append.1 hx with hx | hx
  · exact h x hx
  · exact k x hx
theorem Letters.left {a b : List Int} (h : Letters (a ++ b)) : Letters a := fun x hx => h x (List.mem_append.2 (.inl hx))
theorem Letters.right {a b : List Int} (h : Letters (a ++ b)) : Letters b := fun x hx => h x (List.mem_append.2 (.inr hx))
theorem Letters.at {l : List Int} (h : Letters l) {j : Nat} {x : Int} (hx : l[j]? = some x) : x ≠ 0 ∧ -6 ≤ x ∧ x ≤ 6 := h x (List.mem_of_getElem? hx)
theorem Letters.sub {a b : List Int} (h : Letters b) (k : ∀ x ∈ a, x ∈ b) : Letters a := fun x hx => h x (k x hx)

/-! reducing: a stack, its top first -/
def push (st : List Int) (x : Int) : List Int := match st with
  | [] => [x]
  | y :: t => if y = -x then t else x :: y :: t
def stack (st : List Int) (l : List Int) : List Int := l.foldl push st
def red (l : List Int) : List Int := (stack [] l).reverse

theorem stack_append (st a b : List Int) : stack st (a ++ b) = stack (stack st a) b := List.foldl_append ..
theorem stack_snoc (st a : List Int) (x : Int) : stack st (a ++ [x]) = push (stack st a) x := by rw [stack_append]; rfl
theorem take_snoc {l : List Int} {k : Nat} {x : Int} (h : l[k]? = some x) : l.take (k + 1) = l.take k ++ [x] := by rw [List.take_add_one, h]; rfl
theorem red_take {l : List Int} {k : Nat} {x : Int} (h : l[k]? = some x) : stack [] (l.take (k + 1)) = push (stack [] (l.take k)) x := by rw [take_snoc h, stack_snoc]
theorem push_hit {st t : List Int} {x : Int} (h : st = -x :: t) : push st x = t := by subst h; simp [push]
theorem push_miss {st : List Int} {x : Int} (h : ∀ t, st ≠ -x :: t) : push st x = x :: st := by
  cases st with
  | nil => rfl
  | cons y t =>
    have : ¬ y = -x := fun e => h t (by rw [e])
    simp [push, this]
theorem push_length (st : List Int) (x : Int) : (push st x).length ≤ st.length + 1 := by
  cases st with
  | nil => simp [push]
  | cons y t => simp only [push]; split <;> simp <;> omega
theorem stack_length (l : List Int) : ∀ st, (stack st l).length ≤ st.length + l.length := by
  induction l with
  | nil => intro st; simp [stack]
  | cons x l ih => intro st; have := ih (push st x); have := push_length st x; simp [stack] at *; omega
theorem red_length (l : List Int) : (red l).length ≤ l.length := by have := stack_length l []; simp [red] at *; omega
theorem push_mem {st : List Int} {x y : Int} (h : y ∈ push st x) : y ∈ st ∨ y = x := by
  cases st with
  | nil => simp [push] at h; exact .inr h
  | cons z t =>
    simp only [push] at h
    split at h
    · exact .inl (List.mem_cons_of_mem _ h)
    · rcases List.mem_cons.1 h with h | h
      · exact .inr h
      · exact .inl h
theorem stack_mem (l : List Int) : ∀ st y, y ∈ stack st l → y ∈ st ∨ y ∈ l := by
  induction l with
  | nil => intro st y h; exact .inl h
  | cons x l ih =>
    intro st y h
    rcases ih (push st x) y h with h | h
    · rcases push_mem h with h | h
      · exact .inl h
      · exact .inr (by simp [h])
    · exact .inr (List.mem_cons_of_mem _ h)
theorem red_mem {l : List Int} {y : Int} (h : y ∈ red l) : y ∈ l := by
  rcases stack_mem l [] y (by simpa [red] using h) with h | h
  · simp at h
  · exact h
theorem Letters.red {l : List Int} (h : Letters l) : Letters (red l) := h.sub fun x hx => red_mem hx
theorem push_even (st : List Int) (x : Int) : (push st x).length % 2 = (st.length + 1) % 2 := by
  cases st with
  | nil => rfl
  | cons y t => simp only [push]; split <;> simp <;> omega
theorem stack_even (l : List Int) : ∀ st, (stack st l).length % 2 = (st.length + l.length) % 2 := by
  induction l with
  | nil => intro st; simp [stack]
  | cons x l ih => intro st; have := ih (push st x); have := push_even st x; simp [stack] at *; omega
theorem red_even (l : List Int) : (red l).length % 2 = l.length % 2 := by have := stack_even l []; simp [red] at *; omega

/-! reduced lists -/
/-- No letter is beside its opposite: for lists and, the same, for their opposites in order. -/
def Reduced : List Int → Prop
  | [] => True
  | [_] => True
  | x :: y :: t => x ≠ -y ∧ Reduced (y :: t)
theorem Reduced.tail {x : Int} {t : List Int} (h : Reduced (x :: t)) : Reduced t := by
  cases t with
  | nil => trivial
  | cons y t => exact h.2
theorem push_reduced {st : List Int} {x : Int} (h : Reduced st) : Reduced (push st x) := by
  cases st with
  | nil => trivial
  | cons y t =>
    simp only [push]
    split
    · exact h.tail
    · rename_i hne
      exact ⟨fun e => hne (by omega), h⟩
theorem stack_reduced (l : List Int) : ∀ st, Reduced st → Reduced (stack st l) := by
  induction l with
  | nil => intro st h; exact h
  | cons x l ih => intro st h; exact ih _ (push_reduced h)
theorem reduced_append {a b : List Int} : Reduced (a ++ b) ↔ Reduced a ∧ Reduced b ∧ ∀ x y, a.getLast? = some x → b.head? = some y → x ≠ -y := by
  induction a with
  | nil => simp [Reduced]
  | cons x a ih =>
    cases a with
    | nil =>
      cases b with
      | nil => simp [Reduced]
      | cons y b => simp only [List.cons_append, List.nil_append, Reduced, List.getLast?_singleton, List.head?_cons, Option.some.injEq, true_and]; constructor
                    · rintro ⟨h, k⟩; exact ⟨k, fun _ _ e f => by subst e; subst f; exact h⟩
                    · rintro ⟨k, h⟩; exact ⟨h _ _ rfl rfl, k⟩
    | cons z a =>
      simp only [List.cons_append, Reduced] at ih ⊢
      rw [ih, List.getLast?_cons_cons]
      constructor
      · rintro ⟨h, h1, h2, h3⟩; exact ⟨⟨h, h1⟩, h2, h3⟩
      · rintro ⟨⟨h, h1⟩, h2, h3⟩; exact ⟨h, h1, h2, h3⟩
theorem reduced_reverse {l : List Int} (h : Reduced l) : Reduced l.reverse := by
  induction l with
  | nil => trivial
  | cons x l ih =>
    rw [List.reverse_cons, reduced_append]
    refine ⟨ih h.tail, trivial, fun a b ha hb => ?_⟩
    simp at hb
    subst hb
    cases l with
    | nil => simp at ha
    | cons y t => simp at ha; subst ha; intro e; exact h.1 (by omega)
theorem red_reduced (l : List Int) : Reduced (red l) := reduced_reverse (stack_reduced l [] trivial)
/-- A stack onto which what is pushed cancels nothing. -/
theorem stack_free (l : List Int) : ∀ st, Reduced (st.reverse ++ l) → stack st l = l.reverse ++ st := by
  induction l with
  | nil => intro st _; rfl
  | cons x l ih =>
    intro st h
    have e : push st x = x :: st := push_miss fun t e => by
      subst e
      rw [reduced_append] at h
      exact h.2.2 (-x) x (by simp) (by simp) rfl
    show stack (push st x) l = _
    rw [e, ih (x :: st) (by simpa using h)]
    simp
theorem red_of_reduced {l : List Int} (h : Reduced l) : red l = l := by
  unfold red
  rw [stack_free l [] (by simpa using h)]
  simp
theorem red_red_append (a b : List Int) : red (red a ++ b) = red (a ++ b) := by
  unfold red
  rw [stack_append, stack_append]
  congr 2
  have := stack_free (red a) [] (by simpa using red_reduced a)
  rw [show (stack [] a).reverse = red a from rfl, this]
  simp [red]
theorem red_idem (l : List Int) : red (red l) = red l := red_of_reduced (red_reduced l)
/-- A letter and its opposite on a reduced stack. -/
theorem push_push {st : List Int} {x : Int} (h : Reduced st) : push (push st x) (-x) = st := by
  cases st with
  | nil => simp [push]
  | cons y t =>
    by_cases e : y = -x
    · rw [push_hit (st := y :: t) (x := x) (by rw [e])]
      subst e
      cases t with
      | nil => rfl
      | cons z t =>
        refine push_miss fun u hu => ?_
        injection hu with h1 h2
        exact h.1 (by omega)
    · rw [push_miss (st := y :: t) (x := x) (fun u hu => e (by injection hu))]
      exact push_hit (by simp)
theorem red_length_eq {l : List Int} : (red l).length = l.length ↔ Reduced l := by
  refine ⟨fun h => ?_, fun h => by rw [red_of_reduced h]⟩
  have key : ∀ (l st : List Int), Reduced st → (stack st l).length = st.length + l.length → Reduced (st.reverse ++ l) := by
    intro l
    induction l with
    | nil => intro st hs _; simpa using reduced_reverse hs
    | cons x l ih =>
      intro st hs he
      have h1 := stack_length l (push st x)
      have h2 := push_length st x
      have he' : (stack (push st x) l).length = st.length + (l.length + 1) := he
      have h3 : push st x = x :: st := by
        cases st with
        | nil => rfl
        | cons y t =>
          simp only [push] at h1 h2 he' ⊢
          split at he'
          · rename_i e
            simp [e] at h1 he'
            omega
          · rename_i e
            simp [e]
      have := ih (x :: st) (h3 ▸ push_reduced hs) (by rw [← h3, he', h3]; simp; omega)
      simpa using this
  simpa using key l [] trivial (by simpa [red] using h)

/-! inverses -/
def inv (l : List Int) : List Int := (l.map (- ·)).reverse
theorem inv_length (l : List Int) : (inv l).length = l.length := by simp [inv]
theorem Letters.inv {l : List Int} (h : Letters l) : Letters (inv l) := fun x hx => by
  simp [Plain.inv] at hx
  obtain ⟨y, hy, rfl⟩ := hx
  have := h y hy
  omega
theorem inv_append (a b : List Int) : inv (a ++ b) = inv b ++ inv a := by simp [inv]
theorem inv_inv (l : List Int) : inv (inv l) = l := by
  simp only [inv, List.map_reverse, List.reverse_reverse, List.map_map]
  conv => rhs; rw [← List.map_id l]
  congr 1
  funext x
  simp
theorem inv_cons (x : Int) (l : List Int) : inv (x :: l) = inv l ++ [-x] := by simp [inv]
theorem stack_inv (l : List Int) : ∀ st, Reduced st → stack st (l ++ inv l) = st := by
  induction l with
  | nil => intro st _; rfl
  | cons x l ih =>
    intro st h
    rw [inv_cons, ← List.append_assoc, List.cons_append]
    show stack (push st x) (l ++ inv l ++ [-x]) = st
    rw [stack_append, ih _ (push_reduced h)]
    exact push_push h
theorem red_inv (l : List Int) : red (l ++ inv l) = [] := by unfold red; rw [stack_inv l [] trivial]; rfl

end Go.Proofs.Ytepmldbleconfaa.Plain
