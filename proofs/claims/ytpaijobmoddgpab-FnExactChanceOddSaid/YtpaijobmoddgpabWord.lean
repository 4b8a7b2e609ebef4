/- Plain mathematics of words: letters, reducing, inverses, cores, turns, the order of words. Plain mathematics of cores: how many letters at both ends of a list are opposites. Plain mathematics of the order of words. Plain mathematics of falling: what is left when nails are taken out, tables of what falls, edges, nails that matter. Plain mathematics: what decides for a set, edges told by it, nails that matter as all that decides; a word that falls for a set falls for each greater one. Conditions: a table that grows, where it says so. -/
import Derived.ProofKit
namespace Go.Proofs.Ytpaijobmoddgpab.Plain
set_option linter.unusedVariables false

/-! letters and words -/
def letterB (x : Int) : Bool := decide (x ≠ 0 ∧ -6 ≤ x ∧ x ≤ 6)
def Letters (l : List Int) : Prop := ∀ x ∈ l, x ≠ 0 ∧ -6 ≤ x ∧ x ≤ 6
def wordB (l : List Int) : Bool := decide (l.length ≤ 64) && l.all letterB
theorem letterB_iff {x : Int} : letterB x = true ↔ x ≠ 0 ∧ -6 ≤ x ∧ x ≤ 6 := by simp [letterB]
theorem wordB_iff {l : List Int} : wordB l = true ↔ l.length ≤ 64 ∧ Letters l := by
  simp only [wordB, Bool.and_eq_true, decide_eq_true_eq, List.all_eq_true, letterB_iff, Letters]
theorem Letters.nil : Letters [] := fun x h => by simp at h
theorem Letters.append {a b : List Int} (h : Letters a) (k : Letters b) : Letters (a ++ b) := fun x hx => by
  rcases List.mem_append.1 hx with hx | hx
  · exact h x hx
  · exact k x hx
theorem Letters.left {a b : List Int} (h : Letters (a ++ b)) : Letters a := fun x hx => h x (List.mem_append.2 (.inl hx))
theorem Letters.right {a b : List Int} (h : Letters (a ++ b)) : Letters b := fun x hx => h x (List.mem_append.2 (.inr hx))
theorem Letters.at {l : List Int} (h : Letters l) {j : Nat} {x : Int} (hx : l[j]? = some x) : x ≠ 0 ∧ -6 ≤ x ∧ x ≤ 6 := h x (List.mem_of_getElem? hx)
theorem Letters.sub {a b : List Int} (h : Letters b) (k : ∀ x ∈ a, x ∈ b) : Letters a := fun x hx => h x (k x hx)

/-! reducing: a stack, its top first -/
def push (st : List Int) (x : Int) : List Int := match st with
  | [] => [x]
  | y :: t => if y = -x then t else x :: y :: t
def stack (st : List Int) (l : List Int) : List Int := l.foldl push st
def red (l : List Int) : List Int := (stack [] l).reverse

theorem stack_append (st a b : List Int) : stack st (a ++ b) = stack (stack st a) b := List.foldl_append ..
theorem stack_snoc (st a : List Int) (x : Int) : stack st (a ++ [x]) = push (stack st a) x := by rw [stack_append]; rfl
theorem take_snoc {l : List Int} {k : Nat} {x : Int} (h : l[k]? = some x) : l.take (k + 1) = l.take k ++ [x] := by rw [List.take_add_one, h]; rfl
theorem red_take {l : List Int} {k : Nat} {x : Int} (h : l[k]? = some x) : stack [] (l.take (k + 1)) = push (stack [] (l.take k)) x := by rw [take_snoc h, stack_snoc]
theorem push_hit {st t : List Int} {x : Int} (h : st = -x :: t) : push st x = t := by subst h; simp [push]
theorem push_miss {st : List Int} {x : Int} (h : ∀ t, st ≠ -x :: t) : push st x = x :: st := by
  cases st with
  | nil => rfl
  | cons y t =>
    have : ¬ y = -x := fun e => h t (by rw [e])
    simp [push, this]
theorem push_length (st : List Int) (x : Int) : (push st x).length ≤ st.length + 1 := by
  cases st with
  | nil => simp [push]
  | cons y t => simp only [push]; split <;> simp <;> omega
theorem stack_length (l : List Int) : ∀ st, (stack st l).length ≤ st.length + l.length := by
  induction l with
  | nil => intro st; simp [stack]
  | cons x l ih => intro st; have := ih (push st x); have := push_length st x; simp [stack] at *; omega
theorem red_length (l : List Int) : (red l).length ≤ l.length := by have := stack_length l []; simp [red] at *; omega
theorem push_mem {st : List Int} {x y : Int} (h : y ∈ push st x) : y ∈ st ∨ y = x := by
  cases st with
  | nil => simp [push] at h; exact .inr h
  | cons z t =>
    simp only [push] at h
    split at h
    · exact .inl (List.mem_cons_of_mem _ h)
    · rcases List.mem_cons.1 h with h | h
      · exact .inr h
      · exact .inl h
theorem stack_mem (l : List Int) : ∀ st y, y ∈ stack st l → y ∈ st ∨ y ∈ l := by
  induction l with
  | nil => intro st y h; exact .inl h
  | cons x l ih =>
    intro st y h
    rcases ih (push st x) y h with h | h
    · rcases push_mem h with h | h
      · exact .inl h
      · exact .inr (by simp [h])
    · exact .inr (List.mem_cons_of_mem _ h)
theorem red_mem {l : List Int} {y : Int} (h : y ∈ red l) : y ∈ l := by
  rcases stack_mem l [] y (by simpa [red] using h) with h | h
  · simp at h
  · exact h
theorem Letters.red {l : List Int} (h : Letters l) : Letters (red l) := h.sub fun x hx => red_mem hx
theorem push_even (st : List Int) (x : Int) : (push st x).length % 2 = (st.length + 1) % 2 := by
  cases st with
  | nil => rfl
  | cons y t => simp only [push]; split <;> simp <;> omega
theorem stack_even (l : List Int) : ∀ st, (stack st l).length % 2 = (st.length + l.length) % 2 := by
  induction l with
  | nil => intro st; simp [stack]
  | cons x l ih => intro st; have := ih (push st x); have := push_even st x; simp [stack] at *; omega
theorem red_even (l : List Int) : (red l).length % 2 = l.length % 2 := by have := stack_even l []; simp [red] at *; omega

/-! reduced lists -/
/-- No letter is beside its opposite: for lists and, the same, for their opposites in order. -/
def Reduced : List Int → Prop
  | [] => True
  | [_] => True
  | x :: y :: t => x ≠ -y ∧ Reduced (y :: t)
theorem Reduced.tail {x : Int} {t : List Int} (h : Reduced (x :: t)) : Reduced t := by
  cases t with
  | nil => trivial
  | cons y t => exact h.2
theorem push_reduced {st : List Int} {x : Int} (h : Reduced st) : Reduced (push st x) := by
  cases st with
  | nil => trivial
  | cons y t =>
    simp only [push]
    split
    · exact h.tail
    · rename_i hne
      exact ⟨fun e => hne (by omega), h⟩
theorem stack_reduced (l : List Int) : ∀ st, Reduced st → Reduced (stack st l) := by
  induction l with
  | nil => intro st h; exact h
  | cons x l ih => intro st h; exact ih _ (push_reduced h)
theorem reduced_append {a b : List Int} : Reduced (a ++ b) ↔ Reduced a ∧ Reduced b ∧ ∀ x y, a.getLast? = some x → b.head? = some y → x ≠ -y := by
  induction a with
  | nil => simp [Reduced]
  | cons x a ih =>
    cases a with
    | nil =>
      cases b with
      | nil => simp [Reduced]
      | cons y b => simp only [List.cons_append, List.nil_append, Reduced, List.getLast?_singleton, List.head?_cons, Option.some.injEq, true_and]; constructor
                    · rintro ⟨h, k⟩; exact ⟨k, fun _ _ e f => by subst e; subst f; exact h⟩
                    · rintro ⟨k, h⟩; exact ⟨h _ _ rfl rfl, k⟩
    | cons z a =>
      simp only [List.cons_append, Reduced] at ih ⊢
      rw [ih, List.getLast?_cons_cons]
      constructor
      · rintro ⟨h, h1, h2, h3⟩; exact ⟨⟨h, h1⟩, h2, h3⟩
      · rintro ⟨⟨h, h1⟩, h2, h3⟩; exact ⟨h, h1, h2, h3⟩
theorem reduced_reverse {l : List Int} (h : Reduced l) : Reduced l.reverse := by
  induction l with
  | nil => trivial
  | cons x l ih =>
    rw [List.reverse_cons, reduced_append]
    refine ⟨ih h.tail, trivial, fun a b ha hb => ?_⟩
    simp at hb
    subst hb
    cases l with
    | nil => simp at ha
    | cons y t => simp at ha; subst ha; intro e; exact h.1 (by omega)
theorem red_reduced (l : List Int) : Reduced (red l) := reduced_reverse (stack_reduced l [] trivial)
/-- A stack onto which what is pushed cancels nothing. -/
theorem stack_free (l : List Int) : ∀ st, Reduced (st.reverse ++ l) → stack st l = l.reverse ++ st := by
  induction l with
  | nil => intro st _; rfl
  | cons x l ih =>
    intro st h
    have e : push st x = x :: st := push_miss fun t e => by
      subst e
      rw [reduced_append] at h
      exact h.2.2 (-x) x (by simp) (by simp) rfl
    show stack (push st x) l = _
    rw [e, ih (x :: st) (by simpa using h)]
    simp
theorem red_of_reduced {l : List Int} (h : Reduced l) : red l = l := by
  unfold red
  rw [stack_free l [] (by simpa using h)]
  simp
theorem red_red_append (a b : List Int) : red (red a ++ b) = red (a ++ b) := by
  unfold red
  rw [stack_append, stack_append]
  congr 2
  have := stack_free (red a) [] (by simpa using red_reduced a)
  rw [show (stack [] a).reverse = red a from rfl, this]
  simp [red]
theorem red_idem (l : List Int) : red (red l) = red l := red_of_reduced (red_reduced l)
/-- A letter and its opposite on a reduced stack. -/
theorem push_push {st : List Int} {x : Int} (h : Reduced st) : push (push st x) (-x) = st := by
  cases st with
  | nil => simp [push]
  | cons y t =>
    by_cases e : y = -x
    · rw [push_hit (st := y :: t) (x := x) (by rw [e])]
      subst e
      cases t with
      | nil => rfl
      | cons z t =>
        refine push_miss fun u hu => ?_
        injection hu with h1 h2
        exact h.1 (by omega)
    · rw [push_miss (st := y :: t) (x := x) (fun u hu => e (by injection hu))]
      exact push_hit (by simp)
theorem red_length_eq {l : List Int} : (red l).length = l.length ↔ Reduced l := by
  refine ⟨fun h => ?_, fun h => by rw [red_of_reduced h]⟩
  have key : ∀ (l st : List Int), Reduced st → (stack st l).length = st.length + l.length → Reduced (st.reverse ++ l) := by
    intro l
    induction l with
    | nil => intro st hs _; simpa using reduced_reverse hs
    | cons x l ih =>
      intro st hs he
      have h1 := stack_length l (push st x)
      have h2 := push_length st x
      have he' : (stack (push st x) l).length = st.length + (l.length + 1) := he
      have h3 : push st x = x :: st := by
        cases st with
        | nil => rfl
        | cons y t =>
          simp only [push] at h1 h2 he' ⊢
          split at he'
          · rename_i e
            simp [e] at h1 he'
            omega
          · rename_i e
            simp [e]
      have := ih (x :: st) (h3 ▸ push_reduced hs) (by rw [← h3, he', h3]; simp; omega)
      simpa using this
  simpa using key l [] trivial (by simpa [red] using h)

/-! inverses -/
def inv (l : List Int) : List Int := (l.map (- ·)).reverse
theorem inv_length (l : List Int) : (inv l).length = l.length := by simp [inv]
theorem Letters.inv {l : List Int} (h : Letters l) : Letters (inv l) := fun x hx => by
  simp [Plain.inv] at hx
  obtain ⟨y, hy, rfl⟩ := hx
  have := h y hy
  omega
theorem inv_append (a b : List Int) : inv (a ++ b) = inv b ++ inv a := by simp [inv]
theorem inv_inv (l : List Int) : inv (inv l) = l := by
  simp only [inv, List.map_reverse, List.reverse_reverse, List.map_map]
  conv => rhs; rw [← List.map_id l]
  congr 1
  funext x
  simp
theorem inv_cons (x : Int) (l : List Int) : inv (x :: l) = inv l ++ [-x] := by simp [inv]
theorem stack_inv (l : List Int) : ∀ st, Reduced st → stack st (l ++ inv l) = st := by
  induction l with
  | nil => intro st _; rfl
  | cons x l ih =>
    intro st h
    rw [inv_cons, ← List.append_assoc, List.cons_append]
    show stack (push st x) (l ++ inv l ++ [-x]) = st
    rw [stack_append, ih _ (push_reduced h)]
    exact push_push h
theorem red_inv (l : List Int) : red (l ++ inv l) = [] := by unfold red; rw [stack_inv l [] trivial]; rfl

end Go.Proofs.Ytpaijobmoddgpab.Plain

namespace Go.Proofs.Ytpaijobmoddgpab.Plain
set_option linter.unusedVariables false

/-- The letters at place j from both ends are no opposites, or nothing is left. -/
def stopsB (l : List Int) (j : Nat) : Bool := decide (l.length ≤ 2 * j) || decide (l[j]? ≠ (l[l.length - 1 - j]?).map (- ·))
def depthFrom (l : List Int) : Nat → Nat → Nat
  | 0, j => j
  | f + 1, j => if stopsB l j = true then j else depthFrom l f (j + 1)
/-- How many letters the core leaves at each end. -/
def depth (l : List Int) : Nat := depthFrom l l.length 0
def mid (l : List Int) (j : Nat) : List Int := (l.drop j).take (l.length - 2 * j)
def core (l : List Int) : List Int := mid l (depth l)
def by_ (l : List Int) : List Int := l.take (depth l)

/-- The loop has come to place j. -/
def Deep (l : List Int) (j : Nat) : Prop := depthFrom l (l.length - j) j = depth l ∧ 2 * j ≤ l.length ∧ ∀ i, i < j → stopsB l i = false
theorem deep_zero (l : List Int) : Deep l 0 := ⟨rfl, by omega, fun i h => by omega⟩
theorem stops_end {l : List Int} {j : Nat} (h : l.length ≤ 2 * j) : stopsB l j = true := by simp [stopsB, h]
theorem stops_no {l : List Int} {j : Nat} {x y : Int} (hx : l[j]? = some x) (hy : l[l.length - 1 - j]? = some y) (hne : x ≠ -y) : stopsB l j = true := by
  simp [stopsB, hx, hy, hne]
theorem goes_on {l : List Int} {j : Nat} {x y : Int} (h : 2 * j < l.length) (hx : l[j]? = some x) (hy : l[l.length - 1 - j]? = some y) (he : x = -y) : stopsB l j = false := by
  have : ¬ l.length ≤ 2 * j := by omega
  simp [stopsB, hx, hy, he, this]
theorem deep_stop {l : List Int} {j : Nat} (h : Deep l j) (hs : stopsB l j = true) : depth l = j := by
  obtain ⟨h1, h2, _⟩ := h
  rw [← h1]
  cases l.length - j with
  | zero => rfl
  | succ f => simp [depthFrom, hs]
theorem deep_succ {l : List Int} {j : Nat} (h : Deep l j) (hs : stopsB l j = false) (hl : 2 * j + 1 < l.length) : Deep l (j + 1) := by
  obtain ⟨h1, h2, h3⟩ := h
  refine ⟨?_, by omega, fun i hi => ?_⟩
  · rw [← h1, show l.length - j = (l.length - (j + 1)) + 1 by omega]
    simp [depthFrom, hs]
  · by_cases e : i = j
    · rw [e]; exact hs
    · exact h3 i (by omega)
/-- A letter is not its own opposite. -/
theorem stops_mid {l : List Int} (hl : Letters l) {j : Nat} (h : 2 * j + 1 = l.length) : stopsB l j = true := by
  obtain ⟨x, hx⟩ : ∃ x, l[j]? = some x := ⟨_, List.getElem?_eq_getElem (by omega)⟩
  have h0 := (hl.at hx).1
  refine stops_no hx (y := x) ?_ (by omega)
  rw [show l.length - 1 - j = j by omega]
  exact hx
theorem deep_depth {l : List Int} (hl : Letters l) : Deep l (depth l) := by
  have key : ∀ f j, f = l.length - j → Deep l j → Deep l (depth l) := by
    intro f
    induction f with
    | zero => intro j hf h; rw [deep_stop h (stops_end (by have := h.2.1; omega))]; exact h
    | succ f ih =>
      intro j hf h
      cases hs : stopsB l j with
      | true => rw [deep_stop h hs]; exact h
      | false =>
        have h1 : 2 * j < l.length := by
          rcases Nat.lt_or_ge (2 * j) l.length with h1 | h1
          · exact h1
          · rw [stops_end h1] at hs; cases hs
        have h2 : 2 * j + 1 ≠ l.length := fun e => by rw [stops_mid hl e] at hs; cases hs
        exact ih (j + 1) (by omega) (deep_succ h hs (by omega))
  exact key _ 0 rfl (deep_zero l)
theorem mid_length (l : List Int) (j : Nat) (h : 2 * j ≤ l.length) : (mid l j).length = l.length - 2 * j := by simp [mid]; omega
theorem mid_zero (l : List Int) : mid l 0 = l := by simp [mid]
theorem mid_at {l : List Int} {j i : Nat} (h : i < l.length - 2 * j) : (mid l j)[i]? = l[j + i]? := by
  rw [mid, List.getElem?_take_of_lt h, List.getElem?_drop]
theorem depth_le {l : List Int} (hl : Letters l) : 2 * depth l ≤ l.length := (deep_depth hl).2.1
theorem core_length {l : List Int} (hl : Letters l) : (core l).length + 2 * depth l = l.length := by
  have := depth_le hl
  rw [core, mid_length l _ this]
  omega
theorem by_length {l : List Int} (hl : Letters l) : (by_ l).length = depth l := by have := depth_le hl; simp [by_]; omega
theorem core_mem {l : List Int} {x : Int} (h : x ∈ core l) : x ∈ l := List.mem_of_mem_drop (List.mem_of_mem_take h)
theorem Letters.core {l : List Int} (h : Letters l) : Letters (core l) := h.sub fun x hx => core_mem hx

end Go.Proofs.Ytpaijobmoddgpab.Plain

namespace Go.Proofs.Ytpaijobmoddgpab.Plain
set_option linter.unusedVariables false

def codeOf (x : Int) : Int := if 0 < x then 2 * x - 2 else -2 * x - 1
def nail (x : Int) : Int := if 0 < x then x else -x
theorem code_inj {x y : Int} (h : codeOf x = codeOf y) : x = y := by unfold codeOf at h; split at h <;> split at h <;> omega
def lexB : List Int → List Int → Bool
  | x :: xs, y :: ys => if x = y then lexB xs ys else decide (codeOf x < codeOf y)
  | _, _ => false
def lessB (u v : List Int) : Bool := if u.length = v.length then lexB u v else decide (u.length < v.length)
theorem lex_same (u : List Int) : lexB u u = false := by
  induction u with
  | nil => rfl
  | cons x u ih => simp [lexB, ih]
theorem lex_at {u v : List Int} {k : Nat} {x y : Int} (h : ∀ (j : Nat) (a b : Int), j < k → u[j]? = some a → v[j]? = some b → a = b) (hx : u[k]? = some x) (hy : v[k]? = some y) (hne : x ≠ y) : lexB u v = decide (codeOf x < codeOf y) := by
  induction k generalizing u v with
  | zero =>
    cases u with
    | nil => simp at hx
    | cons a u =>
      cases v with
      | nil => simp at hy
      | cons b v => simp at hx hy; subst hx hy; simp [lexB, hne]
  | succ k ih =>
    cases u with
    | nil => simp at hx
    | cons a u =>
      cases v with
      | nil => simp at hy
      | cons b v =>
        have e := h 0 a b (by omega) rfl rfl
        subst e
        simp only [List.getElem?_cons_succ] at hx hy
        rw [lexB, if_pos rfl]
        exact ih (fun j c d hj hc hd => h (j + 1) c d (by omega) hc hd) hx hy
theorem less_len {u v : List Int} (h : u.length ≠ v.length) : lessB u v = decide (u.length < v.length) := if_neg h
theorem less_lex {u v : List Int} (h : u.length = v.length) : lessB u v = lexB u v := if_pos h
theorem less_at {u v : List Int} {k : Nat} {x y : Int} (hl : u.length = v.length) (h : ∀ (j : Nat) (a b : Int), j < k → u[j]? = some a → v[j]? = some b → a = b) (hx : u[k]? = some x) (hy : v[k]? = some y) (hne : x ≠ y) : lessB u v = decide (codeOf x < codeOf y) :=
  (less_lex hl).trans (lex_at h hx hy hne)
theorem less_same {u v : List Int} (h : u = v) : lessB u v = false := by subst h; rw [less_lex rfl, lex_same]

/-- How letters are compared. -/
def cmpL (a b : Int) : Int := if nail a = nail b then b - a else nail a - nail b
theorem cmp_neg {a b : Int} (ha : a ≠ 0) (hb : b ≠ 0) : cmpL a b < 0 ↔ codeOf a < codeOf b := by unfold cmpL codeOf nail; split <;> split <;> (try split) <;> (try split) <;> omega
theorem cmp_zero {a b : Int} (ha : a ≠ 0) (hb : b ≠ 0) : cmpL a b = 0 ↔ a = b := by unfold cmpL nail; split <;> split <;> (try split) <;> (try split) <;> omega
theorem cmp_in {a b : Int} (ha : -6 ≤ a ∧ a ≤ 6) (hb : -6 ≤ b ∧ b ≤ 6) : -100 ≤ cmpL a b ∧ cmpL a b ≤ 100 := by unfold cmpL nail; split <;> split <;> (try split) <;> (try split) <;> omega

end Go.Proofs.Ytpaijobmoddgpab.Plain

namespace Go.Proofs.Ytpaijobmoddgpab.Plain
set_option linter.unusedVariables false

/-- The nail of a letter is in a set. -/
def inB (s : Nat) (x : Int) : Bool := s.testBit ((nail x).toNat - 1)
def without (l : List Int) (s : Nat) : List Int := l.filter (fun x => !inB s x)
/-- What is left of a list when a set is taken out. -/
def takeOut (l : List Int) (s : Nat) : List Int := red (without l s)
def fallsB (l : List Int) (s : Nat) : Bool := decide ((takeOut l s).length = 0)
theorem without_le (l : List Int) (s : Nat) : (without l s).length ≤ l.length := List.length_filter_le _ _
theorem takeOut_le (l : List Int) (s : Nat) : (takeOut l s).length ≤ l.length := Nat.le_trans (red_length _) (without_le l s)
theorem Letters.without {l : List Int} (h : Letters l) (s : Nat) : Letters (without l s) := h.sub fun x hx => (List.mem_filter.1 hx).1
theorem Letters.takeOut {l : List Int} (h : Letters l) (s : Nat) : Letters (takeOut l s) := (h.without s).red
theorem without_take {l : List Int} {k : Nat} {x : Int} (s : Nat) (h : l[k]? = some x) : without (l.take (k + 1)) s = if inB s x = true then without (l.take k) s else without (l.take k) s ++ [x] := by
  rw [take_snoc h, without, List.filter_append, without]
  cases hb : inB s x <;> simp [hb]

/-- How many nails a set has. -/
def manyTo (s : Nat) : Nat → Nat
  | 0 => 0
  | k + 1 => manyTo s k + if s.testBit k then 1 else 0
def many (s : Nat) : Nat := manyTo s 6
theorem manyTo_le (s k : Nat) : manyTo s k ≤ k := by
  induction k with
  | zero => exact Nat.le_refl _
  | succ k ih => rw [manyTo]; split <;> omega
theorem many_le (s : Nat) : many s ≤ 6 := manyTo_le s 6

/-- A set beside a set tells that this is no edge. -/
def hitB (t : Nat → Bool) (v : Bool) (s n : Nat) : Bool := (t (s ^^^ 2 ^ n) == v) && (decide (s ^^^ 2 ^ n < s) == v)
def edgeTo (t : Nat → Bool) (v : Bool) (s : Nat) : Nat → Bool
  | 0 => true
  | n + 1 => edgeTo t v s n && !hitB t v s n
def edgeB (t : Nat → Bool) (v : Bool) (s : Nat) : Bool := edgeTo t v s 6 && (t s == v)
theorem edgeTo_no {t : Nat → Bool} {v : Bool} {s n : Nat} (h : hitB t v s n = true) : ∀ m, n < m → edgeTo t v s m = false := by
  intro m
  induction m with
  | zero => intro h; omega
  | succ m ih =>
    intro hm
    rw [edgeTo]
    by_cases e : n = m
    · subst e; simp [h]
    · rw [ih (by omega)]; rfl
def edgesTo (t : Nat → Bool) (v : Bool) : Nat → List Int
  | 0 => []
  | k + 1 => if edgeB t v k = true then edgesTo t v k ++ [(k : Int)] else edgesTo t v k
/-- All least sets that fall, or all greatest ones that hang. -/
def edges (t : Nat → Bool) (v : Bool) : List Int := edgesTo t v 64
theorem edgesTo_le (t : Nat → Bool) (v : Bool) (k : Nat) : (edgesTo t v k).length ≤ k := by
  induction k with
  | zero => exact Nat.le_refl _
  | succ k ih =>
    rw [edgesTo]
    split
    · simp; omega
    · omega
theorem edges_le (t : Nat → Bool) (v : Bool) : (edges t v).length ≤ 64 := edgesTo_le t v 64

/-- The best of the sets from 63 down to 63 - k. -/
def bestTo (t : Nat → Bool) : Nat → Nat
  | 0 => 63
  | k + 1 => if (t (62 - k) && decide (many (62 - k) ≤ many (bestTo t k))) = true then 62 - k else bestTo t k
def best (t : Nat → Bool) : Nat := bestTo t 63
theorem bestTo_lt (t : Nat → Bool) (k : Nat) : bestTo t k < 64 := by
  induction k with
  | zero => exact Nat.lt_of_sub_eq_succ rfl
  | succ k ih => rw [bestTo]; split <;> omega

/-- A set tells that a nail matters. -/
def tells (t : Nat → Bool) (n s : Nat) : Bool := !s.testBit n && (t s != t (s ||| 2 ^ n))
def tellsTo (t : Nat → Bool) (n : Nat) : Nat → Bool
  | 0 => false
  | k + 1 => tellsTo t n k || tells t n k
def matterTo (t : Nat → Bool) : Nat → Nat
  | 0 => 0
  | n + 1 => if tellsTo t n 64 = true then matterTo t n ||| 2 ^ n else matterTo t n
/-- The set of the nails that matter. -/
def matter (t : Nat → Bool) : Nat := matterTo t 6
theorem matterTo_lt (t : Nat → Bool) : ∀ n, n ≤ 6 → matterTo t n < 64 := by
  intro n
  induction n with
  | zero => intro _; exact Nat.zero_lt_succ _
  | succ n ih =>
    intro hn
    have h1 := ih (by omega)
    rw [matterTo]
    split
    · exact Nat.or_lt_two_pow (n := 6) h1 (Nat.pow_lt_pow_right (by decide) (by omega))
    · exact h1

/-- Just the sets of at least k nails fall, of the first m sets. -/
def sameTo (t : Nat → Bool) (k : Nat) : Nat → Bool
  | 0 => true
  | m + 1 => sameTo t k m && (t m == decide (k ≤ many m))
/-- The first k from a place on, of f places. -/
def byFrom (t : Nat → Bool) (n : Nat) : Nat → Nat → Option Nat
  | 0, _ => none
  | f + 1, k => if sameTo t k (2 ^ n) = true then some k else byFrom t n f (k + 1)
def hangsBy (t : Nat → Bool) (n : Nat) : Option Nat := byFrom t n (n + 1) 0

/-- The set of the first nails of a list. -/
def setTo (ns : List Int) : Nat → Nat
  | 0 => 0
  | k + 1 => setTo ns k ||| 2 ^ ((ns.getD k 1).toNat - 1)
def nailsB (ns : List Int) : Bool := ns.all (fun n => decide (1 ≤ n ∧ n ≤ 6))
def orderFrom (t : Nat → Bool) (ns : List Int) : Nat → Nat → Option Nat
  | 0, _ => none
  | f + 1, k => if t (setTo ns k) = true then some k else orderFrom t ns f (k + 1)
/-- Behind how many nails a list falls. -/
def orderOf (t : Nat → Bool) (ns : List Int) : Option Nat := orderFrom t ns (ns.length + 1) 0
theorem setTo_lt {ns : List Int} (h : nailsB ns = true) (k : Nat) (hk : k ≤ ns.length) : setTo ns k < 64 := by
  induction k with
  | zero => exact Nat.zero_lt_succ _
  | succ k ih =>
    rw [setTo]
    refine Nat.or_lt_two_pow (n := 6) (ih (by omega)) (Nat.pow_lt_pow_right (by decide) ?_)
    have hm := List.all_eq_true.1 h ns[k] (List.getElem_mem (by omega))
    simp only [decide_eq_true_eq] at hm
    rw [List.getD_eq_getElem?_getD, List.getElem?_eq_getElem (by omega)]
    simp only [Option.getD_some]
    omega
/-- Two tables are the same. -/
def alikeTo (t u : Nat → Bool) : Nat → Bool
  | 0 => true
  | k + 1 => alikeTo t u k && (t k == u k)
def alike (t u : Nat → Bool) : Bool := alikeTo t u 64
theorem alikeTo_iff {t u : Nat → Bool} (k : Nat) : alikeTo t u k = true ↔ ∀ i, i < k → t i = u i := by
  induction k with
  | zero => simp [alikeTo]
  | succ k ih =>
    rw [alikeTo, Bool.and_eq_true, ih, beq_iff_eq]
    constructor
    · rintro ⟨h1, h2⟩ i hi
      by_cases e : i = k
      · subst e; exact h2
      · exact h1 i (by omega)
    · intro h
      exact ⟨fun i hi => h i (by omega), h k (by omega)⟩

end Go.Proofs.Ytpaijobmoddgpab.Plain

namespace Go.Proofs.Ytpaijobmoddgpab.Plain
set_option linter.unusedVariables false

/-- A set without a nail's bit. -/
def clr (s q : Nat) : Nat := s ^^^ (s &&& q)
theorem bit_facts : ((List.range 64).all fun s => (List.range 6).all fun i => bif s.testBit i then (clr s (2 ^ i) == s ^^^ 2 ^ i) && (s ||| 2 ^ i == s) && decide (s ^^^ 2 ^ i < s) && decide (clr s (2 ^ i) < 64) && !(clr s (2 ^ i)).testBit i && (clr s (2 ^ i) ||| 2 ^ i == s) else (clr s (2 ^ i) == s) && (s ||| 2 ^ i == s ^^^ 2 ^ i) && !decide (s ^^^ 2 ^ i < s) && decide (s ||| 2 ^ i < 64)) = true := by kernel_rfl
theorem bit_yes {s i : Nat} (hs : s < 64) (hi : i < 6) (h : s.testBit i = true) : clr s (2 ^ i) = s ^^^ 2 ^ i ∧ s ||| 2 ^ i = s ∧ s ^^^ 2 ^ i < s ∧ clr s (2 ^ i) < 64 ∧ (clr s (2 ^ i)).testBit i = false ∧ clr s (2 ^ i) ||| 2 ^ i = s := by
  have h1 := List.all_eq_true.1 (List.all_eq_true.1 bit_facts s (List.mem_range.2 hs)) i (List.mem_range.2 hi)
  simp only [h, cond_true, Bool.and_eq_true, beq_iff_eq, decide_eq_true_eq, Bool.not_eq_true'] at h1
  obtain ⟨⟨⟨⟨⟨a, b⟩, c⟩, d⟩, e⟩, f⟩ := h1
  exact ⟨a, b, c, d, e, f⟩
theorem bit_no {s i : Nat} (hs : s < 64) (hi : i < 6) (h : s.testBit i = false) : clr s (2 ^ i) = s ∧ s ||| 2 ^ i = s ^^^ 2 ^ i ∧ ¬ s ^^^ 2 ^ i < s ∧ s ||| 2 ^ i < 64 := by
  have h1 := List.all_eq_true.1 (List.all_eq_true.1 bit_facts s (List.mem_range.2 hs)) i (List.mem_range.2 hi)
  simp only [h, cond_false, Bool.and_eq_true, beq_iff_eq, decide_eq_true_eq, Bool.not_eq_true', decide_eq_false_iff_not] at h1
  obtain ⟨⟨⟨a, b⟩, c⟩, d⟩ := h1
  exact ⟨a, b, c, d⟩
theorem ext6 {a b : Nat} (ha : a < 64) (hb : b < 64) (h : ∀ i, i < 6 → a.testBit i = b.testBit i) : a = b := by
  apply Nat.eq_of_testBit_eq
  intro i
  by_cases hi : i < 6
  · exact h i hi
  · have h2 : 64 ≤ 2 ^ i := Nat.le_trans (by decide : 64 ≤ 2 ^ 6) (Nat.pow_le_pow_right (by decide) (by omega))
    rw [Nat.testBit_lt_two_pow (by omega), Nat.testBit_lt_two_pow (by omega)]

/-- A nail decides for a set: the word hangs without it and falls with it. -/
def decB (t : Nat → Bool) (s i : Nat) : Bool := !t (clr s (2 ^ i)) && t (s ||| 2 ^ i)
def decTo (t : Nat → Bool) (s : Nat) : Nat → Nat
  | 0 => 0
  | n + 1 => if decB t s n = true then decTo t s n ||| 2 ^ n else decTo t s n
def decN (t : Nat → Bool) (s : Nat) : Nat := decTo t s 6
theorem decTo_lt (t : Nat → Bool) (s : Nat) : ∀ n, n ≤ 6 → decTo t s n < 64 := by
  intro n
  induction n with
  | zero => intro _; exact Nat.zero_lt_succ _
  | succ n ih =>
    intro hn
    have h1 := ih (by omega)
    rw [decTo]
    split
    · exact Nat.or_lt_two_pow (n := 6) h1 (Nat.pow_lt_pow_right (by decide) (by omega))
    · exact h1
theorem decTo_bit (t : Nat → Bool) (s i : Nat) : ∀ n, (decTo t s n).testBit i = (decide (i < n) && decB t s i) := by
  intro n
  induction n with
  | zero => simp [decTo]
  | succ n ih =>
    rw [decTo]
    by_cases e : i = n
    · subst e
      cases hb : decB t s i <;> simp [ih, hb]
    · have h1 : decide (i < n + 1) = decide (i < n) := decide_eq_decide.2 (by omega)
      rw [h1]
      split
      · rw [Nat.testBit_or, ih, Nat.testBit_two_pow]
        simp [show ¬ n = i by omega]
      · exact ih
theorem decN_lt (t : Nat → Bool) (s : Nat) : decN t s < 64 := decTo_lt t s 6 (by decide)
theorem decN_bit (t : Nat → Bool) {s i : Nat} (h : i < 6) : (decN t s).testBit i = decB t s i := by rw [decN, decTo_bit]; simp [h]
theorem edgeTo_iff {t : Nat → Bool} {v : Bool} {s : Nat} : ∀ n, edgeTo t v s n = true ↔ ∀ i, i < n → hitB t v s i = false := by
  intro n
  induction n with
  | zero => simp [edgeTo]
  | succ n ih =>
    rw [edgeTo, Bool.and_eq_true, ih, Bool.not_eq_true']
    constructor
    · rintro ⟨h1, h2⟩ i hi
      by_cases e : i = n
      · subst e; exact h2
      · exact h1 i (by omega)
    · intro h
      exact ⟨fun i hi => h i (by omega), h n (by omega)⟩
theorem least_edge (t : Nat → Bool) {s : Nat} (hs : s < 64) : (t s && (decN t s == s)) = edgeB t true s := by
  rw [edgeB]
  cases ht : t s with
  | false => cases edgeTo t true s 6 <;> rfl
  | true =>
    rw [Bool.eq_iff_iff]
    simp only [Bool.true_and, beq_iff_eq, Bool.and_eq_true, and_true, BEq.rfl]
    rw [edgeTo_iff]
    have key : ∀ i, i < 6 → (decB t s i = s.testBit i ↔ hitB t true s i = false) := by
      intro i hi
      cases hb : s.testBit i with
      | true =>
        obtain ⟨a, b, c, -, -, -⟩ := bit_yes hs hi hb
        have c' : decide (s ^^^ 2 ^ i < s) = true := by simpa using c
        simp [decB, hitB, a, b, ht, c']
      | false =>
        obtain ⟨a, b, c, -⟩ := bit_no hs hi hb
        have c' : decide (s ^^^ 2 ^ i < s) = false := by simpa using c
        simp [decB, hitB, a, ht, c']
    constructor
    · intro h i hi
      exact (key i hi).1 (by rw [← decN_bit t hi, h])
    · intro h
      refine ext6 (decN_lt t s) hs fun i hi => ?_
      rw [decN_bit t hi]
      exact (key i hi).2 (h i hi)
theorem clr63 {s : Nat} (hs : s < 64) : clr 63 s < 64 ∧ ∀ i, i < 6 → (clr 63 s).testBit i = !s.testBit i := by
  have h0 : ((List.range 64).all fun s => decide (clr 63 s < 64) && (List.range 6).all fun i => (clr 63 s).testBit i == !s.testBit i) = true := by kernel_rfl
  have h1 := List.all_eq_true.1 h0 s (List.mem_range.2 hs)
  rw [Bool.and_eq_true] at h1
  refine ⟨by simpa using h1.1, fun i hi => ?_⟩
  have h2 := List.all_eq_true.1 h1.2 i (List.mem_range.2 hi)
  simpa using h2
theorem greatest_edge (t : Nat → Bool) {s : Nat} (hs : s < 64) : (!t s && (decN t s == clr 63 s)) = edgeB t false s := by
  rw [edgeB]
  cases ht : t s with
  | true => cases edgeTo t false s 6 <;> rfl
  | false =>
    rw [Bool.eq_iff_iff]
    simp only [Bool.not_false, Bool.true_and, beq_iff_eq, Bool.and_eq_true, and_true, BEq.rfl]
    rw [edgeTo_iff]
    have key : ∀ i, i < 6 → (decB t s i = !s.testBit i ↔ hitB t false s i = false) := by
      intro i hi
      cases hb : s.testBit i with
      | true =>
        obtain ⟨a, b, c, -, -, -⟩ := bit_yes hs hi hb
        have c' : decide (s ^^^ 2 ^ i < s) = true := by simpa using c
        simp [decB, hitB, b, ht, c']
      | false =>
        obtain ⟨a, b, c, -⟩ := bit_no hs hi hb
        have c' : decide (s ^^^ 2 ^ i < s) = false := by simpa using c
        simp [decB, hitB, a, b, ht, c']
    obtain ⟨hc, hcb⟩ := clr63 hs
    constructor
    · intro h i hi
      exact (key i hi).1 (by rw [← decN_bit t hi, h, hcb i hi])
    · intro h
      refine ext6 (decN_lt t s) hc fun i hi => ?_
      rw [decN_bit t hi, hcb i hi]
      exact (key i hi).2 (h i hi)

/-- All that decides for a set, of the first sets. -/
def uniTo (t : Nat → Bool) : Nat → Nat
  | 0 => 0
  | k + 1 => uniTo t k ||| decN t k
theorem uniTo_lt (t : Nat → Bool) (k : Nat) : uniTo t k < 64 := by
  induction k with
  | zero => exact Nat.zero_lt_succ _
  | succ k ih => exact Nat.or_lt_two_pow (n := 6) ih (decN_lt t k)
theorem uniTo_bit {t : Nat → Bool} {i : Nat} (hi : i < 6) (k : Nat) : (uniTo t k).testBit i = true ↔ ∃ s, s < k ∧ decB t s i = true := by
  induction k with
  | zero => simp [uniTo]
  | succ k ih =>
    rw [uniTo, Nat.testBit_or, Bool.or_eq_true, ih, decN_bit t hi]
    constructor
    · rintro (⟨s, h1, h2⟩ | h)
      · exact ⟨s, by omega, h2⟩
      · exact ⟨k, by omega, h⟩
    · rintro ⟨s, h1, h2⟩
      by_cases e : s = k
      · subst e; exact .inr h2
      · exact .inl ⟨s, by omega, h2⟩
theorem tellsTo_iff {t : Nat → Bool} {i : Nat} (k : Nat) : tellsTo t i k = true ↔ ∃ s, s < k ∧ tells t i s = true := by
  induction k with
  | zero => simp [tellsTo]
  | succ k ih =>
    rw [tellsTo, Bool.or_eq_true, ih]
    constructor
    · rintro (⟨s, h1, h2⟩ | h)
      · exact ⟨s, by omega, h2⟩
      · exact ⟨k, by omega, h⟩
    · rintro ⟨s, h1, h2⟩
      by_cases e : s = k
      · subst e; exact .inr h2
      · exact .inl ⟨s, by omega, h2⟩
theorem matterTo_bit (t : Nat → Bool) (i : Nat) : ∀ n, (matterTo t n).testBit i = (decide (i < n) && tellsTo t i 64) := by
  intro n
  induction n with
  | zero => simp [matterTo]
  | succ n ih =>
    rw [matterTo]
    by_cases e : i = n
    · subst e
      cases hb : tellsTo t i 64 <;> simp [ih, hb]
    · have h1 : decide (i < n + 1) = decide (i < n) := decide_eq_decide.2 (by omega)
      rw [h1]
      split
      · rw [Nat.testBit_or, ih, Nat.testBit_two_pow]
        simp [show ¬ n = i by omega]
      · exact ih
theorem matter_uni {t : Nat → Bool} (hm : ∀ s i, s < 64 → i < 6 → t s = true → t (s ||| 2 ^ i) = true) : uniTo t 64 = matter t := by
  refine ext6 (uniTo_lt t 64) (matterTo_lt t 6 (by decide)) fun i hi => ?_
  rw [Bool.eq_iff_iff, uniTo_bit hi, matter, matterTo_bit, Bool.and_eq_true, tellsTo_iff]
  simp only [hi, decide_true, true_and]
  constructor
  · rintro ⟨s, hs, hd⟩
    cases hb : s.testBit i with
    | true =>
      obtain ⟨a, b, c, d, e, f⟩ := bit_yes hs hi hb
      refine ⟨clr s (2 ^ i), d, ?_⟩
      rw [decB, b] at hd
      rw [tells, e, f]
      revert hd
      cases t (clr s (2 ^ i)) <;> cases t s <;> simp
    | false =>
      obtain ⟨a, b, c, d⟩ := bit_no hs hi hb
      refine ⟨s, hs, ?_⟩
      rw [decB, a] at hd
      rw [tells, hb]
      revert hd
      cases t s <;> cases t (s ||| 2 ^ i) <;> simp
  · rintro ⟨s, hs, hd⟩
    refine ⟨s, hs, ?_⟩
    rw [tells, Bool.and_eq_true, Bool.not_eq_true'] at hd
    obtain ⟨hb, hd⟩ := hd
    obtain ⟨a, b, c, d⟩ := bit_no hs hi hb
    rw [decB, a]
    have h2 := hm s i hs hi
    revert hd h2
    cases t s <;> cases t (s ||| 2 ^ i) <;> simp

/-! What falls for a set falls for each greater one. -/
theorem red_cut (a b : List Int) (x : Int) : red (a ++ (-x :: x :: b)) = red (a ++ b) := by
  have h1 : red (a ++ [-x, x]) = red a := by
    unfold red
    rw [stack_append]
    have h2 : stack (stack [] a) [-x, x] = push (push (stack [] a) (-x)) x := rfl
    have h3 := push_push (x := -x) (stack_reduced a [] trivial)
    rw [Int.neg_neg] at h3
    rw [h2, h3]
  have h4 : a ++ (-x :: x :: b) = (a ++ [-x, x]) ++ b := by simp
  rw [h4, ← red_red_append, h1, red_red_append]
theorem red_filter_stack (f : Int → Bool) (hf : ∀ x, f (-x) = f x) (l : List Int) : ∀ st, red (((stack st l).reverse).filter f) = red ((st.reverse ++ l).filter f) := by
  induction l with
  | nil => intro st; simp [stack]
  | cons x t ih =>
    intro st
    have h0 : stack st (x :: t) = stack (push st x) t := rfl
    rw [h0, ih]
    by_cases hh : ∃ r, st = -x :: r
    · obtain ⟨r, rfl⟩ := hh
      rw [push_hit rfl]
      cases hx : f x with
      | true =>
        have hx' : f (-x) = true := (hf x).trans hx
        simp only [List.reverse_cons, List.append_assoc, List.filter_append, List.filter_cons, hx, hx', if_true, List.cons_append, List.nil_append]
        rw [red_cut]
      | false =>
        have hx' : f (-x) = false := (hf x).trans hx
        simp [List.filter_append, hx, hx']
    · rw [push_miss (fun r e => hh ⟨r, e⟩)]
      simp
theorem red_filter (f : Int → Bool) (hf : ∀ x, f (-x) = f x) (l : List Int) : red ((red l).filter f) = red (l.filter f) := red_filter_stack f hf l []
theorem nail_neg (x : Int) : nail (-x) = nail x := by
  unfold nail
  split <;> split <;> omega
theorem inB_neg (s : Nat) (x : Int) : inB s (-x) = inB s x := by rw [inB, inB, nail_neg]
theorem red_without (l : List Int) (s : Nat) : red (without (red l) s) = red (without l s) := red_filter _ (fun x => by rw [inB_neg]) l
theorem without_or (l : List Int) (s q : Nat) : without l (s ||| q) = without (without l s) q := by
  rw [without, without, without, List.filter_filter]
  congr 1
  funext x
  rw [inB, inB, inB, Nat.testBit_or]
  cases s.testBit ((nail x).toNat - 1) <;> cases q.testBit ((nail x).toNat - 1) <;> rfl
theorem falls_more {l : List Int} {s : Nat} (q : Nat) (h : fallsB l s = true) : fallsB l (s ||| q) = true := by
  have h1 : red (without l s) = [] := List.eq_nil_of_length_eq_zero (by simpa [fallsB, takeOut] using h)
  have h2 : takeOut l (s ||| q) = [] := by
    rw [takeOut, without_or, ← red_without, h1]
    rfl
  simp [fallsB, h2]
theorem matter_falls (l : List Int) : uniTo (fallsB l) 64 = matter (fallsB l) := matter_uni fun s i _ _ h => falls_more _ h

end Go.Proofs.Ytpaijobmoddgpab.Plain
