/- Plain mathematics: what decides for a set, edges told by it, nails that matter as all that decides; a word that falls for a set falls for each greater one. Condition: a table that grows, where it says so. -/
import Derived.Test.YtepmldbleconfaaFall
import Derived.ProofKit
namespace Go.Proofs.Ytepmldbleconfaa.Plain
set_option linter.unusedVariables false

/-- A set without a nail's bit. -/
def clr (s q : Nat) : Nat := s ^^^ (s &&& q)
theorem bit_facts : ((List.range 64).all fun s => (List.range 6).all fun i => bif s.testBit i then (clr s (2 ^ i) == s ^^^ 2 ^ i) && (s ||| 2 ^ i == s) && decide (s ^^^ 2 ^ i < s) && decide (clr s (2 ^ i) < 64) && !(clr s (2 ^ i)).testBit i && (clr s (2 ^ i) ||| 2 ^ i == s) else (clr s (2 ^ i) == s) && (s ||| 2 ^ i == s ^^^ 2 ^ i) && !decide (s ^^^ 2 ^ i < s) && decide (s ||| 2 ^ i < 64)) = true := by kernel_rfl
theorem bit_yes {s i : Nat} (hs : s < 64) (hi : i < 6) (h : s.testBit i = true) : clr s (2 ^ i) = s ^^^ 2 ^ i ∧ s ||| 2 ^ i = s ∧ s ^^^ 2 ^ i < s ∧ clr s (2 ^ i) < 64 ∧ (clr s (2 ^ i)).testBit i = false ∧ clr s (2 ^ i) ||| 2 ^ i = s := by
  have h1 := List.all_eq_true.1 (List.all_eq_true.1 bit_facts s (List.mem_range.2 hs)) i (List.mem_range.2 hi)
  simp only [h, cond_true, Bool.and_eq_true, beq_iff_eq, decide_eq_true_eq, Bool.not_eq_true'] at h1
  obtain ⟨⟨⟨⟨⟨a, b⟩, c⟩, d⟩, e⟩, f⟩ := h1
  exact ⟨a, b, c, d, e, f⟩
theorem bit_no {s i : Nat} (hs : s < 64) (hi : i < 6) (h : s.testBit i = false) : clr s (2 ^ i) = s ∧ s ||| 2 ^ i = s ^^^ 2 ^ i ∧ ¬ s ^^^ 2 ^ i < s ∧ s ||| 2 ^ i < 64 := by
  have h1 := List.all_eq_true.1 (List.all_eq_true.1 bit_facts s (List.mem_range.2 hs)) i (List.mem_range.2 hi)
  simp only [h, cond_false, Bool.and_eq_true, beq_iff_eq, decide_eq_true_eq, Bool.not_eq_true', decide_eq_false_iff_not] at h1
  obtain ⟨⟨⟨a, b⟩, c⟩, d⟩ := h1
  exact ⟨a, b, c, d⟩
theorem ext6 {a b : Nat} (ha : a < 64) (hb : b < 64) (h : ∀ i, i < 6 → a.testBit i = b.testBit i) : a = b := by
  apply Nat.eq_of_testBit_eq
  intro i
  by_cases hi : i < 6
  · exact h i hi
  · have h2 : 64 ≤ 2 ^ i := Nat.le_trans (by decide : 64 ≤ 2 ^ 6) (Nat.pow_le_pow_right (by decide) (by omega))
    rw [Nat.testBit_lt_two_pow (by omega), Nat.testBit_lt_two_pow (by omega)]

/-- A nail decides for a set: the word hangs without it and falls with it. -/
def decB (t : Nat → Bool) (s i : Nat) : Bool := !t (clr s (2 ^ i)) && t (s ||| 2 ^ i)
def decTo (t : Nat → Bool) (s : Nat) : Nat → Nat
  | 0 => 0
  | n + 1 => if decB t s n = true then decTo t s n ||| 2 ^ n else decTo t s n
def decN (t : Nat → Bool) (s : Nat) : Nat := decTo t s 6
theorem decTo_lt (t : Nat → Bool) (s : Nat) : ∀ n, n ≤ 6 → decTo t s n < 64 := by
  intro n
  induction n with
  | zero => intro _; exact Nat.zero_lt_succ _
  | succ n ih =>
    intro hn
    have h1 := ih (by omega)
    rw [decTo]
    split
    · exact Nat.or_lt_two_pow (n := 6) h1 (Nat.pow_lt_pow_right (by decide) (by omega))
    · exact h1
theorem decTo_bit (t : Nat → Bool) (s i : Nat) : ∀ n, (decTo t s n).testBit i = (decide (i < n) && decB t s i) := by
  intro n
  induction n with
  | zero => simp [decTo]
  | succ n ih =>
    rw [decTo]
    by_cases e : i = n
    · subst e
      cases hb : decB t s i <;> simp [ih, hb]
    · have h1 : decide (i < n + 1) = decide (i < n) := decide_eq_decide.2 (by omega)
      rw [h1]
      split
      · rw [Nat.testBit_or, ih, Nat.testBit_two_pow]
        simp [show ¬ n = i by omega]
      · exact ih
theorem decN_lt (t : Nat → Bool) (s : Nat) : decN t s < 64 := decTo_lt t s 6 (by decide)
theorem decN_bit (t : Nat → Bool) {s i : Nat} (h : i < 6) : (decN t s).testBit i = decB t s i := by rw [decN, decTo_bit]; simp [h]
theorem edgeTo_iff {t : Nat → Bool} {v : Bool} {s : Nat} : ∀ n, edgeTo t v s n = true ↔ ∀ i, i < n → hitB t v s i = false := by
  intro n
  induction n with
  | zero => simp [edgeTo]
  | succ n ih =>
    rw [edgeTo, Bool.and_eq_true, ih, Bool.not_eq_true']
    constructor
    · rintro ⟨h1, h2⟩ i hi
      by_cases e : i = n
      · subst e; exact h2
      · exact h1 i (by omega)
    · intro h
      exact ⟨fun i hi => h i (by omega), h n (by omega)⟩
theorem least_edge (t : Nat → Bool) {s : Nat} (hs : s < 64) : (t s && (decN t s == s)) = edgeB t true s := by
  rw [edgeB]
  cases ht : t s with
  | false => cases edgeTo t true s 6 <;> rfl
  | true =>
    rw [Bool.eq_iff_iff]
    simp only [Bool.true_and, beq_iff_eq, Bool.and_eq_true, and_true, BEq.rfl]
    rw [edgeTo_iff]
    have key : ∀ i, i < 6 → (decB t s i = s.testBit i ↔ hitB t true s i = false) := by
      intro i hi
      cases hb : s.testBit i with
      | true =>
        obtain ⟨a, b, c, -, -, -⟩ := bit_yes hs hi hb
        have c' : decide (s ^^^ 2 ^ i < s) = true := by simpa using c
        simp [decB, hitB, a, b, ht, c']
      | false =>
        obtain ⟨a, b, c, -⟩ := bit_no hs hi hb
        have c' : decide (s ^^^ 2 ^ i < s) = false := by simpa using c
        simp [decB, hitB, a, ht, c']
    constructor
    · intro h i hi
      exact (key i hi).1 (by rw [← decN_bit t hi, h])
    · intro h
      refine ext6 (decN_lt t s) hs fun i hi => ?_
      rw [decN_bit t hi]
      exact (key i hi).2 (h i hi)
theorem clr63 {s : Nat} (hs : s < 64) : clr 63 s < 64 ∧ ∀ i, i < 6 → (clr 63 s).testBit i = !s.testBit i := by
  have h0 : ((List.range 64).all fun s => decide (clr 63 s < 64) && (List.range 6).all fun i => (clr 63 s).testBit i == !s.testBit i) = true := by kernel_rfl
  have h1 := List.all_eq_true.1 h0 s (List.mem_range.2 hs)
  rw [Bool.and_eq_true] at h1
  refine ⟨by simpa using h1.1, fun i hi => ?_⟩
  have h2 := List.all_eq_true.1 h1.2 i (List.mem_range.2 hi)
  simpa using h2
theorem greatest_edge (t : Nat → Bool) {s : Nat} (hs : s < 64) : (!t s && (decN t s == clr 63 s)) = edgeB t false s := by
  rw [edgeB]
  cases ht : t s with
  | true => cases edgeTo t false s 6 <;> rfl
  | false =>
    rw [Bool.eq_iff_iff]
    simp only [Bool.not_false, Bool.true_and, beq_iff_eq, Bool.and_eq_true, and_true, BEq.rfl]
    rw [edgeTo_iff]
    have key : ∀ i, i < 6 → (decB t s i = !s.testBit i ↔ hitB t false s i = false) := by
      intro i hi
      cases hb : s.testBit i with
      | true =>
        obtain ⟨a, b, c, -, -, -⟩ := bit_yes hs hi hb
        have c' : decide (s ^^^ 2 ^ i < s) = true := by simpa using c
        simp [decB, hitB, b, ht, c']
      | false =>
        obtain ⟨a, b, c, -⟩ := bit_no hs hi hb
        have c' : decide (s ^^^ 2 ^ i < s) = false := by simpa using c
        simp [decB, hitB, a, b, ht, c']
    obtain ⟨hc, hcb⟩ := clr63 hs
    constructor
    · intro h i hi
      exact (key i hi).1 (by rw [← decN_bit t hi, h, hcb i hi])
    · intro h
      refine ext6 (decN_lt t s) hc fun i hi => ?_
      rw [decN_bit t hi, hcb i hi]
      exact (key i hi).2 (h i hi)

/-- All that decides for a set, of the first sets. -/
def uniTo (t : Nat → Bool) : Nat → Nat
  | 0 => 0
  | k + 1 => uniTo t k ||| decN t k
theorem uniTo_lt (t : Nat → Bool) (k : Nat) : uniTo t k < 64 := by
  induction k with
  | zero => exact Nat.zero_lt_succ _
  | succ k ih => exact Nat.or_lt_two_pow (n := 6) ih (decN_lt t k)
theorem uniTo_bit {t : Nat → Bool} {i : Nat} (hi : i < 6) (k : Nat) : (uniTo t k).testBit i = true ↔ ∃ s, s < k ∧ decB t s i = true := by
  induction k with
  | zero => simp [uniTo]
  | succ k ih =>
    rw [uniTo, Nat.testBit_or, Bool.or_eq_true, ih, decN_bit t hi]
    constructor
    · rintro (⟨s, h1, h2⟩ | h)
      · exact ⟨s, by omega, h2⟩
      · exact ⟨k, by omega, h⟩
    · rintro ⟨s, h1, h2⟩
      by_cases e : s = k
      · subst e; exact .inr h2
      · exact .inl ⟨s, by omega, h2⟩
theorem tellsTo_iff {t : Nat → Bool} {i : Nat} (k : Nat) : tellsTo t i k = true ↔ ∃ s, s < k ∧ tells t i s = true := by
  induction k with
  | zero => simp [tellsTo]
  | succ k ih =>
    rw [tellsTo, Bool.or_eq_true, ih]
    constructor
    · rintro (⟨s, h1, h2⟩ | h)
      · exact ⟨s, by omega, h2⟩
      · exact ⟨k, by omega, h⟩
    · rintro ⟨s, h1, h2⟩
      by_cases e : s = k
      · subst e; exact .inr h2
      · exact .inl ⟨s, by omega, h2⟩
theorem matterTo_bit (t : Nat → Bool) (i : Nat) : ∀ n, (matterTo t n).testBit i = (decide (i < n) && tellsTo t i 64) := by
  intro n
  induction n with
  | zero => simp [matterTo]
  | succ n ih =>
    rw [matterTo]
    by_cases e : i = n
    · subst e
      cases hb : tellsTo t i 64 <;> simp [ih, hb]
    · have h1 : decide (i < n + 1) = decide (i < n) := decide_eq_decide.2 (by omega)
      rw [h1]
      split
      · rw [Nat.testBit_or, ih, Nat.testBit_two_pow]
        simp [show ¬ n = i by omega]
      · exact ih
theorem matter_uni {t : Nat → Bool} (hm : ∀ s i, s < 64 → i < 6 → t s = true → t (s ||| 2 ^ i) = true) : uniTo t 64 = matter t := by
  refine ext6 (uniTo_lt t 64) (matterTo_lt t 6 (by decide)) fun i hi => ?_
  rw [Bool.eq_iff_iff, uniTo_bit hi, matter, matterTo_bit, Bool.and_eq_true, tellsTo_iff]
  simp only [hi, decide_true, true_and]
  constructor
  · rintro ⟨s, hs, hd⟩
    cases hb : s.testBit i with
    | true =>
      obtain ⟨a, b, c, d, e, f⟩ := bit_yes hs hi hb
      refine ⟨clr s (2 ^ i), d, ?_⟩
      rw [decB, b] at hd
      rw [tells, e, f]
      revert hd
      cases t (clr s (2 ^ i)) <;> cases t s <;> simp
    | false =>
      obtain ⟨a, b, c, d⟩ := bit_no hs hi hb
      refine ⟨s, hs, ?_⟩
      rw [decB, a] at hd
      rw [tells, hb]
      revert hd
      cases t s <;> cases t (s ||| 2 ^ i) <;> simp
  · rintro ⟨s, hs, hd⟩
    refine ⟨s, hs, ?_⟩
    rw [tells, Bool.and_eq_true, Bool.not_eq_true'] at hd
    obtain ⟨hb, hd⟩ := hd
    obtain ⟨a, b, c, d⟩ := bit_no hs hi hb
    rw [decB, a]
    have h2 := hm s i hs hi
    revert hd h2
    cases t s <;> cases t (s ||| 2 ^ i) <;> simp

/-! What falls for a set falls for each greater one. -/
theorem red_cut (a b : List Int) (x : Int) : red (a ++ (-x :: x :: b)) = red (a ++ b) := by
  have h1 : red (a ++ [-x, x]) = red a := by
    unfold red
    rw [stack_append]
    have h2 : stack (stack [] a) [-x, x] = push (push (stack [] a) (-x)) x := rfl
    have h3 := push_push (x := -x) (stack_reduced a [] trivial)
    rw [Int.neg_neg] at h3
    rw [h2, h3]
  have h4 : a ++ (-x :: x :: b) = (a ++ [-x, x]) ++ b := by simp
  rw [h4, ← red_red_append, h1, red_red_append]
theorem red_filter_stack (f : Int → Bool) (hf : ∀ x, f (-x) = f x) (l : List Int) : ∀ st, red (((stack st l).reverse).filter f) = red ((st.reverse ++ l).filter f) := by
  induction l with
  | nil => intro st; simp [stack]
  | cons x t ih =>
    intro st
    have h0 : stack st (x :: t) = stack (push st x) t := rfl
    rw [h0, ih]
    by_cases hh : ∃ r, st = -x :: r
    · obtain ⟨r, rfl⟩ := hh
      rw [push_hit rfl]
      cases hx : f x with
      | true =>
        have hx' : f (-x) = true := (hf x).trans hx
        simp only [List.reverse_cons, List.append_assoc, List.filter_append, List.filter_cons, hx, hx', if_true, List.cons_append, List.nil_append]
        rw [red_cut]
      | false =>
        have hx' : f (-x) = false := (hf x).trans hx
        simp [List.filter_append, hx, hx']
    · rw [push_miss (fun r e => hh ⟨r, e⟩)]
      simp
theorem red_filter (f : Int → Bool) (hf : ∀ x, f (-x) = f x) (l : List Int) : red ((red l).filter f) = red (l.filter f) := red_filter_stack f hf l []
theorem nail_neg (x : Int) : nail (-x) = nail x := by
  unfold nail
  split <;> split <;> omega
theorem inB_neg (s : Nat) (x : Int) : inB s (-x) = inB s x := by rw [inB, inB, nail_neg]
theorem red_without (l : List Int) (s : Nat) : red (without (red l) s) = red (without l s) := red_filter _ (fun x => by rw [inB_neg]) l
theorem without_or (l : List Int) (s q : Nat) : without l (s ||| q) = without (without l s) q := by
  rw [without, without, without, List.filter_filter]
  congr 1
  funext x
  rw [inB, inB, inB, Nat.testBit_or]
  cases s.testBit ((nail x).toNat - 1) <;> cases q.testBit ((nail x).toNat - 1) <;> rfl
theorem falls_more {l : List Int} {s : Nat} (q : Nat) (h : fallsB l s = true) : fallsB l (s ||| q) = true := by
  have h1 : red (without l s) = [] := List.eq_nil_of_length_eq_zero (by simpa [fallsB, takeOut] using h)
  have h2 : takeOut l (s ||| q) = [] := by
    rw [takeOut, without_or, ← red_without, h1]
    rfl
  simp [fallsB, h2]
theorem matter_falls (l : List Int) : uniTo (fallsB l) 64 = matter (fallsB l) := matter_uni fun s i _ _ h => falls_more _ h

end Go.Proofs.Ytepmldbleconfaa.Plain
