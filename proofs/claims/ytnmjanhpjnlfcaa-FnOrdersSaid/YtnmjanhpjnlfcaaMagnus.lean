/- Plain mathematics: the coefficients of a word as a series over lists of nails (the last nail first); a product's series is the product of the series; reducing changes none. No condition. -/
import Derived.Test.YtnmjanhpjnlfcaaWindMath
namespace Go.Proofs.Ytnmjanhpjnlfcaa.Plain
set_option linter.unusedVariables false

/-- A series: a number for each list of nails, written with the last nail first. -/
abbrev Ser := List Nat → Int
def upS (n : Nat) (c : Ser) : Ser
  | [] => c []
  | m :: R => if m = n then c (m :: R) + c R else c (m :: R)
def dnS (n : Nat) (c : Ser) : Ser
  | [] => c []
  | m :: R => if m = n then c (m :: R) - dnS n c R else c (m :: R)
def letS (x : Int) (c : Ser) : Ser := if 0 < x then upS x.toNat c else dnS (-x).toNat c
def oneS : Ser
  | [] => 1
  | _ :: _ => 0
/-- The series of a word. -/
def serS (l : List Int) : Ser := l.foldl (fun c x => letS x c) oneS
theorem serS_nil : serS [] = oneS := rfl
theorem serS_snoc (l : List Int) (x : Int) : serS (l ++ [x]) = letS x (serS l) := by simp [serS]
theorem dnS_upS (n : Nat) (c : Ser) : dnS n (upS n c) = c := by
  funext R
  induction R with
  | nil => rfl
  | cons m R ih =>
    by_cases h : m = n
    · simp only [dnS, upS, if_pos h, ih]; omega
    · simp only [dnS, upS, if_neg h]
theorem upS_dnS (n : Nat) (c : Ser) : upS n (dnS n c) = c := by
  funext R
  cases R with
  | nil => rfl
  | cons m R =>
    by_cases h : m = n
    · simp only [dnS, upS, if_pos h]; omega
    · simp only [dnS, upS, if_neg h]
/-- A letter and its inverse behind it. -/
theorem letS_back {x : Int} (h : x ≠ 0) (c : Ser) : letS (-x) (letS x c) = c := by
  unfold letS
  by_cases hx : 0 < x
  · rw [if_pos hx, if_neg (by omega), Int.neg_neg, dnS_upS]
  · rw [if_neg hx, if_pos (by omega), upS_dnS]
theorem letS_nil (x : Int) (c : Ser) : letS x c [] = c [] := by unfold letS; split <;> rfl
theorem serS_start (l : List Int) : serS l [] = 1 := by
  have : ∀ (l : List Int) (c : Ser), l.foldl (fun c x => letS x c) c [] = c [] := fun l => by
    induction l with
    | nil => intro c; rfl
    | cons x l ih => intro c; rw [List.foldl_cons, ih, letS_nil]
  exact this l oneS

/-! the product of two series -/
def conv (c : Ser) : Ser → List Nat → Int
  | d, [] => d [] * c []
  | d, m :: R => d [] * c (m :: R) + conv c (fun A => d (m :: A)) R
theorem conv_zero (c : Ser) (R : List Nat) : conv c (fun _ => 0) R = 0 := by
  induction R with
  | nil => simp [conv]
  | cons m R ih => simp [conv, ih]
theorem conv_one (c : Ser) (R : List Nat) : conv c oneS R = c R := by
  cases R with
  | nil => simp [conv, oneS]
  | cons m R => show oneS [] * c (m :: R) + conv c (fun _ => 0) R = _; rw [conv_zero]; simp [oneS]
theorem conv_add (c f g : Ser) (R : List Nat) : conv c (fun A => f A + g A) R = conv c f R + conv c g R := by
  induction R generalizing f g with
  | nil => simp [conv, Int.add_mul]
  | cons m R ih => simp only [conv]; rw [ih, Int.add_mul]; omega
theorem conv_sub (c f g : Ser) (R : List Nat) : conv c (fun A => f A - g A) R = conv c f R - conv c g R := by
  induction R generalizing f g with
  | nil => simp [conv, Int.sub_mul]
  | cons m R ih => simp only [conv]; rw [ih, Int.sub_mul]; omega
theorem conv_upS (n : Nat) (c d : Ser) : conv c (upS n d) = upS n (conv c d) := by
  funext R
  cases R with
  | nil => rfl
  | cons m R =>
    by_cases h : m = n
    · subst h
      have e : (fun A => upS m d (m :: A)) = fun A => d (m :: A) + d A := by funext A; simp [upS]
      show upS m d [] * c (m :: R) + conv c (fun A => upS m d (m :: A)) R = _
      rw [e, conv_add]
      simp only [upS, if_true, conv]
      omega
    · have e : (fun A => upS n d (m :: A)) = fun A => d (m :: A) := by funext A; simp [upS, h]
      show upS n d [] * c (m :: R) + conv c (fun A => upS n d (m :: A)) R = _
      rw [e]
      simp only [upS, if_neg h, conv]
theorem conv_dnS (n : Nat) (c d : Ser) : conv c (dnS n d) = dnS n (conv c d) := by
  funext R
  induction R with
  | nil => rfl
  | cons m R ih =>
    by_cases h : m = n
    · subst h
      have e : (fun A => dnS m d (m :: A)) = fun A => d (m :: A) - dnS m d A := by funext A; simp [dnS]
      show dnS m d [] * c (m :: R) + conv c (fun A => dnS m d (m :: A)) R = _
      rw [e, conv_sub, ih]
      simp only [dnS, if_true, conv]
      omega
    · have e : (fun A => dnS n d (m :: A)) = fun A => d (m :: A) := by funext A; simp [dnS, h]
      show dnS n d [] * c (m :: R) + conv c (fun A => dnS n d (m :: A)) R = _
      rw [e]
      simp only [dnS, if_neg h, conv]
theorem conv_letS (x : Int) (c d : Ser) : conv c (letS x d) = letS x (conv c d) := by
  unfold letS
  split
  · exact conv_upS _ _ _
  · exact conv_dnS _ _ _
/-- The series of a word and another one behind it. -/
theorem serS_append (u v : List Int) : serS (u ++ v) = conv (serS u) (serS v) := by
  have : ∀ (v : List Int) (c d : Ser), v.foldl (fun c x => letS x c) (conv c d) = conv c (v.foldl (fun c x => letS x c) d) := fun v => by
    induction v with
    | nil => intro c d; rfl
    | cons x v ih => intro c d; rw [List.foldl_cons, List.foldl_cons, ← conv_letS, ih]
  have h0 : conv (serS u) oneS = serS u := by funext R; exact conv_one _ _
  show (u ++ v).foldl _ oneS = _
  rw [List.foldl_append]
  show v.foldl (fun c x => letS x c) (serS u) = _
  rw [← h0, this, h0]
  rfl

/-! the places of the lists -/
def plc : List Nat → Nat
  | [] => 0
  | m :: R => 6 * plc R + m
def Nails (R : List Nat) : Prop := ∀ m ∈ R, 1 ≤ m ∧ m ≤ 6
theorem Nails.tail {m : Nat} {R : List Nat} (h : Nails (m :: R)) : Nails R := fun x hx => h x (List.mem_cons_of_mem _ hx)
theorem plc_hit {m : Nat} {R : List Nat} (h : Nails (m :: R)) {n : Nat} : (hit n (plc (m :: R)) ↔ m = n) ∧ parQ (plc (m :: R)) = plc R := by
  have := h m List.mem_cons_self
  show (hit n (6 * plc R + m) ↔ m = n) ∧ parQ (6 * plc R + m) = plc R
  unfold hit parQ
  omega
theorem plc_lt {R : List Nat} (h : Nails R) (hl : R.length ≤ 3) : plc R < 259 := by
  match R, h, hl with
  | [], _, _ => decide
  | [a], h, _ => have := h a (by simp); simp only [plc]; omega
  | [a, b], h, _ => have := h a (by simp); have := h b (by simp); simp only [plc]; omega
  | [a, b, d], h, _ => have := h a (by simp); have := h b (by simp); have := h d (by simp); simp only [plc]; omega
  | a :: b :: d :: e :: R, _, hl => simp at hl
/-- A series' numbers lie at the places. -/
def At (c : Nat → Int) (s : Ser) : Prop := ∀ R, Nails R → R.length ≤ 3 → c (plc R) = s R
theorem at_one : At emptyC oneS := fun R h _ => by
  cases R with
  | nil => rfl
  | cons m R => have := h m List.mem_cons_self; exact if_neg (by simp only [plc]; omega)
theorem At.up {c : Nat → Int} {s : Ser} (n : Nat) (h : At c s) : At (upC n c) (upS n s) := fun R hN hl => by
  cases R with
  | nil => exact (upC_zero n c).trans (h [] hN hl)
  | cons m R =>
    obtain ⟨e1, e2⟩ := plc_hit hN (n := n)
    have h1 := h _ hN hl
    have h2 := h R hN.tail (by simp at hl; omega)
    unfold upC
    by_cases hm : m = n
    · rw [if_pos (e1.2 hm), e2, h1, h2]; simp [upS, hm]
    · rw [if_neg (fun x => hm (e1.1 x)), h1]; simp [upS, hm]
theorem At.dn {c : Nat → Int} {s : Ser} (n : Nat) (h : At c s) : At (dnC n c) (dnS n s) := fun R => by
  induction R with
  | nil => exact fun hN hl => (dnC_zero n c).trans (h [] hN hl)
  | cons m R ih =>
    intro hN hl
    obtain ⟨e1, e2⟩ := plc_hit hN (n := n)
    have h1 := h _ hN hl
    have h2 := ih hN.tail (by simp at hl; omega)
    have hp := plc_lt hN hl
    by_cases hm : m = n
    · rw [dnC_hit c hp (e1.2 hm), e2, h1, h2]; simp [dnS, hm]
    · rw [dnC_miss c hp (fun x => hm (e1.1 x)), h1]; simp [dnS, hm]
/-- The coefficients that the program reckons are the series. -/
theorem at_cof (l : List Int) : At (cof l) (serS l) := by
  have : ∀ (l : List Int) (c : Nat → Int) (s : Ser), At c s → At (l.foldl (fun c x => letC x c) c) (l.foldl (fun c x => letS x c) s) := fun l => by
    induction l with
    | nil => exact fun c s h => h
    | cons x l ih =>
      intro c s h
      rw [List.foldl_cons, List.foldl_cons]
      refine ih _ _ ?_
      unfold letC letS
      split
      · exact h.up _
      · exact h.dn _
  exact this l _ _ at_one

end Go.Proofs.Ytnmjanhpjnlfcaa.Plain
