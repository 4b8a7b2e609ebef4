/- Plain mathematics: reducing changes no series; orders of conjugates, commutators and quotients. Conditions: letters other than 0. -/
import Derived.Test.YtnmjanhpjnlfcaaMagnus
namespace Go.Proofs.Ytnmjanhpjnlfcaa.Plain
set_option linter.unusedVariables false

theorem serS_cancel {st : List Int} {x : Int} (h : x ≠ 0) : serS (st ++ [x] ++ [-x]) = serS st := by rw [serS_snoc, serS_snoc, letS_back h]
theorem serS_push {st : List Int} {x : Int} (h : x ≠ 0) : serS (push st x).reverse = serS (st.reverse ++ [x]) := by
  cases st with
  | nil => rfl
  | cons y t =>
    simp only [push]
    split
    · rename_i e
      subst e
      have := serS_cancel (st := t.reverse) (x := -x) (by omega)
      rw [Int.neg_neg] at this
      rw [List.reverse_cons, this]
    · rw [List.reverse_cons]
theorem serS_foldl (l : List Int) (a : List Int) : serS (a ++ l) = l.foldl (fun c x => letS x c) (serS a) := by
  unfold serS; rw [List.foldl_append]
theorem serS_stack : ∀ (l st : List Int), (∀ x ∈ l, x ≠ 0) → serS (stack st l).reverse = serS (st.reverse ++ l) := fun l => by
  induction l with
  | nil => intro st _; rw [List.append_nil]; rfl
  | cons x l ih =>
    intro st h
    have h1 := ih (push st x) fun y hy => h y (List.mem_cons_of_mem _ hy)
    show serS (stack (push st x) l).reverse = _
    rw [h1, serS_foldl, serS_push (h x List.mem_cons_self), ← serS_foldl, List.append_assoc]
    rfl
/-- Reducing changes no coefficient. -/
theorem serS_red {l : List Int} (h : ∀ x ∈ l, x ≠ 0) : serS (red l) = serS l := serS_stack l [] h
theorem Letters.nz {l : List Int} (h : Letters l) : ∀ x ∈ l, x ≠ 0 := fun x hx => (h x hx).1
theorem serS_inv {l : List Int} (h : Letters l) : serS (l ++ inv l) = oneS := by
  rw [← serS_red (h.append h.inv).nz, red_inv]; rfl

/-! products of which few terms are left -/
theorem conv_last {c e : Ser} {R : List Nat} (h : ∀ A B, R = A ++ B → B ≠ [] → e A * c B = 0) : conv c e R = e R * c [] := by
  induction R generalizing e with
  | nil => rfl
  | cons m R ih =>
    have h0 := h [] (m :: R) rfl (by simp)
    show e [] * c (m :: R) + conv c (fun A => e (m :: A)) R = _
    rw [h0, ih (fun A B hR hB => h (m :: A) B (by rw [hR]; rfl) hB)]
    omega
theorem conv_first {c e : Ser} {R : List Nat} (h : ∀ A B, R = A ++ B → A ≠ [] → e A * c B = 0) : conv c e R = e [] * c R := by
  cases R with
  | nil => rfl
  | cons m R =>
    have h0 : conv c (fun A => e (m :: A)) R = 0 := by
      have := conv_last (c := c) (e := fun A => e (m :: A)) (R := R) fun A B hR hB => h (m :: A) B (by rw [hR]; rfl) (by simp)
      rw [this]
      exact h (m :: R) [] (by simp) (by simp)
    show e [] * c (m :: R) + conv c (fun A => e (m :: A)) R = _
    rw [h0]; omega
/-- Two factors without terms of few nails. -/
def Low (k : Nat) (s : Ser) : Prop := ∀ R, R ≠ [] → R.length < k → s R = 0
theorem Low.mono {k j : Nat} {s : Ser} (h : Low k s) (hj : j ≤ k) : Low j s := fun R h1 h2 => h R h1 (by omega)
theorem conv_both {c e : Ser} {a b : Nat} (hc : Low a c) (he : Low b e) {R : List Nat} (hR : R ≠ []) (hl : R.length < a + b) : conv c e R = e [] * c R + e R * c [] := by
  cases R with
  | nil => exact absurd rfl hR
  | cons m R =>
    show e [] * c (m :: R) + conv c (fun A => e (m :: A)) R = _
    rw [conv_last (c := c) (e := fun A => e (m :: A)) (R := R) fun A B hs hB => ?_]
    by_cases hA : (m :: A).length < b
    · rw [he (m :: A) (by simp) hA]; omega
    · rw [hc B hB (by have := congrArg List.length hs; simp at this hA hl; omega)]; omega
/-- Alike on the lists of at most k nails. -/
def Alike (k : Nat) (s t : Ser) : Prop := ∀ R, R.length ≤ k → s R = t R
theorem Alike.refl (k : Nat) (s : Ser) : Alike k s s := fun _ _ => rfl
theorem Alike.trans {k : Nat} {r s t : Ser} (h : Alike k r s) (g : Alike k s t) : Alike k r t := fun R hR => (h R hR).trans (g R hR)
theorem Alike.symm {k : Nat} {s t : Ser} (h : Alike k s t) : Alike k t s := fun R hR => (h R hR).symm
theorem conv_alike {k : Nat} {c c' : Ser} (d : Ser) (h : Alike k c c') : Alike k (conv c d) (conv c' d) := fun R => by
  induction R generalizing d with
  | nil => intro _; show d [] * c [] = d [] * c' []; rw [h [] (by simp)]
  | cons m R ih =>
    intro hl
    show d [] * c (m :: R) + conv c (fun A => d (m :: A)) R = d [] * c' (m :: R) + conv c' (fun A => d (m :: A)) R
    rw [h (m :: R) hl, ih _ (by simp at hl; omega)]
theorem conv_one_left (v : List Int) : conv oneS (serS v) = serS v := by
  have := serS_append [] v
  rw [List.nil_append] at this
  exact this.symm
/-- A quotient is 1 up to a length if and only if the words are alike. -/
theorem quot_alike {u v : List Int} (hv : Letters v) (k : Nat) : Alike k (serS (u ++ inv v)) oneS ↔ Alike k (serS u) (serS v) := by
  have e : conv (serS (u ++ inv v)) (serS v) = serS u := by
    rw [← serS_append, List.append_assoc, serS_append]
    have : serS (inv v ++ v) = oneS := by have := serS_inv hv.inv; rwa [inv_inv] at this
    rw [this]
    funext R; exact conv_one _ _
  constructor
  · intro h
    have := conv_alike (serS v) h
    rwa [e, conv_one_left] at this
  · intro h
    have := conv_alike (serS (inv v)) h
    rw [← serS_append, ← serS_append, serS_inv hv] at this
    exact this
theorem low_alike {k : Nat} {l : List Int} : Low (k + 1) (serS l) ↔ Alike k (serS l) oneS := by
  constructor
  · intro h R hR
    cases R with
    | nil => exact serS_start l
    | cons m R => exact h _ (by simp) (by simp at hR ⊢; omega)
  · intro h R h1 h2
    rw [h R (by omega)]
    cases R with
    | nil => exact absurd rfl h1
    | cons m R => rfl
/-- A commutator of a word of order a and one of order b has order a + b at least. -/
theorem comm_low {u v : List Int} (hu : Letters u) (hv : Letters v) {a b : Nat} (ha : Low a (serS u)) (hb : Low b (serS v)) : Low (a + b) (serS (u ++ (v ++ (inv u ++ inv v)))) := by
  intro R h1 h2
  have hk : ∃ k, a + b = k + 1 := ⟨a + b - 1, by omega⟩
  obtain ⟨k, hk⟩ := hk
  rw [hk] at h2
  have huv : Alike k (serS (u ++ v)) (serS (v ++ u)) := fun S hS => by
    rw [serS_append, serS_append]
    by_cases h0 : S = []
    · subst h0
      show serS v [] * serS u [] = serS u [] * serS v []
      rw [Int.mul_comm]
    · rw [conv_both ha hb h0 (by omega), conv_both hb ha h0 (by omega), serS_start, serS_start]
      omega
  have h := conv_alike (serS (inv u ++ inv v)) huv
  rw [← serS_append, ← serS_append] at h
  have e : serS (v ++ u ++ (inv u ++ inv v)) = oneS := by
    rw [← inv_append, serS_inv (hv.append hu)]
  rw [e, List.append_assoc] at h
  exact low_alike.2 h R h1 h2

/-- A conjugate: alike at the first list. -/
theorem conj_first {g w : List Int} (hg : Letters g) {a : Nat} (hw : Low a (serS w)) {R : List Nat} (h0 : R ≠ []) (hR : R.length ≤ a) : serS (g ++ (w ++ inv g)) R = serS w R := by
  -- the part of w that is not 1
  obtain ⟨s, hs⟩ : ∃ s : Ser, s = fun A => serS w A - oneS A := ⟨_, rfl⟩
  have hs0 : s [] = 0 := by rw [hs]; show serS w [] - 1 = 0; rw [serS_start]; rfl
  have hsl : ∀ A, A.length < a → s A = 0 := fun A hA => by
    by_cases h : A = []
    · rw [h, hs0]
    · rw [hs]
      show serS w A - oneS A = 0
      rw [hw A h hA]
      cases A with
      | nil => exact absurd rfl h
      | cons m A => rfl
  have hsR : s R = serS w R := by
    rw [hs]
    show serS w R - oneS R = _
    cases R with
    | nil => exact absurd rfl h0
    | cons m A => show serS w _ - 0 = _; omega
  have hgw : ∀ B, serS (g ++ w) B = serS g B + conv (serS g) s B := fun B => by
    rw [serS_append]
    have e : serS w = fun A => oneS A + s A := by funext A; rw [hs]; show _ = oneS A + (serS w A - oneS A); omega
    rw [e, conv_add, conv_one]
  have ht : ∀ B, B.length < a → conv (serS g) s B = 0 := fun B hB => by
    rw [conv_last (c := serS g) (e := s) (R := B) fun A C hAC hC => by rw [hsl A (by have := congrArg List.length hAC; simp at this; omega)]; omega, hsl B hB]
    omega
  have htR : conv (serS g) s R = serS w R := by
    rw [conv_last (c := serS g) (e := s) (R := R) fun A C hAC hC => by
      rw [hsl A (by have := congrArg List.length hAC; have : 0 < C.length := List.length_pos_iff.2 hC; simp at *; omega)]; omega, serS_start, hsR]
    omega
  have hadd : ∀ (c c' d : Ser) (R : List Nat), conv (fun B => c B + c' B) d R = conv c d R + conv c' d R := fun c c' d R => by
    induction R generalizing d with
    | nil => show d [] * (c [] + c' []) = d [] * c [] + d [] * c' []; rw [Int.mul_add]
    | cons m R ih =>
      show d [] * (c (m :: R) + c' (m :: R)) + conv (fun B => c B + c' B) (fun A => d (m :: A)) R = d [] * c (m :: R) + conv c (fun A => d (m :: A)) R + (d [] * c' (m :: R) + conv c' (fun A => d (m :: A)) R)
      rw [ih, Int.mul_add]; omega
  rw [← List.append_assoc, serS_append, show serS (g ++ w) = fun B => serS g B + conv (serS g) s B from funext hgw, hadd, ← serS_append, serS_inv hg]
  rw [conv_first (c := conv (serS g) s) (e := serS (inv g)) (R := R) fun A C hAC hA => by
    rw [ht C (by have := congrArg List.length hAC; have : 0 < A.length := List.length_pos_iff.2 hA; simp at *; omega)]; omega, serS_start, htR]
  cases R with
  | nil => exact absurd rfl h0
  | cons m A => show (0 : Int) + 1 * _ = _; omega

end Go.Proofs.Ytnmjanhpjnlfcaa.Plain
