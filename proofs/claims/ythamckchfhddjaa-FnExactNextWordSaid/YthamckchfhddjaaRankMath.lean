/- Plain mathematics of ranks: how many words there are of a length, the rank of a word, the word with a rank, the next word. Conditions: where it says so. -/
import Derived.Test.YthamckchfhddjaaBehindMath
namespace Go.Proofs.Ythamckchfhddjaa.Plain
set_option linter.unusedVariables false

/-! how many words -/
/-- Words with k + 1 letters. -/
def manyN (n : Nat) : Nat → Nat
  | 0 => 2 * n
  | k + 1 => manyN n k * (2 * n - 1)
theorem manyN_step (n k : Nat) : manyN n (k + 1) = manyN n k * (2 * n - 1) := rfl
theorem manyN_up {n : Nat} (hn : 1 ≤ n) (k : Nat) : manyN n k ≤ manyN n (k + 1) := Nat.le_mul_of_pos_right _ (by omega)
theorem manyN_le {n : Nat} (hn : 1 ≤ n) {j k : Nat} (h : j ≤ k) : manyN n j ≤ manyN n k := by
  induction h with
  | refl => exact Nat.le_refl _
  | step _ ih => exact Nat.le_trans ih (manyN_up hn _)
theorem manyN_pow (n k : Nat) : manyN n k = 2 * n * (2 * n - 1) ^ k := by
  induction k with
  | zero => simp [manyN]
  | succ k ih => rw [manyN_step, ih, Nat.pow_succ, Nat.mul_assoc]
/-- Words with a length. -/
def cntN (n : Nat) : Nat → Nat
  | 0 => 1
  | k + 1 => manyN n k
theorem cntN_pos {n : Nat} (hn : 1 ≤ n) (k : Nat) : 1 ≤ cntN n k := by
  cases k with
  | zero => exact Nat.le_refl _
  | succ k => have := manyN_le hn (Nat.zero_le k); simp only [manyN] at this; show 1 ≤ manyN n k; omega
theorem cntN_le {n : Nat} (hn : 1 ≤ n) {j k : Nat} (h : j ≤ k) : cntN n j ≤ cntN n k := by
  cases j with
  | zero => exact cntN_pos hn k
  | succ j =>
    obtain ⟨k, rfl⟩ : ∃ m, k = m + 1 := ⟨k - 1, by omega⟩
    exact manyN_le hn (by omega)
/-- Words that are shorter. -/
def below (n : Nat) : Nat → Nat
  | 0 => 0
  | k + 1 => below n k + cntN n k
theorem below_step (n k : Nat) : below n (k + 1) = below n k + cntN n k := rfl
theorem below_le (n : Nat) {j k : Nat} (h : j ≤ k) : below n j ≤ below n k := by
  induction h with
  | refl => exact Nat.le_refl _
  | step _ ih => exact Nat.le_trans ih (Nat.le_add_right _ _)
theorem below_pos {n : Nat} {k : Nat} (h : 1 ≤ k) : 1 ≤ below n k := Nat.le_trans (by simp [below, cntN]) (below_le n h)
/-- The first rank of those behind a word with a rank. -/
def firstR (n r : Nat) : Nat := if r = 0 then 1 else 1 + 2 * n + (r - 1) * (2 * n - 1)
theorem firstR_zero (n : Nat) : firstR n 0 = 1 := rfl
theorem firstR_pos {r : Nat} (n : Nat) (h : 1 ≤ r) : firstR n r = 1 + 2 * n + (r - 1) * (2 * n - 1) := if_neg (by omega)
theorem firstR_ge (n r : Nat) : 1 ≤ firstR n r := by unfold firstR; split <;> omega
theorem firstR_more {n r : Nat} (hn : 1 ≤ n) : r ≤ firstR n r := by
  unfold firstR
  split
  · omega
  · have : r - 1 ≤ (r - 1) * (2 * n - 1) := Nat.le_mul_of_pos_right _ (by omega)
    omega
theorem firstR_add (n : Nat) {b : Nat} (h : Nat) (hb : 1 ≤ b) : firstR n (b + h) = firstR n b + h * (2 * n - 1) := by
  rw [firstR_pos n hb, firstR_pos n (by omega), show b + h - 1 = (b - 1) + h by omega, Nat.add_mul]
  omega
theorem firstR_next (n b : Nat) : firstR n (b + 1) = firstR n b + (if b = 0 then 2 * n else 2 * n - 1) := by
  by_cases hb : b = 0
  · subst hb; simp [firstR]
  · rw [firstR_add n 1 (by omega), if_neg hb]; simp
theorem firstR_up {n : Nat} (b : Nat) : firstR n b ≤ firstR n (b + 1) := by rw [firstR_next]; exact Nat.le_add_right _ _
theorem firstR_le {n : Nat} {a b : Nat} (h : a ≤ b) : firstR n a ≤ firstR n b := by
  induction h with
  | refl => exact Nat.le_refl _
  | step _ ih => exact Nat.le_trans ih (firstR_up _)
theorem below_first (n : Nat) (k : Nat) : below n (k + 1) = firstR n (below n k) := by
  induction k with
  | zero => simp [below, cntN, firstR]
  | succ k ih =>
    cases k with
    | zero => simp [below, cntN, firstR, manyN]
    | succ j =>
      have h1 : below n (j + 1 + 1 + 1) = below n (j + 1 + 1) + manyN n (j + 1) := rfl
      have h2 : below n (j + 1 + 1) = below n (j + 1) + manyN n j := rfl
      have hp : 1 ≤ below n (j + 1) := below_pos (by omega)
      rw [h1]
      conv => rhs; rw [h2]
      rw [firstR_add n _ hp, ← ih, manyN_step]

/-! the rank of a word -/
theorem code_letter (c : Nat) : codeOf (letterAt c) = (c : Int) := by
  unfold letterAt codeOf
  split <;> split <;> omega
theorem letter_code {x : Int} (h : x ≠ 0) : letterAt (codeOf x).toNat = x := by
  unfold letterAt codeOf
  split <;> split <;> omega
theorem letterAt_inj {a b : Nat} (h : letterAt a = letterAt b) : a = b := by
  have := congrArg codeOf h
  rw [code_letter, code_letter] at this
  omega
theorem behind_up (v : List Int) (k : Nat) : (behind v k).length ≤ (behind v (k + 1)).length := by rw [behind_step]; split <;> simp
theorem behind_len_le (v : List Int) {j k : Nat} (h : j ≤ k) : (behind v j).length ≤ (behind v k).length := by
  induction h with
  | refl => exact Nat.le_refl _
  | step _ ih => exact Nat.le_trans ih (behind_up v _)
theorem behind_prefix (v : List Int) {j k : Nat} (h : j ≤ k) : ∃ t, behind v k = behind v j ++ t := by
  induction h with
  | refl => exact ⟨[], by simp⟩
  | step h ih =>
    obtain ⟨t, ht⟩ := ih
    rw [behind_step, ht]
    split
    · exact ⟨_, List.append_assoc _ _ _⟩
    · exact ⟨t, rfl⟩
theorem behind_not {v : List Int} {c : Nat} : letterAt c ∉ behind v c := fun h => by
  obtain ⟨j, hj, e, -⟩ := behind_mem h
  have := letterAt_inj e
  omega
theorem behind_hit {v : List Int} {c m : Nat} (hs : stays v (letterAt c) = true) (h : c < m) : (behind v m)[(behind v c).length]? = some (letterAt c) := by
  obtain ⟨t, ht⟩ := behind_prefix v (show c + 1 ≤ m by omega)
  rw [ht, behind_step, if_pos hs, List.append_assoc, List.getElem?_append_right (Nat.le_refl _)]
  simp
/-- The place of a letter among those that may stand behind a word. -/
def placeOf (v : List Int) (x : Int) : Nat := (behind v (codeOf x).toNat).length
/-- The rank of the first k letters. -/
def rankTo (w : List Int) (n : Nat) : Nat → Nat
  | 0 => 0
  | k + 1 => firstR n (rankTo w n k) + placeOf (w.take k) (w.getD k 0)
theorem rankTo_step (w : List Int) (n k : Nat) : rankTo w n (k + 1) = firstR n (rankTo w n k) + placeOf (w.take k) (w.getD k 0) := rfl
theorem rankTo_up {w : List Int} {n : Nat} (hn : 1 ≤ n) (k : Nat) : rankTo w n k ≤ rankTo w n (k + 1) := Nat.le_trans (firstR_more hn) (Nat.le_add_right _ _)
theorem rankTo_le {w : List Int} {n : Nat} (hn : 1 ≤ n) {j k : Nat} (h : j ≤ k) : rankTo w n j ≤ rankTo w n k := by
  induction h with
  | refl => exact Nat.le_refl _
  | step _ ih => exact Nat.le_trans ih (rankTo_up hn _)
theorem rankTo_pos (w : List Int) (n k : Nat) : 1 ≤ rankTo w n (k + 1) := Nat.le_trans (firstR_ge n _) (Nat.le_add_right _ _)
def horner (w : List Int) (n : Nat) : Nat → Nat
  | 0 => 0
  | k + 1 => horner w n k * (2 * n - 1) + placeOf (w.take k) (w.getD k 0)
theorem horner_step (w : List Int) (n k : Nat) : horner w n (k + 1) = horner w n k * (2 * n - 1) + placeOf (w.take k) (w.getD k 0) := rfl
theorem rankTo_eq (w : List Int) (n k : Nat) : rankTo w n k = below n k + horner w n k := by
  induction k with
  | zero => rfl
  | succ k ih =>
    rw [rankTo_step, ih, horner_step, below_first]
    cases k with
    | zero => simp [below, horner, firstR]
    | succ k => rw [firstR_add n _ (below_pos (by omega))]; omega
/-- What the specification has added up behind i of L letters. -/
def sumTo (w : List Int) (n L i : Nat) : Nat := below n L + horner w n i * (2 * n - 1) ^ (L - i)
theorem sumTo_zero (w : List Int) (n L : Nat) : sumTo w n L 0 = below n L := by simp [sumTo, horner]
theorem sumTo_end (w : List Int) (n L : Nat) : sumTo w n L L = rankTo w n L := by rw [sumTo, rankTo_eq]; simp
theorem sumTo_step (w : List Int) (n : Nat) {L i : Nat} (h : i < L) : sumTo w n L (i + 1) = sumTo w n L i + placeOf (w.take i) (w.getD i 0) * (2 * n - 1) ^ (L - 1 - i) := by
  rw [sumTo, sumTo, horner_step, show L - i = (L - 1 - i) + 1 by omega, show L - (i + 1) = L - 1 - i by omega, Nat.pow_succ, Nat.add_mul]
  rw [show horner w n i * ((2 * n - 1) ^ (L - 1 - i) * (2 * n - 1)) = horner w n i * (2 * n - 1) * (2 * n - 1) ^ (L - 1 - i) by rw [Nat.mul_comm ((2 * n - 1) ^ (L - 1 - i)), Nat.mul_assoc]]
  omega
theorem sumTo_up (w : List Int) (n : Nat) {L i : Nat} (h : i < L) : sumTo w n L i ≤ sumTo w n L (i + 1) := by rw [sumTo_step w n h]; exact Nat.le_add_right _ _
theorem sumTo_le (w : List Int) (n : Nat) {L j k : Nat} (h : j ≤ k) : k ≤ L → sumTo w n L j ≤ sumTo w n L k := by
  induction h with
  | refl => intro _; exact Nat.le_refl _
  | step _ ih => intro hk; exact Nat.le_trans (ih (by omega)) (sumTo_up w n (by omega))
theorem sum_rank (w : List Int) (n : Nat) {L i : Nat} (h : i ≤ L) : sumTo w n L i ≤ rankTo w n L := by rw [← sumTo_end]; exact sumTo_le w n h (Nat.le_refl _)
theorem below_rank (w : List Int) (n : Nat) {L j : Nat} (h : j ≤ L) : below n j ≤ rankTo w n L := by rw [rankTo_eq]; exact Nat.le_trans (below_le n h) (Nat.le_add_right _ _)

/-! good words -/
/-- Reduced, of letters of the nails 1..n. -/
def Good (n : Nat) (w : List Int) : Prop := ∀ k x, w[k]? = some x → (∃ c, c < 2 * n ∧ x = letterAt c) ∧ stays (w.take k) x = true
theorem Good.nil (n : Nat) : Good n [] := fun k x h => by simp at h
theorem good_push {n : Nat} {w : List Int} {c : Nat} (h : Good n w) (hc : c < 2 * n) (hs : stays w (letterAt c) = true) : Good n (w ++ [letterAt c]) := fun k x hx => by
  by_cases hk : k < w.length
  · rw [List.getElem?_append_left hk] at hx
    rw [List.take_append_of_le_length (by omega)]
    exact h k x hx
  · have hl := (List.getElem?_eq_some_iff.1 hx).1
    simp at hl
    obtain rfl : k = w.length := by omega
    rw [List.getElem?_append_right (Nat.le_refl _)] at hx
    simp at hx
    subst hx
    rw [List.take_left]
    exact ⟨⟨c, hc, rfl⟩, hs⟩
theorem good_take {n : Nat} {w : List Int} (h : Good n w) (k : Nat) : Good n (w.take k) := fun j x hx => by
  have hl := (List.getElem?_eq_some_iff.1 hx).1
  simp at hl
  rw [List.getElem?_take_of_lt (by omega)] at hx
  rw [List.take_take, Nat.min_eq_left (by omega)]
  exact h j x hx
theorem neg_letter {c n : Nat} (h : c < 2 * n) : ∃ d, d < 2 * n ∧ -letterAt c = letterAt d := by
  by_cases he : c % 2 = 0
  · exact ⟨c + 1, by omega, by unfold letterAt; rw [if_pos he, if_neg (by omega)]; omega⟩
  · exact ⟨c - 1, by omega, by unfold letterAt; rw [if_neg he, if_pos (by omega)]; omega⟩
theorem behind_nil (k : Nat) : (behind [] k).length = k := by
  induction k with
  | zero => rfl
  | succ k ih => rw [behind_step, stays_nil, if_pos rfl, List.length_append, ih]; rfl
theorem behind_last {w : List Int} {y : Int} {d : Nat} (hy : w[w.length - 1]? = some y) (hd : -y = letterAt d) (k : Nat) : (behind w k).length = if d < k then k - 1 else k := by
  induction k with
  | zero => rfl
  | succ k ih =>
    rw [behind_step, stays_some hy]
    by_cases he : d = k
    · subst he
      rw [if_neg (by simp; omega), ih, if_neg (by omega), if_pos (by omega)]
      omega
    · have : y ≠ -letterAt k := fun e => he (letterAt_inj (by rw [← hd, e]; omega))
      rw [if_pos (by simpa using this), List.length_append, ih]
      by_cases h2 : d < k
      · rw [if_pos h2, if_pos (by omega)]; simp; omega
      · rw [if_neg h2, if_neg (by omega)]; rfl
/-- How many letters may stand behind a good word. -/
theorem behind_many {n : Nat} {w : List Int} (h : Good n w) : (behind w (2 * n)).length = if w.length = 0 then 2 * n else 2 * n - 1 := by
  by_cases h0 : w.length = 0
  · obtain rfl := List.eq_nil_of_length_eq_zero h0
    rw [behind_nil]; rfl
  · obtain ⟨y, hy⟩ : ∃ y, w[w.length - 1]? = some y := ⟨w[w.length - 1]'(by omega), List.getElem?_eq_getElem _⟩
    obtain ⟨⟨c, hc, e⟩, -⟩ := h _ y hy
    obtain ⟨d, hd, e2⟩ := neg_letter hc
    rw [behind_last hy (d := d) (by rw [e, e2]), if_pos hd, if_neg h0]
theorem good_place {n : Nat} {w : List Int} (h : Good n w) {k : Nat} {x : Int} (hx : w[k]? = some x) :
    (behind (w.take k) (2 * n))[placeOf (w.take k) x]? = some x ∧ x ∉ behind (w.take k) (codeOf x).toNat ∧ placeOf (w.take k) x < (if k = 0 then 2 * n else 2 * n - 1) := by
  obtain ⟨⟨c, hc, rfl⟩, hs⟩ := h k x hx
  have hk := (List.getElem?_eq_some_iff.1 hx).1
  have h1 := behind_hit hs hc
  unfold placeOf
  rw [code_letter, Int.toNat_natCast]
  refine ⟨h1, behind_not, ?_⟩
  have h2 := (List.getElem?_eq_some_iff.1 h1).1
  rw [behind_many (good_take h k)] at h2
  simp only [List.length_take, Nat.min_eq_left (Nat.le_of_lt hk)] at h2
  exact h2

theorem place_first {n : Nat} {w : List Int} (h : Good n w) {k : Nat} {x : Int} (hx : w[k]? = some x) {i : Nat} (hi : i < placeOf (w.take k) x) (hy : (behind (w.take k) (2 * n))[i]? = some x) : False := by
  obtain ⟨⟨c, hc, rfl⟩, hs⟩ := h k x hx
  unfold placeOf at hi
  rw [code_letter, Int.toNat_natCast] at hi
  obtain ⟨t, ht⟩ := behind_prefix (w.take k) (show c ≤ 2 * n by omega)
  rw [ht, List.getElem?_append_left hi] at hy
  exact behind_not (List.mem_of_getElem? hy)

/-! the word with a rank -/
/-- The rank of the word without its last letter. -/
def beforeR (n r : Nat) : Nat := if r ≤ 2 * n then 0 else 1 + (r - (1 + 2 * n)) / (2 * n - 1)
theorem beforeR_zero (n : Nat) : beforeR n 0 = 0 := if_pos (Nat.zero_le _)
theorem before_spec {n r : Nat} (hn : 1 ≤ n) (hr : 1 ≤ r) : firstR n (beforeR n r) ≤ r ∧ r < firstR n (beforeR n r + 1) ∧ beforeR n r < r := by
  unfold beforeR
  by_cases h : r ≤ 2 * n
  · rw [if_pos h]
    refine ⟨by rw [firstR_zero]; omega, ?_, by omega⟩
    rw [firstR_next, firstR_zero, if_pos rfl]; omega
  · rw [if_neg h]
    have hq : 0 < 2 * n - 1 := by omega
    have hdiv := Nat.div_add_mod (r - (1 + 2 * n)) (2 * n - 1)
    have hlt := Nat.mod_lt (r - (1 + 2 * n)) hq
    have hle := Nat.div_le_self (r - (1 + 2 * n)) (2 * n - 1)
    obtain ⟨d, hd⟩ : ∃ d, d = (r - (1 + 2 * n)) / (2 * n - 1) := ⟨_, rfl⟩
    rw [← hd] at hdiv hle ⊢
    rw [Nat.mul_comm] at hdiv
    refine ⟨?_, ?_, by omega⟩
    · rw [firstR_pos n (by omega), show 1 + d - 1 = d by omega]; omega
    · rw [firstR_next, if_neg (by omega), firstR_pos n (by omega), show 1 + d - 1 = d by omega]; omega
theorem before_first {n b p : Nat} (hn : 1 ≤ n) (h : p < (if b = 0 then 2 * n else 2 * n - 1)) : beforeR n (firstR n b + p) = b := by
  have h1 := before_spec (n := n) (r := firstR n b + p) hn (by have := firstR_ge n b; omega)
  have h2 := firstR_next n b
  have a1 : ¬ beforeR n (firstR n b + p) < b := fun hlt => by
    have := firstR_le (n := n) (show beforeR n (firstR n b + p) + 1 ≤ b by omega)
    omega
  have a2 : ¬ b < beforeR n (firstR n b + p) := fun hlt => by
    have := firstR_le (n := n) (show b + 1 ≤ beforeR n (firstR n b + p) by omega)
    omega
  omega
theorem before_ge {n b r : Nat} (hn : 1 ≤ n) (h : firstR n b ≤ r) : b ≤ beforeR n r := by
  have h1 := before_spec (n := n) (r := r) hn (by have := firstR_ge n b; omega)
  refine Nat.not_lt.1 fun hlt => ?_
  have := firstR_le (n := n) (show beforeR n r + 1 ≤ b by omega)
  omega
/-- The ranks of the words without their last letters, one after the other. -/
def itR (n r : Nat) : Nat → Nat
  | 0 => r
  | k + 1 => beforeR n (itR n r k)
theorem itR_step (n r k : Nat) : itR n r (k + 1) = beforeR n (itR n r k) := rfl
theorem itR_zero {n r k : Nat} (h : itR n r k = 0) : ∀ j, k ≤ j → itR n r j = 0 := fun j hj => by
  induction hj with
  | refl => exact h
  | step _ ih => rw [itR_step, ih, beforeR_zero]
theorem itR_le {n : Nat} (hn : 1 ≤ n) (r k : Nat) : itR n r k ≤ r := by
  induction k with
  | zero => exact Nat.le_refl _
  | succ k ih =>
    rw [itR_step]
    by_cases h : itR n r k = 0
    · rw [h, beforeR_zero]; omega
    · have := (before_spec (n := n) (r := itR n r k) hn (by omega)).2.2; omega
theorem itR_ge {n r : Nat} (hn : 1 ≤ n) {L : Nat} : ∀ {k : Nat}, k ≤ L → below n L ≤ r → below n (L - k) ≤ itR n r k := by
  intro k
  induction k with
  | zero => intro _ h; exact h
  | succ k ih =>
    intro hk h
    have h1 := ih (by omega) h
    rw [itR_step]
    refine before_ge hn ?_
    rw [← below_first, show L - (k + 1) + 1 = L - k by omega]
    exact h1
/-- The word with a rank, of k letters. -/
def wordR (n : Nat) : Nat → Nat → List Int
  | 0, _ => []
  | f + 1, r => wordR n f (beforeR n r) ++ [(behind (wordR n f (beforeR n r)) (2 * n)).getD (r - firstR n (beforeR n r)) 0]
theorem wordR_step (n f r : Nat) : wordR n (f + 1) r = wordR n f (beforeR n r) ++ [(behind (wordR n f (beforeR n r)) (2 * n)).getD (r - firstR n (beforeR n r)) 0] := rfl
theorem wordR_len (n : Nat) : ∀ f r, (wordR n f r).length = f := by
  intro f
  induction f with
  | zero => intro r; rfl
  | succ f ih => intro r; rw [wordR_step, List.length_append, ih]; rfl
/-- How many letters the word with a rank has, if they are not more than 64. -/
def stepsR (n r : Nat) : Option Nat := seek (fun k => decide (itR n r k = 0)) 65
/-- The answer of WordAt. -/
def atW (n r : Nat) : List Int := match stepsR n r with
  | none => []
  | some K => wordR n K r
def atB (n r : Nat) : Bool := (stepsR n r).isSome
theorem at_none {n r : Nat} (h : itR n r 64 ≠ 0) : atB n r = false ∧ atW n r = [] := by
  have : stepsR n r = none := seek_none fun j hj => by
    simp only [decide_eq_false_iff_not]
    exact fun e => h (itR_zero e 64 (by omega))
  simp [atB, atW, this]
theorem at_some' {n r K : Nat} (hK : K ≤ 64) (h : itR n r K = 0) (hp : ∀ j, j < K → itR n r j ≠ 0) : atB n r = true ∧ atW n r = wordR n K r := by
  have : stepsR n r = some K := seek_hit (by omega) (fun j hj => by simpa using hp j hj) (by simpa using h)
  simp [atB, atW, this]
/-- A good word is the word with its rank. -/
theorem word_rank {n : Nat} {w : List Int} (hn : 1 ≤ n) (h : Good n w) : ∀ k, k ≤ w.length → wordR n k (rankTo w n k) = w.take k := by
  intro k
  induction k with
  | zero => intro _; simp [wordR]
  | succ k ih =>
    intro hk
    obtain ⟨x, hx⟩ : ∃ x, w[k]? = some x := ⟨w[k]'(by omega), List.getElem?_eq_getElem _⟩
    have hg : w.getD k 0 = x := by rw [List.getD_eq_getElem?_getD, hx]; rfl
    obtain ⟨h1, h2, h3⟩ := good_place h hx
    have hz : (if rankTo w n k = 0 then 2 * n else 2 * n - 1) = (if k = 0 then 2 * n else 2 * n - 1) := by
      cases k with
      | zero => rfl
      | succ k => rw [if_neg (by have := rankTo_pos w n k; omega), if_neg (by omega)]
    have hb : beforeR n (rankTo w n (k + 1)) = rankTo w n k := by rw [rankTo_step, hg]; exact before_first hn (by rw [hz]; exact h3)
    rw [wordR_step, hb, ih (by omega), rankTo_step, hg, Nat.add_sub_cancel_left, List.getD_eq_getElem?_getD, h1, take_snoc hx]
    rfl
theorem it_rank {n : Nat} {w : List Int} (hn : 1 ≤ n) (h : Good n w) : ∀ k, k ≤ w.length → itR n (rankTo w n w.length) k = rankTo w n (w.length - k) := by
  intro k
  induction k with
  | zero => intro _; rfl
  | succ k ih =>
    intro hk
    rw [itR_step, ih (by omega)]
    obtain ⟨j, hj⟩ : ∃ j, w.length - k = j + 1 := ⟨w.length - k - 1, by omega⟩
    rw [hj, show w.length - (k + 1) = j by omega]
    obtain ⟨x, hx⟩ : ∃ x, w[j]? = some x := ⟨w[j]'(by omega), List.getElem?_eq_getElem _⟩
    have hg : w.getD j 0 = x := by rw [List.getD_eq_getElem?_getD, hx]; rfl
    obtain ⟨h1, h2, h3⟩ := good_place h hx
    rw [rankTo_step, hg]
    refine before_first hn ?_
    cases j with
    | zero => exact h3
    | succ j => rw [if_neg (by have := rankTo_pos w n j; omega)]; rw [if_neg (by omega)] at h3; exact h3
/-- What WordAt answers at the rank of a good word. -/
theorem at_rank {n : Nat} {w : List Int} (hn : 1 ≤ n) (h : Good n w) (hl : w.length ≤ 64) : atB n (rankTo w n w.length) = true ∧ atW n (rankTo w n w.length) = w := by
  have hi := it_rank hn h
  obtain ⟨h1, h2⟩ := at_some' (n := n) (r := rankTo w n w.length) (K := w.length) hl (by rw [hi _ (Nat.le_refl _), Nat.sub_self]; rfl) (fun j hj => by
    rw [hi j (by omega)]
    obtain ⟨m, hm⟩ : ∃ m, w.length - j = m + 1 := ⟨w.length - j - 1, by omega⟩
    rw [hm]
    have := rankTo_pos w n m
    omega)
  refine ⟨h1, ?_⟩
  rw [h2, word_rank hn h _ (Nat.le_refl _), List.take_length]

end Go.Proofs.Ythamckchfhddjaa.Plain
