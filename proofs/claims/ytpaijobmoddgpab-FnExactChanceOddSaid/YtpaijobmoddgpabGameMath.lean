/- Plain mathematics: positions of a game as sets of nails; functions that are reckoned from the positions behind; the least number that a list lacks; winning, the number of a position. Conditions: sets from 0 to 63. -/
import Derived.Test.YtpaijobmoddgpabWord
namespace Go.Proofs.Ytpaijobmoddgpab.Plain
set_option linter.unusedVariables false

/-- The bits that are in m and not in s. -/
def inP (m s : Nat) : List Nat := (List.range 6).filter fun p => m.testBit p && !s.testBit p
def cnt (m s : Nat) : Nat := (inP m s).length
theorem mem_inP {m s p : Nat} : p ∈ inP m s ↔ p < 6 ∧ m.testBit p = true ∧ s.testBit p = false := by
  unfold inP
  rw [List.mem_filter, List.mem_range, Bool.and_eq_true, Bool.not_eq_true']
theorem cnt_le (m s : Nat) : cnt m s ≤ 6 := by
  have := List.length_filter_le (fun p => m.testBit p && !s.testBit p) (List.range 6)
  unfold cnt inP; simpa using this
theorem or_bit (s p q : Nat) : (s ||| 2 ^ p).testBit q = (s.testBit q || decide (p = q)) := by
  rw [Nat.testBit_or, Nat.testBit_two_pow]
theorem or_lt {s p : Nat} (hs : s < 64) (hp : p < 6) : s ||| 2 ^ p < 64 := Nat.or_lt_two_pow (n := 6) hs (Nat.pow_lt_pow_right (by omega) hp)
theorem filter_less {α : Type} (f g : α → Bool) : ∀ (l : List α), (∀ x ∈ l, f x = true → g x = true) → (∃ x ∈ l, g x = true ∧ f x = false) → (l.filter f).length < (l.filter g).length
  | [], _, ⟨x, hx, _⟩ => by cases hx
  | y :: r, h, ⟨x, hx, h1, h2⟩ => by
    have hle : (r.filter f).length ≤ (r.filter g).length := by
      clear hx h1 h2
      induction r with
      | nil => exact Nat.le_refl _
      | cons z r ih =>
        have ih := ih fun x hx => h x (by rcases List.mem_cons.1 hx with rfl | hx; exact List.mem_cons_self; exact List.mem_cons_of_mem _ (List.mem_cons_of_mem _ hx))
        have hz := h z (List.mem_cons_of_mem _ List.mem_cons_self)
        simp only [List.filter_cons]
        by_cases fz : f z = true
        · rw [if_pos fz, if_pos (hz fz)]; simpa using ih
        · rw [if_neg fz]
          split
          · simp only [List.length_cons]; omega
          · exact ih
    simp only [List.filter_cons]
    rcases List.mem_cons.1 hx with rfl | hx
    · rw [if_pos h1, if_neg (by rw [h2]; simp)]; simp only [List.length_cons]; omega
    · have ih := filter_less f g r (fun x hx => h x (List.mem_cons_of_mem _ hx)) ⟨x, hx, h1, h2⟩
      by_cases fy : f y = true
      · rw [if_pos fy, if_pos (h y List.mem_cons_self fy)]; simpa using ih
      · rw [if_neg fy]
        split
        · simp only [List.length_cons]; omega
        · exact ih
theorem cnt_less {m s p : Nat} (h : p ∈ inP m s) : cnt m (s ||| 2 ^ p) < cnt m s := by
  obtain ⟨h1, h2, h3⟩ := mem_inP.1 h
  refine filter_less _ _ _ (fun q _ hq => ?_) ⟨p, List.mem_range.2 h1, by simp [h2, h3], by simp⟩
  rw [or_bit] at hq
  simp only [Bool.and_eq_true, Bool.not_eq_true', Bool.or_eq_false_iff] at hq ⊢
  exact ⟨hq.1, hq.2.1⟩

/-- What is reckoned at a position from the positions behind. -/
structure Step (α : Type) (m : Nat) where
  F : Nat → (Nat → α) → α
  same : ∀ s (r r' : Nat → α), (∀ p ∈ inP m s, r (s ||| 2 ^ p) = r' (s ||| 2 ^ p)) → F s r = F s r'
def Step.go {α : Type} {m : Nat} (S : Step α m) (d : α) : Nat → Nat → α
  | 0, _ => d
  | k + 1, s => S.F s (S.go d k)
def Step.val {α : Type} {m : Nat} (S : Step α m) (d : α) (s : Nat) : α := S.go d (cnt m s + 1) s
theorem Step.go_val {α : Type} {m : Nat} (S : Step α m) (d : α) : ∀ k s, cnt m s < k → S.go d k s = S.val d s
  | 0, s, h => by omega
  | k + 1, s, h => by
    unfold Step.val
    rw [Step.go, Step.go]
    refine S.same s _ _ fun p hp => ?_
    have hc := cnt_less hp
    rw [Step.go_val S d k _ (by omega)]
    have : ∀ j, cnt m (s ||| 2 ^ p) < j → j ≤ k → S.go d j (s ||| 2 ^ p) = S.val d (s ||| 2 ^ p) := fun j h1 h2 => Step.go_val S d j _ h1
    exact (this _ hc (by omega)).symm
termination_by k => k
theorem Step.eq {α : Type} {m : Nat} (S : Step α m) (d : α) (s : Nat) : S.val d s = S.F s (S.val d) := by
  rw [← S.go_val d (cnt m s + 1) s (by omega), Step.go]
  refine S.same s _ _ fun p hp => ?_
  have hc := cnt_less hp
  exact S.go_val d _ _ hc

/-- The least number that is not in a list. -/
def mex (l : List Nat) : Nat := ((List.range (l.sum + 2)).find? fun k => !l.contains k).getD 0
theorem le_sum : ∀ (l : List Nat) (x : Nat), x ∈ l → x ≤ l.sum
  | [], x, h => by cases h
  | y :: r, x, h => by
    rw [List.sum_cons]
    rcases List.mem_cons.1 h with rfl | h
    · omega
    · have := le_sum r x h; omega
theorem mex_spec (l : List Nat) : mex l ∉ l ∧ (∀ k, k < mex l → k ∈ l) ∧ mex l ≤ l.sum + 1 := by
  unfold mex
  cases hf : (List.range (l.sum + 2)).find? fun k => !l.contains k with
  | none =>
    have h := List.find?_eq_none.1 hf (l.sum + 1) (List.mem_range.2 (by omega))
    cases hb : l.contains (l.sum + 1) with
    | false => rw [hb] at h; exact absurd rfl h
    | true =>
      have := le_sum l _ (List.contains_iff_mem.1 hb)
      omega
  | some k =>
    rw [List.find?_range_eq_some] at hf
    obtain ⟨h1, h2, h3⟩ := hf
    simp only [Option.getD_some]
    refine ⟨fun h => ?_, fun j hj => ?_, ?_⟩
    · simp [h] at h1
    · have := h3 j hj
      simpa using this
    · have := List.mem_range.1 h2; omega
theorem mex_is {l : List Nat} {k : Nat} (h1 : k ∉ l) (h2 : ∀ j, j < k → j ∈ l) : mex l = k := by
  obtain ⟨a, b, -⟩ := mex_spec l
  rcases Nat.lt_trichotomy (mex l) k with h | h | h
  · exact absurd (h2 _ h) a
  · exact h
  · exact absurd (b _ h) h1
theorem mex_zero {l : List Nat} : mex l = 0 ↔ 0 ∉ l := by
  constructor
  · intro h
    have := (mex_spec l).1
    rw [h] at this; exact this
  · intro h
    exact mex_is h fun j hj => by omega

/-- The moves: in the game to drop (true) and in that to keep. -/
def movesG (t : Nat → Bool) (m : Nat) (k : Bool) (s : Nat) : List Nat := if t s then [] else if k then inP m s else (inP m s).filter fun p => !t (s ||| 2 ^ p)
theorem movesG_in {t : Nat → Bool} {m : Nat} {k : Bool} {s p : Nat} (h : p ∈ movesG t m k s) : p ∈ inP m s := by
  unfold movesG at h
  split at h
  · cases h
  · split at h
    · exact h
    · exact (List.mem_filter.1 h).1
def numS (t : Nat → Bool) (m : Nat) (k : Bool) : Step Nat m where
  F s r := mex ((movesG t m k s).map fun p => r (s ||| 2 ^ p))
  same s r r' h := by
    congr 1
    exact List.map_congr_left fun p hp => h p (movesG_in hp)
def num (t : Nat → Bool) (m : Nat) (k : Bool) (s : Nat) : Nat := (numS t m k).val 0 s
theorem num_eq (t : Nat → Bool) (m : Nat) (k : Bool) (s : Nat) : num t m k s = mex ((movesG t m k s).map fun p => num t m k (s ||| 2 ^ p)) := (numS t m k).eq 0 s
theorem num_fallen {t : Nat → Bool} {m : Nat} {k : Bool} {s : Nat} (h : t s = true) : num t m k s = 0 := by
  rw [num_eq, movesG, if_pos h]; rfl
theorem mex_le (l : List Nat) : mex l ≤ l.length := by
  obtain ⟨h1, h2, h3⟩ := mex_spec l
  -- all numbers below are in the list
  have : ∀ n (l : List Nat), (∀ k, k < n → k ∈ l) → n ≤ l.length := by
    intro n
    induction n with
    | zero => intro l _; exact Nat.zero_le _
    | succ n ih =>
      intro l h
      have hm := h n (by omega)
      have := ih (l.erase n) fun k hk => (List.mem_erase_of_ne (by omega)).2 (h k (by omega))
      rw [List.length_erase_of_mem hm] at this
      have := List.length_pos_of_mem hm
      omega
  exact this _ l h2
theorem num_le (t : Nat → Bool) (m : Nat) (k : Bool) (s : Nat) : num t m k s ≤ 6 := by
  rw [num_eq]
  refine Nat.le_trans (mex_le _) ?_
  rw [List.length_map]
  have h := cnt_le m s
  unfold movesG
  split
  · exact Nat.zero_le _
  · split
    · exact h
    · exact Nat.le_trans (List.length_filter_le _ _) h

/-- Who wins, as the document says it. -/
def dropS (t : Nat → Bool) (m : Nat) : Step Bool m where
  F s r := (inP m s).any fun p => t (s ||| 2 ^ p) || !r (s ||| 2 ^ p)
  same s r r' h := by
    rw [Bool.eq_iff_iff, List.any_eq_true, List.any_eq_true]
    constructor
    · rintro ⟨p, hp, hq⟩; exact ⟨p, hp, by rw [← h p hp]; exact hq⟩
    · rintro ⟨p, hp, hq⟩; exact ⟨p, hp, by rw [h p hp]; exact hq⟩
def keepS (t : Nat → Bool) (m : Nat) : Step Bool m where
  F s r := (inP m s).any fun p => !t (s ||| 2 ^ p) && !r (s ||| 2 ^ p)
  same s r r' h := by
    rw [Bool.eq_iff_iff, List.any_eq_true, List.any_eq_true]
    constructor
    · rintro ⟨p, hp, hq⟩; exact ⟨p, hp, by rw [← h p hp]; exact hq⟩
    · rintro ⟨p, hp, hq⟩; exact ⟨p, hp, by rw [h p hp]; exact hq⟩
def dropV (t : Nat → Bool) (m s : Nat) : Bool := (dropS t m).val false s
def keepV (t : Nat → Bool) (m s : Nat) : Bool := (keepS t m).val false s
theorem dropV_eq (t : Nat → Bool) (m s : Nat) : dropV t m s = (inP m s).any fun p => t (s ||| 2 ^ p) || !dropV t m (s ||| 2 ^ p) := (dropS t m).eq false s
theorem keepV_eq (t : Nat → Bool) (m s : Nat) : keepV t m s = (inP m s).any fun p => !t (s ||| 2 ^ p) && !keepV t m (s ||| 2 ^ p) := (keepS t m).eq false s
def winV (t : Nat → Bool) (m : Nat) (k : Bool) (s : Nat) : Bool := if k then dropV t m s else keepV t m s
/-- The player who is to move loses just where the number is 0. -/
theorem win_num (t : Nat → Bool) (m : Nat) (k : Bool) : ∀ c s, cnt m s ≤ c → t s = false → winV t m k s = decide (num t m k s ≠ 0)
  | c, s, hc, ht => by
    have ih : ∀ p ∈ inP m s, t (s ||| 2 ^ p) = false → winV t m k (s ||| 2 ^ p) = decide (num t m k (s ||| 2 ^ p) ≠ 0) := fun p hp h => by
      have := cnt_less hp
      match c, hc with
      | 0, hc => omega
      | c + 1, hc => exact win_num t m k c _ (by omega) h
    rw [Bool.eq_iff_iff, decide_eq_true_eq, ne_eq, num_eq, mex_zero, Decidable.not_not, List.mem_map]
    cases k with
    | true =>
      have hm : movesG t m true s = inP m s := by unfold movesG; rw [ht]; rfl
      rw [hm]
      show dropV t m s = true ↔ _
      rw [dropV_eq, List.any_eq_true]
      refine exists_congr fun p => and_congr_right fun hp => ?_
      cases h : t (s ||| 2 ^ p) with
      | true => simp [num_fallen h]
      | false =>
        have := ih p hp h
        show (false || !(winV t m true (s ||| 2 ^ p))) = true ↔ _
        rw [this]; simp
    | false =>
      have hm : movesG t m false s = (inP m s).filter fun p => !t (s ||| 2 ^ p) := by unfold movesG; rw [ht]; rfl
      rw [hm]
      show keepV t m s = true ↔ _
      rw [keepV_eq, List.any_eq_true]
      refine exists_congr fun p => ?_
      rw [List.mem_filter, and_assoc]
      refine and_congr_right fun hp => ?_
      cases h : t (s ||| 2 ^ p) with
      | true => simp
      | false =>
        have := ih p hp h
        show (true && !(winV t m false (s ||| 2 ^ p))) = true ↔ _
        rw [this]; simp
termination_by c => c

end Go.Proofs.Ytpaijobmoddgpab.Plain
