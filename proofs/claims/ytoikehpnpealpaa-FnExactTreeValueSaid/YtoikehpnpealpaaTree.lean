/- Plain mathematics of trees as texts: reading one at the beginning of a list of bytes, bounds. No condition. -/
import Derived.Test.YtoikehpnpealpaaParseWWalks
namespace Go.Proofs.Ytoikehpnpealpaa
set_option linter.unusedVariables false

/-- How many letters a list of bytes begins with. -/
def runLen : List UInt8 → Nat
  | [] => 0
  | c :: l => if byteL c = 0 then 0 else runLen l + 1
theorem runLen_le : ∀ l : List UInt8, runLen l ≤ l.length
  | [] => Nat.le_refl _
  | c :: l => by
    have := runLen_le l
    rw [runLen]
    split
    · simp
    · simp; omega
/-- All before place k are letters. -/
def AllTo (l : List UInt8) (k : Nat) : Prop := ∀ (j : Nat) (c : UInt8), j < k → l[j]? = some c → byteL c ≠ 0
theorem run_stop : ∀ (l : List UInt8) (k : Nat) (c : UInt8), AllTo l k → l[k]? = some c → byteL c = 0 → runLen l = k
  | [], k, c, _, h, _ => by simp at h
  | d :: l, 0, c, _, h, h0 => by
    simp at h
    subst h
    rw [runLen, if_pos h0]
  | d :: l, k + 1, c, ha, h, h0 => by
    rw [runLen, if_neg (ha 0 d (by omega) rfl), run_stop l k c (fun j x hj hx => ha (j + 1) x (by omega) (by simpa using hx)) (by simpa using h) h0]
theorem run_all : ∀ (l : List UInt8), AllTo l l.length → runLen l = l.length
  | [], _ => rfl
  | d :: l, ha => by
    rw [runLen, if_neg (ha 0 d (by simp) rfl), run_all l (fun j x hj hx => ha (j + 1) x (by simp; omega) (by simpa using hx))]
    simp

theorem run_before : ∀ (l : List UInt8) (k : Nat) (c : UInt8), k < runLen l → l[k]? = some c → byteL c ≠ 0
  | [], k, c, _, h => by simp at h
  | d :: l, k, c, hk, h => by
    rw [runLen] at hk
    split at hk
    · omega
    · rename_i h0
      cases k with
      | zero => simp at h; subst h; exact h0
      | succ k => exact run_before l k c (by omega) (by simpa using h)
theorem run_at : ∀ (l : List UInt8) (c : UInt8), l[runLen l]? = some c → byteL c = 0
  | [], c, h => by simp at h
  | d :: l, c, h => by
    rw [runLen] at h
    split at h
    · rename_i h0
      simp at h
      subst h
      exact h0
    · exact run_at l c (by simpa using h)

/-- The tree at the beginning of a list of bytes: its bytes, its depth, its leaves, its raw length. -/
def readT : Nat → List UInt8 → Option (Nat × Nat × Nat × Nat)
  | 0, _ => none
  | f + 1, l =>
    if runLen l ≠ 0 then some (runLen l, 0, 1, runLen l)
    else if l[0]? = some 91 then
      match readT f (l.drop 1) with
      | none => none
      | some a =>
        if l[1 + a.1]? = some 44 then
          match readT f (l.drop (2 + a.1)) with
          | none => none
          | some b => if l[2 + a.1 + b.1]? = some 93 then some (3 + a.1 + b.1, max a.2.1 b.2.1 + 1, a.2.2.1 + b.2.2.1, 2 * (a.2.2.2 + b.2.2.2)) else none
        else none
    else none
/-- What is known of a tree that has been read. -/
def Fit (n : Nat) (t : Nat × Nat × Nat × Nat) : Prop := t.1 ≤ n ∧ 4 * t.2.1 + 1 ≤ t.1 ∧ t.2.2.1 ≤ t.1 ∧ t.2.2.2 ≤ t.1 * 2 ^ t.2.1
theorem pow_max (a b x y : Nat) : x * 2 ^ a + y * 2 ^ b ≤ (x + y) * 2 ^ max a b := by
  have h1 : 2 ^ a ≤ 2 ^ max a b := Nat.pow_le_pow_right (by decide) (Nat.le_max_left _ _)
  have h2 : 2 ^ b ≤ 2 ^ max a b := Nat.pow_le_pow_right (by decide) (Nat.le_max_right _ _)
  rw [Nat.add_mul]
  exact Nat.add_le_add (Nat.mul_le_mul_left _ h1) (Nat.mul_le_mul_left _ h2)
theorem readT_fit (f : Nat) : ∀ (l : List UInt8) (t : Nat × Nat × Nat × Nat), readT f l = some t → Fit l.length t := by
  induction f with
  | zero => intro l t h; simp [readT] at h
  | succ f ih =>
    intro l t h
    rw [readT] at h
    split at h
    · rename_i h0
      cases h
      have := runLen_le l
      exact ⟨this, by simp; omega, by simp; omega, by simp⟩
    · split at h
      · rename_i h0 h1
        cases ha : readT f (l.drop 1) with
        | none => rw [ha] at h; simp at h
        | some a =>
          rw [ha] at h
          simp only at h
          split at h
          · rename_i h2
            cases hb : readT f (l.drop (2 + a.1)) with
            | none => rw [hb] at h; simp at h
            | some b =>
              rw [hb] at h
              simp only at h
              split at h
              · rename_i h3
                cases h
                obtain ⟨a1, a2, a3, a4⟩ := ih _ _ ha
                obtain ⟨b1, b2, b3, b4⟩ := ih _ _ hb
                have h4 : 2 + a.1 + b.1 < l.length := (List.getElem?_eq_some_iff.1 h3).1
                have hm := pow_max a.2.1 b.2.1 a.1 b.1
                refine ⟨by simp; omega, ?_, by simp; omega, ?_⟩
                · simp only
                  rcases Nat.le_total a.2.1 b.2.1 with h | h
                  · rw [Nat.max_eq_right h]; omega
                  · rw [Nat.max_eq_left h]; omega
                · simp only
                  rw [Nat.pow_succ]
                  generalize 2 ^ max a.2.1 b.2.1 = q at hm ⊢
                  have h5 : (a.1 + b.1) * q ≤ (3 + a.1 + b.1) * q := Nat.mul_le_mul_right _ (by omega)
                  have h6 : (3 + a.1 + b.1) * (q * 2) = (3 + a.1 + b.1) * q * 2 := (Nat.mul_assoc _ _ _).symm
                  omega
              · cases h
          · cases h
      · cases h
theorem fit_small {n : Nat} {t : Nat × Nat × Nat × Nat} (h : Fit n t) (hn : n ≤ 80) : t.1 ≤ 80 ∧ t.2.1 ≤ 19 ∧ t.2.2.1 ≤ 80 ∧ t.2.2.2 ≤ 41943040 := by
  obtain ⟨h1, h2, h3, h4⟩ := h
  have hd : t.2.1 ≤ 19 := by omega
  refine ⟨by omega, hd, by omega, Nat.le_trans h4 ?_⟩
  have hp : 2 ^ t.2.1 ≤ 2 ^ 19 := Nat.pow_le_pow_right (by decide) hd
  exact Nat.le_trans (Nat.mul_le_mul (by omega : t.1 ≤ 80) hp) (by decide)

end Go.Proofs.Ytoikehpnpealpaa
