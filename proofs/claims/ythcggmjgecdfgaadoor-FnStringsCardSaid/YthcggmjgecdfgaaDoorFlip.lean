/- Plain mathematics: a checksummed text of which one byte is changed is none. Condition: the text has no mark in it. -/
import Derived.Test.YthcggmjgecdfgaaDoorSeal
import Derived.Test.YthcggmjgecdfgaaDoorRead
namespace Go.Proofs.YthcggmjgecdfgaaDoor.Plain
open Go

theorem step_inj (a b : Nat) (c : UInt8) (ha : a < 999979) (hb : b < 999979) (h : sumStep a c = sumStep b c) : a = b := by
  unfold sumStep at h
  omega
theorem step_ne (n : Nat) (u v : UInt8) (h : sumStep n u = sumStep n v) : u = v := by
  unfold sumStep at h
  have hu := u.toNat_lt
  have hv := v.toNat_lt
  exact UInt8.toNat_inj.1 (by omega)
theorem fold_inj (l : List UInt8) : ∀ a b, a < 999979 → b < 999979 → l.foldl sumStep a = l.foldl sumStep b → a = b := by
  induction l with
  | nil => intro a b _ _ h; exact h
  | cons c l ih => intro a b ha hb h; exact step_inj a b c ha hb (ih _ _ (sumStep_lt a c) (sumStep_lt b c) h)
/-- A sum tells which byte stands at a place. -/
theorem sum_set (l : List UInt8) (k : Nat) (v : UInt8) : ∀ n, (l.set k v).foldl sumStep n = l.foldl sumStep n → l.set k v = l := by
  induction l generalizing k with
  | nil => intro n _; rfl
  | cons c l ih =>
    intro n h
    cases k with
    | zero =>
      simp only [List.set_cons_zero, List.foldl_cons] at h ⊢
      have := step_ne n v c (fold_inj l _ _ (sumStep_lt _ _) (sumStep_lt _ _) h)
      rw [this]
    | succ k =>
      simp only [List.set_cons_succ, List.foldl_cons] at h ⊢
      rw [ih k _ h]

def dig (n : Nat) : List UInt8 := (numS n).data.toList
theorem dig_none (n : Nat) (h : n ≤ 999999) : 35 ∉ dig n := by
  intro hm
  have := (back_nat h (intS_nat n)).2.1 35 hm
  unfold isDig at this
  revert this
  decide
theorem dig_inj (n m : Nat) (hn : n ≤ 999999) (hm : m ≤ 999999) (h : dig n = dig m) : n = m := by
  have e : numS n = numS m := eq_of_list h
  have := intS_inj (n := n) (m := m) (by omega) (by omega) (by omega) (by omega) (by rw [intS_nat, intS_nat, e])
  omega

theorem seal_list (s : ByteArray) : (sealS s).data.toList = s.data.toList ++ 35 :: dig (sumOf s.data.toList) := by
  unfold sealS sumS dig mark
  simp [ByteArray.data_append]

theorem at_mark (X S : List UInt8) : (X ++ 35 :: S)[X.length]? = some 35 := by simp
theorem mark_at (X S : List UInt8) (hX : 35 ∉ X) (hS : 35 ∉ S) (j : Nat) (h : (X ++ 35 :: S)[j]? = some 35) : j = X.length := by
  rcases Nat.lt_trichotomy j X.length with hj | hj | hj
  · rw [List.getElem?_append_left hj] at h
    exact absurd (List.mem_of_getElem? h) hX
  · exact hj
  · rw [List.getElem?_append_right (by omega)] at h
    obtain ⟨i, hi⟩ : ∃ i, j - X.length = i + 1 := ⟨j - X.length - 1, by omega⟩
    rw [hi, List.getElem?_cons_succ] at h
    exact absurd (List.mem_of_getElem? h) hS

/-- One byte of a sealed list is changed: it is sealed no more. -/
theorem flip_list (X P : List UInt8) (k : Nat) (v : UInt8) (hX : 35 ∉ X) (hP : 35 ∉ P)
    (h : P ++ 35 :: dig (sumOf P) = (X ++ 35 :: dig (sumOf X)).set k v) : (X ++ 35 :: dig (sumOf X)).set k v = X ++ 35 :: dig (sumOf X) := by
  have sX : sumOf X ≤ 999999 := by have := sumOf_lt X; omega
  have sP : sumOf P ≤ 999999 := by have := sumOf_lt P; omega
  have hlen : P.length = X.length := by
    by_cases hk : k = X.length
    · -- the mark's place: then the other mark is seen in the old text too
      by_cases hkp : k = P.length
      · omega
      · have h1 := at_mark P (dig (sumOf P))
        rw [h, List.getElem?_set_ne hkp] at h1
        exact mark_at X _ hX (dig_none _ sX) _ h1
    · have h1 := at_mark X (dig (sumOf X))
      rw [← List.getElem?_set_ne hk (a := v), ← h] at h1
      exact (mark_at P _ hP (dig_none _ sP) _ h1).symm
  rcases Nat.lt_trichotomy k X.length with hk | hk | hk
  · rw [List.set_append_left _ _ hk] at h ⊢
    obtain ⟨h1, h2⟩ := List.append_inj h (by simpa using hlen)
    have h3 : sumOf P = sumOf X := dig_inj _ _ sP sX (List.cons.inj h2).2
    rw [h1] at h3
    rw [sum_set X k v 7 h3]
  · subst hk
    have e : (X ++ 35 :: dig (sumOf X)).set X.length v = X ++ v :: dig (sumOf X) := by
      rw [List.set_append_right _ _ (Nat.le_refl _)]
      simp
    rw [e] at h ⊢
    obtain ⟨h1, h2⟩ := List.append_inj h hlen
    rw [(List.cons.inj h2).1]
  · have e : (X ++ 35 :: dig (sumOf X)).set k v = X ++ 35 :: (dig (sumOf X)).set (k - X.length - 1) v := by
      rw [List.set_append_right _ _ (by omega)]
      obtain ⟨i, hi⟩ : ∃ i, k - X.length = i + 1 := ⟨k - X.length - 1, by omega⟩
      rw [hi]
      simp
    rw [e] at h ⊢
    obtain ⟨h1, h2⟩ := List.append_inj h hlen
    rw [h1] at h2
    rw [← (List.cons.inj h2).2]

theorem flip_no (x b : ByteArray) (k : Nat) (v : UInt8) (hx : has x 35 = false) (hb : b.data.toList = (sealS x).data.toList.set k v) (hne : (sealS x).data.toList.set k v ≠ (sealS x).data.toList) : ¬ sealS (before b 35) = b := by
  intro h
  have hX : 35 ∉ x.data.toList := by simpa [has] using hx
  have e : (before b 35).data.toList = pre 35 b.data.toList := by unfold before; simp
  have hP : 35 ∉ pre 35 b.data.toList := pre_notin 35 _
  have h1 : (sealS (before b 35)).data.toList = b.data.toList := by rw [h]
  rw [seal_list, e, hb] at h1
  rw [hb] at hP
  rw [seal_list x] at h1 hP hne
  exact hne (flip_list _ _ k v hX hP h1)

end Go.Proofs.YthcggmjgecdfgaaDoor.Plain
