/- Families as lists of sets: members, least sets, when a list is valid. Plain mathematics, no condition. -/
import Derived.Test.YtobjifggelmhcaaGreatWord
namespace Go.Proofs.YtobjifggelmhcaaGreat.Plain
set_option linter.unusedVariables false

/-- A set is a part of another one. -/
def partB (x : Int) (s : Nat) : Bool := x.toNat &&& s == x.toNat
/-- A set is a member. -/
def hasB (xs : List Int) (s : Nat) : Bool := xs.any fun x => partB x s
def isSet (x : Int) : Bool := decide (0 ≤ x ∧ x ≤ 63)
def setsB (xs : List Int) : Bool := xs.all isSet
/-- The list of least members: what FamilyOf hands back. -/
def leastOf (xs : List Int) : List Int := edges (hasB xs) true
def famB (xs : List Int) : Bool := setsB xs && decide (leastOf xs = xs)

theorem hasB_congr {xs ys : List Int} (h : ∀ x, x ∈ xs ↔ x ∈ ys) : hasB xs = hasB ys := by
  funext s
  rw [Bool.eq_iff_iff]
  simp only [hasB, List.any_eq_true]
  constructor
  · rintro ⟨x, hx, hp⟩; exact ⟨x, (h x).1 hx, hp⟩
  · rintro ⟨x, hx, hp⟩; exact ⟨x, (h x).2 hx, hp⟩
theorem setsB_at {xs : List Int} (h : setsB xs = true) {i : Nat} {x : Int} (hx : xs[i]? = some x) : 0 ≤ x ∧ x ≤ 63 := by
  have h1 := List.all_eq_true.1 h x (List.mem_of_getElem? hx)
  simpa [isSet] using h1
theorem setsB_mem {xs : List Int} (h : setsB xs = true) {x : Int} (hx : x ∈ xs) : 0 ≤ x ∧ x ≤ 63 := by
  have h1 := List.all_eq_true.1 h x hx
  simpa [isSet] using h1
theorem setsB_bad {xs : List Int} {i : Nat} {x : Int} (hx : xs[i]? = some x) (h : isSet x = false) : setsB xs = false := by
  cases hs : setsB xs with
  | false => rfl
  | true => rw [List.all_eq_true.1 hs x (List.mem_of_getElem? hx)] at h; cases h
theorem setsB_good {xs : List Int} (h : ∀ (i : Nat) (x : Int), xs[i]? = some x → isSet x = true) : setsB xs = true := by
  refine List.all_eq_true.2 fun x hx => ?_
  obtain ⟨i, hi⟩ := List.getElem?_of_mem hx
  exact h i x hi

/-! edges as a list -/
theorem edgesTo_mem {t : Nat → Bool} {v : Bool} {x : Int} : ∀ k, x ∈ edgesTo t v k ↔ ∃ s : Nat, s < k ∧ edgeB t v s = true ∧ x = (s : Int) := by
  intro k
  induction k with
  | zero => simp [edgesTo]
  | succ k ih =>
    rw [edgesTo]
    split
    · rename_i he
      rw [List.mem_append, ih]
      constructor
      · rintro (⟨s, hs, h1, h2⟩ | h)
        · exact ⟨s, by omega, h1, h2⟩
        · simp only [List.mem_singleton] at h; exact ⟨k, by omega, he, h⟩
      · rintro ⟨s, hs, h1, h2⟩
        by_cases e : s = k
        · subst e; exact .inr (by simp [h2])
        · exact .inl ⟨s, by omega, h1, h2⟩
    · rename_i he
      rw [ih]
      constructor
      · rintro ⟨s, hs, h1, h2⟩; exact ⟨s, by omega, h1, h2⟩
      · rintro ⟨s, hs, h1, h2⟩
        by_cases e : s = k
        · subst e; exact absurd h1 he
        · exact ⟨s, by omega, h1, h2⟩
theorem edges_mem {t : Nat → Bool} {v : Bool} {x : Int} : x ∈ edges t v ↔ ∃ s : Nat, s < 64 ∧ edgeB t v s = true ∧ x = (s : Int) := edgesTo_mem 64
theorem edgesTo_asc (t : Nat → Bool) (v : Bool) : ∀ k, (edgesTo t v k).Pairwise (· < ·) := by
  intro k
  induction k with
  | zero => simp [edgesTo]
  | succ k ih =>
    rw [edgesTo]
    split
    · refine List.pairwise_append.2 ⟨ih, by simp, fun a ha b hb => ?_⟩
      obtain ⟨s, hs, -, rfl⟩ := (edgesTo_mem k).1 ha
      simp only [List.mem_singleton] at hb
      omega
    · exact ih
theorem edges_asc (t : Nat → Bool) (v : Bool) : (edges t v).Pairwise (· < ·) := edgesTo_asc t v 64
theorem asc_ext : ∀ {l m : List Int}, l.Pairwise (· < ·) → m.Pairwise (· < ·) → (∀ x, x ∈ l ↔ x ∈ m) → l = m := by
  intro l
  induction l with
  | nil =>
    intro m _ _ h
    cases m with
    | nil => rfl
    | cons b m => exact absurd ((h b).2 (by simp)) (by simp)
  | cons a l ih =>
    intro m hl hm h
    cases m with
    | nil => exact absurd ((h a).1 (by simp)) (by simp)
    | cons b m =>
      obtain ⟨ha, hl'⟩ := List.pairwise_cons.1 hl
      obtain ⟨hb, hm'⟩ := List.pairwise_cons.1 hm
      have hab : a = b := by
        rcases List.mem_cons.1 ((h a).1 (by simp)) with e | e
        · exact e
        · rcases List.mem_cons.1 ((h b).2 (by simp)) with e2 | e2
          · exact e2.symm
          · have := hb a e; have := ha b e2; omega
      subst hab
      congr 1
      refine ih hl' hm' fun x => ?_
      constructor
      · intro hx
        rcases List.mem_cons.1 ((h x).1 (List.mem_cons_of_mem _ hx)) with e | e
        · subst e; have := ha x hx; omega
        · exact e
      · intro hx
        rcases List.mem_cons.1 ((h x).2 (List.mem_cons_of_mem _ hx)) with e | e
        · subst e; have := hb x hx; omega
        · exact e

/-! parts -/
theorem part_facts : ((List.range 64).all fun a => (List.range 64).all fun b => (!(a &&& b == a) || a == b || (List.range 6).any fun i => b.testBit i && (a &&& (b ^^^ 2 ^ i) == a)) && (List.range 6).all fun i => !(b.testBit i && (a &&& (b ^^^ 2 ^ i) == a)) || ((a &&& b == a) && !(a == b))) = true := by kernel_rfl
theorem part_less {a b : Nat} (ha : a < 64) (hb : b < 64) (h : a &&& b = a) (hne : a ≠ b) : ∃ i, i < 6 ∧ b.testBit i = true ∧ a &&& (b ^^^ 2 ^ i) = a := by
  have h1 := List.all_eq_true.1 (List.all_eq_true.1 part_facts a (List.mem_range.2 ha)) b (List.mem_range.2 hb)
  rw [Bool.and_eq_true] at h1
  have h2 := h1.1
  simp only [h, BEq.rfl, Bool.not_true, Bool.false_or, Bool.or_eq_true, beq_iff_eq, List.any_eq_true, List.mem_range, Bool.and_eq_true] at h2
  rcases h2 with h2 | ⟨i, hi, h3, h4⟩
  · exact absurd h2 hne
  · exact ⟨i, hi, h3, h4⟩
theorem part_more {a b i : Nat} (ha : a < 64) (hb : b < 64) (hi : i < 6) (ht : b.testBit i = true) (h : a &&& (b ^^^ 2 ^ i) = a) : a &&& b = a ∧ a ≠ b := by
  have h1 := List.all_eq_true.1 (List.all_eq_true.1 part_facts a (List.mem_range.2 ha)) b (List.mem_range.2 hb)
  rw [Bool.and_eq_true] at h1
  have h2 := List.all_eq_true.1 h1.2 i (List.mem_range.2 hi)
  simpa [ht, h] using h2
theorem edge_iff {t : Nat → Bool} {s : Nat} (hs : s < 64) : edgeB t true s = true ↔ t s = true ∧ ∀ i, i < 6 → s.testBit i = true → t (s ^^^ 2 ^ i) = false := by
  rw [edgeB, Bool.and_eq_true, edgeTo_iff]
  constructor
  · rintro ⟨h1, h2⟩
    refine ⟨by simpa using h2, fun i hi hb => ?_⟩
    obtain ⟨-, -, c, -, -, -⟩ := bit_yes hs hi hb
    have c' : decide (s ^^^ 2 ^ i < s) = true := by simpa using c
    have := h1 i hi
    simpa [hitB, c'] using this
  · rintro ⟨h1, h2⟩
    refine ⟨fun i hi => ?_, by simpa using h1⟩
    cases hb : s.testBit i with
    | true => simp [hitB, h2 i hi hb]
    | false =>
      obtain ⟨-, -, c, -⟩ := bit_no hs hi hb
      have c' : decide (s ^^^ 2 ^ i < s) = false := by simpa using c
      simp [hitB, c']
theorem nat_of {x : Int} (h : 0 ≤ x ∧ x ≤ 63) : ((x.toNat : Nat) : Int) = x ∧ x.toNat < 64 := by omega
/-- A least member is one of the sets. -/
theorem edge_among {xs : List Int} (hx : setsB xs = true) {s : Nat} (hs : s < 64) (h : edgeB (hasB xs) true s = true) : (s : Int) ∈ xs := by
  obtain ⟨h1, h2⟩ := (edge_iff hs).1 h
  obtain ⟨x, hm, hp⟩ := List.any_eq_true.1 h1
  obtain ⟨hx1, hx2⟩ := nat_of (setsB_mem hx hm)
  have hp' : x.toNat &&& s = x.toNat := by simpa [partB] using hp
  by_cases e : x.toNat = s
  · rw [← e, hx1]; exact hm
  · obtain ⟨i, hi, hb, hq⟩ := part_less hx2 hs hp' e
    have := h2 i hi hb
    rw [show hasB xs (s ^^^ 2 ^ i) = true from List.any_eq_true.2 ⟨x, hm, by simp [partB, hq]⟩] at this
    cases this
/-- No least member is a part of another one. -/
theorem edges_apart {t : Nat → Bool} {xs : List Int} (ht : t = hasB xs) (hx : setsB xs = true) {x y : Int} (h1 : x ∈ edges t true) (h2 : y ∈ edges t true) (hp : partB x y.toNat = true) : x = y := by
  subst ht
  obtain ⟨a, ha, ea, rfl⟩ := edges_mem.1 h1
  obtain ⟨b, hb, eb, rfl⟩ := edges_mem.1 h2
  have hp' : a &&& b = a := by simpa [partB] using hp
  by_cases e : a = b
  · rw [e]
  · obtain ⟨i, hi, hbit, hq⟩ := part_less ha hb hp' e
    have := ((edge_iff hb).1 eb).2 i hi hbit
    rw [show hasB xs (b ^^^ 2 ^ i) = true from List.any_eq_true.2 ⟨(a : Int), edge_among hx ha ea, by simp [partB, hq]⟩] at this
    cases this
theorem pair_at {l : List Int} (h : l.Pairwise (· < ·)) {i j : Nat} {x y : Int} (hij : i < j) (hx : l[i]? = some x) (hy : l[j]? = some y) : x < y := by
  obtain ⟨hi, rfl⟩ := List.getElem?_eq_some_iff.1 hx
  obtain ⟨hj, rfl⟩ := List.getElem?_eq_some_iff.1 hy
  exact List.pairwise_iff_getElem.1 h i j hi hj hij
theorem fam_yes {xs : List Int} (h : famB xs = true) : setsB xs = true ∧ leastOf xs = xs := by
  rw [famB, Bool.and_eq_true] at h
  exact ⟨h.1, by simpa using h.2⟩
theorem fam_asc {xs : List Int} (h : famB xs = true) : xs.Pairwise (· < ·) := by
  obtain ⟨h1, h2⟩ := fam_yes h
  rw [← h2]
  exact edges_asc _ _
theorem fam_apart {xs : List Int} (h : famB xs = true) {x y : Int} (hx : x ∈ xs) (hy : y ∈ xs) (hp : partB x y.toNat = true) : x = y := by
  obtain ⟨h1, h2⟩ := fam_yes h
  refine edges_apart (t := hasB xs) rfl h1 ?_ ?_ hp
  · show x ∈ leastOf xs; rw [h2]; exact hx
  · show y ∈ leastOf xs; rw [h2]; exact hy
theorem fam_bad_set {xs : List Int} {i : Nat} {x : Int} (hx : xs[i]? = some x) (h : isSet x = false) : famB xs = false := by rw [famB, setsB_bad hx h]; rfl
theorem fam_bad_order {xs : List Int} {i : Nat} {x y : Int} (hx : xs[i]? = some x) (hy : xs[i + 1]? = some y) (h : y ≤ x) : famB xs = false := by
  cases hf : famB xs with
  | false => rfl
  | true => have := pair_at (fam_asc hf) (Nat.lt_succ_self i) hx hy; omega
theorem fam_bad_part {xs : List Int} {i j : Nat} {x y : Int} (hij : i < j) (hx : xs[i]? = some x) (hy : xs[j]? = some y) (h : partB x y.toNat = true) : famB xs = false := by
  cases hf : famB xs with
  | false => rfl
  | true =>
    have h1 := pair_at (fam_asc hf) hij hx hy
    have h2 := fam_apart hf (List.mem_of_getElem? hx) (List.mem_of_getElem? hy) h
    omega
theorem fam_good {xs : List Int} (hs : setsB xs = true) (ho : ∀ (i : Nat) (x y : Int), xs[i]? = some x → xs[i + 1]? = some y → x < y)
    (hp : ∀ (i j : Nat) (x y : Int), i < j → xs[i]? = some x → xs[j]? = some y → partB x y.toNat = false) : famB xs = true := by
  have hasc : xs.Pairwise (· < ·) := by
    refine List.pairwise_iff_getElem.2 fun i j hi hj hij => ?_
    obtain ⟨d, rfl⟩ : ∃ d, j = i + 1 + d := ⟨j - i - 1, by omega⟩
    clear hij
    induction d with
    | zero => exact ho i _ _ (List.getElem?_eq_getElem hi) (List.getElem?_eq_getElem hj)
    | succ d ih =>
      have h1 := ih (by omega)
      have h2 := ho (i + 1 + d) xs[i + 1 + d] _ (List.getElem?_eq_getElem (by omega)) (List.getElem?_eq_getElem hj)
      exact Int.lt_trans h1 h2
  have hap : ∀ x ∈ xs, ∀ y ∈ xs, partB x y.toNat = true → x = y := by
    intro x hx y hy h
    obtain ⟨i, hi⟩ := List.getElem?_of_mem hx
    obtain ⟨j, hj⟩ := List.getElem?_of_mem hy
    rcases Nat.lt_trichotomy i j with hij | rfl | hij
    · rw [hp i j x y hij hi hj] at h; cases h
    · rw [hi] at hj; cases hj; rfl
    · have h1 := pair_at hasc hij hj hi
      obtain ⟨hx1, hx2⟩ := nat_of (setsB_mem hs hx)
      obtain ⟨hy1, hy2⟩ := nat_of (setsB_mem hs hy)
      have h2 : x.toNat &&& y.toNat = x.toNat := by simpa [partB] using h
      have h3 : x.toNat ≤ y.toNat := by rw [← h2]; exact Nat.and_le_right
      omega
  rw [famB, hs, Bool.true_and, decide_eq_true_eq]
  refine asc_ext (edges_asc _ _) hasc fun x => ?_
  constructor
  · intro h
    obtain ⟨s, h1, h2, rfl⟩ := edges_mem.1 h
    exact edge_among hs h1 h2
  · intro h
    obtain ⟨hx1, hx2⟩ := nat_of (setsB_mem hs h)
    refine edges_mem.2 ⟨x.toNat, hx2, (edge_iff hx2).2 ⟨List.any_eq_true.2 ⟨x, h, by simp [partB]⟩, fun i hi hb => ?_⟩, hx1.symm⟩
    cases hh : hasB xs (x.toNat ^^^ 2 ^ i) with
    | false => rfl
    | true =>
      obtain ⟨y, hy, hq⟩ := List.any_eq_true.1 hh
      obtain ⟨hy1, hy2⟩ := nat_of (setsB_mem hs hy)
      have hq' : y.toNat &&& (x.toNat ^^^ 2 ^ i) = y.toNat := by simpa [partB] using hq
      obtain ⟨h3, h4⟩ := part_more hy2 hx2 hi hb hq'
      have h5 := hap y hy x h (by simp [partB, h3])
      exact absurd (congrArg Int.toNat h5) h4
theorem leastOf_le (xs : List Int) : (leastOf xs).length ≤ 64 := edges_le _ _
theorem fam_le {xs : List Int} (h : famB xs = true) : xs.length ≤ 64 := by rw [← (fam_yes h).2]; exact leastOf_le xs
theorem fam_sets {xs : List Int} (h : famB xs = true) : setsB xs = true := (fam_yes h).1

end Go.Proofs.YtobjifggelmhcaaGreat.Plain
