/- Plain mathematics: fractions in lowest terms; the mean length of games and the chance that it is odd. Conditions: sets from 0 to 63; tables that fall for more when they fall for less. -/
import Derived.Test.YtpaijobmoddgpabGameLen
namespace Go.Proofs.Ytpaijobmoddgpab.Plain
set_option linter.unusedVariables false

/-- A fraction in lowest terms. -/
def low (x y : Nat) : Nat × Nat := (x / Nat.gcd x y, y / Nat.gcd x y)
theorem low_mul (x y : Nat) {k : Nat} (hk : 0 < k) : low (x * k) (y * k) = low x y := by
  unfold low
  rw [Nat.gcd_mul_right, Nat.mul_div_mul_right _ _ hk, Nat.mul_div_mul_right _ _ hk]
theorem low_parts (x : Nat) {y : Nat} (hy : 0 < y) : ∃ g, 0 < g ∧ x = (low x y).1 * g ∧ y = (low x y).2 * g :=
  ⟨Nat.gcd x y, Nat.gcd_pos_of_pos_right _ hy, (Nat.div_mul_cancel (Nat.gcd_dvd_left x y)).symm, (Nat.div_mul_cancel (Nat.gcd_dvd_right x y)).symm⟩
theorem low_pos (x : Nat) {y : Nat} (hy : 0 < y) : 0 < (low x y).2 := by
  obtain ⟨g, h1, h2, h3⟩ := low_parts x hy
  rcases Nat.eq_zero_or_pos (low x y).2 with h | h
  · rw [h] at h3; omega
  · exact h
theorem low_le (x y : Nat) : (low x y).1 ≤ x ∧ (low x y).2 ≤ y := ⟨Nat.div_le_self _ _, Nat.div_le_self _ _⟩
theorem low_less {x y : Nat} (hy : 0 < y) (h : x ≤ y) : (low x y).1 ≤ (low x y).2 := Nat.div_le_div_right h
theorem low_zero {y : Nat} (hy : 0 < y) : low 0 y = (0, 1) := by
  unfold low
  rw [Nat.gcd_zero_left, Nat.zero_div, Nat.div_self hy]
theorem low_same {y : Nat} (hy : 0 < y) : low y y = (1, 1) := by
  unfold low
  rw [Nat.gcd_self, Nat.div_self hy]
/-- A fraction of lowest terms shared out among c. -/
theorem low_share (x : Nat) {y : Nat} (hy : 0 < y) (c : Nat) : low (low x y).1 ((low x y).2 * c) = low x (y * c) := by
  obtain ⟨g, h1, h2, h3⟩ := low_parts x hy
  generalize low x y = l at h2 h3 ⊢
  subst h2; subst h3
  rw [Nat.mul_right_comm l.2 g c, low_mul _ _ h1]
/-- What lacks to 1, shared out among c. -/
theorem low_rest (x : Nat) {y : Nat} (hy : 0 < y) (c : Nat) : low ((low x y).2 - (low x y).1) ((low x y).2 * c) = low (y - x) (y * c) := by
  obtain ⟨g, h1, h2, h3⟩ := low_parts x hy
  generalize low x y = l at h2 h3 ⊢
  subst h2; subst h3
  rw [← Nat.sub_mul, Nat.mul_right_comm l.2 g c, low_mul _ _ h1]
/-- The sum of two fractions over one denominator. -/
theorem low_plus (x z : Nat) {y : Nat} (hy : 0 < y) : low ((low x y).1 * (low z y).2 + (low z y).1 * (low x y).2) ((low x y).2 * (low z y).2) = low (x + z) y := by
  obtain ⟨g, h1, h2, h3⟩ := low_parts x hy
  obtain ⟨k, k1, k2, k3⟩ := low_parts z hy
  have e1 : low (x + z) y = low ((x + z) * y) (y * y) := (low_mul _ _ hy).symm
  generalize low x y = l at h2 h3 e1 ⊢
  generalize low z y = r at k2 k3 e1 ⊢
  have hgk : 0 < g * k := Nat.mul_pos h1 k1
  rw [e1, ← low_mul _ (l.2 * r.2) hgk]
  congr 1
  · rw [Nat.add_mul, Nat.add_mul, Nat.add_comm (x * y)]
    have a1 : l.1 * r.2 * (g * k) = (l.1 * g) * (r.2 * k) := by simp only [Nat.mul_comm, Nat.mul_left_comm]
    have a2 : r.1 * l.2 * (g * k) = (r.1 * k) * (l.2 * g) := by simp only [Nat.mul_comm, Nat.mul_left_comm]
    rw [a1, a2, ← h2, ← k2, ← h3, ← k3, Nat.add_comm]
  · have a1 : l.2 * r.2 * (g * k) = (l.2 * g) * (r.2 * k) := by simp only [Nat.mul_comm, Nat.mul_left_comm]
    rw [a1, ← h3, ← k3]

/-! the mean -/
/-- The lengths of all orders, added up. -/
def meanN (t : Nat → Bool) (m s : Nat) : Nat := ((List.range 7).map (Hn t m s)).sum
theorem range7 (f : Nat → Nat) : ((List.range 7).map f).sum = f 0 + f 1 + f 2 + f 3 + f 4 + f 5 + f 6 := by
  simp only [show List.range 7 = [0, 1, 2, 3, 4, 5, 6] from rfl, List.map_cons, List.map_nil, List.sum_cons, List.sum_nil]
  omega
theorem meanN_fallen {t : Nat → Bool} (hmo : Mono t) {m s : Nat} (hs : s < 64) (h1 : sub s m = true) (h : t s = true) : meanN t m s = 0 := by
  unfold meanN
  rw [sum_cong (g := fun _ => 0) fun k _ => Hn_fallen hmo k s hs h1 h, sum_zero]
theorem Hn_last {t : Nat → Bool} {m s p : Nat} (h : p ∈ inP m s) : Hn t m (s ||| 2 ^ p) 6 = 0 := Hn_past _ _ (by have := cnt_or h; have := cnt_le m s; omega)
theorem meanN_step {t : Nat → Bool} {m s : Nat} (hs : s < 64) (h1 : sub s m = true) (h : t s = false) : meanN t m s = fact (cnt m s) + ((inP m s).map fun p => meanN t m (s ||| 2 ^ p)).sum := by
  have e0 : Hn t m s 0 = fact (cnt m s) := by rw [Hn_zero hs h1, if_neg (by rw [h]; simp)]
  have e1 : ((inP m s).map fun p => meanN t m (s ||| 2 ^ p)).sum = ((inP m s).map fun p => Hn t m (s ||| 2 ^ p) 0 + (Hn t m (s ||| 2 ^ p) 1 + (Hn t m (s ||| 2 ^ p) 2 + (Hn t m (s ||| 2 ^ p) 3 + (Hn t m (s ||| 2 ^ p) 4 + Hn t m (s ||| 2 ^ p) 5))))).sum := sum_cong fun p hp => by
    show meanN t m (s ||| 2 ^ p) = _
    unfold meanN
    rw [range7, Hn_last hp]; omega
  rw [e1]
  unfold meanN
  rw [range7, e0, Hn_step 0, Hn_step 1, Hn_step 2, Hn_step 3, Hn_step 4, Hn_step 5, sum_add, sum_add, sum_add, sum_add, sum_add]
  omega
theorem fact_step {c : Nat} (h : 0 < c) : fact (c - 1) * c = fact c := by
  obtain ⟨k, rfl⟩ : ∃ k, c = k + 1 := ⟨c - 1, by omega⟩
  rfl
theorem Hn_720 {t : Nat → Bool} {m s : Nat} (k : Nat) (hs : s < 64) (h1 : sub s m = true) : Hn t m s k ≤ 720 := Nat.le_trans (Hn_le k s hs h1) (fact_le (cnt_le m s))
theorem meanN_le {t : Nat → Bool} {m s : Nat} (hs : s < 64) (h1 : sub s m = true) : meanN t m s ≤ 5040 := by
  unfold meanN
  have := sum_le (l := List.range 7) (f := Hn t m s) (c := 720) fun k _ => Hn_720 k hs h1
  simp only [List.length_range] at this
  omega

/-! the chance that it is odd -/
def evN (t : Nat → Bool) (m s : Nat) : Nat := Hn t m s 0 + (Hn t m s 2 + (Hn t m s 4 + Hn t m s 6))
def odN (t : Nat → Bool) (m s : Nat) : Nat := Hn t m s 1 + (Hn t m s 3 + Hn t m s 5)
theorem evN_step {t : Nat → Bool} {m s : Nat} (hs : s < 64) (h1 : sub s m = true) (h : t s = false) : evN t m s = fact (cnt m s) + ((inP m s).map fun p => odN t m (s ||| 2 ^ p)).sum := by
  have e0 : Hn t m s 0 = fact (cnt m s) := by rw [Hn_zero hs h1, if_neg (by rw [h]; simp)]
  unfold evN odN
  rw [e0, Hn_step 1, Hn_step 3, Hn_step 5, sum_add, sum_add]
theorem odN_step {t : Nat → Bool} {m s : Nat} : odN t m s = ((inP m s).map fun p => evN t m (s ||| 2 ^ p)).sum := by
  have e1 : ((inP m s).map fun p => evN t m (s ||| 2 ^ p)).sum = ((inP m s).map fun p => Hn t m (s ||| 2 ^ p) 0 + (Hn t m (s ||| 2 ^ p) 2 + Hn t m (s ||| 2 ^ p) 4)).sum := sum_cong fun p hp => by
    show evN t m (s ||| 2 ^ p) = _
    unfold evN
    rw [Hn_last hp]; omega
  rw [e1]
  unfold odN
  rw [Hn_step 0, Hn_step 2, Hn_step 4, sum_add, sum_add]
theorem sum_mono {α : Type} {f g : α → Nat} : ∀ {l : List α}, (∀ x ∈ l, f x ≤ g x) → (l.map f).sum ≤ (l.map g).sum
  | [], _ => Nat.le_refl _
  | x :: l, h => by
    simp only [List.map_cons, List.sum_cons]
    exact Nat.add_le_add (h x List.mem_cons_self) (sum_mono fun y hy => h y (List.mem_cons_of_mem _ hy))
theorem sum_const {α : Type} (c : Nat) : ∀ l : List α, (l.map fun _ => c).sum = l.length * c
  | [] => by simp
  | x :: l => by simp only [List.map_cons, List.sum_cons, sum_const c l, List.length_cons, Nat.add_mul, Nat.one_mul]; omega
theorem odd_both {t : Nat → Bool} (hmo : Mono t) {m : Nat} : ∀ c s, cnt m s ≤ c → s < 64 → sub s m = true → odN t m s ≤ evN t m s ∧ evN t m s ≤ odN t m s + fact (cnt m s)
  | c, s, hc, hs, h1 => by
    cases hts : t s with
    | true =>
      have e : ∀ k, Hn t m s k = 0 := fun k => Hn_fallen hmo k s hs h1 hts
      unfold evN odN
      simp only [e]; omega
    | false =>
      rw [evN_step hs h1 hts, odN_step]
      have ih : ∀ p ∈ inP m s, odN t m (s ||| 2 ^ p) ≤ evN t m (s ||| 2 ^ p) ∧ evN t m (s ||| 2 ^ p) ≤ odN t m (s ||| 2 ^ p) + fact (cnt m s - 1) := fun p hp => by
        have hl := cnt_or hp
        match c, hc with
        | 0, hc => omega
        | c' + 1, hc =>
          have := odd_both hmo c' (s ||| 2 ^ p) (by omega) (or_lt hs (mem_inP.1 hp).1) (sub_more h1 hp)
          rw [show cnt m s - 1 = cnt m (s ||| 2 ^ p) by omega]
          exact this
      have a1 := sum_mono (l := inP m s) fun p hp => (ih p hp).1
      have a2 := sum_mono (l := inP m s) fun p hp => (ih p hp).2
      rw [sum_add, sum_const] at a2
      have a3 : (inP m s).length * fact (cnt m s - 1) ≤ fact (cnt m s) := by
        show cnt m s * _ ≤ _
        rcases Nat.eq_zero_or_pos (cnt m s) with h | h
        · rw [h]; omega
        · rw [Nat.mul_comm, fact_step h]; omega
      omega
/-- Over all orders: how many lengths are odd. -/
def oddN (t : Nat → Bool) (m s : Nat) : Nat := evN t m s - odN t m s
theorem oddN_le {t : Nat → Bool} (hmo : Mono t) {m s : Nat} (hs : s < 64) (h1 : sub s m = true) : oddN t m s ≤ fact (cnt m s) := by
  have := odd_both hmo _ s (Nat.le_refl _) hs h1
  unfold oddN; omega
theorem oddN_is {t : Nat → Bool} (hmo : Mono t) {m s : Nat} (hs : s < 64) (h1 : sub s m = true) : (oddN t m s : Int) = (evN t m s : Int) - (odN t m s : Int) := by
  have := odd_both hmo _ s (Nat.le_refl _) hs h1
  unfold oddN; omega
theorem oddN_fallen {t : Nat → Bool} (hmo : Mono t) {m s : Nat} (hs : s < 64) (h1 : sub s m = true) (h : t s = true) : oddN t m s = 0 := by
  have e : ∀ k, Hn t m s k = 0 := fun k => Hn_fallen hmo k s hs h1 h
  unfold oddN evN odN
  simp only [e]
theorem oddN_step {t : Nat → Bool} (hmo : Mono t) {m s : Nat} (hs : s < 64) (h1 : sub s m = true) (h : t s = false) (hne : inP m s ≠ []) : oddN t m s = ((inP m s).map fun p => fact (cnt m s - 1) - oddN t m (s ||| 2 ^ p)).sum := by
  have e : ∀ p ∈ inP m s, (fact (cnt m s - 1) - oddN t m (s ||| 2 ^ p)) + evN t m (s ||| 2 ^ p) = fact (cnt m s - 1) + odN t m (s ||| 2 ^ p) := fun p hp => by
    have hl := cnt_or hp
    have hb := odd_both hmo _ (s ||| 2 ^ p) (Nat.le_refl _) (or_lt hs (mem_inP.1 hp).1) (sub_more h1 hp)
    rw [show cnt m s - 1 = cnt m (s ||| 2 ^ p) by omega]
    unfold oddN; omega
  have e2 := sum_cong (l := inP m s) e
  rw [sum_add, sum_add, sum_const] at e2
  have hc : 0 < cnt m s := List.length_pos_iff.2 hne
  have a3 : (inP m s).length * fact (cnt m s - 1) = fact (cnt m s) := by
    show cnt m s * _ = _
    rw [Nat.mul_comm, fact_step hc]
  have hb := odd_both hmo _ s (Nat.le_refl _) hs h1
  rw [evN_step hs h1 h, odN_step] at hb
  show evN t m s - odN t m s = _
  rw [evN_step hs h1 h, odN_step]
  omega
end Go.Proofs.Ytpaijobmoddgpab.Plain
