/- Plain mathematics: the orders of nails in which a word still hangs, counted; the lengths of games and their means. Conditions: sets from 0 to 63; tables that fall for more when they fall for less. -/
import Derived.Test.YtpaijobmoddgpabGameMath
namespace Go.Proofs.Ytpaijobmoddgpab.Plain
set_option linter.unusedVariables false

def fact : Nat → Nat
  | 0 => 1
  | k + 1 => fact k * (k + 1)
theorem fact_pos : ∀ k, 0 < fact k
  | 0 => Nat.one_pos
  | k + 1 => Nat.mul_pos (fact_pos k) (Nat.succ_pos k)
theorem fact_le {k : Nat} (h : k ≤ 6) : fact k ≤ 720 := by
  have : k = 0 ∨ k = 1 ∨ k = 2 ∨ k = 3 ∨ k = 4 ∨ k = 5 ∨ k = 6 := by omega
  rcases this with rfl | rfl | rfl | rfl | rfl | rfl | rfl <;> decide

/-! sums over lists -/
theorem sum_add {α : Type} (f g : α → Nat) : ∀ l : List α, (l.map fun x => f x + g x).sum = (l.map f).sum + (l.map g).sum
  | [] => rfl
  | x :: l => by simp only [List.map_cons, List.sum_cons, sum_add f g l]; omega
theorem sum_zero {α : Type} : ∀ l : List α, (l.map fun _ => 0).sum = 0
  | [] => rfl
  | x :: l => by simp only [List.map_cons, List.sum_cons, sum_zero l]
theorem sum_swap {α β : Type} (f : α → β → Nat) (r : List β) : ∀ l : List α, (l.map fun x => (r.map (f x)).sum).sum = (r.map fun y => (l.map fun x => f x y).sum).sum
  | [] => by simp only [List.map_nil, List.sum_nil]; exact (sum_zero r).symm
  | x :: l => by
    simp only [List.map_cons, List.sum_cons]
    rw [sum_swap f r l, ← sum_add]
theorem sum_cong {α : Type} {f g : α → Nat} {l : List α} (h : ∀ x ∈ l, f x = g x) : (l.map f).sum = (l.map g).sum := by
  rw [List.map_congr_left h]
theorem sum_if {α : Type} (b : Bool) (g : α → Bool) (c : Nat) : ∀ l : List α, (l.map fun x => if (b && g x) = true then c else 0).sum = if b = true then (l.filter g).length * c else 0
  | [] => by simp
  | x :: l => by
    simp only [List.map_cons, List.sum_cons, sum_if b g c l]
    cases b <;> cases h : g x <;> simp [h, Nat.add_mul, Nat.add_comm]
theorem sum_le {α : Type} {f : α → Nat} {c : Nat} : ∀ {l : List α}, (∀ x ∈ l, f x ≤ c) → (l.map f).sum ≤ l.length * c
  | [], _ => by simp
  | x :: l, h => by
    simp only [List.map_cons, List.sum_cons, List.length_cons, Nat.add_mul, Nat.one_mul]
    have h1 := h x List.mem_cons_self
    have h2 := sum_le (l := l) fun y hy => h y (List.mem_cons_of_mem _ hy)
    omega
theorem sum_one {c s : Nat} : ∀ n, s < n → ((List.range n).map fun x => if x = s then c else 0).sum = c
  | 0, h => by omega
  | n + 1, h => by
    rw [List.range_succ, List.map_append, List.sum_append]
    by_cases e : s = n
    · subst e
      have : ((List.range s).map fun x => if x = s then c else 0).sum = 0 := by
        rw [sum_cong (g := fun _ => 0) fun x hx => if_neg (by have := List.mem_range.1 hx; omega), sum_zero]
      rw [this]; simp
    · rw [sum_one n (by omega)]
      simp; omega

/-! bits -/
theorem bit_clrL (s q p : Nat) : (clr s q).testBit p = (s.testBit p && !q.testBit p) := by
  rw [clr, Nat.testBit_xor, Nat.testBit_and]
  cases s.testBit p <;> cases q.testBit p <;> rfl
theorem manyTo_len (s : Nat) : ∀ k, manyTo s k = ((List.range k).filter s.testBit).length
  | 0 => rfl
  | k + 1 => by
    rw [manyTo, manyTo_len s k, List.range_succ, List.filter_append, List.length_append]
    cases h : s.testBit k <;> simp [h]
theorem many_len (s : Nat) : many s = ((List.range 6).filter s.testBit).length := manyTo_len s 6
theorem cnt_many (m s : Nat) : cnt m s = many (clr m s) := by
  rw [many_len, cnt, inP]
  congr 1
  exact List.filter_congr fun p _ => (bit_clrL m s p).symm
/-- All nails of a are in b. -/
def sub (a b : Nat) : Bool := clr a b == 0
theorem sub_bit {a b : Nat} (h : sub a b = true) {p : Nat} (hp : a.testBit p = true) : b.testBit p = true := by
  have e : clr a b = 0 := by simpa [sub] using h
  have := bit_clrL a b p
  rw [e, Nat.zero_testBit, hp] at this
  simpa using this.symm
theorem sub_of {a b : Nat} (h : ∀ p, a.testBit p = true → b.testBit p = true) : sub a b = true := by
  have e : clr a b = 0 := Nat.eq_of_testBit_eq fun p => by
    rw [bit_clrL, Nat.zero_testBit]
    cases ha : a.testBit p with
    | false => rfl
    | true => rw [h p ha]; rfl
  simp [sub, e]
theorem sub_or {s p S : Nat} (hp : s.testBit p = false) : sub (s ||| 2 ^ p) S = (sub s S && S.testBit p) := by
  rw [Bool.eq_iff_iff, Bool.and_eq_true]
  constructor
  · intro h
    exact ⟨sub_of fun q hq => sub_bit h (by rw [or_bit, hq]; rfl), sub_bit h (by rw [or_bit]; simp)⟩
  · rintro ⟨h1, h2⟩
    refine sub_of fun q hq => ?_
    rw [or_bit, Bool.or_eq_true, decide_eq_true_eq] at hq
    rcases hq with hq | rfl
    · exact sub_bit h1 hq
    · exact h2
theorem many_filter {a : Nat} {p : Nat} (hp : p < 6) (ha : a.testBit p = true) {b : Nat} (hb : ∀ q, b.testBit q = (a.testBit q && !decide (p = q))) : many a = many b + 1 := by
  rw [many_len, many_len]
  have h1 : (List.range 6).filter b.testBit = ((List.range 6).filter a.testBit).filter fun q => !decide (p = q) := by
    rw [List.filter_filter]
    exact List.filter_congr fun q _ => by rw [hb, Bool.and_comm]
  rw [h1]
  have h2 : p ∈ (List.range 6).filter a.testBit := List.mem_filter.2 ⟨List.mem_range.2 hp, ha⟩
  have h3 : ((List.range 6).filter a.testBit).Nodup := List.Pairwise.filter _ List.nodup_range
  generalize (List.range 6).filter a.testBit = l at h2 h3
  clear h1 hb ha
  induction l with
  | nil => cases h2
  | cons x l ih =>
    obtain ⟨n1, n2⟩ := List.nodup_cons.1 h3
    by_cases e : p = x
    · subst e
      have : l.filter (fun q => !decide (p = q)) = l := List.filter_eq_self.2 fun q hq => by
        have : p ≠ q := fun e => n1 (e ▸ hq)
        simpa using this
      rw [List.filter_cons, if_neg (by simp), this]
      rfl
    · have hm : p ∈ l := by
        rcases List.mem_cons.1 h2 with h | h
        · exact absurd h e
        · exact h
      rw [List.filter_cons, if_pos (by simpa using e)]
      simp only [List.length_cons]
      rw [ih hm n2]
theorem many_or {s p S : Nat} (hp : p < 6) (hs : s.testBit p = false) (hS : S.testBit p = true) : many (clr S s) = many (clr S (s ||| 2 ^ p)) + 1 :=
  many_filter hp (by rw [bit_clrL, hS, hs]; rfl) fun q => by
    rw [bit_clrL, bit_clrL, or_bit]
    cases S.testBit q <;> cases s.testBit q <;> simp
theorem cnt_or {m s p : Nat} (h : p ∈ inP m s) : cnt m s = cnt m (s ||| 2 ^ p) + 1 := by
  obtain ⟨h1, h2, h3⟩ := mem_inP.1 h
  rw [cnt_many, cnt_many]
  exact many_or h1 h3 h2
theorem sub_more {m s p : Nat} (hs : sub s m = true) (h : p ∈ inP m s) : sub (s ||| 2 ^ p) m = true := by
  obtain ⟨h1, h2, h3⟩ := mem_inP.1 h
  rw [sub_or h3, hs, h2]; rfl

/-! the orders in which the word hangs when k nails have been taken out -/
def termH (t : Nat → Bool) (m s k S : Nat) : Nat := if (!t S && sub s S && sub S m && decide (many (clr S s) = k)) = true then fact k * fact (cnt m s - k) else 0
def Hn (t : Nat → Bool) (m s k : Nat) : Nat := ((List.range 64).map (termH t m s k)).sum
theorem eq_of_none {S s : Nat} (hS : S < 64) (hs : sub s S = true) (h : many (clr S s) = 0) : S = s := by
  have hl : ((List.range 6).filter (clr S s).testBit).length = 0 := by rw [← many_len]; exact h
  refine Nat.eq_of_testBit_eq fun q => ?_
  cases h2 : s.testBit q with
  | true => exact sub_bit hs h2
  | false =>
    cases h1 : S.testBit q with
    | false => rfl
    | true =>
      by_cases hq : q < 6
      · have : q ∈ (List.range 6).filter (clr S s).testBit := List.mem_filter.2 ⟨List.mem_range.2 hq, by rw [bit_clrL, h1, h2]; rfl⟩
        have := List.length_pos_of_mem this
        omega
      · have : S < 2 ^ q := Nat.lt_of_lt_of_le hS (Nat.pow_le_pow_right (n := 2) (by omega) (by omega : 6 ≤ q))
        rw [Nat.testBit_lt_two_pow this] at h1
        cases h1
theorem sub_self (s : Nat) : sub s s = true := sub_of fun p h => h
theorem many_self (s : Nat) : many (clr s s) = 0 := by
  have : clr s s = 0 := Nat.eq_of_testBit_eq fun q => by rw [bit_clrL, Nat.zero_testBit]; cases s.testBit q <;> rfl
  rw [this]; decide
theorem Hn_zero {t : Nat → Bool} {m s : Nat} (hs : s < 64) (hm : sub s m = true) : Hn t m s 0 = if t s = true then 0 else fact (cnt m s) := by
  have e : ∀ S ∈ List.range 64, termH t m s 0 S = if S = s then (if t s = true then 0 else fact (cnt m s)) else 0 := fun S hS => by
    have hS := List.mem_range.1 hS
    unfold termH
    by_cases h : S = s
    · subst h
      rw [if_pos rfl, sub_self, hm, many_self]
      cases h2 : t S <;> simp [fact]
    · rw [if_neg h, if_neg]
      intro h2
      simp only [Bool.and_eq_true, decide_eq_true_eq] at h2
      exact h (eq_of_none hS h2.1.1.2 h2.2)
  unfold Hn
  rw [sum_cong e, sum_one 64 hs]
theorem Hn_step {t : Nat → Bool} {m s : Nat} (k : Nat) : Hn t m s (k + 1) = ((inP m s).map fun p => Hn t m (s ||| 2 ^ p) k).sum := by
  unfold Hn
  rw [sum_swap]
  refine sum_cong fun S hS => ?_
  have e : ∀ p ∈ inP m s, termH t m (s ||| 2 ^ p) k S = if ((!t S && sub s S && sub S m && decide (many (clr S s) = k + 1)) && S.testBit p) = true then fact k * fact (cnt m s - (k + 1)) else 0 := fun p hp => by
    obtain ⟨h1, h2, h3⟩ := mem_inP.1 hp
    have hc := cnt_or hp
    unfold termH
    rw [sub_or h3]
    cases hb : S.testBit p with
    | false => simp
    | true =>
      have hm := many_or h1 h3 hb
      rw [show cnt m (s ||| 2 ^ p) - k = cnt m s - (k + 1) by omega, show decide (many (clr S (s ||| 2 ^ p)) = k) = decide (many (clr S s) = k + 1) by rw [hm]; simp]
      simp
  rw [sum_cong e, sum_if]
  unfold termH
  cases hb : (!t S && sub s S && sub S m && decide (many (clr S s) = k + 1)) with
  | false => simp
  | true =>
    simp only [Bool.and_eq_true, decide_eq_true_eq] at hb
    obtain ⟨⟨⟨h1, h2⟩, h3⟩, h4⟩ := hb
    have hl : ((inP m s).filter fun p => S.testBit p).length = k + 1 := by
      rw [← h4, many_len, inP, List.filter_filter]
      congr 1
      refine List.filter_congr fun p _ => ?_
      rw [bit_clrL]
      cases hp : S.testBit p with
      | false => simp
      | true => rw [sub_bit h3 hp]; simp
    rw [if_pos rfl, if_pos rfl, hl, fact]
    rw [Nat.mul_comm (fact k) (k + 1), Nat.mul_assoc]

/-- Falling for more. -/
def Mono (t : Nat → Bool) : Prop := ∀ a q, t a = true → t (a ||| q) = true
theorem Hn_fallen {t : Nat → Bool} (hm : Mono t) {m : Nat} : ∀ k s, s < 64 → sub s m = true → t s = true → Hn t m s k = 0
  | 0, s, hs, h1, h2 => by rw [Hn_zero hs h1, if_pos h2]
  | k + 1, s, hs, h1, h2 => by
    rw [Hn_step, sum_cong (g := fun _ => 0) fun p hp => Hn_fallen hm k _ (or_lt hs (mem_inP.1 hp).1) (sub_more h1 hp) (hm _ _ h2), sum_zero]
theorem Hn_le {t : Nat → Bool} {m : Nat} : ∀ k s, s < 64 → sub s m = true → Hn t m s k ≤ fact (cnt m s)
  | 0, s, hs, h1 => by rw [Hn_zero hs h1]; split <;> omega
  | k + 1, s, hs, h1 => by
    rw [Hn_step]
    cases hc : cnt m s with
    | zero =>
      have : inP m s = [] := List.length_eq_zero_iff.1 hc
      rw [this]; simp
    | succ c =>
      have := sum_le (l := inP m s) (f := fun p => Hn t m (s ||| 2 ^ p) k) (c := fact c) fun p hp => by
        have h2 := Hn_le (t := t) k _ (or_lt hs (mem_inP.1 hp).1) (sub_more h1 hp)
        have h3 := cnt_or hp
        rw [show cnt m (s ||| 2 ^ p) = c by omega] at h2
        exact h2
      have hl : (inP m s).length = c + 1 := hc
      rw [hl] at this
      rw [fact, Nat.mul_comm]
      exact this
theorem Hn_past {t : Nat → Bool} {m : Nat} : ∀ k s, cnt m s < k → Hn t m s k = 0
  | 0, s, h => by omega
  | k + 1, s, h => by
    rw [Hn_step, sum_cong (g := fun _ => 0) fun p hp => Hn_past k _ (by have := cnt_or hp; omega), sum_zero]
theorem sum_pos {α : Type} {f : α → Nat} : ∀ {l : List α}, 0 < (l.map f).sum → ∃ x ∈ l, 0 < f x
  | [], h => by simp at h
  | x :: l, h => by
    simp only [List.map_cons, List.sum_cons] at h
    by_cases h0 : 0 < f x
    · exact ⟨x, List.mem_cons_self, h0⟩
    · obtain ⟨y, hy, hp⟩ := sum_pos (l := l) (f := f) (by omega)
      exact ⟨y, List.mem_cons_of_mem _ hy, hp⟩
theorem sum_has {α : Type} {f : α → Nat} {l : List α} {x : α} (hx : x ∈ l) (h : 0 < f x) : 0 < (l.map f).sum := by
  have := le_sum (l.map f) (f x) (List.mem_map.2 ⟨x, hx, rfl⟩)
  omega
theorem Hn_less {t : Nat → Bool} (hm : Mono t) {m : Nat} (k : Nat) : ∀ s, s < 64 → sub s m = true → 0 < Hn t m s (k + 1) → 0 < Hn t m s k := by
  induction k with
  | zero =>
    intro s hs h1 h
    rw [Hn_zero hs h1]
    have : t s = false := by
      cases ht : t s with
      | false => rfl
      | true => rw [Hn_fallen hm 1 s hs h1 ht] at h; omega
    rw [this]
    exact fact_pos _
  | succ k ih =>
    intro s hs h1 h
    rw [Hn_step] at h ⊢
    obtain ⟨p, hp, h2⟩ := sum_pos h
    exact sum_has hp (ih _ (or_lt hs (mem_inP.1 hp).1) (sub_more h1 hp) h2)

/-! the lengths -/
/-- How many numbers from 0 on pass, of the first n. -/
def lead (g : Nat → Bool) : Nat → Nat
  | 0 => 0
  | n + 1 => if g 0 = true then 1 + lead (fun k => g (k + 1)) n else 0
theorem lead_le : ∀ (n : Nat) (g : Nat → Bool), lead g n ≤ n
  | 0, _ => Nat.le_refl _
  | n + 1, g => by
    rw [lead]
    split
    · have := lead_le n fun k => g (k + 1); omega
    · exact Nat.zero_le _
theorem lead_cong {g g' : Nat → Bool} : ∀ n, (∀ k, k < n → g k = g' k) → lead g n = lead g' n
  | 0, _ => rfl
  | n + 1, h => by
    rw [lead, lead, h 0 (by omega), lead_cong n fun k hk => h (k + 1) (by omega)]
def bestL (most : Bool) : List Nat → Nat
  | [] => 0
  | x :: l => l.foldl (fun b y => if most = true then max b y else min b y) x
theorem lead_and (a b : Nat → Bool) : ∀ n, lead (fun k => a k && b k) n = min (lead a n) (lead b n)
  | 0 => rfl
  | n + 1 => by
    rw [lead, lead, lead]
    have ih := lead_and (fun k => a (k + 1)) (fun k => b (k + 1)) n
    cases h1 : a 0 <;> cases h2 : b 0 <;> simp [ih]
    try omega
def Init (g : Nat → Bool) : Prop := ∀ k, g (k + 1) = true → g k = true
theorem Init.down {g : Nat → Bool} (h : Init g) : ∀ k, g k = true → g 0 = true
  | 0, hk => hk
  | k + 1, hk => h.down k (h k hk)
theorem lead_none {g : Nat → Bool} (h : g 0 = false) : ∀ n, lead g n = 0
  | 0 => rfl
  | n + 1 => by rw [lead, if_neg (by rw [h]; simp)]
theorem lead_or {a b : Nat → Bool} (n : Nat) : ∀ (a b : Nat → Bool), Init a → Init b → lead (fun k => a k || b k) n = max (lead a n) (lead b n) := by
  induction n with
  | zero => intro a b _ _; rfl
  | succ n ih =>
    intro a b ha hb
    rw [lead, lead, lead]
    have ih := ih (fun k => a (k + 1)) (fun k => b (k + 1)) (fun k h => ha (k + 1) h) (fun k h => hb (k + 1) h)
    cases h1 : a 0 with
    | true =>
      cases h2 : b 0 with
      | true => simp [ih]; try omega
      | false =>
        have h3 : ∀ k, b (k + 1) = false := fun k => by
          cases hk : b (k + 1) with
          | false => rfl
          | true => rw [hb.down _ hk] at h2; cases h2
        simp [h3]
    | false =>
      have h3 : ∀ k, a (k + 1) = false := fun k => by
        cases hk : a (k + 1) with
        | false => rfl
        | true => rw [ha.down _ hk] at h1; cases h1
      cases h2 : b 0 with
      | true => simp [h3]
      | false => simp

theorem lead_all (g : Nat → Nat → Bool) (n : Nat) : ∀ (l : List Nat) (a : Nat → Bool), lead (fun k => a k && l.all fun p => g p k) n = (l.map fun p => lead (g p) n).foldl (fun b y => if false = true then max b y else min b y) (lead a n)
  | [], a => by simp
  | p :: l, a => by
    have e : (fun k => a k && (p :: l).all fun p => g p k) = fun k => (a k && g p k) && l.all fun p => g p k := by funext k; simp [Bool.and_assoc]
    rw [e, lead_all g n l (fun k => a k && g p k), lead_and a (g p) n]
    rfl
theorem lead_any (g : Nat → Nat → Bool) (n : Nat) : ∀ (l : List Nat) (a : Nat → Bool), Init a → (∀ p ∈ l, Init (g p)) → lead (fun k => a k || l.any fun p => g p k) n = (l.map fun p => lead (g p) n).foldl (fun b y => if true = true then max b y else min b y) (lead a n)
  | [], a, _, _ => by simp
  | p :: l, a, ha, hg => by
    have hp := hg p List.mem_cons_self
    have e : (fun k => a k || (p :: l).any fun p => g p k) = fun k => (a k || g p k) || l.any fun p => g p k := by funext k; simp [Bool.or_assoc]
    rw [e, lead_any g n l (fun k => a k || g p k) (fun k h => by
      rw [Bool.or_eq_true] at h ⊢
      rcases h with h | h
      · exact .inl (ha k h)
      · exact .inr (hp k h)) (fun q hq => hg q (List.mem_cons_of_mem _ hq)), lead_or (a := a) (b := g p) n a (g p) ha hp]
    rfl
theorem best_all (g : Nat → Nat → Bool) (n : Nat) {l : List Nat} (h : l ≠ []) : lead (fun k => l.all fun p => g p k) n = bestL false (l.map fun p => lead (g p) n) := by
  cases l with
  | nil => exact absurd rfl h
  | cons p l => exact lead_all g n l (g p)
theorem best_any (g : Nat → Nat → Bool) (n : Nat) {l : List Nat} (h : l ≠ []) (hg : ∀ p ∈ l, Init (g p)) : lead (fun k => l.any fun p => g p k) n = bestL true (l.map fun p => lead (g p) n) := by
  cases l with
  | nil => exact absurd rfl h
  | cons p l => exact lead_any g n l (g p) (hg p List.mem_cons_self) fun q hq => hg q (List.mem_cons_of_mem _ hq)
theorem fold_one (most : Bool) : ∀ (l : List Nat) (x : Nat), (l.map fun y => 1 + y).foldl (fun b y => if most = true then max b y else min b y) (1 + x) = 1 + l.foldl (fun b y => if most = true then max b y else min b y) x
  | [], x => rfl
  | y :: l, x => by
    simp only [List.map_cons, List.foldl_cons]
    rw [show (if most = true then max (1 + x) (1 + y) else min (1 + x) (1 + y)) = 1 + (if most = true then max x y else min x y) by split <;> omega]
    exact fold_one most l _
theorem best_one (most : Bool) {l : List Nat} (h : l ≠ []) : bestL most (l.map fun y => 1 + y) = 1 + bestL most l := by
  cases l with
  | nil => exact absurd rfl h
  | cons x l => exact fold_one most l x
def lenS (t : Nat → Bool) (m : Nat) (most : Bool) : Step Nat m where
  F s r := if t s = true then 0 else bestL most ((inP m s).map fun p => 1 + r (s ||| 2 ^ p))
  same s r r' h := by
    congr 2
    exact List.map_congr_left fun p hp => by rw [h p hp]
def lenV (t : Nat → Bool) (m : Nat) (most : Bool) (s : Nat) : Nat := (lenS t m most).val 0 s
theorem lenV_eq (t : Nat → Bool) (m : Nat) (most : Bool) (s : Nat) : lenV t m most s = if t s = true then 0 else bestL most ((inP m s).map fun p => 1 + lenV t m most (s ||| 2 ^ p)) := (lenS t m most).eq 0 s
theorem some_in {t : Nat → Bool} {m s : Nat} (hm : m < 64) (hs : s < 64) (h1 : sub s m = true) (h2 : t m = true) (h3 : t s = false) : inP m s ≠ [] := by
  intro h
  have : s = m := by
    refine Nat.eq_of_testBit_eq fun q => ?_
    cases hq : m.testBit q with
    | false =>
      cases h4 : s.testBit q with
      | false => rfl
      | true => rw [sub_bit h1 h4] at hq; cases hq
    | true =>
      cases h4 : s.testBit q with
      | true => rfl
      | false =>
        by_cases h6 : q < 6
        · have : q ∈ inP m s := mem_inP.2 ⟨h6, hq, h4⟩
          rw [h] at this; cases this
        · rw [Nat.testBit_lt_two_pow (Nat.lt_of_lt_of_le hm (Nat.pow_le_pow_right (n := 2) (by omega) (by omega : 6 ≤ q)))] at hq
          cases hq
  rw [this, h2] at h3
  cases h3
theorem sum_full {α : Type} {f : α → Nat} {c : Nat} : ∀ {l : List α}, (∀ x ∈ l, f x ≤ c) → ((l.map f).sum = l.length * c ↔ ∀ x ∈ l, f x = c)
  | [], _ => by simp
  | x :: l, h => by
    have h1 := h x List.mem_cons_self
    have h2 := sum_le (l := l) fun y hy => h y (List.mem_cons_of_mem _ hy)
    have ih := sum_full (l := l) fun y hy => h y (List.mem_cons_of_mem _ hy)
    simp only [List.map_cons, List.sum_cons, List.length_cons, Nat.add_mul, Nat.one_mul, List.mem_cons, forall_eq_or_imp]
    rw [← ih]
    omega
/-- The longest and the shortest game, told by the orders in which the word hangs. -/
theorem len_lead {t : Nat → Bool} (hmo : Mono t) {m : Nat} (hm : m < 64) (htm : t m = true) : ∀ c s, cnt m s ≤ c → s < 64 → sub s m = true → ∀ n, cnt m s < n →
    lenV t m true s = lead (fun k => decide (0 < Hn t m s k)) n ∧ lenV t m false s = lead (fun k => decide (Hn t m s k = fact (cnt m s))) n
  | c, s, hc, hs, h1, n, hn => by
    obtain ⟨n', rfl⟩ : ∃ n', n = n' + 1 := ⟨n - 1, by omega⟩
    rw [lenV_eq, lenV_eq, lead, lead]
    cases ht : t s with
    | true =>
      have h0 := Hn_fallen hmo (m := m) 0 s hs h1 ht
      have := fact_pos (cnt m s)
      rw [h0, if_pos rfl, if_pos rfl, if_neg (by simp), if_neg (by simp; omega)]
      exact ⟨rfl, rfl⟩
    | false =>
      have hne := some_in hm hs h1 htm ht
      have h0 : Hn t m s 0 = fact (cnt m s) := by rw [Hn_zero hs h1, ht]; rfl
      have hp := fact_pos (cnt m s)
      have ih : ∀ p ∈ inP m s, lenV t m true (s ||| 2 ^ p) = lead (fun k => decide (0 < Hn t m (s ||| 2 ^ p) k)) n' ∧ lenV t m false (s ||| 2 ^ p) = lead (fun k => decide (Hn t m (s ||| 2 ^ p) k = fact (cnt m (s ||| 2 ^ p)))) n' := fun p hp => by
        have hc2 := cnt_or hp
        match c, hc with
        | 0, hc => omega
        | c' + 1, hc => exact len_lead hmo hm htm c' _ (by omega) (or_lt hs (mem_inP.1 hp).1) (sub_more h1 hp) n' (by omega)
      have hmap : ∀ most : Bool, ((inP m s).map fun p => 1 + lenV t m most (s ||| 2 ^ p)) = ((inP m s).map fun p => lenV t m most (s ||| 2 ^ p)).map fun y => 1 + y := fun most => by rw [List.map_map]; rfl
      have hne2 : ∀ f : Nat → Nat, (inP m s).map f ≠ [] := fun f h => hne (List.map_eq_nil_iff.1 h)
      simp only [Bool.false_eq_true, if_false]
      rw [h0, if_pos (show decide (0 < fact (cnt m s)) = true by simpa using hp), if_pos (show decide (fact (cnt m s) = fact (cnt m s)) = true by simp), hmap true, hmap false, best_one true (hne2 _), best_one false (hne2 _)]
      constructor
      · refine congrArg (fun z => 1 + z) ?_
        rw [show (fun k => decide (0 < Hn t m s (k + 1))) = fun k => (inP m s).any fun p => decide (0 < Hn t m (s ||| 2 ^ p) k) by
          funext k
          rw [Bool.eq_iff_iff, decide_eq_true_eq, List.any_eq_true, Hn_step]
          constructor
          · intro h
            obtain ⟨p, hp, h2⟩ := sum_pos h
            exact ⟨p, hp, by simpa using h2⟩
          · rintro ⟨p, hp, h2⟩
            exact sum_has hp (by simpa using h2)]
        rw [best_any (fun p k => decide (0 < Hn t m (s ||| 2 ^ p) k)) n' hne fun p hp k hk => by
          have := Hn_less hmo (m := m) k _ (or_lt hs (mem_inP.1 hp).1) (sub_more h1 hp) (by simpa using hk)
          simpa using this]
        exact congrArg (bestL true) (List.map_congr_left fun p hp => (ih p hp).1)
      · refine congrArg (fun z => 1 + z) ?_
        rw [show (fun k => decide (Hn t m s (k + 1) = fact (cnt m s))) = fun k => (inP m s).all fun p => decide (Hn t m (s ||| 2 ^ p) k = fact (cnt m (s ||| 2 ^ p))) by
          funext k
          rw [Bool.eq_iff_iff, decide_eq_true_eq, List.all_eq_true, Hn_step]
          cases hcs : cnt m s with
          | zero => exact absurd (List.length_eq_zero_iff.1 hcs) hne
          | succ c2 =>
            have hcp : ∀ p ∈ inP m s, cnt m (s ||| 2 ^ p) = c2 := fun p hp => by have := cnt_or hp; omega
            have hf := sum_full (l := inP m s) (f := fun p => Hn t m (s ||| 2 ^ p) k) (c := fact c2) fun p hp => by
              have := Hn_le (t := t) (m := m) k _ (or_lt hs (mem_inP.1 hp).1) (sub_more h1 hp)
              rw [hcp p hp] at this
              exact this
            have hl : (inP m s).length = c2 + 1 := hcs
            rw [hl] at hf
            rw [fact, Nat.mul_comm (fact c2) (c2 + 1), hf]
            constructor
            · intro h p hp
              rw [hcp p hp]
              simpa using h p hp
            · intro h p hp
              have := h p hp
              rw [hcp p hp] at this
              simpa using this]
        rw [best_all (fun p k => decide (Hn t m (s ||| 2 ^ p) k = fact (cnt m (s ||| 2 ^ p)))) n' hne]
        exact congrArg (bestL false) (List.map_congr_left fun p hp => (ih p hp).2)
termination_by c => c

end Go.Proofs.Ytpaijobmoddgpab.Plain
