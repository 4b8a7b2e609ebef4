/- Plain mathematics of windings: the coefficients of a word by the places of their lists, letter by letter. No condition. -/
import Derived.Test.YtpaijobmoddgpabWord
namespace Go.Proofs.Ytpaijobmoddgpab.Plain
set_option linter.unusedVariables false

/-- The list without its last nail, by places; whether the list at a place ends with a nail. -/
def parQ (q : Nat) : Nat := (q - 1) / 6
def hit (n q : Nat) : Prop := q ≠ 0 ∧ (q - 1) % 6 + 1 = n
instance (n q : Nat) : Decidable (hit n q) := by unfold hit; infer_instance
theorem hit_iff {n q j : Nat} (h1 : 1 ≤ n) (h6 : n ≤ 6) : hit n q ∧ parQ q = j ↔ q = 6 * j + n := by unfold hit parQ; omega
theorem hit_zero (n : Nat) : ¬ hit n 0 := by unfold hit; omega
theorem par_lt {q : Nat} (h : q ≠ 0) : parQ q < q := by unfold parQ; omega
/-- A letter n behind the word. -/
def upC (n : Nat) (c : Nat → Int) : Nat → Int := fun q => if hit n q then c q + c (parQ q) else c q
/-- A letter -n behind the word. -/
def dnF : Nat → Nat → (Nat → Int) → Nat → Int
  | 0, _, c, q => c q
  | k + 1, n, c, q => if hit n q then c q - dnF k n c (parQ q) else c q
def dnC (n : Nat) (c : Nat → Int) : Nat → Int := dnF 3 n c
theorem dnF_zero (k n : Nat) (c : Nat → Int) : dnF k n c 0 = c 0 := by
  cases k with
  | zero => rfl
  | succ k => show (if hit n 0 then _ else _) = _; rw [if_neg (hit_zero n)]
theorem dnF_one (k n : Nat) (c : Nat → Int) {q : Nat} (h : q < 7) : dnF (k + 1) n c q = dnF 1 n c q := by
  show (if hit n q then c q - dnF k n c (parQ q) else c q) = (if hit n q then c q - dnF 0 n c (parQ q) else c q)
  have e : parQ q = 0 := by unfold parQ; omega
  rw [e, dnF_zero, dnF_zero]
theorem dnF_two (k n : Nat) (c : Nat → Int) {q : Nat} (h : q < 43) : dnF (k + 2) n c q = dnF 2 n c q := by
  show (if hit n q then c q - dnF (k + 1) n c (parQ q) else c q) = (if hit n q then c q - dnF 1 n c (parQ q) else c q)
  rw [dnF_one k n c (q := parQ q) (by unfold parQ; omega)]
theorem dnC_at (n : Nat) (c : Nat → Int) {q : Nat} (h : q < 259) : dnC n c q = if hit n q then c q - dnC n c (parQ q) else c q := by
  show (if hit n q then c q - dnF 2 n c (parQ q) else c q) = (if hit n q then c q - dnF (1 + 2) n c (parQ q) else c q)
  rw [dnF_two 1 n c (q := parQ q) (by unfold parQ; omega)]
theorem dnC_hit {n : Nat} (c : Nat → Int) {q : Nat} (h : q < 259) (hh : hit n q) : dnC n c q = c q - dnC n c (parQ q) := by rw [dnC_at n c h, if_pos hh]
theorem dnC_miss {n : Nat} (c : Nat → Int) {q : Nat} (h : q < 259) (hh : ¬ hit n q) : dnC n c q = c q := by rw [dnC_at n c h, if_neg hh]
theorem upC_zero (n : Nat) (c : Nat → Int) : upC n c 0 = c 0 := if_neg (hit_zero n)
theorem dnC_zero (n : Nat) (c : Nat → Int) : dnC n c 0 = c 0 := dnF_zero 3 n c

/-- A letter behind the word. -/
def letC (x : Int) (c : Nat → Int) : Nat → Int := if 0 < x then upC x.toNat c else dnC (-x).toNat c
def emptyC : Nat → Int := fun q => if q = 0 then 1 else 0
/-- The coefficients of a word. -/
def cof (l : List Int) : Nat → Int := l.foldl (fun c x => letC x c) emptyC
theorem cof_nil : cof [] = emptyC := rfl
theorem cof_snoc (l : List Int) (x : Int) : cof (l ++ [x]) = letC x (cof l) := by simp [cof]
theorem cof_take {l : List Int} {k : Nat} {x : Int} (h : l[k]? = some x) : cof (l.take (k + 1)) = letC x (cof (l.take k)) := by rw [take_snoc h, cof_snoc]
theorem letC_zero (x : Int) (c : Nat → Int) : letC x c 0 = c 0 := by
  unfold letC
  split
  · exact upC_zero _ _
  · exact dnC_zero _ _

/-! bounds -/
def Bd (L : Int) (c : Nat → Int) : Prop := c 0 = 1 ∧ (∀ q, 1 ≤ q → q < 7 → -L ≤ c q ∧ c q ≤ L) ∧ (∀ q, 7 ≤ q → q < 43 → -(L * L) ≤ c q ∧ c q ≤ L * L) ∧ (∀ q, 43 ≤ q → q < 259 → -(L * L * L) ≤ c q ∧ c q ≤ L * L * L)
theorem sq_step (L : Int) : (L + 1) * (L + 1) = L * L + 2 * L + 1 := by rw [Int.add_mul, Int.mul_add]; omega
theorem cb_step (L : Int) : (L + 1) * (L + 1) * (L + 1) = L * L * L + 3 * (L * L) + 3 * L + 1 := by
  rw [sq_step, Int.add_mul, Int.add_mul, Int.mul_add, Int.mul_add, Int.mul_assoc 2 L L]; omega
theorem bd_empty : Bd 0 emptyC := by
  refine ⟨rfl, fun q h1 _ => ?_, fun q h1 _ => ?_, fun q h1 _ => ?_⟩ <;> (have e : emptyC q = 0 := if_neg (by omega)) <;> rw [e] <;> simp
theorem bd_up {L : Int} {c : Nat → Int} (n : Nat) (hL : 0 ≤ L) (h : Bd L c) : Bd (L + 1) (upC n c) := by
  obtain ⟨h0, h1, h2, h3⟩ := h
  have hLL : 0 ≤ L * L := Int.mul_nonneg hL hL
  refine ⟨by rw [upC_zero, h0], fun q a b => ?_, fun q a b => ?_, fun q a b => ?_⟩
  · have e : parQ q = 0 := by unfold parQ; omega
    have := h1 q a b
    unfold upC
    split
    · rw [e, h0]; omega
    · omega
  · have hp := h1 (parQ q) (by unfold parQ; omega) (by unfold parQ; omega)
    have := h2 q a b
    rw [sq_step]
    unfold upC
    split <;> omega
  · have hp := h2 (parQ q) (by unfold parQ; omega) (by unfold parQ; omega)
    have := h3 q a b
    rw [cb_step]
    unfold upC
    split <;> omega
theorem bd_dn {L : Int} {c : Nat → Int} (n : Nat) (hL : 0 ≤ L) (h : Bd L c) : Bd (L + 1) (dnC n c) := by
  obtain ⟨h0, h1, h2, h3⟩ := h
  have hLL : 0 ≤ L * L := Int.mul_nonneg hL hL
  have k1 : ∀ q, 1 ≤ q → q < 7 → -(L + 1) ≤ dnC n c q ∧ dnC n c q ≤ L + 1 := fun q a b => by
    have e : parQ q = 0 := by unfold parQ; omega
    have := h1 q a b
    rw [dnC_at n c (by omega), e, dnC_zero, h0]
    split <;> omega
  have k2 : ∀ q, 7 ≤ q → q < 43 → -((L + 1) * (L + 1)) ≤ dnC n c q ∧ dnC n c q ≤ (L + 1) * (L + 1) := fun q a b => by
    have hp := k1 (parQ q) (by unfold parQ; omega) (by unfold parQ; omega)
    have := h2 q a b
    rw [sq_step, dnC_at n c (by omega)]
    split <;> omega
  refine ⟨by rw [dnC_zero, h0], k1, k2, fun q a b => ?_⟩
  have hp := k2 (parQ q) (by unfold parQ; omega) (by unfold parQ; omega)
  have := h3 q a b
  rw [sq_step] at hp
  rw [cb_step, dnC_at n c (by omega)]
  split <;> omega
theorem bd_let {L : Int} {c : Nat → Int} (x : Int) (hL : 0 ≤ L) (h : Bd L c) : Bd (L + 1) (letC x c) := by
  unfold letC
  split
  · exact bd_up _ hL h
  · exact bd_dn _ hL h
theorem bd_cof (l : List Int) : Bd l.length (cof l) := by
  have : ∀ k, k ≤ l.length → Bd (k : Int) (cof (l.take k)) := fun k => by
    induction k with
    | zero => intro _; exact bd_empty
    | succ k ih =>
      intro hk
      have hx : l[k]? = some l[k] := List.getElem?_eq_getElem (by omega)
      rw [cof_take hx]
      have := bd_let l[k] (by omega) (ih (by omega))
      exact_mod_cast this
  have h := this l.length (Nat.le_refl _)
  rw [List.take_length] at h
  exact h
/-- All places of a word of at most 64 letters. -/
def Small (c : Nat → Int) : Prop := ∀ q, q < 259 → -262144 ≤ c q ∧ c q ≤ 262144
theorem bd_small {L : Int} {c : Nat → Int} (hL : 0 ≤ L) (h64 : L ≤ 64) (h : Bd L c) : Small c := by
  obtain ⟨h0, h1, h2, h3⟩ := h
  have s1 : L * L ≤ 64 * 64 := Int.mul_le_mul h64 h64 hL (by omega)
  have s0 : 0 ≤ L * L := Int.mul_nonneg hL hL
  have s2 : L * L * L ≤ 64 * 64 * 64 := Int.mul_le_mul s1 h64 hL (by omega)
  intro q hq
  by_cases a : q = 0
  · subst a; omega
  · by_cases b : q < 7
    · have := h1 q (by omega) b; omega
    · by_cases d : q < 43
      · have := h2 q (by omega) d; omega
      · have := h3 q (by omega) hq; omega
theorem small_cof {l : List Int} (h : l.length ≤ 64) : Small (cof l) := bd_small (by omega) (by omega) (bd_cof l)

/-! how many lists of at most a length there are; coefficients up to a length -/
def cntL (k : Nat) : Nat := match k with | 0 => 0 | k + 1 => 1 + 6 * cntL k
theorem cntL_1 : cntL 1 = 1 := rfl
theorem cntL_4 : cntL 4 = 259 := rfl
theorem cntL_le {l : Nat} (h : l ≤ 3) : cntL (l + 1) ≤ 259 := by
  have e : l = 0 ∨ l = 1 ∨ l = 2 ∨ l = 3 := by omega
  rcases e with rfl | rfl | rfl | rfl <;> decide
theorem cntL_par {l q : Nat} (h : q ≠ 0) : q < cntL (l + 1) ↔ parQ q < cntL l := by
  show q < 1 + 6 * cntL l ↔ _
  unfold parQ; omega
/-- The coefficients of lists of at most a length, 0 behind them. -/
def cutC (m : Nat) (c : Nat → Int) : Nat → Int := fun q => if q < m then c q else 0
theorem cutC_in {m q : Nat} {c : Nat → Int} (h : q < m) : cutC m c q = c q := if_pos h
theorem cutC_out {m q : Nat} {c : Nat → Int} (h : ¬ q < m) : cutC m c q = 0 := if_neg h
theorem cutC_all {c : Nat → Int} {q : Nat} (h : q < 259) : cutC 259 c q = c q := if_pos h
theorem cutC_empty {m : Nat} (h : 1 ≤ m) : cutC m emptyC = emptyC := by
  funext q
  unfold cutC emptyC
  split
  · rfl
  · rw [if_neg (by omega)]
theorem small_cut {m : Nat} {c : Nat → Int} (h : Small c) : Small (cutC m c) := fun q hq => by
  have := h q hq
  unfold cutC
  split <;> omega

/-! a turn: from the last list on -/
def midUp (n : Nat) (c : Nat → Int) (p : Nat) : Nat → Int := fun q => if hit n q ∧ p ≤ parQ q then upC n c q else c q
theorem midUp_start {n l q : Nat} {c : Nat → Int} (hq : q < cntL (l + 1)) : midUp n c (cntL l) q = c q := by
  unfold midUp
  by_cases h0 : q = 0
  · subst h0; rw [if_neg (fun h => hit_zero n h.1)]
  · have := (cntL_par h0).1 hq
    rw [if_neg (by omega)]
theorem midUp_end (n : Nat) (c : Nat → Int) : midUp n c 0 = upC n c := by
  funext q
  unfold midUp
  split
  · rfl
  · rename_i h
    exact (if_neg (fun k => h ⟨k, Nat.zero_le _⟩)).symm
theorem midUp_read {n j : Nat} {c : Nat → Int} : midUp n c (j + 1) j = c j := by
  unfold midUp
  refine if_neg fun h => ?_
  have := h.2
  unfold parQ at this; omega
theorem midUp_read2 {n j : Nat} {c : Nat → Int} (h1 : 1 ≤ n) (h6 : n ≤ 6) : midUp n c (j + 1) (6 * j + n) = c (6 * j + n) := by
  unfold midUp
  refine if_neg fun h => ?_
  have := ((hit_iff (q := 6 * j + n) (j := j) h1 h6).2 rfl).2
  omega
theorem midUp_step {n j q : Nat} {c : Nat → Int} (h1 : 1 ≤ n) (h6 : n ≤ 6) : midUp n c j q = if q = 6 * j + n then c (6 * j + n) + c j else midUp n c (j + 1) q := by
  by_cases e : q = 6 * j + n
  · obtain ⟨a, b⟩ := (hit_iff (q := q) (j := j) h1 h6).2 e
    rw [if_pos e]
    subst e
    unfold midUp upC
    rw [if_pos ⟨a, by omega⟩, if_pos a, b]
  · rw [if_neg e]
    have : ¬ (hit n q ∧ parQ q = j) := fun h => e ((hit_iff h1 h6).1 h)
    unfold midUp
    by_cases hh : hit n q
    · have hne : parQ q ≠ j := fun h => this ⟨hh, h⟩
      by_cases hp : j ≤ parQ q
      · rw [if_pos ⟨hh, hp⟩, if_pos ⟨hh, by omega⟩]
      · rw [if_neg (fun h => hp h.2), if_neg (fun h => hp (by have := h.2; omega))]
    · rw [if_neg (fun h => hh h.1), if_neg (fun h => hh h.1)]

/-! a turn back: from the first list on -/
def midDn (n : Nat) (c : Nat → Int) (p : Nat) : Nat → Int := fun q => if hit n q ∧ parQ q < p then dnC n c q else c q
theorem midDn_start (n : Nat) (c : Nat → Int) : midDn n c 0 = c := by
  funext q
  exact if_neg fun h => by have := h.2; omega
theorem midDn_end {n l q : Nat} {c : Nat → Int} (hl : l ≤ 3) (hq : q < cntL (l + 1)) : midDn n c (cntL l) q = dnC n c q := by
  have h259 := cntL_le hl
  unfold midDn
  by_cases hh : hit n q
  · have h0 : q ≠ 0 := hh.1
    rw [if_pos ⟨hh, (cntL_par h0).1 hq⟩]
  · rw [if_neg (fun h => hh h.1), dnC_miss c (by omega) hh]
theorem midDn_read {n j : Nat} {c : Nat → Int} (hj : j < 259) : midDn n c j j = dnC n c j := by
  unfold midDn
  by_cases hh : hit n j
  · rw [if_pos ⟨hh, par_lt hh.1⟩]
  · rw [if_neg (fun h => hh h.1), dnC_miss c hj hh]
theorem midDn_read2 {n j : Nat} {c : Nat → Int} (h1 : 1 ≤ n) (h6 : n ≤ 6) : midDn n c j (6 * j + n) = c (6 * j + n) := by
  unfold midDn
  refine if_neg fun h => ?_
  have := ((hit_iff (q := 6 * j + n) (j := j) h1 h6).2 rfl).2
  omega
theorem midDn_step {n j q : Nat} {c : Nat → Int} (h1 : 1 ≤ n) (h6 : n ≤ 6) (hj : j < 43) : midDn n c (j + 1) q = if q = 6 * j + n then c (6 * j + n) - dnC n c j else midDn n c j q := by
  by_cases e : q = 6 * j + n
  · obtain ⟨a, b⟩ := (hit_iff (q := q) (j := j) h1 h6).2 e
    rw [if_pos e]
    subst e
    unfold midDn
    rw [if_pos ⟨a, by omega⟩, dnC_hit c (by omega) a, b]
  · rw [if_neg e]
    have : ¬ (hit n q ∧ parQ q = j) := fun h => e ((hit_iff h1 h6).1 h)
    unfold midDn
    by_cases hh : hit n q
    · have hne : parQ q ≠ j := fun h => this ⟨hh, h⟩
      by_cases hp : parQ q < j
      · rw [if_pos ⟨hh, by omega⟩, if_pos ⟨hh, hp⟩]
      · rw [if_neg (fun h => hp (by have := h.2; omega)), if_neg (fun h => hp h.2)]
    · rw [if_neg (fun h => hh h.1), if_neg (fun h => hh h.1)]

/-! the specification's way: one nail, two, three, and what a letter -n adds -/
/-- The first part of a step, up to the places u (of lists of two nails) and v (of three). -/
def linS (s : Int) (n : Nat) (c : Nat → Int) (u v : Nat) : Nat → Int := fun q => if hit n q ∧ (if q < 43 then parQ q ≤ u else parQ q ≤ v) then c q + s * c (parQ q) else c q
theorem linS_one {s : Int} {n q : Nat} {c : Nat → Int} (h1 : 1 ≤ n) (h6 : n ≤ 6) (h0 : c 0 = 1) (hq : q ≠ 0) : linS s n c 0 6 q = if q = n then c n + s else c q := by
  unfold linS
  by_cases e : q = n
  · subst e
    have hp : parQ q = 0 := by unfold parQ; omega
    rw [if_pos ⟨by unfold hit; omega, by rw [if_pos (by omega), hp]; omega⟩, if_pos rfl, hp, h0, Int.mul_one]
  · rw [if_neg e, if_neg]
    rintro ⟨hh, hk⟩
    unfold hit at hh
    unfold parQ at hk
    split at hk <;> omega
theorem linS_two {s : Int} {n a q : Nat} {c : Nat → Int} (h1 : 1 ≤ n) (h6 : n ≤ 6) (ha : a < 6) : linS s n c (a + 1) (6 * a + 6) q = if q = 6 * (a + 1) + n then c (6 * (a + 1) + n) + s * c (a + 1) else linS s n c a (6 * a + 6) q := by
  by_cases e : q = 6 * (a + 1) + n
  · obtain ⟨x, y⟩ := (hit_iff (q := q) (j := a + 1) h1 h6).2 e
    rw [if_pos e]
    unfold linS
    rw [if_pos ⟨x, by rw [if_pos (by omega)]; omega⟩, y, e]
  · rw [if_neg e]
    have : ¬ (hit n q ∧ parQ q = a + 1) := fun h => e ((hit_iff h1 h6).1 h)
    unfold linS
    by_cases hh : hit n q
    · have hne : parQ q ≠ a + 1 := fun h => this ⟨hh, h⟩
      have hi : (if q < 43 then parQ q ≤ a + 1 else parQ q ≤ 6 * a + 6) ↔ (if q < 43 then parQ q ≤ a else parQ q ≤ 6 * a + 6) := by split <;> omega
      simp only [hi]
    · rw [if_neg (fun h => hh h.1), if_neg (fun h => hh h.1)]
theorem linS_three {s : Int} {n a b q : Nat} {c : Nat → Int} (h1 : 1 ≤ n) (h6 : n ≤ 6) (hv : 6 ≤ 6 * a + b) :
    linS s n c a (6 * a + (b + 1)) q = if q = 6 * (6 * a + (b + 1)) + n then c (6 * (6 * a + (b + 1)) + n) + s * c (6 * a + (b + 1)) else linS s n c a (6 * a + b) q := by
  by_cases e : q = 6 * (6 * a + (b + 1)) + n
  · obtain ⟨x, y⟩ := (hit_iff (q := q) (j := 6 * a + (b + 1)) h1 h6).2 e
    rw [if_pos e]
    unfold linS
    rw [if_pos ⟨x, by rw [if_neg (by omega)]; omega⟩, y, e]
  · rw [if_neg e]
    have : ¬ (hit n q ∧ parQ q = 6 * a + (b + 1)) := fun h => e ((hit_iff h1 h6).1 h)
    unfold linS
    by_cases hh : hit n q
    · have hne : parQ q ≠ 6 * a + (b + 1) := fun h => this ⟨hh, h⟩
      have hi : (if q < 43 then parQ q ≤ a else parQ q ≤ 6 * a + (b + 1)) ↔ (if q < 43 then parQ q ≤ a else parQ q ≤ 6 * a + b) := by split <;> omega
      simp only [hi]
    · rw [if_neg (fun h => hh h.1), if_neg (fun h => hh h.1)]
/-- All of the first part. -/
def linC (s : Int) (n : Nat) (c : Nat → Int) : Nat → Int := fun q => if hit n q then c q + s * c (parQ q) else c q
theorem linS_all {s : Int} {n q : Nat} {c : Nat → Int} (hq : q < 259) : linS s n c 6 (6 * 6 + 6) q = linC s n c q := by
  unfold linS linC
  have : (if q < 43 then parQ q ≤ 6 else parQ q ≤ 6 * 6 + 6) := by unfold parQ; split <;> omega
  simp only [this, and_true]
theorem linC_up {n q : Nat} {c : Nat → Int} : linC 1 n c q = upC n c q := by unfold linC upC; rw [Int.one_mul]
theorem small_lin {n q : Nat} {c : Nat → Int} (hs : Small c) (hq : q < 259) : -524288 ≤ linC (-1) n c q ∧ linC (-1) n c q ≤ 524288 := by
  have h1 := hs q hq
  have h2 := hs (parQ q) (by unfold parQ; omega)
  unfold linC
  split <;> omega
/-- What a letter -n adds, up to the first nail u. -/
def addC (n : Nat) (c : Nat → Int) (u : Nat) : Nat → Int := fun q => if q = 7 * n then linC (-1) n c q + 1 else if 43 ≤ q ∧ hit n q ∧ hit n (parQ q) ∧ parQ (parQ q) ≤ u then linC (-1) n c q + c (parQ (parQ q)) else linC (-1) n c q
theorem hit2_iff {n q j : Nat} (h1 : 1 ≤ n) (h6 : n ≤ 6) : hit n q ∧ hit n (parQ q) ∧ parQ (parQ q) = j ↔ q = 6 * (6 * j + n) + n := by
  constructor
  · rintro ⟨x, y, z⟩
    have a := (hit_iff (q := parQ q) h1 h6).1 ⟨y, z⟩
    have b := (hit_iff (q := q) h1 h6).1 ⟨x, rfl⟩
    rw [a] at b
    exact b
  · rintro rfl
    have p := (hit_iff (q := 6 * (6 * j + n) + n) (j := 6 * j + n) h1 h6).2 rfl
    have r := (hit_iff (q := 6 * j + n) (j := j) h1 h6).2 rfl
    rw [p.2]
    exact ⟨p.1, r.1, r.2⟩
theorem addC_start {n q : Nat} {c : Nat → Int} (h1 : 1 ≤ n) (h6 : n ≤ 6) (hq : q < 259) : addC n c 0 q = if q = 7 * n then linC (-1) n c (7 * n) + 1 else linC (-1) n c q := by
  unfold addC
  by_cases e : q = 7 * n
  · rw [if_pos e, if_pos e, e]
  · rw [if_neg e, if_neg e, if_neg]
    rintro ⟨h43, -, -, h⟩
    unfold parQ at h; omega
theorem addC_step {n a q : Nat} {c : Nat → Int} (h1 : 1 ≤ n) (h6 : n ≤ 6) : addC n c (a + 1) q = if q = 6 * (6 * (a + 1) + n) + n then linC (-1) n c (6 * (6 * (a + 1) + n) + n) + c (a + 1) else addC n c a q := by
  by_cases e : q = 6 * (6 * (a + 1) + n) + n
  · obtain ⟨x, y, z⟩ := (hit2_iff (q := q) (j := a + 1) h1 h6).2 e
    rw [if_pos e]
    unfold addC
    rw [if_neg (by omega), if_pos ⟨by omega, x, y, by omega⟩, z, e]
  · rw [if_neg e]
    have : ¬ (hit n q ∧ hit n (parQ q) ∧ parQ (parQ q) = a + 1) := fun h => e ((hit2_iff h1 h6).1 h)
    have hi : (43 ≤ q ∧ hit n q ∧ hit n (parQ q) ∧ parQ (parQ q) ≤ a + 1) ↔ (43 ≤ q ∧ hit n q ∧ hit n (parQ q) ∧ parQ (parQ q) ≤ a) :=
      ⟨fun ⟨w, x, y, z⟩ => ⟨w, x, y, by rcases Nat.lt_or_ge (parQ (parQ q)) (a + 1) with h | h; · omega
                                        · exact absurd ⟨x, y, by omega⟩ this⟩, fun ⟨w, x, y, z⟩ => ⟨w, x, y, by omega⟩⟩
    unfold addC
    simp only [hi]
theorem addC_read {n a : Nat} {c : Nat → Int} (h1 : 1 ≤ n) (h6 : n ≤ 6) : addC n c a (6 * (6 * (a + 1) + n) + n) = linC (-1) n c (6 * (6 * (a + 1) + n) + n) := by
  obtain ⟨x, y, z⟩ := (hit2_iff (n := n) (q := 6 * (6 * (a + 1) + n) + n) (j := a + 1) h1 h6).2 rfl
  unfold addC
  rw [if_neg (by omega), if_neg (fun h => by have := h.2.2.2; omega)]
theorem addC_three {n : Nat} {c : Nat → Int} (h1 : 1 ≤ n) (h6 : n ≤ 6) : addC n c 6 (43 * n) = linC (-1) n c (43 * n) + c n := by
  have e : 43 * n = 6 * (6 * n + n) + n := by omega
  obtain ⟨x, y, z⟩ := (hit2_iff (n := n) (q := 43 * n) (j := n) h1 h6).2 e
  unfold addC
  rw [if_neg (by omega), if_pos ⟨by omega, x, y, by omega⟩, z]
theorem addC_end {n q : Nat} {c : Nat → Int} (h1 : 1 ≤ n) (h6 : n ≤ 6) (hq : q < 259) (h0 : c 0 = 1) : (if q = 43 * n then addC n c 6 (43 * n) - 1 else addC n c 6 q) = dnC n c q := by
  by_cases hh : hit n q
  · have hq0 : q ≠ 0 := hh.1
    rw [dnC_hit c hq hh]
    have hl : linC (-1) n c q = c q - c (parQ q) := by unfold linC; rw [if_pos hh]; omega
    by_cases h7 : q < 7
    · have e : parQ q = 0 := by unfold parQ; omega
      rw [if_neg (by omega), e, dnC_zero]
      unfold addC
      rw [if_neg (by unfold hit at hh; omega), if_neg (by omega), hl, e]
    · by_cases h43 : q < 43
      · have hpp : parQ (parQ q) = 0 := by unfold parQ; omega
        rw [if_neg (by omega)]
        unfold addC
        by_cases e : q = 7 * n
        · have hph : hit n (parQ q) := by unfold hit parQ at *; omega
          rw [if_pos e, dnC_hit c (by unfold parQ; omega) hph, hpp, dnC_zero, h0, hl]; omega
        · have hph : ¬ hit n (parQ q) := by unfold hit parQ at *; omega
          rw [if_neg e, if_neg (by omega), dnC_miss c (by unfold parQ; omega) hph, hl]
      · by_cases hph : hit n (parQ q)
        · have hp2 : parQ (parQ q) ≤ 6 := by unfold parQ; omega
          have hp3 : parQ (parQ (parQ q)) = 0 := by unfold parQ; omega
          have hp1 : parQ (parQ q) ≠ 0 := by unfold parQ; omega
          rw [dnC_hit c (by unfold parQ; omega) hph]
          by_cases e : q = 43 * n
          · have hn : parQ (parQ q) = n := by unfold parQ; omega
            rw [if_pos e, addC_three h1 h6, ← e, hn, dnC_hit c (by omega) (by unfold hit; omega), hl]
            have : parQ n = 0 := by unfold parQ; omega
            rw [this, dnC_zero, h0]; omega
          · have hmiss : ¬ hit n (parQ (parQ q)) := by
              intro h3
              have := (hit2_iff (n := n) (q := q) (j := parQ (parQ q)) h1 h6).1 ⟨hh, hph, rfl⟩
              unfold hit at h3
              omega
            rw [if_neg e, dnC_miss c (by omega) hmiss]
            unfold addC
            rw [if_neg (by unfold hit parQ at *; omega), if_pos ⟨by omega, hh, hph, hp2⟩, hl]; omega
        · rw [if_neg (by intro e; subst e; rw [((hit_iff (q := 43 * n) (j := 7 * n) h1 h6).2 (by omega)).2] at hph; exact hph (by unfold hit; omega)), dnC_miss c (by unfold parQ; omega) hph]
          unfold addC
          rw [if_neg (by unfold hit parQ at *; omega), if_neg (fun h => hph h.2.2.1), hl]
  · rw [dnC_miss c hq hh, if_neg (by intro e; subst e; exact hh (by unfold hit; omega))]
    unfold addC
    rw [if_neg (by intro e; subst e; exact hh (by unfold hit; omega)), if_neg (fun h => hh h.2.1)]
    unfold linC
    rw [if_neg hh]

end Go.Proofs.Ytpaijobmoddgpab.Plain
