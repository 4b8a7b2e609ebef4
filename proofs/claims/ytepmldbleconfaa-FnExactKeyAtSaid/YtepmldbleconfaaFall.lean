/- Plain mathematics of falling: what is left when nails are taken out, tables of what falls, edges, nails that matter. No condition. -/
import Derived.Test.YtepmldbleconfaaLessW
namespace Go.Proofs.Ytepmldbleconfaa.Plain
set_option linter.unusedVariables false

/-- The nail of a letter is in a set. -/
def inB (s : Nat) (x : Int) : Bool := s.testBit ((nail x).toNat - 1)
def without (l : List Int) (s : Nat) : List Int := l.filter (fun x => !inB s x)
/-- What is left of a list when a set is taken out. -/
def takeOut (l : List Int) (s : Nat) : List Int := red (without l s)
def fallsB (l : List Int) (s : Nat) : Bool := decide ((takeOut l s).length = 0)
theorem without_le (l : List Int) (s : Nat) : (without l s).length ≤ l.length := List.length_filter_le _ _
theorem takeOut_le (l : List Int) (s : Nat) : (takeOut l s).length ≤ l.length := Nat.le_trans (red_length _) (without_le l s)
theorem Letters.without {l : List Int} (h : Letters l) (s : Nat) : Letters (without l s) := h.sub fun x hx => (List.mem_filter.1 hx).1
theorem Letters.takeOut {l : List Int} (h : Letters l) (s : Nat) : Letters (takeOut l s) := (h.without s).red
theorem without_take {l : List Int} {k : Nat} {x : Int} (s : Nat) (h : l[k]? = some x) : without (l.take (k + 1)) s = if inB s x = true then without (l.take k) s else without (l.take k) s ++ [x] := by
  rw [take_snoc h, without, List.filter_append, without]
  cases hb : inB s x <;> simp [hb]

/-- How many nails a set has. -/
def manyTo (s : Nat) : Nat → Nat
  | 0 => 0
  | k + 1 => manyTo s k + if s.testBit k then 1 else 0
def many (s : Nat) : Nat := manyTo s 6
theorem manyTo_le (s k : Nat) : manyTo s k ≤ k := by
  induction k with
  | zero => exact Nat.le_refl _
  | succ k ih => rw [manyTo]; split <;> omega
theorem many_le (s : Nat) : many s ≤ 6 := manyTo_le s 6

/-- A set beside a set tells that this is no edge. -/
def hitB (t : Nat → Bool) (v : Bool) (s n : Nat) : Bool := (t (s ^^^ 2 ^ n) == v) && (decide (s ^^^ 2 ^ n < s) == v)
def edgeTo (t : Nat → Bool) (v : Bool) (s : Nat) : Nat → Bool
  | 0 => true
  | n + 1 => edgeTo t v s n && !hitB t v s n
def edgeB (t : Nat → Bool) (v : Bool) (s : Nat) : Bool := edgeTo t v s 6 && (t s == v)
theorem edgeTo_no {t : Nat → Bool} {v : Bool} {s n : Nat} (h : hitB t v s n = true) : ∀ m, n < m → edgeTo t v s m = false := by
  intro m
  induction m with
  | zero => intro h; omega
  | succ m ih =>
    intro hm
    rw [edgeTo]
    by_cases e : n = m
    · subst e; simp [h]
    · rw [ih (by omega)]; rfl
def edgesTo (t : Nat → Bool) (v : Bool) : Nat → List Int
  | 0 => []
  | k + 1 => if edgeB t v k = true then edgesTo t v k ++ [(k : Int)] else edgesTo t v k
/-- All least sets that fall, or all greatest ones that hang. -/
def edges (t : Nat → Bool) (v : Bool) : List Int := edgesTo t v 64
theorem edgesTo_le (t : Nat → Bool) (v : Bool) (k : Nat) : (edgesTo t v k).length ≤ k := by
  induction k with
  | zero => exact Nat.le_refl _
  | succ k ih =>
    rw [edgesTo]
    split
    · simp; omega
    · omega
theorem edges_le (t : Nat → Bool) (v : Bool) : (edges t v).length ≤ 64 := edgesTo_le t v 64

/-- The best of the sets from 63 down to 63 - k. -/
def bestTo (t : Nat → Bool) : Nat → Nat
  | 0 => 63
  | k + 1 => if (t (62 - k) && decide (many (62 - k) ≤ many (bestTo t k))) = true then 62 - k else bestTo t k
def best (t : Nat → Bool) : Nat := bestTo t 63
theorem bestTo_lt (t : Nat → Bool) (k : Nat) : bestTo t k < 64 := by
  induction k with
  | zero => exact Nat.lt_of_sub_eq_succ rfl
  | succ k ih => rw [bestTo]; split <;> omega

/-- A set tells that a nail matters. -/
def tells (t : Nat → Bool) (n s : Nat) : Bool := !s.testBit n && (t s != t (s ||| 2 ^ n))
def tellsTo (t : Nat → Bool) (n : Nat) : Nat → Bool
  | 0 => false
  | k + 1 => tellsTo t n k || tells t n k
def matterTo (t : Nat → Bool) : Nat → Nat
  | 0 => 0
  | n + 1 => if tellsTo t n 64 = true then matterTo t n ||| 2 ^ n else matterTo t n
/-- The set of the nails that matter. -/
def matter (t : Nat → Bool) : Nat := matterTo t 6
theorem matterTo_lt (t : Nat → Bool) : ∀ n, n ≤ 6 → matterTo t n < 64 := by
  intro n
  induction n with
  | zero => intro _; exact Nat.zero_lt_succ _
  | succ n ih =>
    intro hn
    have h1 := ih (by omega)
    rw [matterTo]
    split
    · exact Nat.or_lt_two_pow (n := 6) h1 (Nat.pow_lt_pow_right (by decide) (by omega))
    · exact h1

/-- Just the sets of at least k nails fall, of the first m sets. -/
def sameTo (t : Nat → Bool) (k : Nat) : Nat → Bool
  | 0 => true
  | m + 1 => sameTo t k m && (t m == decide (k ≤ many m))
/-- The first k from a place on, of f places. -/
def byFrom (t : Nat → Bool) (n : Nat) : Nat → Nat → Option Nat
  | 0, _ => none
  | f + 1, k => if sameTo t k (2 ^ n) = true then some k else byFrom t n f (k + 1)
def hangsBy (t : Nat → Bool) (n : Nat) : Option Nat := byFrom t n (n + 1) 0

/-- The set of the first nails of a list. -/
def setTo (ns : List Int) : Nat → Nat
  | 0 => 0
  | k + 1 => setTo ns k ||| 2 ^ ((ns.getD k 1).toNat - 1)
def nailsB (ns : List Int) : Bool := ns.all (fun n => decide (1 ≤ n ∧ n ≤ 6))
def orderFrom (t : Nat → Bool) (ns : List Int) : Nat → Nat → Option Nat
  | 0, _ => none
  | f + 1, k => if t (setTo ns k) = true then some k else orderFrom t ns f (k + 1)
/-- Behind how many nails a list falls. -/
def orderOf (t : Nat → Bool) (ns : List Int) : Option Nat := orderFrom t ns (ns.length + 1) 0
theorem setTo_lt {ns : List Int} (h : nailsB ns = true) (k : Nat) (hk : k ≤ ns.length) : setTo ns k < 64 := by
  induction k with
  | zero => exact Nat.zero_lt_succ _
  | succ k ih =>
    rw [setTo]
    refine Nat.or_lt_two_pow (n := 6) (ih (by omega)) (Nat.pow_lt_pow_right (by decide) ?_)
    have hm := List.all_eq_true.1 h ns[k] (List.getElem_mem (by omega))
    simp only [decide_eq_true_eq] at hm
    rw [List.getD_eq_getElem?_getD, List.getElem?_eq_getElem (by omega)]
    simp only [Option.getD_some]
    omega
/-- Two tables are the same. -/
def alikeTo (t u : Nat → Bool) : Nat → Bool
  | 0 => true
  | k + 1 => alikeTo t u k && (t k == u k)
def alike (t u : Nat → Bool) : Bool := alikeTo t u 64
theorem alikeTo_iff {t u : Nat → Bool} (k : Nat) : alikeTo t u k = true ↔ ∀ i, i < k → t i = u i := by
  induction k with
  | zero => simp [alikeTo]
  | succ k ih =>
    rw [alikeTo, Bool.and_eq_true, ih, beq_iff_eq]
    constructor
    · rintro ⟨h1, h2⟩ i hi
      by_cases e : i = k
      · subst e; exact h2
      · exact h1 i (by omega)
    · intro h
      exact ⟨fun i hi => h i (by omega), h k (by omega)⟩

end Go.Proofs.Ytepmldbleconfaa.Plain
