/- Plain mathematics of cores: where a core stops, and what a list is around its core. No condition. -/
import Derived.Test.YtmcbaejgimopmaaGreatComm
import Derived.Test.YtmcbaejgimopmaaGreatWicksSpec
import Derived.Test.YtmcbaejgimopmaaGreatWord
namespace Go.Proofs.YtmcbaejgimopmaaGreat.Plain
set_option linter.unusedVariables false

/-! cores -/
theorem depth_eq {l : List Int} {j : Nat} (h : ∀ i, i < j → stopsB l i = false) (h2 : 2 * j ≤ l.length) (hs : stopsB l j = true) : depth l = j := by
  have key : ∀ i, i ≤ j → Deep l i := by
    intro i
    induction i with
    | zero => intro _; exact deep_zero l
    | succ i ih => intro hi; exact deep_succ (ih (by omega)) (h i (by omega)) (by omega)
  exact deep_stop (key j (Nat.le_refl _)) hs
theorem depthFrom_ge (l : List Int) (f : Nat) : ∀ j, j ≤ depthFrom l f j := by
  induction f with
  | zero => intro j; exact Nat.le_refl _
  | succ f ih => intro j; rw [depthFrom]; split; exact Nat.le_refl _; exact Nat.le_trans (Nat.le_succ j) (ih (j + 1))
theorem depth_stops {l : List Int} (hl : Letters l) : stopsB l (depth l) = true := by
  have h := deep_depth hl
  obtain ⟨h1, h2, -⟩ := h
  cases hf : l.length - depth l with
  | zero => exact stops_end (by omega)
  | succ f =>
    rw [hf, depthFrom] at h1
    split at h1
    · assumption
    · have := depthFrom_ge l f (depth l + 1)
      omega
theorem core_stop {l : List Int} {x y : Int} (hx : l.head? = some x) (hy : l.getLast? = some y) (hne : x ≠ -y) : core l = l ∧ by_ l = [] := by
  have hs : stopsB l 0 = true := by
    refine stops_no (x := x) (y := y) ?_ ?_ hne
    · rw [← List.head?_eq_getElem?]; exact hx
    · rw [Nat.sub_zero, ← List.getLast?_eq_getElem?]; exact hy
  have hd : depth l = 0 := depth_eq (fun i h => by omega) (by omega) hs
  exact ⟨by rw [core, hd, mid_zero], by rw [by_, hd]; rfl⟩
theorem core_nil : core [] = [] ∧ by_ [] = [] := ⟨by simp [core, mid], by simp [by_]⟩
theorem stops_wrap (x : Int) (m : List Int) (i : Nat) : stopsB (x :: (m ++ [-x])) (i + 1) = stopsB m i := by
  by_cases h : m.length ≤ 2 * i
  · rw [stops_end h, stops_end (by simp; omega)]
  · have h1 : (x :: (m ++ [-x]))[i + 1]? = m[i]? := by rw [List.getElem?_cons_succ, List.getElem?_append_left (by omega)]
    have h2 : (x :: (m ++ [-x]))[(x :: (m ++ [-x])).length - 1 - (i + 1)]? = m[m.length - 1 - i]? := by
      rw [show (x :: (m ++ [-x])).length - 1 - (i + 1) = (m.length - 1 - i) + 1 by simp; omega, List.getElem?_cons_succ, List.getElem?_append_left (by omega)]
    have h3 : decide ((x :: (m ++ [-x])).length ≤ 2 * (i + 1)) = decide (m.length ≤ 2 * i) := by
      rw [decide_eq_decide]; simp; omega
    unfold stopsB
    rw [h1, h2, h3]
theorem core_wrap {x : Int} {m : List Int} (hm : Letters m) : core (x :: (m ++ [-x])) = core m ∧ by_ (x :: (m ++ [-x])) = x :: by_ m := by
  have hd := depth_le hm
  have hdep : depth (x :: (m ++ [-x])) = depth m + 1 := by
    refine depth_eq (fun i hi => ?_) (by simp; omega) ?_
    · cases i with
      | zero => exact goes_on (x := x) (y := -x) (by simp) rfl (by simp) (by omega)
      | succ i => rw [stops_wrap]; exact (deep_depth hm).2.2 i (by omega)
    · rw [stops_wrap]; exact depth_stops hm
  constructor
  · rw [core, hdep, mid, List.drop_succ_cons, List.drop_append_of_le_length (by omega), core, mid]
    rw [show (x :: (m ++ [-x])).length - 2 * (depth m + 1) = m.length - 2 * depth m by simp; omega]
    rw [List.take_append_of_le_length (by simp; omega)]
  · rw [by_, hdep, List.take_succ_cons, List.take_append_of_le_length (by omega)]
    rfl
theorem ends_cases (l : List Int) : l = [] ∨ (∃ x, l = [x]) ∨ ∃ x m y, l = x :: (m ++ [y]) := by
  cases l with
  | nil => exact .inl rfl
  | cons x t =>
    by_cases h : t = []
    · subst h; exact .inr (.inl ⟨x, rfl⟩)
    · exact .inr (.inr ⟨x, t.dropLast, t.getLast h, by rw [List.dropLast_concat_getLast]⟩)
theorem last_app (l : List Int) (y : Int) : (l ++ [y]).getLast? = some y := by rw [List.getLast?_append]; rfl
theorem last_snoc (x : Int) (m : List Int) (y : Int) : (x :: (m ++ [y])).getLast? = some y := last_app (x :: m) y
/-- A core's ends are no opposites. -/
theorem core_parts : ∀ (n : Nat) (l : List Int), l.length ≤ n → Letters l → l = by_ l ++ (core l ++ inv (by_ l)) ∧ ∀ x y, (core l).head? = some x → (core l).getLast? = some y → x ≠ -y := by
  intro n
  induction n with
  | zero =>
    intro l hn hl
    have : l = [] := List.eq_nil_of_length_eq_zero (by omega)
    subst this
    rw [core_nil.1, core_nil.2]
    exact ⟨rfl, fun x y h => by simp at h⟩
  | succ n ih =>
    intro l hn hl
    rcases ends_cases l with rfl | ⟨x, rfl⟩ | ⟨x, m, y, rfl⟩
    · rw [core_nil.1, core_nil.2]
      exact ⟨rfl, fun x y h => by simp at h⟩
    · have h0 := (hl x (by simp)).1
      obtain ⟨h1, h2⟩ := core_stop (l := [x]) (x := x) (y := x) rfl rfl (by omega)
      rw [h1, h2]
      exact ⟨by simp [inv], fun a b ha hb => by simp at ha hb; omega⟩
    · by_cases e : y = -x
      · subst e
        have hm : Letters m := hl.sub fun z hz => by simp [hz]
        obtain ⟨h1, h2⟩ := core_wrap (x := x) hm
        obtain ⟨k1, k2⟩ := ih m (by simp at hn; omega) hm
        rw [h1, h2]
        refine ⟨?_, k2⟩
        rw [inv_cons]
        conv => lhs; rw [k1]
        simp
      · obtain ⟨h1, h2⟩ := core_stop (l := x :: (m ++ [y])) (x := x) (y := y) rfl (last_snoc _ _ _) (by omega)
        rw [h1, h2]
        refine ⟨by simp [inv], fun a b ha hb => ?_⟩
        rw [last_snoc] at hb
        cases ha
        cases hb
        omega

end Go.Proofs.YtmcbaejgimopmaaGreat.Plain

/- Plain mathematics of Wicks' form: cutting both halves alike, part by part, finds the same numbers as comparing the whole other half. No condition. -/
namespace Go.Proofs.YtmcbaejgimopmaaGreat
open Go.ChangeShapes Go.WideShapes Go.ChangeAt Go.RowKit
set_option linter.unusedVariables false

/-! the cuts of a word's halves -/
def headB (t : List Int) (i : Nat) : Bool := decide ((t.drop (t.length / 2)).take i = Plain.inv ((t.take (t.length / 2)).take i))
def midB (t : List Int) (i j : Nat) : Bool := decide (((t.drop (t.length / 2)).drop i).take (j - i) = Plain.inv (((t.take (t.length / 2)).drop i).take (j - i)))
def tailB (t : List Int) (j : Nat) : Bool := decide ((t.drop (t.length / 2)).drop j = Plain.inv ((t.take (t.length / 2)).drop j))
def jC (t : List Int) (i : Nat) : Nat → Nat → Option Nat
  | 0, _ => none
  | f + 1, k => if (midB t i (i + k) && tailB t (i + k)) = true then some k else jC t i f (k + 1)
def iC (t : List Int) (n : Nat) : Nat → Nat → Option (Nat × Nat)
  | 0, _ => none
  | f + 1, i => if headB t i = true then (match jC t i (n + 1 - i) 0 with
      | some k => some (i, k)
      | none => iC t n f (i + 1)) else iC t n f (i + 1)
def tC (c : List Int) : Nat → Nat → Option (Nat × Nat × Nat)
  | 0, _ => none
  | f + 1, j => match iC (turn c j) (c.length / 2) (c.length / 2 + 1) 0 with
    | some (i, k) => some (j, i, k)
    | none => tC c f (j + 1)

theorem jC_le {t : List Int} {i : Nat} : ∀ {f k q : Nat}, jC t i f k = some q → k ≤ q ∧ q < k + f
  | 0, k, q, h => by simp [jC] at h
  | f + 1, k, q, h => by
    rw [jC] at h
    split at h
    · cases h; omega
    · have := jC_le h; omega
theorem iC_le {t : List Int} {n : Nat} : ∀ {f i p q : Nat}, i + f ≤ n + 1 → iC t n f i = some (p, q) → p + q ≤ n
  | 0, i, p, q, _, h => by simp [iC] at h
  | f + 1, i, p, q, hf, h => by
    rw [iC] at h
    split at h
    · split at h
      · rename_i k hk
        cases h
        have := jC_le hk
        omega
      · exact iC_le (by omega) h
    · exact iC_le (by omega) h
theorem inv_eq_len {a b : List Int} (h : a = Plain.inv b) : a.length = b.length := by rw [h, Plain.inv_length]
/-- Nothing is found in a word of odd length. -/
theorem tail_odd {t : List Int} (h : t.length % 2 = 1) {j : Nat} (hj : j ≤ t.length / 2) : tailB t j = false := by
  refine decide_eq_false fun e => ?_
  have := inv_eq_len e
  simp at this
  omega
theorem jC_odd {t : List Int} (h : t.length % 2 = 1) {i : Nat} : ∀ {f k : Nat}, i + k + f ≤ t.length / 2 + 1 → jC t i f k = none
  | 0, k, _ => rfl
  | f + 1, k, hf => by
    rw [jC, tail_odd h (by omega), Bool.and_false, if_neg (by simp), jC_odd h (by omega)]
theorem iC_odd {t : List Int} (h : t.length % 2 = 1) : ∀ {f i : Nat}, i + f ≤ t.length / 2 + 1 → iC t (t.length / 2) f i = none
  | 0, i, _ => rfl
  | f + 1, i, hf => by
    rw [iC, jC_odd h (by omega), iC_odd h (by omega)]
    simp
theorem split3 {a b : List Int} (X Y Z : List Int) (h : a.length = b.length) {i k : Nat} (hX : X.length = i) (hY : Y.length = k) : a = X ++ Y ++ Z ↔ a.take i = X ∧ (a.drop i).take k = Y ∧ a.drop (i + k) = Z := by
  constructor
  · intro e
    subst e
    refine ⟨by rw [List.append_assoc, ← hX, List.take_left], ?_, ?_⟩
    · rw [List.append_assoc, ← hX, List.drop_left, ← hY, List.take_left]
    · rw [← hX, ← hY, ← List.length_append, List.drop_left]
  · rintro ⟨e1, e2, e3⟩
    rw [← e1, ← e2, ← e3, ← List.drop_drop, List.append_assoc, List.take_append_drop, List.take_append_drop]
theorem half_junction {t : List Int} (hr : Plain.Reduced t) (h2 : 2 ≤ t.length) : ¬ t.drop (t.length / 2) = Plain.inv (t.take (t.length / 2)) := by
  intro e
  have hj := (Plain.reduced_append.1 (by rw [List.take_append_drop]; exact hr : Plain.Reduced (t.take (t.length / 2) ++ t.drop (t.length / 2)))).2.2
  have hne : t.take (t.length / 2) ≠ [] := by
    intro h
    have := congrArg List.length h
    simp at this
    rcases this with h | h
    · omega
    · rw [h] at h2; simp at h2
  obtain ⟨x, hx⟩ : ∃ x, (t.take (t.length / 2)).getLast? = some x := ⟨_, List.getLast?_eq_some_getLast hne⟩
  have hh : (Plain.inv (t.take (t.length / 2))).head? = some (-x) := by
    unfold Plain.inv
    rw [List.head?_reverse, List.getLast?_map, hx]
    rfl
  have := hj x (-x) hx (by rw [e]; exact hh)
  simp at this
theorem parts_cut {t : List Int} (hr : Plain.Reduced t) (h2 : 2 ≤ t.length) (he : t.length % 2 = 0) {i k : Nat} (hik : i + k ≤ t.length / 2) : partsB t i k = (headB t i && (midB t i (i + k) && tailB t (i + k))) := by
  obtain ⟨n, hn⟩ : ∃ n, n = t.length / 2 := ⟨_, rfl⟩
  have hA : (t.take n).take i = t.take i := by rw [List.take_take, Nat.min_eq_left (by omega)]
  have hB : ((t.take n).drop i).take k = (t.drop i).take k := by rw [List.drop_take, List.take_take, Nat.min_eq_left (by omega)]
  have hC : (t.take n).drop (i + k) = (t.drop (i + k)).take (n - (i + k)) := by rw [List.drop_take]
  have key : t.drop n = restZ t n i k ↔ (t.drop n).take i = Plain.inv ((t.take n).take i) ∧ ((t.drop n).drop i).take k = Plain.inv (((t.take n).drop i).take k) ∧ (t.drop n).drop (i + k) = Plain.inv ((t.take n).drop (i + k)) := by
    rw [restZ, hA, hB, hC]
    exact split3 (b := t.drop n) _ _ _ rfl (by rw [Plain.inv_length, List.length_take]; omega) (by rw [Plain.inv_length, List.length_take, List.length_drop]; omega)
  unfold partsB headB midB tailB
  rw [← hn, show i + k - i = k by omega]
  by_cases hz : t.drop n = restZ t n i k
  · obtain ⟨e1, e2, e3⟩ := key.1 hz
    have hem : emptyN n i k ≤ 1 := by
      by_cases hlt : emptyN n i k ≤ 1
      · exact hlt
      · exfalso
        refine half_junction hr h2 ?_
        rw [← hn]
        unfold emptyN at hlt
        by_cases hi : i = 0
        · by_cases hk : k = 0
          · subst hi hk; simpa using e3
          · rw [if_pos hi, if_neg hk] at hlt
            have hs : i + k = n := by
              by_cases h : i + k = n
              · exact h
              · rw [if_neg h] at hlt; omega
            have hkn : k = n := by omega
            subst hi
            rw [List.drop_zero, List.drop_zero, List.take_of_length_le (by simp; omega), List.take_of_length_le (by simp; omega)] at e2
            exact e2
        · rw [if_neg hi] at hlt
          by_cases hk : k = 0
          · rw [if_pos hk] at hlt
            have hs : i + k = n := by
              by_cases h : i + k = n
              · exact h
              · rw [if_neg h] at hlt; omega
            rw [List.take_of_length_le (by simp; omega), List.take_of_length_le (by simp; omega)] at e1
            exact e1
          · rw [if_neg hk] at hlt
            split at hlt <;> omega
    rw [decide_eq_true hz, decide_eq_true hem, decide_eq_true e1, decide_eq_true e2, decide_eq_true e3]
    rfl
  · rw [decide_eq_false hz, Bool.and_false]
    cases h1 : decide ((t.drop n).take i = Plain.inv ((t.take n).take i)) with
    | false => simp
    | true =>
      cases h3 : decide (((t.drop n).drop i).take k = Plain.inv (((t.take n).drop i).take k)) with
      | false => simp
      | true =>
        cases h4 : decide ((t.drop n).drop (i + k) = Plain.inv ((t.take n).drop (i + k))) with
        | false => simp
        | true => exact absurd (key.2 ⟨of_decide_eq_true h1, of_decide_eq_true h3, of_decide_eq_true h4⟩) hz
theorem jC_is {t : List Int} (hr : Plain.Reduced t) (h2 : 2 ≤ t.length) (he : t.length % 2 = 0) {i : Nat} (hh : headB t i = true) : ∀ {f k : Nat}, i + k + f ≤ t.length / 2 + 1 → jC t i f k = kFrom t i f k
  | 0, k, _ => rfl
  | f + 1, k, hf => by
    rw [jC, kFrom, parts_cut hr h2 he (by omega), hh, Bool.true_and, jC_is hr h2 he hh (by omega)]
theorem kFrom_no {t : List Int} (hr : Plain.Reduced t) (h2 : 2 ≤ t.length) (he : t.length % 2 = 0) {i : Nat} (hh : headB t i = false) : ∀ {f k : Nat}, i + k + f ≤ t.length / 2 + 1 → kFrom t i f k = none
  | 0, k, _ => rfl
  | f + 1, k, hf => by
    rw [kFrom, parts_cut hr h2 he (by omega), hh, Bool.false_and, if_neg (by simp), kFrom_no hr h2 he hh (by omega)]
theorem iC_is {t : List Int} (hr : Plain.Reduced t) (h2 : 2 ≤ t.length) (he : t.length % 2 = 0) : ∀ {f i : Nat}, i + f ≤ t.length / 2 + 1 → iC t (t.length / 2) f i = iFrom t (t.length / 2) f i
  | 0, i, _ => rfl
  | f + 1, i, hf => by
    rw [iC, iFrom, iC_is hr h2 he (by omega)]
    cases hh : headB t i with
    | true =>
      rw [if_pos rfl, jC_is hr h2 he hh (by omega)]
      cases kFrom t i (t.length / 2 + 1 - i) 0 <;> rfl
    | false => rw [if_neg (by simp), kFrom_no hr h2 he hh (by omega)]
theorem core_reduced {x : List Int} (hl : Plain.Letters x) : Plain.Reduced (Plain.core (Plain.red x)) := by
  have h := (Plain.core_parts _ (Plain.red x) (Nat.le_refl _) hl.red).1
  have hr := Plain.red_reduced x
  rw [h] at hr
  exact (Plain.reduced_append.1 (Plain.reduced_append.1 hr).2.1).1
theorem turn_reduced {x : List Int} (hl : Plain.Letters x) (k : Nat) : Plain.Reduced (turn (Plain.core (Plain.red x)) k) := by
  have hc := (Plain.core_parts _ (Plain.red x) (Nat.le_refl _) hl.red).2
  have hr := core_reduced hl
  generalize Plain.core (Plain.red x) = c at hc hr
  have h1 := Plain.reduced_append.1 (by rw [List.take_append_drop]; exact hr : Plain.Reduced (c.take k ++ c.drop k))
  refine Plain.reduced_append.2 ⟨h1.2.1, h1.1, fun a b ha hb => ?_⟩
  have e1 : c.getLast? = some a := by
    rw [← List.take_append_drop k c, List.getLast?_append, ha]
    rfl
  have e2 : c.head? = some b := by
    cases c with
    | nil => simp at hb
    | cons y t =>
      cases k with
      | zero => simp at hb
      | succ k => simpa using hb
  have := hc b a e2 e1
  omega
theorem tC_is {x : List Int} (hl : Plain.Letters x) (he : (Plain.core (Plain.red x)).length % 2 = 0) : ∀ {f j : Nat}, j + f ≤ (Plain.core (Plain.red x)).length → tC (Plain.core (Plain.red x)) f j = tFrom (Plain.core (Plain.red x)) f j
  | 0, j, _ => rfl
  | f + 1, j, hf => by
    have hz := turn_length (Plain.core (Plain.red x)) j
    have h := iC_is (turn_reduced hl j) (by rw [hz]; omega) (by rw [hz]; exact he) (f := (Plain.core (Plain.red x)).length / 2 + 1) (i := 0) (by rw [hz]; omega)
    rw [hz] at h
    rw [tC, tFrom, h, tC_is hl he (by omega)]
    cases iFrom (turn (Plain.core (Plain.red x)) j) ((Plain.core (Plain.red x)).length / 2) ((Plain.core (Plain.red x)).length / 2 + 1) 0 with
    | none => rfl
    | some p => rfl
theorem tC_odd {c : List Int} (he : c.length % 2 = 1) : ∀ {f j : Nat}, tC c f j = none
  | 0, j => rfl
  | f + 1, j => by
    have hz := turn_length c j
    have h := iC_odd (t := turn c j) (by rw [hz]; exact he) (f := c.length / 2 + 1) (i := 0) (by rw [hz]; omega)
    rw [hz] at h
    rw [tC, h, tC_odd he]
theorem wicks_cuts {x : List Int} (hw : Plain.wordB x = true) : wicksAt x = tC (Plain.core (Plain.red x)) (Plain.core (Plain.red x)).length 0 := by
  have hl := (Plain.wordB_iff.1 hw).2
  rw [wicksAt]
  by_cases he : (Plain.core (Plain.red x)).length % 2 = 0
  · rw [if_pos ⟨hw, he⟩, tC_is hl he (by omega)]
  · rw [if_neg (fun h => he h.2), tC_odd (by omega)]

end Go.Proofs.YtmcbaejgimopmaaGreat
