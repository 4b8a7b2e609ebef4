/- Plain mathematics of cores: where a core stops, and what a list is around its core. No condition. -/
import Derived.Test.YtoikehpnpealpaaWord
import Derived.Test.YtoikehpnpealpaaComm
namespace Go.Proofs.Ytoikehpnpealpaa.Plain
set_option linter.unusedVariables false

/-! cores -/
theorem depth_eq {l : List Int} {j : Nat} (h : ∀ i, i < j → stopsB l i = false) (h2 : 2 * j ≤ l.length) (hs : stopsB l j = true) : depth l = j := by
  have key : ∀ i, i ≤ j → Deep l i := by
    intro i
    induction i with
    | zero => intro _; exact deep_zero l
    | succ i ih => intro hi; exact deep_succ (ih (by omega)) (h i (by omega)) (by omega)
  exact deep_stop (key j (Nat.le_refl _)) hs
theorem depthFrom_ge (l : List Int) (f : Nat) : ∀ j, j ≤ depthFrom l f j := by
  induction f with
  | zero => intro j; exact Nat.le_refl _
  | succ f ih => intro j; rw [depthFrom]; split; exact Nat.le_refl _; exact Nat.le_trans (Nat.le_succ j) (ih (j + 1))
theorem depth_stops {l : List Int} (hl : Letters l) : stopsB l (depth l) = true := by
  have h := deep_depth hl
  obtain ⟨h1, h2, -⟩ := h
  cases hf : l.length - depth l with
  | zero => exact stops_end (by omega)
  | succ f =>
    rw [hf, depthFrom] at h1
    split at h1
    · assumption
    · have := depthFrom_ge l f (depth l + 1)
      omega
theorem core_stop {l : List Int} {x y : Int} (hx : l.head? = some x) (hy : l.getLast? = some y) (hne : x ≠ -y) : core l = l ∧ by_ l = [] := by
  have hs : stopsB l 0 = true := by
    refine stops_no (x := x) (y := y) ?_ ?_ hne
    · rw [← List.head?_eq_getElem?]; exact hx
    · rw [Nat.sub_zero, ← List.getLast?_eq_getElem?]; exact hy
  have hd : depth l = 0 := depth_eq (fun i h => by omega) (by omega) hs
  exact ⟨by rw [core, hd, mid_zero], by rw [by_, hd]; rfl⟩
theorem core_nil : core [] = [] ∧ by_ [] = [] := ⟨by simp [core, mid], by simp [by_]⟩
theorem stops_wrap (x : Int) (m : List Int) (i : Nat) : stopsB (x :: (m ++ [-x])) (i + 1) = stopsB m i := by
  by_cases h : m.length ≤ 2 * i
  · rw [stops_end h, stops_end (by simp; omega)]
  · have h1 : (x :: (m ++ [-x]))[i + 1]? = m[i]? := by rw [List.getElem?_cons_succ, List.getElem?_append_left (by omega)]
    have h2 : (x :: (m ++ [-x]))[(x :: (m ++ [-x])).length - 1 - (i + 1)]? = m[m.length - 1 - i]? := by
      rw [show (x :: (m ++ [-x])).length - 1 - (i + 1) = (m.length - 1 - i) + 1 by simp; omega, List.getElem?_cons_succ, List.getElem?_append_left (by omega)]
    have h3 : decide ((x :: (m ++ [-x])).length ≤ 2 * (i + 1)) = decide (m.length ≤ 2 * i) := by
      rw [decide_eq_decide]; simp; omega
    unfold stopsB
    rw [h1, h2, h3]
theorem core_wrap {x : Int} {m : List Int} (hm : Letters m) : core (x :: (m ++ [-x])) = core m ∧ by_ (x :: (m ++ [-x])) = x :: by_ m := by
  have hd := depth_le hm
  have hdep : depth (x :: (m ++ [-x])) = depth m + 1 := by
    refine depth_eq (fun i hi => ?_) (by simp; omega) ?_
    · cases i with
      | zero => exact goes_on (x := x) (y := -x) (by simp) rfl (by simp) (by omega)
      | succ i => rw [stops_wrap]; exact (deep_depth hm).2.2 i (by omega)
    · rw [stops_wrap]; exact depth_stops hm
  constructor
  · rw [core, hdep, mid, List.drop_succ_cons, List.drop_append_of_le_length (by omega), core, mid]
    rw [show (x :: (m ++ [-x])).length - 2 * (depth m + 1) = m.length - 2 * depth m by simp; omega]
    rw [List.take_append_of_le_length (by simp; omega)]
  · rw [by_, hdep, List.take_succ_cons, List.take_append_of_le_length (by omega)]
    rfl
theorem ends_cases (l : List Int) : l = [] ∨ (∃ x, l = [x]) ∨ ∃ x m y, l = x :: (m ++ [y]) := by
  cases l with
  | nil => exact .inl rfl
  | cons x t =>
    by_cases h : t = []
    · subst h; exact .inr (.inl ⟨x, rfl⟩)
    · exact .inr (.inr ⟨x, t.dropLast, t.getLast h, by rw [List.dropLast_concat_getLast]⟩)
theorem last_app (l : List Int) (y : Int) : (l ++ [y]).getLast? = some y := by rw [List.getLast?_append]; rfl
theorem last_snoc (x : Int) (m : List Int) (y : Int) : (x :: (m ++ [y])).getLast? = some y := last_app (x :: m) y
/-- A core's ends are no opposites. -/
theorem core_parts : ∀ (n : Nat) (l : List Int), l.length ≤ n → Letters l → l = by_ l ++ (core l ++ inv (by_ l)) ∧ ∀ x y, (core l).head? = some x → (core l).getLast? = some y → x ≠ -y := by
  intro n
  induction n with
  | zero =>
    intro l hn hl
    have : l = [] := List.eq_nil_of_length_eq_zero (by omega)
    subst this
    rw [core_nil.1, core_nil.2]
    exact ⟨rfl, fun x y h => by simp at h⟩
  | succ n ih =>
    intro l hn hl
    rcases ends_cases l with rfl | ⟨x, rfl⟩ | ⟨x, m, y, rfl⟩
    · rw [core_nil.1, core_nil.2]
      exact ⟨rfl, fun x y h => by simp at h⟩
    · have h0 := (hl x (by simp)).1
      obtain ⟨h1, h2⟩ := core_stop (l := [x]) (x := x) (y := x) rfl rfl (by omega)
      rw [h1, h2]
      exact ⟨by simp [inv], fun a b ha hb => by simp at ha hb; omega⟩
    · by_cases e : y = -x
      · subst e
        have hm : Letters m := hl.sub fun z hz => by simp [hz]
        obtain ⟨h1, h2⟩ := core_wrap (x := x) hm
        obtain ⟨k1, k2⟩ := ih m (by simp at hn; omega) hm
        rw [h1, h2]
        refine ⟨?_, k2⟩
        rw [inv_cons]
        conv => lhs; rw [k1]
        simp
      · obtain ⟨h1, h2⟩ := core_stop (l := x :: (m ++ [y])) (x := x) (y := y) rfl (last_snoc _ _ _) (by omega)
        rw [h1, h2]
        refine ⟨by simp [inv], fun a b ha hb => ?_⟩
        rw [last_snoc] at hb
        cases ha
        cases hb
        omega

end Go.Proofs.Ytoikehpnpealpaa.Plain
