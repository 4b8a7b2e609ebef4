/- Plain mathematics for FnTurns: turned lists, the least of them, cores of conjugates are turned. No condition. -/
import Derived.Test.YtoikehpnpealpaaLeast
import Derived.Test.YtoikehpnpealpaaWordsMath
import Derived.Test.YtoikehpnpealpaaComm
import Derived.Test.YtoikehpnpealpaaCoreMath
namespace Go.Proofs.Ytoikehpnpealpaa.Plain
set_option linter.unusedVariables false

/-- One list is the other one turned. -/
def IsTurn (x y : List Int) : Prop := ∃ a b, x = a ++ b ∧ y = b ++ a
theorem IsTurn.refl (x : List Int) : IsTurn x x := ⟨[], x, by simp, by simp⟩
theorem IsTurn.symm {x y : List Int} (h : IsTurn x y) : IsTurn y x := by
  obtain ⟨a, b, h1, h2⟩ := h
  exact ⟨b, a, h2, h1⟩
theorem IsTurn.trans {x y z : List Int} (h : IsTurn x y) (k : IsTurn y z) : IsTurn x z := by
  obtain ⟨a, b, rfl, rfl⟩ := h
  obtain ⟨c, d, h1, rfl⟩ := k
  rcases List.append_eq_append_iff.1 h1 with ⟨e, rfl, rfl⟩ | ⟨e, rfl, rfl⟩
  · exact ⟨e, d ++ b, by simp, by simp⟩
  · exact ⟨a ++ c, e, by simp, by simp⟩
theorem isTurn_at (l : List Int) (k : Nat) : IsTurn l (turnAt l k) := ⟨l.take k, l.drop k, (List.take_append_drop k l).symm, rfl⟩
theorem isTurn_as {l m : List Int} (h : IsTurn l m) : ∃ k, k ≤ l.length ∧ m = turnAt l k := by
  obtain ⟨a, b, rfl, rfl⟩ := h
  exact ⟨a.length, by simp, by simp [turnAt]⟩
theorem IsTurn.length {x y : List Int} (h : IsTurn x y) : x.length = y.length := by
  obtain ⟨a, b, rfl, rfl⟩ := h
  simp [Nat.add_comm]
theorem less_trans {u v w : List Int} (h1 : u.length = v.length) (h2 : v.length = w.length) (h : lessB u v = true) (k : lessB v w = true) : lessB u w = true := by
  rw [less_lex h1] at h
  rw [less_lex h2] at k
  rw [less_lex (h1.trans h2)]
  exact lex_trans u v w h1 h2 h k
theorem leastTo_spec (l : List Int) (k : Nat) : IsTurn l (leastTo l k) ∧ ∀ j, j < k → lessB (turnAt l j) (leastTo l k) = false := by
  induction k with
  | zero => exact ⟨IsTurn.refl l, fun j h => by omega⟩
  | succ k ih =>
    obtain ⟨h1, h2⟩ := ih
    cases h : lessB (turnAt l k) (leastTo l k) with
    | true =>
      rw [leastTo_yes h]
      refine ⟨isTurn_at l k, fun j hj => ?_⟩
      by_cases e : j = k
      · subst e; exact less_same rfl
      · cases hh : lessB (turnAt l j) (turnAt l k) with
        | false => rfl
        | true =>
          have := less_trans (by rw [turnAt_length, turnAt_length]) (by rw [turnAt_length, leastTo_length]) hh h
          rw [h2 j (by omega)] at this
          cases this
    | false =>
      rw [leastTo_no h]
      refine ⟨h1, fun j hj => ?_⟩
      by_cases e : j = k
      · subst e; exact h
      · exact h2 j (by omega)
theorem least_spec (l : List Int) : IsTurn l (least l) ∧ ∀ m, IsTurn l m → lessB m (least l) = false := by
  obtain ⟨h1, h2⟩ := leastTo_spec l l.length
  refine ⟨h1, fun m hm => ?_⟩
  obtain ⟨k, hk, rfl⟩ := isTurn_as hm
  by_cases e : k = l.length
  · subst e
    have e2 : turnAt l l.length = turnAt l 0 := by simp [turnAt]
    rw [e2]
    by_cases h0 : l = []
    · subst h0; rfl
    · exact h2 0 (List.length_pos_iff.2 h0)
  · exact h2 k (by omega)
theorem least_turn {l m : List Int} (h : IsTurn l m) : least l = least m := by
  obtain ⟨a1, a2⟩ := least_spec l
  obtain ⟨b1, b2⟩ := least_spec m
  exact less_total (b2 _ (h.symm.trans a1)) (a2 _ (h.trans b1))

/-! conjugates -/
/-- A reduced list between a letter and its opposite has its core turned. -/
theorem core_letter (a : Int) (r : List Int) (hr : Reduced r) (hl : Letters r) (ha : a ≠ 0) : IsTurn (core r) (core (red (a :: (r ++ [-a])))) := by
  -- a list that stays reduced between the letters
  have wrap : (∀ x, r.head? = some x → x ≠ -a) → (∀ y, r.getLast? = some y → y ≠ a) → r ≠ [] → IsTurn (core r) (core (red (a :: (r ++ [-a])))) := by
    intro h1 h2 h0
    have hR : Reduced (a :: (r ++ [-a])) := by
      have k1 : Reduced (r ++ [-a]) := reduced_append.2 ⟨hr, trivial, fun x y hx hy => by simp at hy; have := h2 x hx; omega⟩
      have k2 : Reduced ([a] ++ (r ++ [-a])) := reduced_append.2 ⟨trivial, k1, fun x y hx hy => by
        cases r with
        | nil => exact absurd rfl h0
        | cons z t => simp at hx hy; have := h1 z rfl; omega⟩
      exact k2
    rw [red_of_reduced hR, (core_wrap hl).1]
    exact IsTurn.refl _
  rcases ends_cases r with rfl | ⟨x, rfl⟩ | ⟨x, m, y, rfl⟩
  · have : red (a :: ([] ++ [-a])) = [] := red_cancel [] [] a
    rw [this]
    exact IsTurn.refl _
  · have hx0 := (hl x (by simp)).1
    by_cases e1 : x = -a
    · subst e1
      have : red (a :: ([-a] ++ [-a])) = [-a] := by
        have := red_cancel [] [-a] a
        simp only [List.nil_append] at this
        rw [List.cons_append, List.nil_append, this]
        exact red_of_reduced trivial
      rw [this]
      exact IsTurn.refl _
    · by_cases e2 : x = a
      · subst e2
        have : red (x :: ([x] ++ [-x])) = [x] := by
          have := red_cancel [x] [] x
          rw [List.append_nil] at this
          exact this.trans (red_of_reduced trivial)
        rw [this]
        exact IsTurn.refl _
      · exact wrap (fun z hz => by simp at hz; omega) (fun z hz => by simp at hz; omega) (by simp)
  · by_cases e : y = -x
    · subst e
      by_cases e1 : x = -a
      · subst e1
        have hm : Letters m := hl.sub fun z hz => by simp [hz]
        have hmr : Reduced m := (reduced_append.1 (Reduced.tail hr)).1
        have : red (a :: ((-a :: (m ++ [- -a])) ++ [-a])) = m := by
          have h1 := red_cancel [] (m ++ [- -a] ++ [-a]) a
          simp only [List.nil_append] at h1
          rw [List.cons_append, h1]
          have h2 := red_cancel m [] (- -a)
          rw [List.append_nil] at h2
          rw [List.append_assoc]
          rw [Int.neg_neg] at h2 ⊢
          rw [show [a] ++ [-a] = [a, -a] from rfl, h2]
          exact red_of_reduced hmr
        rw [this, (core_wrap hm).1]
        exact IsTurn.refl _
      · exact wrap (fun z hz => by cases hz; exact e1) (fun z hz => by rw [last_snoc] at hz; cases hz; omega) (by simp)
    · have hc := (core_stop (l := x :: (m ++ [y])) (x := x) (y := y) rfl (last_snoc _ _ _) (by omega)).1
      by_cases e1 : x = -a
      · subst e1
        have hR : Reduced ((m ++ [y]) ++ [-a]) := reduced_append.2 ⟨Reduced.tail hr, trivial, fun u v hu hv => by rw [last_app] at hu; cases hu; cases hv; omega⟩
        have h1 := red_cancel [] (m ++ [y] ++ [-a]) a
        simp only [List.nil_append] at h1
        rw [List.cons_append, h1, red_of_reduced hR, hc]
        have h0 : ∃ z t, m ++ [y] = z :: t := by
          cases m with
          | nil => exact ⟨y, [], rfl⟩
          | cons z t => exact ⟨z, t ++ [y], rfl⟩
        obtain ⟨z, t, hz⟩ := h0
        rw [hz] at hr ⊢
        have hza : -a ≠ -z := hr.1
        rw [(core_stop (l := z :: t ++ [-a]) (x := z) (y := -a) rfl (last_app _ _) (by omega)).1]
        exact ⟨[-a], z :: t, rfl, rfl⟩
      · by_cases e2 : y = a
        · subst e2
          have hR0 := (reduced_append (a := x :: m) (b := [y])).1 (by simpa using hr)
          have hR : Reduced ([y] ++ (x :: m)) := reduced_append.2 ⟨trivial, hR0.1, fun u v hu hv => by simp at hu hv; omega⟩
          have h1 := red_cancel ([y] ++ (x :: m)) [] y
          rw [List.append_nil] at h1
          have h2 : y :: ((x :: (m ++ [y])) ++ [-y]) = [y] ++ (x :: m) ++ [y, -y] := by simp
          rw [h2, h1, red_of_reduced hR, hc]
          have hlast : ∀ z, ([y] ++ (x :: m)).getLast? = some z → y ≠ -z := by
            intro z hz
            have := hR0.2.2 z y (by simpa using hz) rfl
            omega
          obtain ⟨z, hz⟩ : ∃ z, ([y] ++ (x :: m)).getLast? = some z := ⟨_, List.getLast?_eq_some_getLast (by simp)⟩
          rw [(core_stop (l := [y] ++ (x :: m)) (x := y) (y := z) rfl hz (hlast z hz)).1]
          exact ⟨x :: m, [y], by simp, rfl⟩
        · exact wrap (fun z hz => by cases hz; exact e1) (fun z hz => by rw [last_snoc] at hz; cases hz; exact e2) (by simp)
/-- Conjugates have cores that are turned. -/
theorem core_conj (g x : List Int) (hg : Letters g) (hx : Letters x) : IsTurn (core (red x)) (core (red (g ++ (x ++ inv g)))) := by
  induction g with
  | nil => simp only [inv, List.map_nil, List.reverse_nil, List.append_nil, List.nil_append]; exact IsTurn.refl _
  | cons a g ih =>
    have hg' : Letters g := hg.sub fun z hz => by simp [hz]
    have ha := (hg a (by simp)).1
    refine (ih hg').trans ?_
    have hL : Letters (red (g ++ (x ++ inv g))) := (hg'.append (hx.append hg'.inv)).red
    have h := core_letter a (red (g ++ (x ++ inv g))) (red_reduced _) hL ha
    have e : red (a :: (red (g ++ (x ++ inv g)) ++ [-a])) = red ((a :: g) ++ (x ++ inv (a :: g))) := by
      have e1 : a :: (red (g ++ (x ++ inv g)) ++ [-a]) = ([a] ++ red (g ++ (x ++ inv g))) ++ [-a] := by simp
      have e2 : (a :: g) ++ (x ++ inv (a :: g)) = ([a] ++ (g ++ (x ++ inv g))) ++ [-a] := by rw [inv_cons]; simp
      rw [e1, e2, ← red_red_append, red_append_red, red_red_append]
    rw [e] at h
    exact h
theorem least_conj (g x : List Int) (hg : Letters g) (hx : Letters x) : least (core (red (g ++ (x ++ inv g)))) = least (core (red x)) := (least_turn (core_conj g x hg hx)).symm
theorem least_turned (x : List Int) (hx : Letters x) (k : Nat) : least (core (red (turnAt x k))) = least (core (red x)) := by
  have hg : Letters (inv (x.take k)) := (hx.sub fun z hz => List.mem_of_mem_take hz : Letters (x.take k)).inv
  have h := least_conj (inv (x.take k)) x hg hx
  rw [← h, inv_inv]
  congr 2
  -- inv A ++ (A ++ B) ++ A
  have e : inv (x.take k) ++ (x ++ x.take k) = (inv (x.take k) ++ x.take k) ++ (x.drop k ++ x.take k) := by
    rw [List.append_assoc, ← List.append_assoc (x.take k), List.take_append_drop]
  have h0 : red (inv (x.take k) ++ x.take k) = [] := by
    have := red_inv (inv (x.take k))
    rwa [inv_inv] at this
  rw [e, ← red_red_append, h0]
  rfl

end Go.Proofs.Ytoikehpnpealpaa.Plain
