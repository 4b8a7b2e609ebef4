/- Contracts: impl's point.letterTo, spec's l10Letter: the letter of a step. Conditions: points on the grid, side by side. -/
import Derived.Test.YtpaijobmoddgpaaPathEnds
import Derived.WalkLawsBesides
namespace Go.Proofs.Ytpaijobmoddgpaa
open Go.ChangeShapes Go.WideShapes Go.ChangeAt Go.RowKit
set_option linter.unusedVariables false
set_option linter.unusedSimpArgs false

namespace Plain
/-- The letter as which the step between two points is read. -/
def letPQ (p q : Pt) : Int := if p.2 ≠ q.2 ∨ p.2 < 1 then 0 else if q.1 = p.1 + 1 ∧ 1 ≤ p.1 ∧ p.1 ≤ 6 then p.1 else if p.1 = q.1 + 1 ∧ 1 ≤ q.1 ∧ q.1 ≤ 6 then -q.1 else 0
theorem letPQ_bd (p q : Pt) : -6 ≤ letPQ p q ∧ letPQ p q ≤ 6 := by
  unfold letPQ
  split
  · omega
  · split
    · omega
    · split <;> omega
def letsTo (l : List UInt8) (k : Nat) : List Int := ((List.range k).map (fun j => letPQ (atP l j) (atP l (j + 1)))).filter (fun x => decide (x ≠ 0))
theorem letsTo_zero (l : List UInt8) : letsTo l 0 = [] := rfl
theorem letsTo_step (l : List UInt8) (k : Nat) : letsTo l (k + 1) = if letPQ (atP l k) (atP l (k + 1)) ≠ 0 then letsTo l k ++ [letPQ (atP l k) (atP l (k + 1))] else letsTo l k := by
  unfold letsTo
  rw [List.range_succ, List.map_append, List.filter_append]
  by_cases h : letPQ (atP l k) (atP l (k + 1)) = 0 <;> simp [h]
theorem letsTo_le (l : List UInt8) (k : Nat) : (letsTo l k).length ≤ k := by
  unfold letsTo
  have := List.length_filter_le (fun x => decide (x ≠ 0)) ((List.range k).map (fun j => letPQ (atP l j) (atP l (j + 1))))
  simpa using this
theorem letsTo_letters (l : List UInt8) (k : Nat) : ∀ x ∈ letsTo l k, x ≠ 0 ∧ -6 ≤ x ∧ x ≤ 6 := by
  intro x hx
  unfold letsTo at hx
  obtain ⟨h1, h2⟩ := List.mem_filter.1 hx
  obtain ⟨j, -, rfl⟩ := List.mem_map.1 h1
  exact ⟨by simpa using h2, letPQ_bd _ _⟩
/-- Points side by side. -/
def Beside (p q : Pt) : Prop := q.1 = p.1 ∨ q.1 = p.1 + 1 ∨ p.1 = q.1 + 1
theorem next_beside (p : Pt) (b : UInt8) : Beside p (nextP p b) := by
  have h := dx_bd b
  unfold Beside nextP
  simp only []
  omega
end Plain
set_option maxRecDepth 100000 in
set_option maxHeartbeats 3200000 in
theorem letterTo_any (px py qx qy : Int) (w : World) (hp : -13 ≤ px ∧ px ≤ 13 ∧ -13 ≤ py ∧ py ≤ 13) (hq : -13 ≤ qx ∧ qx ≤ 13 ∧ -13 ≤ qy ∧ qy ≤ 13) (hb : qx = px ∨ qx = px + 1 ∨ px = qx + 1) :
    Calls Try.prog 91 #[.agg #[.int .i64 px, .int .i64 py], .agg #[.int .i64 qx, .int .i64 qy]] w (Val (.int .i64 (Plain.letPQ (px, py) (qx, qy))) w) := by
  obtain ⟨z, hz⟩ : ∃ z, z = Plain.letPQ (px, py) (qx, qy) := ⟨_, rfl⟩
  rw [← hz]
  unfold Plain.letPQ at hz
  simp only [] at hz
  obtain ⟨hp1, hp2, hp3, hp4⟩ := hp
  obtain ⟨hq1, hq2, hq3, hq4⟩ := hq
  have HZ := Lib.hid hz
  have HBB := Lib.hid hb
  clear hz hb
  by_cases hy : py = qy
  · subst hy
    by_cases h1 : py < 1
    · obtain rfl : z = 0 := by rw [HZ.out, if_pos (Or.inr h1)]
      rcases HBB.out with rfl | rfl | rfl
      · skip
        go_enter Try.func91, Try.ntmps91
        go_wp2_with fail
        go_ret
        exact ⟨rfl, ((Below.refl _ _).alloc (Nat.le_refl _) _).alloc (by simp) _⟩
      · skip
        go_enter Try.func91, Try.ntmps91
        go_wp2_with fail
        go_ret
        exact ⟨rfl, ((Below.refl _ _).alloc (Nat.le_refl _) _).alloc (by simp) _⟩
      · skip
        go_enter Try.func91, Try.ntmps91
        go_wp2_with fail
        go_ret
        exact ⟨rfl, ((Below.refl _ _).alloc (Nat.le_refl _) _).alloc (by simp) _⟩
    · rw [if_neg (by omega)] at HZ
      rcases HBB.out with rfl | rfl | rfl
      · obtain rfl : z = 0 := by rw [HZ.out, if_neg (by omega), if_neg (by omega)]
        by_cases hn : 1 ≤ qx ∧ qx ≤ 6
        · skip
          have HNL : Hid (∀ W, Calls Try.prog 85 #[.int .i64 (qx)] W fun e w' => e = .returned (.bool true) ∧ W = w') := Lib.hid (fun W => by have := isNail10_any (qx) W; rw [show decide (1 ≤ qx ∧ qx ≤ 6) = true from by simp; omega] at this; exact this)
          go_enter Try.func91, Try.ntmps91
          go_wp2_with fail
          refine (HNL.out _).mono ?_
          rintro e w' ⟨rfl, rfl⟩
          go_wp2_with fail
          go_ret
          exact ⟨ret_int (by omega), ((Below.refl _ _).alloc (Nat.le_refl _) _).alloc (by simp) _⟩
        · skip
          have HNL : Hid (∀ W, Calls Try.prog 85 #[.int .i64 (qx)] W fun e w' => e = .returned (.bool false) ∧ W = w') := Lib.hid (fun W => by have := isNail10_any (qx) W; rw [show decide (1 ≤ qx ∧ qx ≤ 6) = false from by simp; omega] at this; exact this)
          go_enter Try.func91, Try.ntmps91
          go_wp2_with fail
          refine (HNL.out _).mono ?_
          rintro e w' ⟨rfl, rfl⟩
          go_wp2_with fail
          go_ret
          exact ⟨rfl, ((Below.refl _ _).alloc (Nat.le_refl _) _).alloc (by simp) _⟩
      · by_cases hn : 1 ≤ px ∧ px ≤ 6
        · obtain rfl : z = px := by rw [HZ.out, if_pos ⟨rfl, hn⟩]
          have HNL : Hid (∀ W, Calls Try.prog 85 #[.int .i64 (z)] W fun e w' => e = .returned (.bool true) ∧ W = w') := Lib.hid (fun W => by have := isNail10_any (z) W; rw [show decide (1 ≤ z ∧ z ≤ 6) = true from by simp; omega] at this; exact this)
          go_enter Try.func91, Try.ntmps91
          go_wp2_with fail
          refine (HNL.out _).mono ?_
          rintro e w' ⟨rfl, rfl⟩
          go_wp2_with fail
          go_ret
          exact ⟨ret_int (by omega), ((Below.refl _ _).alloc (Nat.le_refl _) _).alloc (by simp) _⟩
        · obtain rfl : z = 0 := by rw [HZ.out, if_neg (by omega), if_neg (by omega)]
          have HNL : Hid (∀ W, Calls Try.prog 85 #[.int .i64 (px)] W fun e w' => e = .returned (.bool false) ∧ W = w') := Lib.hid (fun W => by have := isNail10_any (px) W; rw [show decide (1 ≤ px ∧ px ≤ 6) = false from by simp; omega] at this; exact this)
          go_enter Try.func91, Try.ntmps91
          go_wp2_with fail
          refine (HNL.out _).mono ?_
          rintro e w' ⟨rfl, rfl⟩
          go_wp2_with fail
          go_ret
          exact ⟨rfl, ((Below.refl _ _).alloc (Nat.le_refl _) _).alloc (by simp) _⟩
      · by_cases hn : 1 ≤ qx ∧ qx ≤ 6
        · obtain rfl : z = -qx := by rw [HZ.out, if_neg (by omega), if_pos ⟨rfl, hn⟩]
          have HNL : Hid (∀ W, Calls Try.prog 85 #[.int .i64 (qx)] W fun e w' => e = .returned (.bool true) ∧ W = w') := Lib.hid (fun W => by have := isNail10_any (qx) W; rw [show decide (1 ≤ qx ∧ qx ≤ 6) = true from by simp; omega] at this; exact this)
          go_enter Try.func91, Try.ntmps91
          go_wp2_with fail
          refine (HNL.out _).mono ?_
          rintro e w' ⟨rfl, rfl⟩
          go_wp2_with fail
          go_ret
          exact ⟨ret_int (by omega), ((Below.refl _ _).alloc (Nat.le_refl _) _).alloc (by simp) _⟩
        · obtain rfl : z = 0 := by rw [HZ.out, if_neg (by omega), if_neg (by omega)]
          have HNL : Hid (∀ W, Calls Try.prog 85 #[.int .i64 (qx)] W fun e w' => e = .returned (.bool false) ∧ W = w') := Lib.hid (fun W => by have := isNail10_any (qx) W; rw [show decide (1 ≤ qx ∧ qx ≤ 6) = false from by simp; omega] at this; exact this)
          go_enter Try.func91, Try.ntmps91
          go_wp2_with fail
          refine (HNL.out _).mono ?_
          rintro e w' ⟨rfl, rfl⟩
          go_wp2_with fail
          go_ret
          exact ⟨rfl, ((Below.refl _ _).alloc (Nat.le_refl _) _).alloc (by simp) _⟩
  · obtain rfl : z = 0 := by rw [HZ.out, if_pos (Or.inl hy)]
    have hyd : (py == qy) = false := by simpa using hy
    rcases HBB.out with rfl | rfl | rfl
    · skip
      go_enter Try.func91, Try.ntmps91
      go_wp2_with fail
      go_ret
      exact ⟨rfl, ((Below.refl _ _).alloc (Nat.le_refl _) _).alloc (by simp) _⟩
    · skip
      go_enter Try.func91, Try.ntmps91
      go_wp2_with fail
      go_ret
      exact ⟨rfl, ((Below.refl _ _).alloc (Nat.le_refl _) _).alloc (by simp) _⟩
    · skip
      go_enter Try.func91, Try.ntmps91
      go_wp2_with fail
      go_ret
      exact ⟨rfl, ((Below.refl _ _).alloc (Nat.le_refl _) _).alloc (by simp) _⟩
set_option maxRecDepth 100000 in
set_option maxHeartbeats 3200000 in
theorem l10Letter_any (px py qx qy : Int) (w : World) (hp : -13 ≤ px ∧ px ≤ 13 ∧ -13 ≤ py ∧ py ≤ 13) (hq : -13 ≤ qx ∧ qx ≤ 13 ∧ -13 ≤ qy ∧ qy ≤ 13) (hb : qx = px ∨ qx = px + 1 ∨ px = qx + 1) :
    Calls Try.prog 90 #[.agg #[.int .i64 px, .int .i64 py], .agg #[.int .i64 qx, .int .i64 qy]] w (Val (.int .i64 (Plain.letPQ (px, py) (qx, qy))) w) := by
  obtain ⟨z, hz⟩ : ∃ z, z = Plain.letPQ (px, py) (qx, qy) := ⟨_, rfl⟩
  rw [← hz]
  unfold Plain.letPQ at hz
  simp only [] at hz
  obtain ⟨hp1, hp2, hp3, hp4⟩ := hp
  obtain ⟨hq1, hq2, hq3, hq4⟩ := hq
  have HZ := Lib.hid hz
  have HBB := Lib.hid hb
  clear hz hb
  by_cases hy : py = qy
  · subst hy
    by_cases h1 : py < 1
    · obtain rfl : z = 0 := by rw [HZ.out, if_pos (Or.inr h1)]
      go_enter Try.func90, Try.ntmps90
      go_wp2_with fail
      go_ret
      exact ⟨rfl, ((Below.refl _ _).alloc (Nat.le_refl _) _).alloc (by simp) _⟩
    · rw [if_neg (by omega)] at HZ
      rcases HBB.out with rfl | rfl | rfl
      · obtain rfl : z = 0 := by rw [HZ.out, if_neg (by omega), if_neg (by omega)]
        have hy1 : (qx == qx + 1) = false := by simp; omega
        go_enter Try.func90, Try.ntmps90
        go_wp2_with fail
        go_ret
        exact ⟨rfl, ((Below.refl _ _).alloc (Nat.le_refl _) _).alloc (by simp) _⟩
      · have hy1 : (px == px + 1 + 1) = false := by simp; omega
        by_cases hn : 1 ≤ px ∧ px ≤ 6
        · obtain rfl : z = px := by rw [HZ.out, if_pos ⟨rfl, hn⟩]
          have HNL0 : Hid (∀ W, Calls Try.prog 84 #[.int .i64 (z), .int .i64 1, .int .i64 6] W fun e w' => e = .returned (.bool true) ∧ W = w') := Lib.hid (fun W => by have := l1In_any (z) 1 6 W (by omega); rw [show decide (1 ≤ z ∧ z ≤ 6) = true from by simp; omega] at this; exact this)
          go_enter Try.func90, Try.ntmps90
          go_wp2_with fail
          refine (HNL0.out _).mono ?_
          rintro e w' ⟨rfl, rfl⟩
          go_wp2_with fail
          go_ret
          exact ⟨ret_int (by omega), ((Below.refl _ _).alloc (Nat.le_refl _) _).alloc (by simp) _⟩
        · obtain rfl : z = 0 := by rw [HZ.out, if_neg (by omega), if_neg (by omega)]
          have HNL0 : Hid (∀ W, Calls Try.prog 84 #[.int .i64 (px), .int .i64 1, .int .i64 6] W fun e w' => e = .returned (.bool false) ∧ W = w') := Lib.hid (fun W => by have := l1In_any (px) 1 6 W (by omega); rw [show decide (1 ≤ px ∧ px ≤ 6) = false from by simp; omega] at this; exact this)
          go_enter Try.func90, Try.ntmps90
          go_wp2_with fail
          refine (HNL0.out _).mono ?_
          rintro e w' ⟨rfl, rfl⟩
          go_wp2_with fail
          go_ret
          exact ⟨rfl, ((Below.refl _ _).alloc (Nat.le_refl _) _).alloc (by simp) _⟩
      · have hy1 : (qx == qx + 1 + 1) = false := by simp; omega
        by_cases hn : 1 ≤ qx ∧ qx ≤ 6
        · obtain rfl : z = -qx := by rw [HZ.out, if_neg (by omega), if_pos ⟨rfl, hn⟩]
          have HNL0 : Hid (∀ W, Calls Try.prog 84 #[.int .i64 (qx), .int .i64 1, .int .i64 6] W fun e w' => e = .returned (.bool true) ∧ W = w') := Lib.hid (fun W => by have := l1In_any (qx) 1 6 W (by omega); rw [show decide (1 ≤ qx ∧ qx ≤ 6) = true from by simp; omega] at this; exact this)
          go_enter Try.func90, Try.ntmps90
          go_wp2_with fail
          refine (HNL0.out _).mono ?_
          rintro e w' ⟨rfl, rfl⟩
          go_wp2_with fail
          go_ret
          exact ⟨ret_int (by omega), ((Below.refl _ _).alloc (Nat.le_refl _) _).alloc (by simp) _⟩
        · obtain rfl : z = 0 := by rw [HZ.out, if_neg (by omega), if_neg (by omega)]
          have HNL0 : Hid (∀ W, Calls Try.prog 84 #[.int .i64 (qx), .int .i64 1, .int .i64 6] W fun e w' => e = .returned (.bool false) ∧ W = w') := Lib.hid (fun W => by have := l1In_any (qx) 1 6 W (by omega); rw [show decide (1 ≤ qx ∧ qx ≤ 6) = false from by simp; omega] at this; exact this)
          go_enter Try.func90, Try.ntmps90
          go_wp2_with fail
          refine (HNL0.out _).mono ?_
          rintro e w' ⟨rfl, rfl⟩
          go_wp2_with fail
          go_ret
          exact ⟨rfl, ((Below.refl _ _).alloc (Nat.le_refl _) _).alloc (by simp) _⟩
  · obtain rfl : z = 0 := by rw [HZ.out, if_pos (Or.inl hy)]
    have hyd : (py == qy) = false := by simpa using hy
    go_enter Try.func90, Try.ntmps90
    go_wp2_with fail
    go_ret
    exact ⟨rfl, ((Below.refl _ _).alloc (Nat.le_refl _) _).alloc (by simp) _⟩
end Go.Proofs.Ytpaijobmoddgpaa
