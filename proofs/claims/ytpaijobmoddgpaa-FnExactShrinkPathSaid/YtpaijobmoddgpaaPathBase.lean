/- Contracts: impl's point.behind, point.isOnGrid, isNail; spec's l10Step. Conditions: points on the grid or beside it. -/
import Derived.Test.YtpaijobmoddgpaaPtsKit
import Derived.Test.YtpaijobmoddgpaaLawKit
import Derived.Test.YtpaijobmoddgpaaRange
import Derived.StillTailTactics
import Derived.BigRegion
import Derived.Laws.Rows
namespace Go.Proofs.Ytpaijobmoddgpaa
open Go.ChangeShapes Go.WideShapes Go.ChangeAt Go.RowKit
set_option linter.unusedVariables false
set_option linter.unusedSimpArgs false

theorem byte_no {b : UInt8} {n : Nat} (hn : n < 256) (h : b ≠ UInt8.ofNat n) : (((b.toNat : Nat) : Int) == (n : Int)) = false := by
  rw [beq_eq_false_iff_ne]
  intro e
  apply h
  apply UInt8.toNat_inj.1
  have : (UInt8.ofNat n).toNat = n := by simp; omega
  omega
def BehindPost (px py : Int) (b : UInt8) (w : World) (e : Ending) (w' : World) : Prop := e = .returned (.agg #[.int .i64 (Plain.nextP (px, py) b).1, .int .i64 (Plain.nextP (px, py) b).2]) ∧ Below w.heap.size w w'
set_option maxHeartbeats 1600000 in
theorem behind10_any (px py : Int) (b : UInt8) (w : World) (h : -100 ≤ px ∧ px ≤ 100 ∧ -100 ≤ py ∧ py ≤ 100) :
    Calls Try.prog 88 #[.agg #[.int .i64 px, .int .i64 py], .int .u8 b.toNat] w (BehindPost px py b w) := by
  obtain ⟨h1, h2, h3, h4⟩ := h
  rcases Plain.step_cases b with ⟨-, rfl | rfl | rfl | rfl⟩ | ⟨-, hb1, hb2, hb3, hb4, hx, hy⟩
  · go_enter Try.func88, Try.ntmps88
    go_wp2_with fail
    refine bodyPost_ret (v := .agg #[.int .i64 (px - 1), .int .i64 py]) (by simp [results, Try.results88, go_sem]) rfl ⟨?_, ?_⟩
    · simp [Plain.nextP, Plain.dxB, Plain.dyB]; omega
    · exact ((Below.refl _ _).alloc (Nat.le_refl _) _).alloc (by simp) _
  · go_enter Try.func88, Try.ntmps88
    go_wp2_with fail
    refine bodyPost_ret (v := .agg #[.int .i64 (px + 1), .int .i64 py]) (by simp [results, Try.results88, go_sem]) rfl ⟨?_, ?_⟩
    · simp [Plain.nextP, Plain.dxB, Plain.dyB]
    · exact ((Below.refl _ _).alloc (Nat.le_refl _) _).alloc (by simp) _
  · go_enter Try.func88, Try.ntmps88
    go_wp2_with fail
    refine bodyPost_ret (v := .agg #[.int .i64 px, .int .i64 (py + 1)]) (by simp [results, Try.results88, go_sem]) rfl ⟨?_, ?_⟩
    · simp [Plain.nextP, Plain.dxB, Plain.dyB]
    · exact ((Below.refl _ _).alloc (Nat.le_refl _) _).alloc (by simp) _
  · go_enter Try.func88, Try.ntmps88
    go_wp2_with fail
    refine bodyPost_ret (v := .agg #[.int .i64 px, .int .i64 (py - 1)]) (by simp [results, Try.results88, go_sem]) rfl ⟨?_, ?_⟩
    · simp [Plain.nextP, Plain.dxB, Plain.dyB]; omega
    · exact ((Below.refl _ _).alloc (Nat.le_refl _) _).alloc (by simp) _
  · have q1 : (((b.toNat : Nat) : Int) == 108) = false := byte_no (n := 108) (by decide) hb1
    have q2 : (((b.toNat : Nat) : Int) == 114) = false := byte_no (n := 114) (by decide) hb2
    have q3 : (((b.toNat : Nat) : Int) == 117) = false := byte_no (n := 117) (by decide) hb3
    have q4 : (((b.toNat : Nat) : Int) == 100) = false := byte_no (n := 100) (by decide) hb4
    have HX := Lib.hid hx
    have HY := Lib.hid hy
    clear hx hy hb1 hb2 hb3 hb4
    go_enter Try.func88, Try.ntmps88
    go_wp2_with fail
    refine bodyPost_ret (v := .agg #[.int .i64 px, .int .i64 py]) (by simp [results, Try.results88, go_sem]) rfl ⟨?_, ?_⟩
    · simp [Plain.nextP, HX.out, HY.out]
    · exact ((Below.refl _ _).alloc (Nat.le_refl _) _).alloc (by simp) _
set_option maxHeartbeats 1600000 in
theorem onGrid_any (px py : Int) (w : World) :
    Calls Try.prog 89 #[.agg #[.int .i64 px, .int .i64 py]] w (Val (.bool (Plain.inGrid (px, py))) w) := by
  by_cases h1 : -12 ≤ px
  · by_cases h2 : px ≤ 12
    · by_cases h3 : -12 ≤ py
      · by_cases h4 : py ≤ 12
        · go_enter Try.func89, Try.ntmps89
          go_wp2_with fail
          go_ret
          exact ⟨ret_bool (by rw [Bool.eq_iff_iff]; simp [Plain.inGrid]; try omega), (Below.refl _ _).alloc (Nat.le_refl _) _⟩
        · go_enter Try.func89, Try.ntmps89
          go_wp2_with fail
          go_ret
          exact ⟨ret_bool (by rw [Bool.eq_iff_iff]; simp [Plain.inGrid]; try omega), (Below.refl _ _).alloc (Nat.le_refl _) _⟩
      · have g : decide (-12 ≤ py) = false := by simpa using h3
        go_enter Try.func89, Try.ntmps89
        go_wp2_with fail
        go_ret
        exact ⟨ret_bool (by rw [Bool.eq_iff_iff]; simp [Plain.inGrid]; try omega), (Below.refl _ _).alloc (Nat.le_refl _) _⟩
    · have g : decide (px ≤ 12) = false := by simpa using h2
      go_enter Try.func89, Try.ntmps89
      go_wp2_with fail
      go_ret
      exact ⟨ret_bool (by rw [Bool.eq_iff_iff]; simp [Plain.inGrid]; try omega), (Below.refl _ _).alloc (Nat.le_refl _) _⟩
  · have g : decide (-12 ≤ px) = false := by simpa using h1
    go_enter Try.func89, Try.ntmps89
    go_wp2_with fail
    go_ret
    exact ⟨ret_bool (by rw [Bool.eq_iff_iff]; simp [Plain.inGrid]; try omega), (Below.refl _ _).alloc (Nat.le_refl _) _⟩
theorem isNail10_any (n : Int) (w : World) : Calls Try.prog 85 #[.int .i64 n] w fun e w' => e = .returned (.bool (decide (1 ≤ n ∧ n ≤ 6))) ∧ w = w' := by
  by_cases h0 : 1 ≤ n
  · by_cases h1 : n ≤ 6
    · have HE : Hid (decide (1 ≤ n ∧ n ≤ 6) = true) := Lib.hid (by simp; omega)
      go_enter Try.func85, Try.ntmps85
      go_wp2_with fail
      go_ret
      exact ⟨ret_bool (by rw [Bool.eq_iff_iff]; simp; try omega), rfl⟩
    · have HE : Hid (decide (1 ≤ n ∧ n ≤ 6) = false) := Lib.hid (by simp; omega)
      go_enter Try.func85, Try.ntmps85
      go_wp2_with fail
      go_ret
      exact ⟨ret_bool (by rw [Bool.eq_iff_iff]; simp; try omega), rfl⟩
  · have HE : Hid (decide (1 ≤ n ∧ n ≤ 6) = false) := Lib.hid (by simp; omega)
    go_enter Try.func85, Try.ntmps85
    go_wp2_with fail
    go_ret
    exact ⟨ret_bool (by rw [Bool.eq_iff_iff]; simp; try omega), rfl⟩
def StepPost (b : UInt8) (w : World) (e : Ending) (w' : World) : Prop := e = .returned (.tuple #[.int .i64 (Plain.dxB b), .int .i64 (Plain.dyB b), .bool (Plain.isStepB b)]) ∧ w = w'
set_option maxHeartbeats 1600000 in
theorem l10Step_any (b : UInt8) (w : World) : Calls Try.prog 87 #[.int .u8 b.toNat] w (StepPost b w) := by
  rcases Plain.step_cases b with ⟨-, rfl | rfl | rfl | rfl⟩ | ⟨hs, hb1, hb2, hb3, hb4, hx, hy⟩
  · go_enter Try.func87, Try.ntmps87
    go_wp2_with fail
    go_ret3
    exact ⟨rfl, rfl⟩
  · go_enter Try.func87, Try.ntmps87
    go_wp2_with fail
    go_ret3
    exact ⟨rfl, rfl⟩
  · go_enter Try.func87, Try.ntmps87
    go_wp2_with fail
    go_ret3
    exact ⟨rfl, rfl⟩
  · go_enter Try.func87, Try.ntmps87
    go_wp2_with fail
    go_ret3
    exact ⟨rfl, rfl⟩
  · have q1 : (((b.toNat : Nat) : Int) == 108) = false := byte_no (n := 108) (by decide) hb1
    have q2 : (((b.toNat : Nat) : Int) == 114) = false := byte_no (n := 114) (by decide) hb2
    have q3 : (((b.toNat : Nat) : Int) == 117) = false := byte_no (n := 117) (by decide) hb3
    have q4 : (((b.toNat : Nat) : Int) == 100) = false := byte_no (n := 100) (by decide) hb4
    have HX := Lib.hid hx
    have HY := Lib.hid hy
    have HS := Lib.hid hs
    clear hx hy hs hb1 hb2 hb3 hb4
    go_enter Try.func87, Try.ntmps87
    go_wp2_with fail
    go_ret3
    exact ⟨by rw [HX.out, HY.out, HS.out]; rfl, rfl⟩
end Go.Proofs.Ytpaijobmoddgpaa
