/- Contract: spec.l1Num returns the decimal text of every int; it only draws. No condition. -/
import Derived.Test.YtaepmgfodjjidaaDoorRows
import Derived.Test.YtaepmgfodjjidaaDoorNum
import Derived.WalkKit
import Derived.ProofKit
import Derived.OpenShut
import Derived.ShutString
import Derived.Lib.Hide
import Derived.Outline
import Derived.Deep.QuietTactic
import Derived.BigQuiet
import Derived.IntWalk
namespace Go.Proofs.YtaepmgfodjjidaaDoor
open Go.ChangeShapes Go.WideShapes Go.ChangeAt Go.RowKit

theorem ret_str {a b : ByteArray} (h : a = b) : Ending.returned (.string a) = .returned (.string b) := by rw [h]

theorem run_digit (u : Nat) (hu : u < 10) (wx : World) :
    (Instr.slice 9 (.string { data := #[48, 49, 50, 51, 52, 53, 54, 55, 56, 57] }) (some (.int .i64 (u : Int))) (some (.int .i64 ((u : Int) + 1))) none).run Tryd.prog wx = .ok (.string (Plain.numS u)) wx := by
  rw [run_slice_string wx 9 _ .i64 .i64 (u : Int) ((u : Int) + 1) Tryd.underlying9 (by omega) (by omega) (by show (u : Int) + 1 ≤ ((10 : Nat) : Int); omega)]
  rw [← Plain.digitS_eq u hu]
  rfl

theorem l1Num_small (u : Nat) (hu : u < 10) (w : World) :
    Calls Tryd.prog 15 #[.int .i64 u] w fun e w' => e = .returned (.string (Plain.numS u)) ∧ ∃ m, w' = w.drewN m := by
  have hsl := run_digit u hu
  go_enter Tryd.func15, Tryd.ntmps15
  go_wp2
  go_ret
  exact ⟨rfl, 0, rfl⟩

set_option maxHeartbeats 400000 in
theorem l1Num_nat (u : Nat) : u ≤ 9223372036854775807 → ∀ w : World,
    Calls Tryd.prog 15 #[.int .i64 u] w fun e w' => e = .returned (.string (Plain.numS u)) ∧ ∃ m, w' = w.drewN m := by
  induction u using Nat.strongRecOn with
  | _ u ih =>
    intro hu w
    by_cases h : u < 10
    · exact l1Num_small u h w
    · obtain ⟨q, hq⟩ : ∃ q : Nat, q = u / 10 := ⟨_, rfl⟩
      obtain ⟨r, hr⟩ : ∃ r : Nat, r = u % 10 := ⟨_, rfl⟩
      have ih1 := Lib.hid (ih q (by omega) (by omega))
      have hsl := run_digit r (by omega)
      have hq8 : ((Plain.numS q).size : Int) ≤ 8388608 := by have := Plain.numS_size q (by omega); omega
      have hr8 : ((Plain.numS r).size : Int) ≤ 8388608 := by have := Plain.numS_size r (by omega); omega
      have hfin := Lib.hid (Plain.numS_two u h)
      rw [← hq, ← hr] at hfin
      have hb : (u : Int) ≤ 9223372036854775807 := by omega
      have e1 : IntKind.i64.wrap ((u : Int) / 10) = (q : Int) := by rw [IntWalk.i64_in _ (by omega)]; omega
      have e2 : (u : Int).tmod 10 = (r : Int) := by rw [Int.tmod_eq_emod_of_nonneg (by omega)]; omega
      have e3 : IntKind.i64.wrap ((r : Int) + 1) = (r : Int) + 1 := by rw [IntWalk.i64_in _ (by omega)]
      clear ih hq hr
      go_enter Tryd.func15, Tryd.ntmps15
      go_wp2
      go_quiet ((go_at_call 15; exact Calls.quiet_of (ih1.out _)))
      go_wp2
      go_ret
      exact ⟨ret_str hfin.out, _, rfl⟩

set_option maxHeartbeats 400000 in
theorem l1Num_neg (u : Nat) : 1 ≤ u → u ≤ 9223372036854775807 → ∀ w : World,
    Calls Tryd.prog 15 #[.int .i64 (-(u : Int))] w fun e w' => e = .returned (.string (Plain.intS (-(u : Int)))) ∧ ∃ m, w' = w.drewN m := by
  induction u using Nat.strongRecOn with
  | _ u ih =>
    intro hu1 hu w
    have hb : (u : Int) ≤ 9223372036854775807 := by omega
    have hb1 : (1 : Int) ≤ (u : Int) := by omega
    by_cases h : u < 10
    · have hfin := Lib.hid (Plain.intS_neg u hu1)
      have hn := Lib.hid (l1Num_nat u hu)
      have hs8 : ((Plain.numS u).size : Int) ≤ 8388608 := by have := Plain.numS_size u (by omega); omega
      clear ih
      go_enter Tryd.func15, Tryd.ntmps15
      go_wp2_with (go_at_call 15; refine (hn.out _).mono ?_; rintro e w' ⟨rfl, m, rfl⟩)
      go_ret
      exact ⟨ret_str hfin.out.symm, m, rfl⟩
    · obtain ⟨q, hq⟩ : ∃ q : Nat, q = u / 10 := ⟨_, rfl⟩
      obtain ⟨r, hr⟩ : ∃ r : Nat, r = u % 10 := ⟨_, rfl⟩
      have ih1 := Lib.hid (ih q (by omega) (by omega) (by omega))
      have ih2 := Lib.hid (l1Num_nat r (by omega))
      have hq8 : ((Plain.intS (-(q : Int))).size : Int) ≤ 8388608 := by
        have := Plain.numS_size q (by omega)
        rw [Plain.intS_neg q (by omega), ByteArray.size_append]; show (((1 : Nat) + _ : Nat) : Int) ≤ _; omega
      have hr8 : ((Plain.numS r).size : Int) ≤ 8388608 := by have := Plain.numS_size r (by omega); omega
      have hfin : Hid (Plain.intS (-(q : Int)) ++ Plain.numS r = Plain.intS (-(u : Int))) := by
        have e : Plain.intS (-(q : Int)) ++ Plain.numS r = Plain.intS (-(u : Int)) := by
          rw [Plain.intS_neg q (by omega), Plain.intS_neg u hu1, ← Plain.numS_two u h, ← hq, ← hr, ByteArray.append_assoc]
        exact Lib.hid e
      have e1 : Hid (-((u : Int) / 10) = -((q : Nat) : Int)) := Lib.hid (by omega)
      have e2 : (u : Int).tmod 10 = (r : Int) := by rw [Int.tmod_eq_emod_of_nonneg (by omega)]; omega
      have hr9 : (r : Int) ≤ 9 := by omega
      clear ih hq hr
      go_enter Tryd.func15, Tryd.ntmps15
      go_wp2_with fail
      rw [e1.out]
      refine (ih1.out _).mono ?_
      rintro e w' ⟨rfl, m, rfl⟩
      go_wp2_with (go_at_call 15; refine (ih2.out _).mono ?_; rintro e w' ⟨rfl, m2, rfl⟩)
      go_ret
      exact ⟨ret_str hfin.out, m + m2, rfl⟩

/-- Every int. -/
theorem l1Num_any (n : Int) (h0 : -9223372036854775807 ≤ n) (h1 : n ≤ 9223372036854775807) (w : World) :
    Calls Tryd.prog 15 #[.int .i64 n] w fun e w' => e = .returned (.string (Plain.intS n)) ∧ ∃ m, w' = w.drewN m := by
  by_cases h : 0 ≤ n
  · obtain ⟨u, rfl⟩ : ∃ u : Nat, n = u := ⟨n.toNat, by omega⟩
    rw [Plain.intS_nat]
    exact l1Num_nat u (by omega) w
  · obtain ⟨u, rfl⟩ : ∃ u : Nat, n = -(u : Int) := ⟨n.natAbs, by omega⟩
    exact l1Num_neg u (by omega) (by omega) w

end Go.Proofs.YtaepmgfodjjidaaDoor
