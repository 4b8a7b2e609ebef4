/- Two numbers in a block. Contract: laws.eqIntA2 at equal arrays. No condition. -/
import Derived.Test.YtpaijobmoddgpabLawKit
namespace Go.Proofs.Ytpaijobmoddgpab
open Go.ChangeShapes Go.WideShapes Go.ChangeAt Go.RowKit
set_option linter.unusedVariables false

/-- A block holds these two numbers. -/
def ArrP (w : World) (G : Nat) (c0 c1 : Int) : Prop := w.heap[G]? = some (.cells #[.int .i64 c0, .int .i64 c1] 23 (0, 0))
theorem arrP_new (W : World) (c0 c1 : Int) : ArrP (W.alloc (.cells #[.int .i64 c0, .int .i64 c1] 23)) W.heap.size c0 c1 := by
  show (W.heap.push _)[W.heap.size]? = _
  rw [Array.getElem?_push, if_pos rfl]
theorem ArrP.on {w w' : World} {G : Nat} {c0 c1 : Int} (h : ArrP w G c0 c1) (hb : Below w.heap.size w w') : ArrP w' G c0 c1 := (hb.block G (Array.getElem?_eq_some_iff.1 h).1).trans h
theorem ArrP.cells {w : World} {G : Nat} {c0 c1 : Int} (h : ArrP w G c0 c1) :
    w.cell? ⟨G, 0, none⟩ = some (.int .i64 c0) ∧ w.cell? ⟨G, 1, none⟩ = some (.int .i64 c1) := by
  unfold ArrP at h
  refine ⟨?_, ?_⟩ <;> simp [World.cell?, h]
/-- Equal arrays are equal. -/
theorem eqA2_same (c0 c1 : Int) (w : World) :
    Calls Try.prog 10 #[.agg #[.int .i64 c0, .int .i64 c1], .agg #[.int .i64 c0, .int .i64 c1]] w fun e w' => e = .returned (.bool true) ∧ Below w.heap.size w w' := by
  go_enter Try.func10, Try.ntmps10
  go_wp2
  go_loopw [5] (fun i wr => ∃ k : Nat, k ≤ 2 ∧ i = .int .i64 k ∧ ∃ n, wr = ((w.alloc (.cells #[.int .i64 c0, .int .i64 c1] 23)).alloc (.cells #[.int .i64 c0, .int .i64 c1] 23)).drewN n) (fun i _ => 2 - (intOf i).toNat)
  case atStart => exact ⟨0, by omega, rfl, 0, rfl⟩
  case round =>
    obtain ⟨k, hk, rfl, n, rfl⟩ := hrel
    have hb : Hid (∀ m, Below w.heap.size w (((w.alloc (.cells #[.int .i64 c0, .int .i64 c1] 23)).alloc (.cells #[.int .i64 c0, .int .i64 c1] 23)).drewN m)) := Lib.hid (fun m => below_drewN (((Below.refl _ w).alloc (Nat.le_refl _) _).alloc (by simp) _) m)
    obtain rfl | rfl | rfl : k = 0 ∨ k = 1 ∨ k = 2 := by omega
    all_goals clear hk
    case' inr.inr =>
      go_wp2
      go_ret
      exact ⟨rfl, hb.out _⟩
    all_goals
      go_wp2
      go_quiet (fail)
      go_wp2
      go_roundw
      case rel => first | exact ⟨1, by decide, rfl, _, rfl⟩ | exact ⟨2, by decide, rfl, _, rfl⟩
      case measure => simp [intOf]

end Go.Proofs.Ytpaijobmoddgpab
