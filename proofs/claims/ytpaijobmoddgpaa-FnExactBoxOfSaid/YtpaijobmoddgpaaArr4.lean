/- Four numbers in a block. Contract: laws.eqIntA4 at equal arrays. No condition. -/
import Derived.Test.YtpaijobmoddgpaaLawKit
namespace Go.Proofs.Ytpaijobmoddgpaa
open Go.ChangeShapes Go.WideShapes Go.ChangeAt Go.RowKit
set_option linter.unusedVariables false

/-- A block holds these four numbers. -/
def ArrF (w : World) (G : Nat) (c0 c1 c2 c3 : Int) : Prop := w.heap[G]? = some (.cells #[.int .i64 c0, .int .i64 c1, .int .i64 c2, .int .i64 c3] 44 (0, 0))
theorem arrF_new (W : World) (c0 c1 c2 c3 : Int) : ArrF (W.alloc (.cells #[.int .i64 c0, .int .i64 c1, .int .i64 c2, .int .i64 c3] 44)) W.heap.size c0 c1 c2 c3 := by
  show (W.heap.push _)[W.heap.size]? = _
  rw [Array.getElem?_push, if_pos rfl]
theorem ArrF.on {w w' : World} {G : Nat} {c0 c1 c2 c3 : Int} (h : ArrF w G c0 c1 c2 c3) (hb : Below w.heap.size w w') : ArrF w' G c0 c1 c2 c3 := (hb.block G (Array.getElem?_eq_some_iff.1 h).1).trans h
theorem ArrF.cells {w : World} {G : Nat} {c0 c1 c2 c3 : Int} (h : ArrF w G c0 c1 c2 c3) :
    w.cell? ⟨G, 0, none⟩ = some (.int .i64 c0) ∧ w.cell? ⟨G, 1, none⟩ = some (.int .i64 c1) ∧ w.cell? ⟨G, 2, none⟩ = some (.int .i64 c2) ∧ w.cell? ⟨G, 3, none⟩ = some (.int .i64 c3) := by
  unfold ArrF at h
  refine ⟨?_, ?_, ?_, ?_⟩ <;> simp [World.cell?, h]
/-- Equal arrays are equal. -/
theorem eqA4_same (c0 c1 c2 c3 : Int) (w : World) :
    Calls Try.prog 46 #[.agg #[.int .i64 c0, .int .i64 c1, .int .i64 c2, .int .i64 c3], .agg #[.int .i64 c0, .int .i64 c1, .int .i64 c2, .int .i64 c3]] w fun e w' => e = .returned (.bool true) ∧ Below w.heap.size w w' := by
  go_enter Try.func46, Try.ntmps46
  go_wp2
  go_loopw [5] (fun i wr => ∃ k : Nat, k ≤ 4 ∧ i = .int .i64 k ∧ ∃ n, wr = ((w.alloc (.cells #[.int .i64 c0, .int .i64 c1, .int .i64 c2, .int .i64 c3] 44)).alloc (.cells #[.int .i64 c0, .int .i64 c1, .int .i64 c2, .int .i64 c3] 44)).drewN n) (fun i _ => 4 - (intOf i).toNat)
  case atStart => exact ⟨0, by omega, rfl, 0, rfl⟩
  case round =>
    obtain ⟨k, hk, rfl, n, rfl⟩ := hrel
    have hb : Hid (∀ m, Below w.heap.size w (((w.alloc (.cells #[.int .i64 c0, .int .i64 c1, .int .i64 c2, .int .i64 c3] 44)).alloc (.cells #[.int .i64 c0, .int .i64 c1, .int .i64 c2, .int .i64 c3] 44)).drewN m)) := Lib.hid (fun m => below_drewN (((Below.refl _ w).alloc (Nat.le_refl _) _).alloc (by simp) _) m)
    obtain rfl | rfl | rfl | rfl | rfl : k = 0 ∨ k = 1 ∨ k = 2 ∨ k = 3 ∨ k = 4 := by omega
    all_goals clear hk
    case' inr.inr.inr.inr =>
      go_wp2
      go_ret
      exact ⟨rfl, hb.out _⟩
    all_goals
      go_wp2
      go_quiet (fail)
      go_wp2
      go_roundw
      case rel => first | exact ⟨1, by decide, rfl, _, rfl⟩ | exact ⟨2, by decide, rfl, _, rfl⟩ | exact ⟨3, by decide, rfl, _, rfl⟩ | exact ⟨4, by decide, rfl, _, rfl⟩
      case measure => simp [intOf]

end Go.Proofs.Ytpaijobmoddgpaa
