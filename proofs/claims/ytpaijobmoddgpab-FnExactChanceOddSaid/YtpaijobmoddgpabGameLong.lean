/- Contracts: impl's hangingOrders.lengthWhile, all, LongestGame, ShortestGame. Conditions: numbers of 64 bits, lengths that fit. -/
import Derived.Test.YtpaijobmoddgpabGameHang
namespace Go.Proofs.Ytpaijobmoddgpab
open Go.ChangeShapes Go.WideShapes Go.ChangeAt Go.RowKit
set_option linter.unusedVariables false

theorem lead_is : ∀ (n j : Nat) (g : Nat → Bool), j ≤ n → (∀ i, i < j → g i = true) → (j = n ∨ g j = false) → Plain.lead g n = j
  | 0, j, g, h, _, _ => by simp [Plain.lead]; omega
  | n + 1, 0, g, h, _, h3 => by
    rcases h3 with h3 | h3
    · omega
    · rw [Plain.lead, if_neg (by rw [h3]; simp)]
  | n + 1, j + 1, g, h, h2, h3 => by
    rw [Plain.lead, if_pos (h2 0 (by omega)), lead_is n j (fun k => g (k + 1)) (by omega) (fun i hi => h2 (i + 1) (by omega)) (by rcases h3 with h3 | h3; exact .inl (by omega); exact .inr h3)]
    omega
theorem all_any (ff : Nat → Nat) (w : World) : Calls Try.prog 26 #[.agg (ord7 ff)] w (Val (.int .i64 (ff 0 : Int)) w) := by
  have h0 : OrdAt (w.alloc (.cells (ord7 ff) 45)) w.heap.size ff := heap_alloc_new _ _
  have q0 := h0.cell (i := 0) (by omega)
  have HB : Hid (Below w.heap.size w (w.alloc (.cells (ord7 ff) 45))) := Lib.hid ((Below.refl _ _).alloc (Nat.le_refl _) _)
  clear h0
  go_enter Try.func26, Try.ntmps26
  go_wp2_with fail
  go_ret
  exact ⟨rfl, HB.out⟩

end Go.Proofs.Ytpaijobmoddgpab
