/- Contract: impl's Family.table. Conditions: sets from 0 to 63, lengths that fit. -/
import Derived.Test.YtepmldbleconfaaTell
import Derived.Test.YtepmldbleconfaaHasImpl
namespace Go.Proofs.Ytepmldbleconfaa
open Go.ChangeShapes Go.WideShapes Go.ChangeAt Go.RowKit
set_option linter.unusedVariables false

theorem table_any (a : Option Addr) (cap : Nat) (xs : List Int) (w : World) (h : Hid (Ints w a xs)) (hl : Hid (Plain.setsB xs = true)) (hn : xs.length ≤ 1048576) :
    Calls Try.prog 52 #[.agg #[.slice a xs.length cap]] w (Val (.agg (bools (Plain.hasB xs))) w) := by
  have h1 := tabF_new (w.alloc (.cells #[.slice a xs.length cap] 29)) (fun _ => false)
  rw [show (w.alloc (.cells #[.slice a xs.length cap] 29)).heap.size = w.heap.size + 1 by simp] at h1
  have HT := Lib.hid h1
  have H0 := Lib.hid (((Below.refl w.heap.size w).alloc (Nat.le_refl _) (.cells #[.slice a xs.length cap] 29)).alloc (by simp) (.cells (bools fun _ => false) 52))
  have hct : Tells 88 #[.agg #[.slice a xs.length cap]] #[] (Plain.hasB xs) w := fun s W hs hb => by
    simpa using has_any a cap xs s W (Lib.hid (h.out.on hb)) hl (by omega) hs
  have HCT := Lib.hid hct
  clear hct h1
  go_enter Try.func52, Try.ntmps52
  go_wp2_with fail
  rw [← bools_zero]
  obtain ⟨W, hW⟩ : ∃ W, W = (w.alloc (.cells #[.slice a xs.length cap] 29)).alloc (.cells (bools fun _ => false) 52) := ⟨_, rfl⟩
  rw [← hW] at H0 HT ⊢
  clear hW
  refine (tableThat_any 88 #[.agg #[.slice a xs.length cap]] #[] (Plain.hasB xs) _ (enters_of Try.func88 (by kernel_rfl) rfl) (Lib.hid (HCT.out.on H0.out))).mono ?_
  rintro e w1 ⟨rfl, hb⟩
  have HT2 := Lib.hid (HT.out.on hb)
  have HF := Lib.hid (tabF_row (t := Plain.hasB xs) HT2.out)
  have HB := Lib.hid (below_setRow (H0.out.trans (hb.mono H0.out.size)) (g := w.heap.size + 1) (by omega) (bools (Plain.hasB xs)))
  clear hb
  go_wp2_with (refine wpList_store_row rfl 52 _ _ rfl (w.heap.size + 1) (bools (Plain.hasB xs)) rfl rfl 52 _ HT2.out info64f rfl (bools_one _) ?_)
  exact bodyPost_ret (v := .agg (bools (Plain.hasB xs))) (results_cell_row rfl _ _ (w.heap.size + 1) 52 _ (0, 0) _ rfl HF.out Try.underlying52 rfl info64f) rfl ⟨rfl, HB.out⟩

end Go.Proofs.Ytepmldbleconfaa
