/- Contracts: impl's word.falls, word.fallTable. Conditions: letters, lengths that fit. -/
import Derived.Test.YtpaijobmoddgpabWithout
import Derived.Test.YtpaijobmoddgpabTell
namespace Go.Proofs.Ytpaijobmoddgpab
open Go.ChangeShapes Go.WideShapes Go.ChangeAt Go.RowKit
set_option linter.unusedVariables false

set_option maxHeartbeats 400000 in
theorem falls_any (a : Option Addr) (cap : Nat) (xs : List Int) (s : Nat) (w : World) (h : Hid (Ints w a xs)) (hl : Hid (Plain.Letters xs)) (hn : xs.length ≤ 1048576) (hs : s < 64) :
    Calls Try.prog 67 #[.slice a xs.length cap, .int .i64 (s : Int)] w (Val (.bool (Plain.fallsB xs s)) w) := by
  have hle := Plain.takeOut_le xs s
  obtain ⟨L, hL⟩ : ∃ L, L = Plain.takeOut xs s := ⟨_, rfl⟩
  have HF : Hid (Plain.fallsB xs s = decide (L.length = 0)) := Lib.hid (by rw [hL]; rfl)
  rw [← hL] at hle
  have HL := Lib.hid hL
  clear hL
  go_enter Try.func67, Try.ntmps67
  go_wp2_with fail
  refine (without_any a cap xs s _ h hl hn hs).mono ?_
  rw [← HL.out]
  rintro e w1 ⟨v, rfl, ⟨a2, c2, rfl, -, -, -⟩, hb⟩
  have HB := Lib.hid hb
  clear hb
  by_cases h0 : L.length = 0
  · have HF2 : Hid (Plain.fallsB xs s = true) := Lib.hid (by rw [HF.out]; simp [h0])
    have hq : ((L.length : Int) == 0) = true := by simp [h0]
    clear h0
    go_wp2_with fail
    go_ret
    exact ⟨ret_bool HF2.out.symm, HB.out⟩
  · have HF2 : Hid (Plain.fallsB xs s = false) := Lib.hid (by rw [HF.out]; simp [h0])
    have hq : ((L.length : Int) == 0) = false := by simpa using h0
    clear h0
    go_wp2_with fail
    go_ret
    exact ⟨ret_bool HF2.out.symm, HB.out⟩
set_option maxHeartbeats 400000 in
theorem fallTable_any (a : Option Addr) (cap : Nat) (xs : List Int) (w : World) (h : Hid (Ints w a xs)) (hl : Hid (Plain.Letters xs)) (hn : xs.length ≤ 1048576) :
    Calls Try.prog 53 #[.slice a xs.length cap] w (Val (.agg (bools (Plain.fallsB xs))) w) := by
  have HT := Lib.hid ((tabF_new w (fun _ => false)))
  have hb0 := (Below.refl w.heap.size w).alloc (Nat.le_refl _) (.cells (bools fun _ => false) 39)
  have H0 := Lib.hid hb0
  have hct : Tells 67 #[.slice a xs.length cap] #[] (Plain.fallsB xs) w := fun s W hs hb => by
    simpa using falls_any a cap xs s W (Lib.hid (h.out.on hb)) hl hn hs
  have HCT := Lib.hid hct
  clear hb0 hct
  go_enter Try.func53, Try.ntmps53
  go_wp2_with fail
  rw [← bools_zero]
  obtain ⟨W, hW⟩ : ∃ W, W = w.alloc (.cells (bools fun _ => false) 39) := ⟨_, rfl⟩
  rw [← hW] at H0 HT ⊢
  clear hW
  refine (tableThat_any 67 #[.slice a xs.length cap] #[] (Plain.fallsB xs) _ (enters_of Try.func67 (by kernel_rfl) rfl) (Lib.hid (HCT.out.on H0.out))).mono ?_
  rintro e w1 ⟨rfl, hb⟩
  have HT2 := Lib.hid (HT.out.on hb)
  have HF := Lib.hid (tabF_row (t := Plain.fallsB xs) HT2.out)
  have HB := Lib.hid (below_setRow (H0.out.trans (hb.mono H0.out.size)) (Nat.le_refl _) (bools (Plain.fallsB xs)))
  clear hb
  go_wp2_with (refine wpList_store_row rfl 39 _ _ rfl w.heap.size (bools (Plain.fallsB xs)) rfl rfl 39 _ HT2.out info64f rfl (bools_one _) ?_)
  exact bodyPost_ret (v := .agg (bools (Plain.fallsB xs))) (results_cell_row rfl _ _ w.heap.size 39 _ (0, 0) _ rfl HF.out Try.underlying39 rfl info64f) rfl ⟨rfl, HB.out⟩


end Go.Proofs.Ytpaijobmoddgpab
