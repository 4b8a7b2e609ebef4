/- Tables of 64 bools of impl's own type in a block; contracts of (impl.word).fallTable, impl.FallTable, impl.LettersLeft. Conditions: letters, lengths that fit. -/
import Derived.Test.YtkooibimeoojeaaImpl3C
import Derived.Test.YtkooibimeoojeaaFallMath
import Derived.Test.YtkooibimeoojeaaLetters
import Derived.Test.YtkooibimeoojeaaTell
namespace Go.Proofs.Ytkooibimeoojeaa
open Go.ChangeShapes Go.WideShapes Go.ChangeAt Go.RowKit
set_option linter.unusedVariables false

set_option maxHeartbeats 400000 in
theorem falls_any (a : Option Addr) (cap : Nat) (xs : List Int) (s : Nat) (w : World) (h : Hid (Ints w a xs)) (hl : Hid (Plain.Letters xs)) (hn : xs.length ≤ 1048576) (hs : s < 64) :
    Calls Try.prog 68 #[.slice a xs.length cap, .int .i64 (s : Int)] w (Val (.bool (Plain.fallsB xs s)) w) := by
  have hle := Plain.takeOut_le xs s
  obtain ⟨L, hL⟩ : ∃ L, L = Plain.takeOut xs s := ⟨_, rfl⟩
  have HF : Hid (Plain.fallsB xs s = decide (L.length = 0)) := Lib.hid (by rw [hL]; rfl)
  rw [← hL] at hle
  have HL := Lib.hid hL
  clear hL
  go_enter Try.func68, Try.ntmps68
  go_wp2_with fail
  refine (without_any a cap xs s _ h hl hn hs).mono ?_
  rw [← HL.out]
  rintro e w1 ⟨v, rfl, ⟨a2, c2, rfl, -, -, -⟩, hb⟩
  have HB := Lib.hid hb
  clear hb
  by_cases h0 : L.length = 0
  · have HF2 : Hid (Plain.fallsB xs s = true) := Lib.hid (by rw [HF.out]; simp [h0])
    have hq : ((L.length : Int) == 0) = true := by simp [h0]
    clear h0
    go_wp2_with fail
    go_ret
    exact ⟨ret_bool HF2.out.symm, HB.out⟩
  · have HF2 : Hid (Plain.fallsB xs s = false) := Lib.hid (by rw [HF.out]; simp [h0])
    have hq : ((L.length : Int) == 0) = false := by simpa using h0
    clear h0
    go_wp2_with fail
    go_ret
    exact ⟨ret_bool HF2.out.symm, HB.out⟩
set_option maxHeartbeats 400000 in
theorem fallTable_any (a : Option Addr) (cap : Nat) (xs : List Int) (w : World) (h : Hid (Ints w a xs)) (hl : Hid (Plain.Letters xs)) (hn : xs.length ≤ 1048576) :
    Calls Try.prog 44 #[.slice a xs.length cap] w (Val (.agg (bools (Plain.fallsB xs))) w) := by
  have HT := Lib.hid ((tabF_new w (fun _ => false)))
  have hb0 := (Below.refl w.heap.size w).alloc (Nat.le_refl _) (.cells (bools fun _ => false) 50)
  have H0 := Lib.hid hb0
  have hct : Tells 68 #[.slice a xs.length cap] #[] (Plain.fallsB xs) w := fun s W hs hb => by
    simpa using falls_any a cap xs s W (Lib.hid (h.out.on hb)) hl hn hs
  have HCT := Lib.hid hct
  clear hb0 hct
  go_enter Try.func44, Try.ntmps44
  go_wp2_with fail
  rw [← bools_zero]
  obtain ⟨W, hW⟩ : ∃ W, W = w.alloc (.cells (bools fun _ => false) 50) := ⟨_, rfl⟩
  rw [← hW] at H0 HT ⊢
  clear hW
  refine (tableThat_any 68 #[.slice a xs.length cap] #[] (Plain.fallsB xs) _ (enters_of Try.func68 (by kernel_rfl) rfl) (Lib.hid (HCT.out.on H0.out))).mono ?_
  rintro e w1 ⟨rfl, hb⟩
  have HT2 := Lib.hid (HT.out.on hb)
  have HF := Lib.hid (tabF_row (t := Plain.fallsB xs) HT2.out)
  have HB := Lib.hid (below_setRow (H0.out.trans (hb.mono H0.out.size)) (Nat.le_refl _) (bools (Plain.fallsB xs)))
  clear hb
  go_wp2_with (refine wpList_store_row rfl 50 _ _ rfl w.heap.size (bools (Plain.fallsB xs)) rfl rfl 50 _ HT2.out info64f rfl (bools_one _) ?_)
  exact bodyPost_ret (v := .agg (bools (Plain.fallsB xs))) (results_cell_row rfl _ _ w.heap.size 50 _ (0, 0) _ rfl HF.out Try.underlying50 rfl info64f) rfl ⟨rfl, HB.out⟩

set_option maxRecDepth 100000 in
set_option maxHeartbeats 400000 in
theorem implFallTable_any (a : Option Addr) (cap : Nat) (xs : List Int) (w : World) (h : Hid (Ints w a xs)) (h64 : Hid (In64 xs)) (hn : xs.length ≤ 9223372036854775807) :
    Calls Try.prog 15 #[.slice a xs.length cap] w (Val (.tuple #[.agg (bools (tabW xs)), .bool (Plain.wordB xs)]) w) := by
  have hb0 := (Below.refl w.heap.size w).alloc (Nat.le_refl _) (.cells (bools fun _ => false) 23)
  have H1 := Lib.hid (h.out.on hb0)
  have HB := Lib.hid hb0
  have HT := Lib.hid (tab_new w (fun _ => false))
  rw [bools_zero] at H1 HB
  clear hb0
  cases hw : Plain.wordB xs with
  | false =>
    have HE := Lib.hid (tabW_no hw)
    have HW := Lib.hid hw
    clear hw
    go_enter Try.func15, Try.ntmps15
    go_wp2_with fail
    refine (isWord_any _ _ xs _ H1 h64 hn).mono ?_
    rw [HW.out]
    rintro e w' ⟨rfl, rfl⟩
    go_wp2_with (refine wpList_store_row rfl 23 _ _ rfl w.heap.size (bools fun _ => false) rfl (by rw [bools_zero]; rfl) 23 (bools fun _ => false) (by rw [bools_zero]; exact heap_alloc_new _ _) info64 rfl (bools_one _) ?_)
    rw [← bools_zero] at *
    have HF := Lib.hid (tab_row (t := fun _ => false) HT.out)
    have HB2 := Lib.hid (below_setRow HB.out (Nat.le_refl _) (bools fun _ => false))
    rw [HE.out]
    exact bodyPost_ret (results_tab2 rfl _ _ w.heap.size (bools fun _ => false) rfl (tab_load HF.out)) rfl ⟨rfl, HB2.out⟩
  | true =>
    have m1 := (Plain.wordB_iff.1 hw).1
    have HL := Lib.hid (Plain.wordB_iff.1 hw).2
    have HE := Lib.hid (tabW_yes hw)
    have HW := Lib.hid hw
    clear hw
    go_enter Try.func15, Try.ntmps15
    go_wp2_with fail
    refine (isWord_any _ _ xs _ H1 h64 hn).mono ?_
    rw [HW.out]
    rintro e w' ⟨rfl, rfl⟩
    go_wp2_with fail
    refine (fallTable_any _ _ xs _ H1 HL (by omega)).mono ?_
    rintro e w1 ⟨rfl, hb⟩
    have HT1 : Hid (Tab w1 w.heap.size (fun _ => false)) := Lib.hid (by
      refine HT.out.on ?_
      rw [bools_zero]
      exact hb)
    have HB1 := Lib.hid (HB.out.trans (hb.mono HB.out.size))
    have HF := Lib.hid (tab_row (t := Plain.fallsB xs) HT1.out)
    have HB2 := Lib.hid (below_setRow HB1.out (Nat.le_refl _) (bools (Plain.fallsB xs)))
    clear hb
    go_wp2_with (refine wpList_store_row rfl 23 _ _ rfl w.heap.size (bools (Plain.fallsB xs)) rfl rfl 23 _ HT1.out info64 rfl (bools_one _) ?_)
    rw [HE.out]
    exact bodyPost_ret (results_tab2 rfl _ _ w.heap.size (bools (Plain.fallsB xs)) rfl (tab_load HF.out)) rfl ⟨rfl, HB2.out⟩


end Go.Proofs.Ytkooibimeoojeaa
