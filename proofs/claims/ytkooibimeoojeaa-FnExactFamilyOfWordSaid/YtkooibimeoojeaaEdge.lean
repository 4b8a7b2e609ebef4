/- Contracts: spec.FallTable, l3Edge, l3Edges, LeastFalls, GreatestHangs. Conditions: numbers of 64 bits, lengths that fit. -/
import Derived.Test.YtkooibimeoojeaaTab
import Derived.Test.YtkooibimeoojeaaEdgeKit
namespace Go.Proofs.Ytkooibimeoojeaa
open Go.ChangeShapes Go.WideShapes Go.ChangeAt Go.RowKit
set_option linter.unusedVariables false

/-- The table of a word; nothing falls of what is no word. -/
def tabW (xs : List Int) : Nat → Bool := fun s => Plain.wordB xs && Plain.fallsB xs s
theorem tabW_yes {xs : List Int} (h : Plain.wordB xs = true) : tabW xs = Plain.fallsB xs := by funext s; simp [tabW, h]
theorem tabW_no {xs : List Int} (h : Plain.wordB xs = false) : tabW xs = fun _ => false := by funext s; simp [tabW, h]
set_option maxRecDepth 100000 in
set_option maxHeartbeats 400000 in
theorem specFallTable_any (a : Option Addr) (cap : Nat) (xs : List Int) (w : World) (h : Hid (Ints w a xs)) (h64 : Hid (In64 xs)) (hn : xs.length ≤ 9223372036854775807) :
    Calls Try.prog 13 #[.slice a xs.length cap] w (Val (.tuple #[.agg (bools (tabW xs)), .bool (Plain.wordB xs)]) w) := by
  have hb0 := (Below.refl w.heap.size w).alloc (Nat.le_refl _) (.cells (bools fun _ => false) 23)
  have H1 := Lib.hid (h.out.on hb0)
  have HB := Lib.hid hb0
  have HT := Lib.hid (tab_new w (fun _ => false))
  rw [bools_zero] at H1 HB
  clear hb0
  cases hw : Plain.wordB xs with
  | false =>
    have HE := Lib.hid (tabW_no hw)
    have HW := Lib.hid hw
    clear hw
    go_enter Try.func13, Try.ntmps13
    go_wp2_with fail
    refine (l2Word_any _ _ xs _ H1 h64 hn).mono ?_
    rw [HW.out]
    rintro e w' ⟨rfl, rfl⟩
    go_wp2_with (refine wpList_store_row rfl 23 _ _ rfl w.heap.size (bools fun _ => false) rfl (by rw [bools_zero]; rfl) 23 (bools fun _ => false) (by rw [bools_zero]; exact heap_alloc_new _ _) info64 rfl (bools_one _) ?_)
    rw [← bools_zero] at *
    have HF := Lib.hid (tab_row (t := fun _ => false) HT.out)
    have HB2 := Lib.hid (below_setRow HB.out (Nat.le_refl _) (bools fun _ => false))
    rw [HE.out]
    exact bodyPost_ret (results_tab2 rfl _ _ w.heap.size (bools fun _ => false) rfl (tab_load HF.out)) rfl ⟨rfl, HB2.out⟩
  | true =>
    have m1 := (Plain.wordB_iff.1 hw).1
    have HL := Lib.hid (Plain.wordB_iff.1 hw).2
    have HE := Lib.hid (tabW_yes hw)
    have HW := Lib.hid hw
    clear hw
    go_enter Try.func13, Try.ntmps13
    go_wp2_with fail
    refine (l2Word_any _ _ xs _ H1 h64 hn).mono ?_
    rw [HW.out]
    rintro e w' ⟨rfl, rfl⟩
    go_wp2_with fail
    refine (l3Table_any _ _ xs _ H1 HL (by omega)).mono ?_
    rintro e w1 ⟨rfl, hb⟩
    have HT1 : Hid (Tab w1 w.heap.size (fun _ => false)) := Lib.hid (by
      refine HT.out.on ?_
      rw [bools_zero]
      exact hb)
    have HB1 := Lib.hid (HB.out.trans (hb.mono HB.out.size))
    have HF := Lib.hid (tab_row (t := Plain.fallsB xs) HT1.out)
    have HB2 := Lib.hid (below_setRow HB1.out (Nat.le_refl _) (bools (Plain.fallsB xs)))
    clear hb
    go_wp2_with (refine wpList_store_row rfl 23 _ _ rfl w.heap.size (bools (Plain.fallsB xs)) rfl rfl 23 _ HT1.out info64 rfl (bools_one _) ?_)
    rw [HE.out]
    exact bodyPost_ret (results_tab2 rfl _ _ w.heap.size (bools (Plain.fallsB xs)) rfl (tab_load HF.out)) rfl ⟨rfl, HB2.out⟩

/-! edges -/
end Go.Proofs.Ytkooibimeoojeaa
