/- Contracts: (impl.word).without, impl.TakeOut, impl.DoesFall: what is left of a word when a set is taken out. Conditions: letters, sets from 0 to 63, lengths that fit. -/
import Derived.Test.YtkooibimeoojeaaImpl3B
namespace Go.Proofs.Ytkooibimeoojeaa
open Go.ChangeShapes Go.WideShapes Go.ChangeAt Go.RowKit
set_option linter.unusedVariables false

set_option maxRecDepth 100000 in
set_option maxHeartbeats 800000 in
theorem without_any (a : Option Addr) (cap : Nat) (xs : List Int) (s : Nat) (w : World) (h : Hid (Ints w a xs)) (hl : Hid (Plain.Letters xs)) (hn : xs.length ≤ 1048576) (hs : s < 64) :
    Calls Try.prog 75 #[.slice a xs.length cap, .int .i64 (s : Int)] w (ListPost (Plain.takeOut xs s) w) := by
  have hb0 := (Below.refl w.heap.size w).alloc (Nat.le_refl _) (.cells #[.int .i64 (s : Int)] 3)
  have HI := Lib.hid (h.out.on hb0)
  have HB := Lib.hid hb0
  have hc0 : (w.alloc (.cells #[.int .i64 (s : Int)] 3)).cell? ⟨w.heap.size, 0, none⟩ = some (.int .i64 (s : Int)) := by simp
  have HC := Lib.hid hc0
  have hsz : (w.alloc (.cells #[.int .i64 (s : Int)] 3)).heap.size = w.heap.size + 1 := by simp
  have HZ := Lib.hid hsz
  have hle := Plain.without_le xs s
  have HL := Lib.hid (hl.out.without s)
  clear hb0 hc0 hsz
  go_enter Try.func75, Try.ntmps75
  go_wp2_with fail
  obtain ⟨W, hW⟩ : ∃ W, W = w.alloc (.cells #[.int .i64 (s : Int)] 3) := ⟨_, rfl⟩
  rw [← hW] at HI HB HC HZ ⊢
  clear hW
  refine (clone_any a cap xs _ HI hn).mono ?_
  rintro e w1 ⟨v, rfl, hown, hb1⟩
  have HO : Hid (w1.ownsRow (w.heap.size + 1) 3 1 v xs.length (nums xs)) := Lib.hid (by rw [← HZ.out]; exact hown)
  have HB1 := Lib.hid (HB.out.trans (hb1.mono (by rw [HZ.out]; omega)))
  have HC1 : Hid (w1.cell? ⟨w.heap.size, 0, none⟩ = some (.int .i64 (s : Int))) := Lib.hid (cell_later hb1 HC.out)
  clear hown hb1
  go_wp2_with fail
  refine (delete_any v xs s w.heap.size (w.heap.size + 1) _ HO.out hl hn hs HC1 (by omega)).mono ?_
  rintro e w2 ⟨a2, c2, rfl, hi2, hb2⟩
  have HI2 := Lib.hid hi2
  have HB2 := Lib.hid (HB1.out.trans (hb2.mono (by omega)))
  clear hi2 hb2
  obtain ⟨L, hL⟩ : ∃ L, L = Plain.without xs s := ⟨_, rfl⟩
  have HT : Hid (Plain.red L = Plain.takeOut xs s) := Lib.hid (by rw [hL]; rfl)
  rw [← hL] at HI2 HL hle ⊢
  clear hL
  go_wp2_with fail
  refine (reduced_any a2 c2 L _ HI2 HL (by omega)).mono ?_
  rintro e w3 ⟨v3, rfl, hr, hb3⟩
  have HO3 := Lib.hid (And.intro (hr.mono HB2.out.size) (HB2.out.trans (hb3.mono HB2.out.size)))
  rw [HT.out] at HO3
  clear hr hb3
  go_wp2_with fail
  go_ret
  exact ⟨_, rfl, HO3.out.1, HO3.out.2⟩



end Go.Proofs.Ytkooibimeoojeaa
