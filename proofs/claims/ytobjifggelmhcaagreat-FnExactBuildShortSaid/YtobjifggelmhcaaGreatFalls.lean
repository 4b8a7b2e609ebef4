/- Contracts: impl's word.falls, word.fallTable. Conditions: letters, lengths that fit. -/
import Derived.Test.YtobjifggelmhcaaGreatWithout
import Derived.Test.YtobjifggelmhcaaGreatTell
namespace Go.Proofs.YtobjifggelmhcaaGreat
open Go.ChangeShapes Go.WideShapes Go.ChangeAt Go.RowKit
set_option linter.unusedVariables false

set_option maxHeartbeats 400000 in
theorem falls_any (a : Option Addr) (cap : Nat) (xs : List Int) (s : Nat) (w : World) (h : Hid (Ints w a xs)) (hl : Hid (Plain.Letters xs)) (hn : xs.length ≤ 1048576) (hs : s < 64) :
    Calls Tryz.prog 59 #[.slice a xs.length cap, .int .i64 (s : Int)] w (Val (.bool (Plain.fallsB xs s)) w) := by
  have hle := Plain.takeOut_le xs s
  obtain ⟨L, hL⟩ : ∃ L, L = Plain.takeOut xs s := ⟨_, rfl⟩
  have HF : Hid (Plain.fallsB xs s = decide (L.length = 0)) := Lib.hid (by rw [hL]; rfl)
  rw [← hL] at hle
  have HL := Lib.hid hL
  clear hL
  go_enter Tryz.func59, Tryz.ntmps59
  go_wp2_with fail
  refine (without_any a cap xs s _ h hl hn hs).mono ?_
  rw [← HL.out]
  rintro e w1 ⟨v, rfl, ⟨a2, c2, rfl, -, -, -⟩, hb⟩
  have HB := Lib.hid hb
  clear hb
  by_cases h0 : L.length = 0
  · have HF2 : Hid (Plain.fallsB xs s = true) := Lib.hid (by rw [HF.out]; simp [h0])
    have hq : ((L.length : Int) == 0) = true := by simp [h0]
    clear h0
    go_wp2_with fail
    go_ret
    exact ⟨ret_bool HF2.out.symm, HB.out⟩
  · have HF2 : Hid (Plain.fallsB xs s = false) := Lib.hid (by rw [HF.out]; simp [h0])
    have hq : ((L.length : Int) == 0) = false := by simpa using h0
    clear h0
    go_wp2_with fail
    go_ret
    exact ⟨ret_bool HF2.out.symm, HB.out⟩


end Go.Proofs.YtobjifggelmhcaaGreat
