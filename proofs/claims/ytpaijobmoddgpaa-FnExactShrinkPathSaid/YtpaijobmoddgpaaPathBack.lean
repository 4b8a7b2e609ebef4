/- Contract: spec's l10Back. Plain: the step back, steps up and down exchanged, texts of bytes. No condition. -/
import Derived.Test.YtpaijobmoddgpaaPathText
namespace Go.Proofs.Ytpaijobmoddgpaa
open Go.ChangeShapes Go.WideShapes Go.ChangeAt Go.RowKit
set_option linter.unusedVariables false
set_option linter.unusedSimpArgs false

namespace Plain
def backB (b : UInt8) : UInt8 := if b = 108 then 114 else if b = 114 then 108 else if b = 117 then 100 else 117
def flipB (b : UInt8) : UInt8 := if b = 117 then 100 else if b = 100 then 117 else b
def flipL (l : List UInt8) : List UInt8 := l.map flipB
theorem flip_step {b : UInt8} (h : isStepB b = true) : isStepB (flipB b) = true ∧ dxB (flipB b) = dxB b ∧ dyB (flipB b) = -dyB b := by
  rcases step_cases b with ⟨-, rfl | rfl | rfl | rfl⟩ | ⟨hs, -⟩
  · exact ⟨rfl, rfl, rfl⟩
  · exact ⟨rfl, rfl, rfl⟩
  · exact ⟨rfl, rfl, rfl⟩
  · exact ⟨rfl, rfl, rfl⟩
  · rw [hs] at h; cases h
theorem back_step {b : UInt8} (h : isStepB b = true) : isStepB (backB b) = true ∧ dxB (backB b) = -dxB b ∧ dyB (backB b) = -dyB b ∧ backB (backB b) = b := by
  rcases step_cases b with ⟨-, rfl | rfl | rfl | rfl⟩ | ⟨hs, -⟩
  · exact ⟨rfl, rfl, rfl, rfl⟩
  · exact ⟨rfl, rfl, rfl, rfl⟩
  · exact ⟨rfl, rfl, rfl, rfl⟩
  · exact ⟨rfl, rfl, rfl, rfl⟩
  · rw [hs] at h; cases h
theorem flip_length (l : List UInt8) : (flipL l).length = l.length := by simp [flipL]
theorem flip_atP {l : List UInt8} (h : ∀ b ∈ l, isStepB b = true) (k : Nat) (hk : k ≤ l.length) : atP (flipL l) k = ((atP l k).1, -(atP l k).2) := by
  induction k with
  | zero => rfl
  | succ k ih =>
    have hb : l[k]? = some l[k] := List.getElem?_eq_getElem (by omega)
    have hf : (flipL l)[k]? = some (flipB l[k]) := by unfold flipL; rw [List.getElem?_map, hb]; rfl
    rw [atP_step hb, atP_step hf, ih (by omega)]
    obtain ⟨-, h1, h2⟩ := flip_step (h l[k] (List.getElem_mem _))
    unfold nextP
    simp only []
    rw [h1, h2]
    simp only [Prod.mk.injEq, true_and]
    omega
end Plain
/-- A text of these bytes. -/
theorem text_of {T : ByteArray} {l : List UInt8} (h : T.data.toList = l) : T = ⟨l.toArray⟩ := by
  subst h
  rfl
theorem cat_list (S T : ByteArray) : (S ++ T).data.toList = S.data.toList ++ T.data.toList := by simp
theorem size_list {T : ByteArray} {l : List UInt8} (h : T.data.toList = l) : T.size = l.length := by
  subst h
  simp
theorem one_of {s : ByteArray} {k : Nat} (h : k < s.size) : (s.extract k (k + 1)).data.toList = [s[k]] := by
  have hk : k < s.data.toList.length := by simpa using h
  have e : (s.extract k (k + 1)).data.toList = (s.data.toList.drop k).take 1 := by
    simp [List.extract_eq_take_drop]
  rw [e, List.drop_eq_getElem_cons hk]
  rfl
def BackPost (b : UInt8) (w : World) (e : Ending) (w' : World) : Prop := e = .returned (.string ⟨#[Plain.backB b]⟩) ∧ w = w'
set_option maxHeartbeats 1600000 in
theorem l10Back_any (b : UInt8) (w : World) : Calls Try.prog 66 #[.int .u8 b.toNat] w (BackPost b w) := by
  by_cases h1 : b = 108
  · subst h1
    go_enter Try.func66, Try.ntmps66
    go_wp2_with fail
    go_ret
    exact ⟨rfl, rfl⟩
  have q1 : (((b.toNat : Nat) : Int) == 108) = false := byte_no (n := 108) (by decide) h1
  by_cases h2 : b = 114
  · subst h2
    go_enter Try.func66, Try.ntmps66
    go_wp2_with fail
    go_ret
    exact ⟨rfl, rfl⟩
  have q2 : (((b.toNat : Nat) : Int) == 114) = false := byte_no (n := 114) (by decide) h2
  by_cases h3 : b = 117
  · subst h3
    go_enter Try.func66, Try.ntmps66
    go_wp2_with fail
    go_ret
    exact ⟨rfl, rfl⟩
  have q3 : (((b.toNat : Nat) : Int) == 117) = false := byte_no (n := 117) (by decide) h3
  have HB : Hid (Plain.backB b = 117) := Lib.hid (by unfold Plain.backB; rw [if_neg h1, if_neg h2, if_neg h3])
  clear h1 h2 h3
  go_enter Try.func66, Try.ntmps66
  go_wp2_with fail
  go_ret
  exact ⟨by rw [HB.out]; rfl, rfl⟩
end Go.Proofs.Ytpaijobmoddgpaa
