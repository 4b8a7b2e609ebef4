/- Both splits come to the same. Condition: a text of at most 2^20 bytes, a separator that is no longer than memory. -/
import Derived.Test.YthcggmjgecdfgaaImplSplit
import Derived.Test.YthcggmjgecdfgaaStrsWalks
import Derived.Test.YthcggmjgecdfgaaSeal
namespace Go.Proofs.Ythcggmjgecdfgaa
open Go.ChangeShapes Go.WideShapes Go.ChangeAt Go.RowKit

def NoSplit (w : World) (e : Ending) (w' : World) : Prop := ∃ g, e = .returned (.tuple #[.slice (some ⟨g, 0, none⟩) 0 0, .bool false]) ∧ w'.ownsRow w.heap.size 9 1 (.slice (some ⟨g, 0, none⟩) 0 0) 0 [] ∧ Below w.heap.size w w'
theorem noSplit (w : World) : NoSplit w (.returned (.tuple #[.slice (some ⟨w.heap.size, 0, none⟩) 0 0, .bool false])) (w.alloc (.cells #[] 9)) :=
  ⟨_, rfl, World.ownsRow_made w #[] 0 (Nat.le_refl _) (Nat.zero_le _) rfl, (Below.refl _ w).alloc (Nat.le_refl _) _⟩

theorem implSplit_no (s sep : ByteArray) (w : World) (hs : s.size ≤ 9223372036854775807) (h : 4000 < s.size ∨ ¬ sep.size = 1) :
    Calls Try.prog 10 #[.string s, .string sep] w (NoSplit w) := by
  by_cases h1 : 4000 < s.size
  · clear h
    go_enter Try.func10, Try.ntmps10
    go_wp2_with fail
    go_ret2
    exact noSplit w
  · have hq : ((sep.size : Int) == 1) = false := by rw [beq_eq_false_iff_ne]; omega
    have hq2 : ((sep.size : Int) != 1) = true := by rw [bne, hq]; rfl
    clear h
    go_enter Try.func10, Try.ntmps10
    go_wp2_with fail
    go_ret2
    exact noSplit w

theorem specSplit_no (s sep : ByteArray) (w : World) (hs : s.size ≤ 9223372036854775807) (h : 4000 < s.size ∨ ¬ sep.size = 1) :
    Calls Try.prog 17 #[.string s, .string sep] w (NoSplit w) := by
  by_cases h1 : sep.size = 1
  · obtain ⟨c, rfl⟩ := Plain.sep_of sep h1
    have h2 : 4000 < s.size := by omega
    clear h
    go_enter Try.func17, Try.ntmps17
    go_wp2_with fail
    go_ret2
    exact noSplit w
  · have hq : ((sep.size : Int) == 1) = false := by rw [beq_eq_false_iff_ne]; omega
    have hq2 : ((sep.size : Int) != 1) = true := by rw [bne, hq]; rfl
    clear h
    go_enter Try.func17, Try.ntmps17
    go_wp2_with fail
    go_ret2
    exact noSplit w

theorem specSplit_any (s : ByteArray) (c : UInt8) (hsz : s.size ≤ 4000) (w : World) :
    Calls Try.prog 17 #[.string s, .string ⟨#[c]⟩] w fun e w' =>
      ∃ v, e = .returned (.tuple #[v, .bool true]) ∧ w'.ownsRow w.heap.size 9 1 v (Plain.parts s c).length (strVals (Plain.parts s c)) ∧ Below w.heap.size w w' := by
  have hidx : ∀ w, (Instr.index 9 (.string ⟨#[c]⟩) (.int .i64 0)).run Try.prog w = .ok (.int .u8 (c.toNat : Int)) w := fun w => by go_simp; rfl
  go_enter Try.func17, Try.ntmps17
  go_wp2_with (go_at_call 35; refine (l1Split_any s c _ (by omega)).mono ?_; rintro e w1 ⟨v, rfl, hown, hb⟩)
  go_ret2
  exact ⟨_, rfl, hown, hb⟩

/-- What a split hands back: a row of its own. -/
def SplitPost (ss : List ByteArray) (b : Bool) (w : World) (e : Ending) (w' : World) : Prop :=
  ∃ g cap, e = .returned (.tuple #[.slice (some ⟨g, 0, none⟩) ss.length cap, .bool b]) ∧ w'.ownsRow w.heap.size 9 1 (.slice (some ⟨g, 0, none⟩) ss.length cap) ss.length (strVals ss) ∧ Below w.heap.size w w'
theorem split_no {w w' : World} {e : Ending} (h : NoSplit w e w') : SplitPost [] false w e w' := by
  obtain ⟨g, h1, h2, h3⟩ := h
  exact ⟨g, 0, h1, h2, h3⟩
theorem split_yes {w w' : World} {e : Ending} {ss : List ByteArray} (h0 : 0 < ss.length) (h : ∃ v, e = .returned (.tuple #[v, .bool true]) ∧ w'.ownsRow w.heap.size 9 1 v ss.length (strVals ss) ∧ Below w.heap.size w w') : SplitPost ss true w e w' := by
  obtain ⟨v, rfl, hown, hb⟩ := h
  obtain ⟨hl, ⟨rfl, hn⟩ | ⟨g, cap, cur, rfl, q⟩⟩ := hown
  · omega
  · exact ⟨g, cap, rfl, ⟨hl, .inr ⟨g, cap, cur, rfl, q⟩⟩, hb⟩

theorem splitBoth (s sep : ByteArray) (hs : s.size ≤ 1048576) : ∃ ss b, ss.length ≤ 4001 ∧
    (∀ v, Calls Try.prog 17 #[.string s, .string sep] v (SplitPost ss b v)) ∧ (∀ v, Calls Try.prog 10 #[.string s, .string sep] v (SplitPost ss b v)) := by
  by_cases h : 4000 < s.size ∨ ¬ sep.size = 1
  · exact ⟨[], false, Nat.zero_le _, fun v => (specSplit_no s sep v (by omega) h).mono fun _ _ => split_no, fun v => (implSplit_no s sep v (by omega) h).mono fun _ _ => split_no⟩
  · have h1 : sep.size = 1 := by omega
    obtain ⟨c, rfl⟩ := Plain.sep_of sep h1
    have hl := Plain.parts_length s c
    have h0 := Plain.parts_pos s c
    exact ⟨Plain.parts s c, true, by omega, fun v => (specSplit_any s c (by omega) v).mono fun _ _ => split_yes h0, fun v => (implSplit_any s c (by omega) v).mono fun _ _ => split_yes h0⟩

end Go.Proofs.Ythcggmjgecdfgaa
