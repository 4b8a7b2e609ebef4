/- Contract: spec.l1Split returns the parts of a text between the bytes, in new memory. Condition: the text has at most 2^20 bytes. -/
import Derived.Test.YthcggmjgecdfgaaDoorRows
import Derived.Test.YthcggmjgecdfgaaDoorSplit
import Derived.WalkKit
import Derived.ProofKit
import Derived.OpenShut
import Derived.ShutString
import Derived.Lib.Hide
import Derived.Outline
import Derived.WalkSpells
import Derived.WalkSmall
import Derived.Maps.AppendAt
namespace Go.Proofs.YthcggmjgecdfgaaDoor
open Go.ChangeShapes Go.WideShapes Go.ChangeAt Go.RowKit

theorem infoStr : (Tryd.prog.info? 9).map (fun i => (i.zero, i.size, i.bytes)) = some (some (.string ByteArray.empty), 1, 16) := by kernel_rfl

def strVals (l : List ByteArray) : List Value := l.map Value.string

/-- The loop's relation behind k bytes. -/
def SplitAt (s : ByteArray) (c : UInt8) (B : Nat) (w : World) (v : Value) (k : Nat) (wr : World) : Prop :=
  wr.ownsRow B 9 1 v (Plain.sp s c k).1.length (strVals (Plain.sp s c k).1) ∧ Below B w wr ∧ B ≤ wr.heap.size

theorem splitAt_start (s : ByteArray) (c : UInt8) (w : World) : SplitAt s c w.heap.size w (.slice (some ⟨w.heap.size, 0, none⟩) 0 0) 0 (w.alloc (.cells #[] 9)) :=
  ⟨World.ownsRow_made w #[] 0 (Nat.le_refl _) (Nat.zero_le _) rfl, (Below.refl _ w).alloc (Nat.le_refl _) _, by simp⟩

theorem splitAt_hit {s : ByteArray} {c : UInt8} {B k : Nat} {w wr w1 : World} {v v' : Value} {o : Obj} (hk : k < s.size) (he : s[k] = c) (h : SplitAt s c B w v k wr)
    (hown' : w1.ownsRow B 9 1 v' ((Plain.sp s c k).1.length + 1) (strVals (Plain.sp s c k).1 ++ [.string (s.extract (Plain.sp s c k).2 k)])) (hgrow : (wr.alloc o).grownBy w1 v.ownBlock) :
    SplitAt s c B w v' (k + 1) w1 := by
  obtain ⟨hown, hnx, hB⟩ := h
  have e1 := Plain.sp_hit s c k hk he
  refine ⟨?_, (hnx.alloc hB o).grown hgrow (by simp; omega) (fun j hj => (hown.lt j hj).1), by have := hgrow.size; simp at this; omega⟩
  rw [e1]
  simpa [strVals] using hown'

theorem splitAt_miss {s : ByteArray} {c : UInt8} {B k : Nat} {w wr : World} {v : Value} (hk : k < s.size) (he : ¬ s[k] = c) (h : SplitAt s c B w v k wr) : SplitAt s c B w v (k + 1) wr := by
  unfold SplitAt
  rw [Plain.sp_miss s c k hk he]
  exact h

theorem splitAt_end {s : ByteArray} {c : UInt8} {B : Nat} {w wr w1 : World} {v v' : Value} {o : Obj} (h : SplitAt s c B w v s.size wr)
    (hown' : w1.ownsRow B 9 1 v' ((Plain.sp s c s.size).1.length + 1) (strVals (Plain.sp s c s.size).1 ++ [.string (s.extract (Plain.sp s c s.size).2 s.size)])) (hgrow : (wr.alloc o).grownBy w1 v.ownBlock) :
    w1.ownsRow B 9 1 v' (Plain.parts s c).length (strVals (Plain.parts s c)) ∧ Below B w w1 := by
  obtain ⟨hown, hnx, hB⟩ := h
  refine ⟨?_, (hnx.alloc hB o).grown hgrow (by simp; omega) (fun j hj => (hown.lt j hj).1)⟩
  unfold Plain.parts
  simpa [strVals] using hown'

set_option maxHeartbeats 800000 in
theorem l1Split_any (s : ByteArray) (c : UInt8) (w : World) (hs : s.size ≤ 1048576) :
    Calls Tryd.prog 37 #[.string s, .int .u8 (c.toNat : Int)] w fun e w' =>
      ∃ v, e = .returned v ∧ w'.ownsRow w.heap.size 9 1 v (Plain.parts s c).length (strVals (Plain.parts s c)) ∧ Below w.heap.size w w' := by
  obtain ⟨i0, hi, hz0, hz1, hz2⟩ := info_parts infoStr
  go_enter Tryd.func37, Tryd.ntmps37
  go_wp2
  go_loopw [5, 6, 7] (fun v f i wr => ∃ k : Nat, k ≤ s.size ∧ i = .int .i64 k ∧ f = .int .i64 ((Plain.sp s c k).2 : Nat) ∧ SplitAt s c w.heap.size w v k wr) (fun _ _ i _ => s.size - (intOf i).toNat)
  case atStart => exact ⟨0, Nat.zero_le _, rfl, rfl, splitAt_start s c w⟩
  case round =>
    obtain ⟨k, hk, rfl, rfl, hrel⟩ := hrel
    have hf := (Plain.sp_le s c k).1
    have hl := (Plain.sp_le s c k).2
    have hown := hrel.1
    have hBs := hrel.2.2
    by_cases hlt : k < s.size
    · by_cases he : s[k] = c
      · have hbq : ((s[k].toNat : Int) == (c.toNat : Int)) = true := by rw [he]; simp
        have HS := Lib.hid (Plain.sp_hit s c k hlt he)
        have HE := Lib.hid he
        clear he
        go_wp2_with (at_builtin; refine wpList_append_own _ rfl _ _ 44 rfl w.heap.size 9 i0 (.string ByteArray.empty) 1 16 Tryd.underlying44 hi hz0 hz1 hz2 rfl (by decide) _ _ _ rfl (hown.alloc _) ⟨wr.heap.size, 0, none⟩ 1 1 [.string (s.extract (Plain.sp s c k).2 k)] rfl rfl ?c1 ?c2 ?c3 ?c4 ?c5 ?_)
        case c1 => exact cell_one_new _ _ _
        case c2 => simp [Value.oneCell']
        case c3 => unfold maxLen; omega
        case c4 => omega
        case c5 => simp; omega
        intro v' w1 hown' hgrow _
        have hR := Lib.hid (splitAt_hit hlt HE.out hrel hown' hgrow)
        clear hown' hgrow hown hrel
        go_wp2
        go_roundw
        case rel => exact ⟨k + 1, by omega, by go_num, by rw [HS.out]; go_num, hR.out⟩
        case measure => simp [intOf]; omega
      · have hbq : ((s[k].toNat : Int) == (c.toNat : Int)) = false := by
          rw [beq_eq_false_iff_ne]
          intro e
          exact he (UInt8.toNat_inj.1 (by omega))
        have HS := Lib.hid (Plain.sp_miss s c k hlt he)
        have hR := Lib.hid (splitAt_miss hlt he hrel)
        clear he hown hrel
        go_wp2
        go_roundw
        case rel => exact ⟨k + 1, by omega, by go_num, by rw [HS.out], hR.out⟩
        case measure => simp [intOf]; omega
    · obtain rfl : k = s.size := by omega
      go_wp2_with (at_builtin; refine wpList_append_own _ rfl _ _ 44 rfl w.heap.size 9 i0 (.string ByteArray.empty) 1 16 Tryd.underlying44 hi hz0 hz1 hz2 rfl (by decide) _ _ _ rfl (hown.alloc _) ⟨wr.heap.size, 0, none⟩ 1 1 [.string (s.extract (Plain.sp s c s.size).2 s.size)] rfl rfl ?c1 ?c2 ?c3 ?c4 ?c5 ?_)
      case c1 => exact cell_one_new _ _ _
      case c2 => simp [Value.oneCell']
      case c3 => unfold maxLen; omega
      case c4 => omega
      case c5 => simp; omega
      intro v' w1 hown' hgrow _
      have hR := Lib.hid (splitAt_end hrel hown' hgrow)
      clear hown' hgrow hown hrel
      go_wp2
      go_ret
      exact ⟨_, rfl, hR.out⟩

end Go.Proofs.YthcggmjgecdfgaaDoor
