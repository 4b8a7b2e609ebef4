/- Contract: spec.l1Split returns the parts of a text between the bytes, in new memory. Condition: the text has at most 2^20 bytes. -/
import Derived.Test.YtaepmgfodjjidaaDoorRows
import Derived.Test.YtaepmgfodjjidaaDoorSplit
import Derived.WalkKit
import Derived.ProofKit
import Derived.OpenShut
import Derived.ShutString
import Derived.Lib.Hide
import Derived.Outline
import Derived.WalkSpells
import Derived.WalkSmall
import Derived.Maps.AppendAt
namespace Go.Proofs.YtaepmgfodjjidaaDoor
open Go.ChangeShapes Go.WideShapes Go.ChangeAt Go.RowKit

theorem infoStr : (Tryd.prog.info? 9).map (fun i => (i.zero, i.size, i.bytes)) = some (some (.string ByteArray.empty), 1, 16) := by kernel_rfl

def strVals (l : List ByteArray) : List Value := l.map Value.string

/-- The loop's relation behind k bytes. -/
def SplitAt (s : ByteArray) (c : UInt8) (B : Nat) (w : World) (v : Value) (k : Nat) (wr : World) : Prop :=
  wr.ownsRow B 9 1 v (Plain.sp s c k).1.length (strVals (Plain.sp s c k).1) ∧ Below B w wr ∧ B ≤ wr.heap.size

theorem splitAt_start (s : ByteArray) (c : UInt8) (w : World) : SplitAt s c w.heap.size w (.slice (some ⟨w.heap.size, 0, none⟩) 0 0) 0 (w.alloc (.cells #[] 9)) :=
  ⟨World.ownsRow_made w #[] 0 (Nat.le_refl _) (Nat.zero_le _) rfl, (Below.refl _ w).alloc (Nat.le_refl _) _, by simp⟩

theorem splitAt_hit {s : ByteArray} {c : UInt8} {B k : Nat} {w wr w1 : World} {v v' : Value} {o : Obj} (hk : k < s.size) (he : s[k] = c) (h : SplitAt s c B w v k wr)
    (hown' : w1.ownsRow B 9 1 v' ((Plain.sp s c k).1.length + 1) (strVals (Plain.sp s c k).1 ++ [.string (s.extract (Plain.sp s c k).2 k)])) (hgrow : (wr.alloc o).grownBy w1 v.ownBlock) :
    SplitAt s c B w v' (k + 1) w1 := by
  obtain ⟨hown, hnx, hB⟩ := h
  have e1 := Plain.sp_hit s c k hk he
  refine ⟨?_, (hnx.alloc hB o).grown hgrow (by simp; omega) (fun j hj => (hown.lt j hj).1), by have := hgrow.size; simp at this; omega⟩
  rw [e1]
  simpa [strVals] using hown'

theorem splitAt_miss {s : ByteArray} {c : UInt8} {B k : Nat} {w wr : World} {v : Value} (hk : k < s.size) (he : ¬ s[k] = c) (h : SplitAt s c B w v k wr) : SplitAt s c B w v (k + 1) wr := by
  unfold SplitAt
  rw [Plain.sp_miss s c k hk he]
  exact h

theorem splitAt_end {s : ByteArray} {c : UInt8} {B : Nat} {w wr w1 : World} {v v' : Value} {o : Obj} (h : SplitAt s c B w v s.size wr)
    (hown' : w1.ownsRow B 9 1 v' ((Plain.sp s c s.size).1.length + 1) (strVals (Plain.sp s c s.size).1 ++ [.string (s.extract (Plain.sp s c s.size).2 s.size)])) (hgrow : (wr.alloc o).grownBy w1 v.ownBlock) :
    w1.ownsRow B 9 1 v' (Plain.parts s c).length (strVals (Plain.parts s c)) ∧ Below B w w1 := by
  obtain ⟨hown, hnx, hB⟩ := h
  refine ⟨?_, (hnx.alloc hB o).grown hgrow (by simp; omega) (fun j hj => (hown.lt j hj).1)⟩
  unfold Plain.parts
  simpa [strVals] using hown'


end Go.Proofs.YtaepmgfodjjidaaDoor
