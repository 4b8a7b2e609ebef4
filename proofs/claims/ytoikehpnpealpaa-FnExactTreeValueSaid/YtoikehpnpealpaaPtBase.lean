/- Trees as data: their text, their raw length, depth, leaves and value; texts as lists of bytes. No condition. -/
import Derived.Test.YtoikehpnpealpaaTextSpec
import Derived.Test.YtoikehpnpealpaaProd
import Derived.Test.YtoikehpnpealpaaComm
namespace Go.Proofs.Ytoikehpnpealpaa
open Go.ChangeShapes Go.WideShapes Go.ChangeAt Go.RowKit
set_option linter.unusedVariables false

/-- A tree: a word, or two trees. -/
inductive PT where
  | leaf (ws : List Int) : PT
  | node (l r : PT) : PT
def PT.txt : PT → List UInt8
  | .leaf ws => textB ws
  | .node l r => 91 :: (l.txt ++ 44 :: (r.txt ++ [93]))
/-- Leaves are words of at least one letter. -/
def PT.some : PT → Prop
  | .leaf ws => ws ≠ [] ∧ Plain.Letters ws
  | .node l r => l.some ∧ r.some
def PT.few : PT → Bool
  | .leaf ws => decide (ws.length ≤ 64)
  | .node l r => l.few && r.few
def PT.good (t : PT) : Prop := t.some ∧ t.few = true
def PT.raw : PT → Nat
  | .leaf ws => ws.length
  | .node l r => 2 * (l.raw + r.raw)
def PT.depth : PT → Nat
  | .leaf _ => 0
  | .node l r => max l.depth r.depth + 1
def PT.leaves : PT → Nat
  | .leaf _ => 1
  | .node l r => l.leaves + r.leaves
def PT.four (t : PT) : Nat × Nat × Nat × Nat := (t.txt.length, t.depth, t.leaves, t.raw)
def PT.val : PT → List Int × Bool
  | .leaf ws => (Plain.red ws, true)
  | .node l r => if (l.val.2 && r.val.2) = true then (short (Plain.comm l.val.1 r.val.1), shortB (Plain.comm l.val.1 r.val.1)) else ([], false)
theorem PT.good_l {l r : PT} (h : (PT.node l r).good) : l.good := ⟨h.1.1, (Bool.and_eq_true _ _ ▸ h.2).1⟩
theorem PT.good_r {l r : PT} (h : (PT.node l r).good) : r.good := ⟨h.1.2, (Bool.and_eq_true _ _ ▸ h.2).2⟩

def bytesOf (l : List UInt8) : ByteArray := ⟨l.toArray⟩
theorem bytesOf_list (l : List UInt8) : (bytesOf l).data.toList = l := by simp [bytesOf]
theorem bytesOf_size (l : List UInt8) : (bytesOf l).size = l.length := by simp [bytesOf, ByteArray.size]
theorem bytesOf_self (s : ByteArray) : bytesOf s.data.toList = s := by simp [bytesOf]
theorem textB_length (ws : List Int) : (textB ws).length = ws.length := by simp [textB]

end Go.Proofs.Ytoikehpnpealpaa
