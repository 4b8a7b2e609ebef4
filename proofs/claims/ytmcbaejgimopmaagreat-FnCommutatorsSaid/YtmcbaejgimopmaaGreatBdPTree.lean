/- Trees as data: their text, their raw length, depth, leaves and value; texts as lists of bytes. No condition. -/
import Derived.Test.YtmcbaejgimopmaaGreatBdCommSpec
import Derived.Test.YtmcbaejgimopmaaGreatBdTextSpec
import Derived.Test.YtmcbaejgimopmaaGreatComm
namespace Go.Proofs.YtmcbaejgimopmaaGreat
open Go.ChangeShapes Go.WideShapes Go.ChangeAt Go.RowKit
set_option linter.unusedVariables false

/-- A tree: a word, or two trees. -/
inductive PT where
  | leaf (ws : List Int) : PT
  | node (l r : PT) : PT
def PT.txt : PT → List UInt8
  | .leaf ws => textB ws
  | .node l r => 91 :: (l.txt ++ 44 :: (r.txt ++ [93]))
/-- Leaves are words of at least one letter. -/
def PT.some : PT → Prop
  | .leaf ws => ws ≠ [] ∧ Plain.Letters ws
  | .node l r => l.some ∧ r.some
def PT.few : PT → Bool
  | .leaf ws => decide (ws.length ≤ 64)
  | .node l r => l.few && r.few
def PT.good (t : PT) : Prop := t.some ∧ t.few = true
def PT.raw : PT → Nat
  | .leaf ws => ws.length
  | .node l r => 2 * (l.raw + r.raw)
def PT.depth : PT → Nat
  | .leaf _ => 0
  | .node l r => max l.depth r.depth + 1
def PT.leaves : PT → Nat
  | .leaf _ => 1
  | .node l r => l.leaves + r.leaves
def PT.four (t : PT) : Nat × Nat × Nat × Nat := (t.txt.length, t.depth, t.leaves, t.raw)
def PT.val : PT → List Int × Bool
  | .leaf ws => (Plain.red ws, true)
  | .node l r => if (l.val.2 && r.val.2) = true then (short (Plain.comm l.val.1 r.val.1), shortB (Plain.comm l.val.1 r.val.1)) else ([], false)
theorem PT.good_l {l r : PT} (h : (PT.node l r).good) : l.good := ⟨h.1.1, (Bool.and_eq_true _ _ ▸ h.2).1⟩
theorem PT.good_r {l r : PT} (h : (PT.node l r).good) : r.good := ⟨h.1.2, (Bool.and_eq_true _ _ ▸ h.2).2⟩

def bytesOf (l : List UInt8) : ByteArray := ⟨l.toArray⟩
theorem bytesOf_list (l : List UInt8) : (bytesOf l).data.toList = l := by simp [bytesOf]
theorem bytesOf_size (l : List UInt8) : (bytesOf l).size = l.length := by simp [bytesOf, ByteArray.size]
theorem bytesOf_self (s : ByteArray) : bytesOf s.data.toList = s := by simp [bytesOf]
theorem textB_length (ws : List Int) : (textB ws).length = ws.length := by simp [textB]

end Go.Proofs.YtmcbaejgimopmaaGreat

/- Trees in memory; contracts: (*impl.tree).isLeaf, rawLength, shape. Conditions: numbers that fit. -/
namespace Go.Proofs.YtmcbaejgimopmaaGreat
open Go.ChangeShapes Go.WideShapes Go.ChangeAt Go.RowKit
set_option linter.unusedVariables false

theorem drewN_below (w : World) (n : Nat) : Below w.heap.size w (w.drewN n) := ⟨rfl, rfl, rfl, Nat.le_refl _, fun _ _ => rfl⟩
theorem grew_refl (W : World) (b : Option Nat) : W.grownBy W b := ⟨rfl, rfl, rfl, Nat.le_refl _, fun _ _ _ => rfl⟩
theorem grew_set (W : World) (B i : Nat) (v : Value) : W.grownBy (W.setCell ⟨B, i, none⟩ v) (some B) := by
  refine ⟨rfl, rfl, rfl, ?_, fun j hj hne => ?_⟩
  · simp [World.setCell]
  · exact Below.heap_setCell _ _ _ _ (by simpa using hne)
theorem grew_of {w w' : World} {b : Option Nat} (h : Below w.heap.size w w') : w.grownBy w' b := ⟨h.os, h.tape, h.output, h.size, fun k hk _ => h.block k hk⟩
theorem grew_drewN (w : World) (n : Nat) (b : Option Nat) : w.grownBy (w.drewN n) b := ⟨rfl, rfl, rfl, Nat.le_refl _, fun _ _ _ => rfl⟩

/-! trees in memory -/
/-- A tree lies at a block, all of it from block B on. -/
def PTree (B : Nat) (w : World) : PT → Nat → Prop
  | .leaf ws, p => B ≤ p ∧ ∃ a cap, w.heap[p]? = some (.cells #[.slice a ws.length cap, .pointer none, .pointer none] 78 (0, 0)) ∧ Ints w a ws ∧ Own B w a ws.length ∧ Cap a ws.length cap
  | .node l r, p => B ≤ p ∧ ∃ pl pr, w.heap[p]? = some (.cells #[.slice none 0 0, .pointer (some ⟨pl, 0, none⟩), .pointer (some ⟨pr, 0, none⟩)] 78 (0, 0)) ∧ PTree B w l pl ∧ PTree B w r pr
theorem own_off {B q n : Nat} {a : Option Addr} {w w' : World} (h : Own B w a n) (hg : w.grownBy w' (some q)) (hq : q < B) : Own B w' a n := by
  rcases h with h | ⟨b, o, e1, h1, h2, h3⟩
  · exact .inl h
  · refine .inr ⟨b, o, e1, h1, by have := hg.size; omega, fun j => ?_⟩
    have hb := hg.block b h2 (by simp; omega)
    rw [← h3 j]
    exact World.frozen?_of_block (w := w) (a := ⟨b, j, none⟩) hb
theorem ints_off {B q : Nat} {a : Option Addr} {xs : List Int} {w w' : World} (h : Ints w a xs) (ho : Own B w a xs.length) (hg : w.grownBy w' (some q)) (hq : q < B) : Ints w' a xs := by
  rcases ho with h0 | ⟨b, o, e1, h1, h2, h3⟩
  · obtain rfl : xs = [] := List.eq_nil_of_length_eq_zero h0
    exact Ints.nil _ _
  · exact h.off hg fun b' o' e _ => by rw [e1] at e; cases e; omega
theorem PTree.off {B q : Nat} {w w' : World} (hg : w.grownBy w' (some q)) (hq : q < B) : ∀ {T : PT} {p : Nat}, PTree B w T p → PTree B w' T p
  | .leaf ws, p, ⟨h0, a, cap, h1, h2, h3, h4⟩ => by
    have hl : p < w.heap.size := (Array.getElem?_eq_some_iff.1 h1).1
    exact ⟨h0, a, cap, (hg.block p hl (by simp; omega)).trans h1, ints_off h2 h3 hg hq, own_off h3 hg hq, h4⟩
  | .node l r, p, ⟨h0, pl, pr, h1, h2, h3⟩ => by
    have hl : p < w.heap.size := (Array.getElem?_eq_some_iff.1 h1).1
    exact ⟨h0, pl, pr, (hg.block p hl (by simp; omega)).trans h1, PTree.off hg hq h2, PTree.off hg hq h3⟩
theorem PTree.on {B : Nat} {w w' : World} (hb : Below w.heap.size w w') : ∀ {T : PT} {p : Nat}, PTree B w T p → PTree B w' T p
  | .leaf ws, p, ⟨h0, a, cap, h1, h2, h3, h4⟩ => by
    have hl : p < w.heap.size := (Array.getElem?_eq_some_iff.1 h1).1
    exact ⟨h0, a, cap, (hb.block p hl).trans h1, h2.on hb, h3.on hb, h4⟩
  | .node l r, p, ⟨h0, pl, pr, h1, h2, h3⟩ => by
    have hl : p < w.heap.size := (Array.getElem?_eq_some_iff.1 h1).1
    exact ⟨h0, pl, pr, (hb.block p hl).trans h1, PTree.on hb h2, PTree.on hb h3⟩
theorem PTree.mono {B B' : Nat} {w : World} (hB : B' ≤ B) : ∀ {T : PT} {p : Nat}, PTree B w T p → PTree B' w T p
  | .leaf ws, p, ⟨h0, a, cap, h1, h2, h3, h4⟩ => ⟨by omega, a, cap, h1, h2, h3.mono hB, h4⟩
  | .node l r, p, ⟨h0, pl, pr, h1, h2, h3⟩ => ⟨by omega, pl, pr, h1, PTree.mono hB h2, PTree.mono hB h3⟩
/-! the methods of a tree -/
theorem PTree.leaf_cells {B p : Nat} {ws : List Int} {w : World} (h : PTree B w (.leaf ws) p) : ∃ a cap, w.cell? ⟨p, 0, none⟩ = some (.slice a ws.length cap) ∧ w.cell? ⟨p, 1, none⟩ = some (.pointer none) ∧ w.cell? ⟨p, 2, none⟩ = some (.pointer none) ∧ Ints w a ws ∧ Cap a ws.length cap := by
  obtain ⟨-, a, cap, h1, h2, -, h4⟩ := h
  exact ⟨a, cap, by simp [World.cell?, h1], by simp [World.cell?, h1], by simp [World.cell?, h1], h2, h4⟩
theorem PTree.node_cells {B p : Nat} {l r : PT} {w : World} (h : PTree B w (.node l r) p) : ∃ pl pr, w.cell? ⟨p, 1, none⟩ = some (.pointer (some ⟨pl, 0, none⟩)) ∧ w.cell? ⟨p, 2, none⟩ = some (.pointer (some ⟨pr, 0, none⟩)) ∧ PTree B w l pl ∧ PTree B w r pr := by
  obtain ⟨-, pl, pr, h1, h2, h3⟩ := h
  exact ⟨pl, pr, by simp [World.cell?, h1], by simp [World.cell?, h1], h2, h3⟩
set_option maxHeartbeats 400000 in
theorem isLeaf_yes (p : Nat) (w : World) (h : w.cell? ⟨p, 1, none⟩ = some (.pointer none)) :
    Calls Tryz.prog 81 #[.pointer (some ⟨p, 0, none⟩)] w fun e w' => e = .returned (.bool true) ∧ w = w' := by
  go_enter Tryz.func81, Tryz.ntmps81
  go_wp2_with fail
  go_ret
  exact ⟨rfl, rfl⟩
set_option maxHeartbeats 400000 in
theorem isLeaf_no (p q : Nat) (w : World) (h : w.cell? ⟨p, 1, none⟩ = some (.pointer (some ⟨q, 0, none⟩))) :
    Calls Tryz.prog 81 #[.pointer (some ⟨p, 0, none⟩)] w fun e w' => e = .returned (.bool false) ∧ w = w' := by
  go_enter Tryz.func81, Tryz.ntmps81
  go_wp2_with fail
  go_ret
  exact ⟨rfl, rfl⟩

set_option maxRecDepth 100000 in
set_option maxHeartbeats 1000000 in
theorem rawLength_any (T : PT) : ∀ (B p : Nat) (w : World), T.raw ≤ 1099511627776 → Hid (PTree B w T p) →
    Calls Tryz.prog 67 #[.pointer (some ⟨p, 0, none⟩)] w fun e w' => e = .returned (.int .i64 (T.raw : Nat)) ∧ ∃ n, w' = w.drewN n := by
  induction T with
  | leaf ws =>
    intro B p w hm h
    obtain ⟨a, cap, c0, c1, c2, -, -⟩ := h.out.leaf_cells
    go_enter Tryz.func67, Tryz.ntmps67
    go_wp2_with fail
    refine (isLeaf_yes p _ c1).mono ?_
    rintro e w' ⟨rfl, rfl⟩
    go_wp2_with fail
    go_ret
    exact ⟨rfl, 0, rfl⟩
  | node l r ihl ihr =>
    intro B p w hm h
    obtain ⟨pl, pr, c1, c2, hl, hr⟩ := h.out.node_cells
    have hm2 : (PT.node l r).raw = 2 * (l.raw + r.raw) := rfl
    have I1 := Lib.hid (fun n => ihl B pl (w.drewN n) (by omega) (Lib.hid (PTree.on (drewN_below w n) hl)))
    have I2 := Lib.hid (fun n => ihr B pr (w.drewN n) (by omega) (Lib.hid (PTree.on (drewN_below w n) hr)))
    have HE := Lib.hid hm2
    obtain ⟨x, hx⟩ : ∃ x, x = l.raw := ⟨_, rfl⟩
    obtain ⟨y, hy⟩ : ∃ y, y = r.raw := ⟨_, rfl⟩
    rw [hm2, ← hx, ← hy] at hm
    rw [← hx] at I1
    rw [← hy] at I2
    rw [← hx, ← hy] at HE
    rw [HE.out]
    clear ihl ihr hl hr hm2 hx hy
    go_enter Tryz.func67, Tryz.ntmps67
    go_wp2_with fail
    refine (isLeaf_no p pl _ c1).mono ?_
    rintro e w' ⟨rfl, rfl⟩
    go_wp2_with fail
    go_quiet ((first | (go_at_call_of 67 (some (⟨pl, 0, none⟩ : Addr)); exact Calls.quiet_of (I1.out _)) | (go_at_call_of 67 (some (⟨pr, 0, none⟩ : Addr)); exact Calls.quiet_of (I2.out _))))
    go_wp2_with fail
    go_ret
    exact ⟨ret_int (by omega), _, rfl⟩


end Go.Proofs.YtmcbaejgimopmaaGreat
