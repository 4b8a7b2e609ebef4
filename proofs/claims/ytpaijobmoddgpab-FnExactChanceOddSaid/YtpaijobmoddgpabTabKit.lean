/- Tables of 64 reports in a block. Two tables of 64 compared. No condition. -/
import Derived.Test.YtpaijobmoddgpabSetKit
import Derived.Laws.Rows
import Derived.Laws.Tables
import Derived.Laws.CopyOwn
import Derived.Test.YtpaijobmoddgpabWord
import Derived.DeepKeys
namespace Go.Proofs.Ytpaijobmoddgpab
open Go.ChangeShapes Go.WideShapes Go.ChangeAt Go.RowKit
set_option linter.unusedVariables false

/-- Sixty-four values by place. -/
def arr64 (f : Nat → Value) : Array Value := ((List.range 64).map f).toArray
theorem arr64_size (f : Nat → Value) : (arr64 f).size = 64 := by simp [arr64]
theorem arr64_at (f : Nat → Value) {i : Nat} (h : i < 64) : (arr64 f)[i]? = some (f i) := by simp [arr64, h]
theorem arr64_ext {a : Array Value} {f : Nat → Value} (hs : a.size = 64) (h : ∀ i, i < 64 → a[i]? = some (f i)) : a = arr64 f := by
  apply Array.ext_getElem?
  intro i
  by_cases hi : i < 64
  · rw [h i hi, arr64_at f hi]
  · rw [Array.getElem?_eq_none (by omega), Array.getElem?_eq_none (by rw [arr64_size]; omega)]
theorem arr64_set (f : Nat → Value) {k : Nat} (v : Value) (h : k < 64) : (arr64 f).setIfInBounds k v = arr64 (fun i => if i = k then v else f i) := by
  refine arr64_ext (by simp [arr64_size]) fun i hi => ?_
  rw [Array.getElem?_setIfInBounds]
  by_cases e : k = i
  · subst e
    simp [arr64_size, h]
  · rw [if_neg e, if_neg (fun h => e h.symm), arr64_at f hi]
theorem arr64_cong {f g : Nat → Value} (h : ∀ i, i < 64 → f i = g i) : arr64 f = arr64 g := by
  refine arr64_ext (arr64_size f) fun i hi => ?_
  rw [arr64_at f hi, h i hi]
theorem arr64_one {f : Nat → Value} (h : ∀ i, (f i).oneCell' = true) : (arr64 f).all (·.oneCell') = true := by
  rw [Array.all_eq_true_iff_forall_mem]
  intro x hx
  simp [arr64] at hx
  obtain ⟨i, -, rfl⟩ := hx
  exact h i
def bools (t : Nat → Bool) : Array Value := arr64 (fun i => .bool (t i))
def ints64 (t : Nat → Int) : Array Value := arr64 (fun i => .int .i64 (t i))
/-- The first k of a table, and one value behind them. -/
def upTo (t : Nat → Bool) (k : Nat) : Nat → Bool := fun i => if i < k then t i else false
theorem bools_size (t : Nat → Bool) : (bools t).size = 64 := arr64_size _
theorem bools_one (t : Nat → Bool) : (bools t).all (·.oneCell') = true := arr64_one fun _ => rfl
theorem bools_cong {t u : Nat → Bool} (h : ∀ i, i < 64 → t i = u i) : bools t = bools u := arr64_cong fun i hi => by rw [h i hi]
theorem bools_set (t : Nat → Bool) (k : Nat) (h : k < 64) : (bools (upTo t k)).setIfInBounds k (.bool (t k)) = bools (upTo t (k + 1)) := by
  rw [bools, arr64_set _ _ h]
  refine arr64_cong fun i hi => ?_
  by_cases e : i = k
  · subst e; simp [upTo]
  · by_cases h2 : i < k
    · have h3 : i < k + 1 := by omega
      simp [upTo, e, h2, h3]
    · have h3 : ¬ i < k + 1 := by omega
      simp [upTo, e, h2, h3]
theorem bools_zero : bools (fun _ => false) = #[.bool false, .bool false, .bool false, .bool false, .bool false, .bool false, .bool false, .bool false, .bool false, .bool false, .bool false, .bool false, .bool false, .bool false, .bool false, .bool false, .bool false, .bool false, .bool false, .bool false, .bool false, .bool false, .bool false, .bool false, .bool false, .bool false, .bool false, .bool false, .bool false, .bool false, .bool false, .bool false, .bool false, .bool false, .bool false, .bool false, .bool false, .bool false, .bool false, .bool false, .bool false, .bool false, .bool false, .bool false, .bool false, .bool false, .bool false, .bool false, .bool false, .bool false, .bool false, .bool false, .bool false, .bool false, .bool false, .bool false, .bool false, .bool false, .bool false, .bool false, .bool false, .bool false, .bool false, .bool false] := by kernel_rfl
/-- A table in a block of its own. -/
def Tab (w : World) (G : Nat) (t : Nat → Bool) : Prop := w.heap[G]? = some (.cells (bools t) 37 (0, 0))
theorem Tab.lt {w : World} {G : Nat} {t : Nat → Bool} (h : Tab w G t) : G < w.heap.size := (Array.getElem?_eq_some_iff.1 h).1
theorem Tab.on {w w' : World} {G : Nat} {t : Nat → Bool} (h : Tab w G t) (hb : Below w.heap.size w w') : Tab w' G t := (hb.block G h.lt).trans h
theorem Tab.cell {w : World} {G : Nat} {t : Nat → Bool} (h : Tab w G t) {i : Nat} (hi : i < 64) : w.cell? ⟨G, i, none⟩ = some (.bool (t i)) := by
  rw [cell_of_row w G i _ _ _ h]
  exact arr64_at _ hi
theorem Tab.free {w : World} {G : Nat} {t : Nat → Bool} (h : Tab w G t) (i : Nat) : w.frozen? ⟨G, i, none⟩ = false := frozen_of_row w G i _ _ h
theorem Tab.set {w : World} {G k : Nat} {t : Nat → Bool} (h : Tab w G (upTo t k)) (hk : k < 64) : Tab (w.setCell ⟨G, k, none⟩ (.bool (t k))) G (upTo t (k + 1)) := by
  rw [Tab, heap_setCell_same w G k _ _ _ h, bools_set t k hk]
theorem tab_new (w : World) (t : Nat → Bool) : Tab (w.alloc (.cells (bools t) 37)) w.heap.size t := heap_alloc_new w _
theorem info64 : (Try.prog.info? 37).map (·.size) = some 64 := by kernel_rfl
theorem upTo_zero (t : Nat → Bool) : upTo t 0 = fun _ => false := by funext i; simp [upTo]
theorem upTo_all (t : Nat → Bool) : bools (upTo t 64) = bools t := bools_cong fun i hi => by simp [upTo, hi]
theorem tab_row {w : World} {G : Nat} {t : Nat → Bool} {cs : Array Value} (h : w.heap[G]? = some (.cells cs 37 (0, 0))) : Tab (w.setRow G (bools t)) G t := setRow_heap w G _ _ _ _ h
theorem Tab.other {w : World} {G H : Nat} {t : Nat → Bool} {cs : Array Value} (h : Tab w G t) (hne : G ≠ H) : Tab (w.setRow H cs) G t := (setRow_other w H G cs hne).trans h
theorem Tab.off {w : World} {G H i : Nat} {t : Nat → Bool} {v : Value} (h : Tab w G t) (hne : G ≠ H) : Tab (w.setCell ⟨H, i, none⟩ v) G t := (heap_setCell_other w ⟨H, i, none⟩ G v hne).trans h
/-- A table's variable and the result's, both in new blocks. -/
def Two64 (w wr : World) (t u : Nat → Bool) : Prop := Tab wr (w.heap.size + 1) t ∧ Tab wr w.heap.size u ∧ Below w.heap.size w wr
theorem two64_start (w : World) : Two64 w (((w.alloc (.cells (bools fun _ => false) 37)).alloc (.cells (bools fun _ => false) 37)).setRow (w.heap.size + 1) (bools fun _ => false)) (fun _ => false) (fun _ => false) := by
  have hb : Below w.heap.size w ((w.alloc (.cells (bools fun _ => false) 37)).alloc (.cells (bools fun _ => false) 37)) := ((Below.refl _ _).alloc (Nat.le_refl _) _).alloc (by simp) _
  have h1 : Tab ((w.alloc (.cells (bools fun _ => false) 37)).alloc (.cells (bools fun _ => false) 37)) (w.heap.size + 1) (fun _ => false) := heap_alloc2_new _ _ _
  have h2 : Tab ((w.alloc (.cells (bools fun _ => false) 37)).alloc (.cells (bools fun _ => false) 37)) w.heap.size (fun _ => false) := heap_alloc2_old _ _ _
  exact ⟨tab_row h1, h2.other (by omega), below_setRow hb (by omega) _⟩
theorem Two64.later {w wr w1 : World} {t u : Nat → Bool} (h : Two64 w wr t u) (hb : Below wr.heap.size wr w1) : Two64 w w1 t u := ⟨h.1.on hb, h.2.1.on hb, h.2.2.trans (hb.mono h.2.2.size)⟩
theorem Two64.set {w wr : World} {t u : Nat → Bool} {k : Nat} (h : Two64 w wr (upTo t k) u) (hk : k < 64) : Two64 w (wr.setCell ⟨w.heap.size + 1, k, none⟩ (.bool (t k))) (upTo t (k + 1)) u :=
  ⟨h.1.set hk, h.2.1.off (by omega), h.2.2.setCell (p := ⟨w.heap.size + 1, k, none⟩) (by simp) _⟩

end Go.Proofs.Ytpaijobmoddgpab

namespace Go.Proofs.Ytpaijobmoddgpab
open Go.ChangeShapes Go.WideShapes Go.ChangeAt Go.RowKit
set_option linter.unusedVariables false

/-! two tables compared -/
theorem tab_key : Try.prog.keyTypeAt 5 37 = true := by kernel_rfl
theorem tab_cells : Try.prog.cellsOf 37 = 64 := by kernel_rfl
theorem bool_cells : Try.prog.cellsOf 4 = 1 := by kernel_rfl
theorem bool_lit (d : Nat) (b : Bool) : Try.prog.keyLits (d + 1) 4 [.bool b] = some [.bool b] := by
  unfold Program.keyLits
  rw [Try.underlying4]
theorem mapM_some {α β : Type} (g : α → β) (f : α → Option β) : ∀ l : List α, (∀ x ∈ l, f x = some (g x)) → l.mapM f = some (l.map g)
  | [], _ => rfl
  | x :: l, h => by
    rw [List.mapM_cons, h x (by simp), mapM_some g f l (fun y hy => h y (by simp [hy]))]
    rfl
theorem drop_one {α : Type} (f : Nat → α) (n i : Nat) (h : i < n) : (((List.range n).map f).drop i).take 1 = [f i] := by
  rw [List.drop_eq_getElem_cons (by simpa using h)]
  simp
theorem flat_one {α : Type} (f : Nat → α) (l : List Nat) : (l.map fun i => [f i]).flatten = l.map f := by
  induction l with
  | nil => rfl
  | cons x l ih => simp [ih]
theorem bools_list (t : Nat → Bool) : (bools t).toList = (List.range 64).map (fun i => Value.bool (t i)) := by simp [bools, arr64]
theorem bools_lits (t : Nat → Bool) : Try.prog.keyLits 3 37 (bools t).toList = some ((List.range 64).map fun i => Lit.bool (t i)) := by
  rw [bools_list]
  unfold Program.keyLits
  rw [Try.underlying37]
  simp only [tab_cells, bool_cells]
  rw [if_pos (by simp), mapM_some (fun i => [Lit.bool (t i)]) _ _ (fun i hi => by rw [Nat.mul_one, drop_one _ 64 i (by simpa using hi)]; exact bool_lit 1 _)]
  rw [Option.map_some, flat_one]
theorem run_tabs (w : World) (t u : Nat → Bool) : Sem.run Try.prog (Op.equalIn 10000 37 (.agg (bools t)) (.agg (bools u))) w = .ok (Plain.alike t u) w := by
  have hf : ∀ v : Nat → Bool, (Value.agg (bools v)).formed Try.prog 37 = true := fun v => by
    unfold Value.formed
    rw [Try.underlying37]
    simp [tab_cells, bools_size]
  have hc : ∀ v : Nat → Bool, (Value.agg (bools v)).cells.toList = (bools v).toList := fun v => by simp [Value.cells]
  obtain ⟨r, hr, hiff⟩ := run_equalIn_deep (P := Try.prog) 9995 5 37 tab_key w 3 3 _ _ _ _ (hf t) (hf u) (by rw [hc]; exact bools_lits t) (by rw [hc]; exact bools_lits u)
  rw [hr]
  have e : r = Plain.alike t u := by
    rw [Bool.eq_iff_iff, hiff, Plain.alike, Plain.alikeTo_iff]
    constructor
    · intro h i hi
      have := congrArg (fun l => l[i]?) h
      simp [hi] at this
      exact this
    · intro h
      refine List.map_congr_left fun i hi => ?_
      rw [h i (by simpa using hi)]
  rw [e]

theorem tabF_key : Try.prog.keyTypeAt 5 39 = true := by kernel_rfl
theorem tabF_cells : Try.prog.cellsOf 39 = 64 := by kernel_rfl
theorem boolsF_lits (t : Nat → Bool) : Try.prog.keyLits 3 39 (bools t).toList = some ((List.range 64).map fun i => Lit.bool (t i)) := by
  rw [bools_list]
  unfold Program.keyLits
  rw [Try.underlying39]
  simp only [tabF_cells, bool_cells]
  rw [if_pos (by simp), mapM_some (fun i => [Lit.bool (t i)]) _ _ (fun i hi => by rw [Nat.mul_one, drop_one _ 64 i (by simpa using hi)]; exact bool_lit 1 _)]
  rw [Option.map_some, flat_one]
theorem run_tabsF (w : World) (t u : Nat → Bool) : Sem.run Try.prog (Op.equalIn 10000 39 (.agg (bools t)) (.agg (bools u))) w = .ok (Plain.alike t u) w := by
  have hf : ∀ v : Nat → Bool, (Value.agg (bools v)).formed Try.prog 39 = true := fun v => by
    unfold Value.formed
    rw [Try.underlying39]
    simp [tabF_cells, bools_size]
  have hc : ∀ v : Nat → Bool, (Value.agg (bools v)).cells.toList = (bools v).toList := fun v => by simp [Value.cells]
  obtain ⟨r, hr, hiff⟩ := run_equalIn_deep (P := Try.prog) 9995 5 39 tabF_key w 3 3 _ _ _ _ (hf t) (hf u) (by rw [hc]; exact boolsF_lits t) (by rw [hc]; exact boolsF_lits u)
  rw [hr]
  have e : r = Plain.alike t u := by
    rw [Bool.eq_iff_iff, hiff, Plain.alike, Plain.alikeTo_iff]
    constructor
    · intro h i hi
      have := congrArg (fun l => l[i]?) h
      simp [hi] at this
      exact this
    · intro h
      refine List.map_congr_left fun i hi => ?_
      rw [h i (by simpa using hi)]
  rw [e]

end Go.Proofs.Ytpaijobmoddgpab
