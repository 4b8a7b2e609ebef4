/- Six numbers in a block; contracts: laws.toIntA6, eqIntA6. No condition. -/
import Derived.Test.YtfikbjfgieiifaaFamLaw
namespace Go.Proofs.Ytfikbjfgieiifaa
open Go.ChangeShapes Go.WideShapes Go.ChangeAt Go.RowKit
set_option linter.unusedVariables false

/-- Six values by place. -/
def six (v : Nat → Int) : Array Value := #[.int .i64 (v 0), .int .i64 (v 1), .int .i64 (v 2), .int .i64 (v 3), .int .i64 (v 4), .int .i64 (v 5)]
theorem six_lit (v : Nat → Int) : six v = #[.int .i64 (v 0), .int .i64 (v 1), .int .i64 (v 2), .int .i64 (v 3), .int .i64 (v 4), .int .i64 (v 5)] := rfl
theorem six_at (v : Nat → Int) {i : Nat} (h : i < 6) : (six v)[i]? = some (.int .i64 (v i)) := by
  have h6 : i = 0 ∨ i = 1 ∨ i = 2 ∨ i = 3 ∨ i = 4 ∨ i = 5 := by omega
  rcases h6 with rfl | rfl | rfl | rfl | rfl | rfl <;> rfl
theorem six_set (v : Nat → Int) {k : Nat} (x : Int) (h : k < 6) : (six v).setIfInBounds k (.int .i64 x) = six (fun i => if i = k then x else v i) := by
  have h6 : k = 0 ∨ k = 1 ∨ k = 2 ∨ k = 3 ∨ k = 4 ∨ k = 5 := by omega
  rcases h6 with rfl | rfl | rfl | rfl | rfl | rfl <;> simp [six]
theorem six_one (v : Nat → Int) : (six v).all (·.oneCell') = true := by simp [six, Value.oneCell']
theorem six_cong {v u : Nat → Int} (h : ∀ i, i < 6 → v i = u i) : six v = six u := by
  simp only [six, h 0 (by omega), h 1 (by omega), h 2 (by omega), h 3 (by omega), h 4 (by omega), h 5 (by omega)]
def At6 (w : World) (G : Nat) (v : Nat → Int) : Prop := w.heap[G]? = some (.cells (six v) 33 (0, 0))
theorem At6.lt {w : World} {G : Nat} {v : Nat → Int} (h : At6 w G v) : G < w.heap.size := (Array.getElem?_eq_some_iff.1 h).1
theorem At6.on {w w' : World} {G : Nat} {v : Nat → Int} (h : At6 w G v) (hb : Below w.heap.size w w') : At6 w' G v := (hb.block G h.lt).trans h
theorem At6.cell {w : World} {G : Nat} {v : Nat → Int} (h : At6 w G v) {i : Nat} (hi : i < 6) : w.cell? ⟨G, i, none⟩ = some (.int .i64 (v i)) := by
  rw [cell_of_row w G i _ _ _ h]
  exact six_at _ hi
theorem At6.free {w : World} {G : Nat} {v : Nat → Int} (h : At6 w G v) (i : Nat) : w.frozen? ⟨G, i, none⟩ = false := frozen_of_row w G i _ _ h
theorem At6.set {w : World} {G k : Nat} {v : Nat → Int} (h : At6 w G v) (x : Int) (hk : k < 6) : At6 (w.setCell ⟨G, k, none⟩ (.int .i64 x)) G (fun i => if i = k then x else v i) := by
  rw [At6, heap_setCell_same w G k _ _ _ h, six_set v x hk]
theorem At6.cong {w : World} {G : Nat} {v u : Nat → Int} (h : At6 w G v) (he : ∀ i, i < 6 → v i = u i) : At6 w G u := by rw [At6, ← six_cong he]; exact h
theorem At6.off {w : World} {G H i : Nat} {v : Nat → Int} {x : Value} (h : At6 w G v) (hne : G ≠ H) : At6 (w.setCell ⟨H, i, none⟩ x) G v := (heap_setCell_other w ⟨H, i, none⟩ G x hne).trans h
theorem At6.other {w : World} {G H : Nat} {v : Nat → Int} {cs : Array Value} (h : At6 w G v) (hne : G ≠ H) : At6 (w.setRow H cs) G v := (setRow_other w H G cs hne).trans h
theorem at6_new (w : World) (v : Nat → Int) : At6 (w.alloc (.cells (six v) 33)) w.heap.size v := heap_alloc_new w _
theorem at6_row {w : World} {G : Nat} {v : Nat → Int} {cs : Array Value} (h : w.heap[G]? = some (.cells cs 33 (0, 0))) : At6 (w.setRow G (six v)) G v := setRow_heap w G _ _ _ _ h
theorem info6 : (Try.prog.info? 33).map (·.size) = some 6 := by kernel_rfl
theorem at6_load {w : World} {G : Nat} {v : Nat → Int} (h : At6 w G v) : (loadVar 33 ⟨G, 0, none⟩).run Try.prog w = .ok (.agg (six v)) w :=
  run_loadVar_row w G 33 33 _ (0, 0) _ h Try.underlying33 rfl info6
theorem six_zero : six (fun _ => 0) = #[.int .i64 0, .int .i64 0, .int .i64 0, .int .i64 0, .int .i64 0, .int .i64 0] := rfl
theorem results_six2 {fn : Func} {p q : Tmp} (h : fn.results = #[.cell p 33, .tmp q]) (tmps : Array Value) (w : World) (g : Nat) (v : Nat → Int) (b : Value) (hp : tmps.getD p undef = .pointer (some ⟨g, 0, none⟩)) (hq : tmps.getD q undef = b) (hg : At6 w g v) :
    (results fn tmps).run Try.prog w = .ok (.tuple #[.agg (six v), b]) w := by
  rw [← hq]
  exact results_tab2 h tmps w g (six v) hp (at6_load hg)
theorem results_six1 {fn : Func} {p : Tmp} (h : fn.results = #[.cell p 33]) (tmps : Array Value) (w : World) (g : Nat) (v : Nat → Int) (hp : tmps.getD p undef = .pointer (some ⟨g, 0, none⟩)) (hg : At6 w g v) :
    (results fn tmps).run Try.prog w = .ok (.agg (six v)) w :=
  results_cell_row h tmps w g 33 _ (0, 0) _ hp hg Try.underlying33 rfl info6
/-- The first k of six numbers, and one value behind them. -/
def upTo6 (v : Nat → Int) (k : Nat) : Nat → Int := fun i => if i < k then v i else 0

end Go.Proofs.Ytfikbjfgieiifaa
