/- Two tables of 64 compared. No condition. -/
import Derived.Test.YtepmldbleconfaaTabKit
import Derived.Test.YtepmldbleconfaaFall
import Derived.DeepKeys
namespace Go.Proofs.Ytepmldbleconfaa
open Go.ChangeShapes Go.WideShapes Go.ChangeAt Go.RowKit
set_option linter.unusedVariables false

/-! two tables compared -/
theorem tab_key : Try.prog.keyTypeAt 5 50 = true := by kernel_rfl
theorem tab_cells : Try.prog.cellsOf 50 = 64 := by kernel_rfl
theorem bool_cells : Try.prog.cellsOf 4 = 1 := by kernel_rfl
theorem bool_lit (d : Nat) (b : Bool) : Try.prog.keyLits (d + 1) 4 [.bool b] = some [.bool b] := by
  unfold Program.keyLits
  rw [Try.underlying4]
theorem mapM_some {α β : Type} (g : α → β) (f : α → Option β) : ∀ l : List α, (∀ x ∈ l, f x = some (g x)) → l.mapM f = some (l.map g)
  | [], _ => rfl
  | x :: l, h => by
    rw [List.mapM_cons, h x (by simp), mapM_some g f l (fun y hy => h y (by simp [hy]))]
    rfl
theorem drop_one {α : Type} (f : Nat → α) (n i : Nat) (h : i < n) : (((List.range n).map f).drop i).take 1 = [f i] := by
  rw [List.drop_eq_getElem_cons (by simpa using h)]
  simp
theorem flat_one {α : Type} (f : Nat → α) (l : List Nat) : (l.map fun i => [f i]).flatten = l.map f := by
  induction l with
  | nil => rfl
  | cons x l ih => simp [ih]
theorem bools_list (t : Nat → Bool) : (bools t).toList = (List.range 64).map (fun i => Value.bool (t i)) := by simp [bools, arr64]
theorem bools_lits (t : Nat → Bool) : Try.prog.keyLits 3 50 (bools t).toList = some ((List.range 64).map fun i => Lit.bool (t i)) := by
  rw [bools_list]
  unfold Program.keyLits
  rw [Try.underlying50]
  simp only [tab_cells, bool_cells]
  rw [if_pos (by simp), mapM_some (fun i => [Lit.bool (t i)]) _ _ (fun i hi => by rw [Nat.mul_one, drop_one _ 64 i (by simpa using hi)]; exact bool_lit 1 _)]
  rw [Option.map_some, flat_one]
theorem run_tabs (w : World) (t u : Nat → Bool) : Sem.run Try.prog (Op.equalIn 10000 50 (.agg (bools t)) (.agg (bools u))) w = .ok (Plain.alike t u) w := by
  have hf : ∀ v : Nat → Bool, (Value.agg (bools v)).formed Try.prog 50 = true := fun v => by
    unfold Value.formed
    rw [Try.underlying50]
    simp [tab_cells, bools_size]
  have hc : ∀ v : Nat → Bool, (Value.agg (bools v)).cells.toList = (bools v).toList := fun v => by simp [Value.cells]
  obtain ⟨r, hr, hiff⟩ := run_equalIn_deep (P := Try.prog) 9995 5 50 tab_key w 3 3 _ _ _ _ (hf t) (hf u) (by rw [hc]; exact bools_lits t) (by rw [hc]; exact bools_lits u)
  rw [hr]
  have e : r = Plain.alike t u := by
    rw [Bool.eq_iff_iff, hiff, Plain.alike, Plain.alikeTo_iff]
    constructor
    · intro h i hi
      have := congrArg (fun l => l[i]?) h
      simp [hi] at this
      exact this
    · intro h
      refine List.map_congr_left fun i hi => ?_
      rw [h i (by simpa using hi)]
  rw [e]

theorem tabF_key : Try.prog.keyTypeAt 5 52 = true := by kernel_rfl
theorem tabF_cells : Try.prog.cellsOf 52 = 64 := by kernel_rfl
theorem boolsF_lits (t : Nat → Bool) : Try.prog.keyLits 3 52 (bools t).toList = some ((List.range 64).map fun i => Lit.bool (t i)) := by
  rw [bools_list]
  unfold Program.keyLits
  rw [Try.underlying52]
  simp only [tabF_cells, bool_cells]
  rw [if_pos (by simp), mapM_some (fun i => [Lit.bool (t i)]) _ _ (fun i hi => by rw [Nat.mul_one, drop_one _ 64 i (by simpa using hi)]; exact bool_lit 1 _)]
  rw [Option.map_some, flat_one]
theorem run_tabsF (w : World) (t u : Nat → Bool) : Sem.run Try.prog (Op.equalIn 10000 52 (.agg (bools t)) (.agg (bools u))) w = .ok (Plain.alike t u) w := by
  have hf : ∀ v : Nat → Bool, (Value.agg (bools v)).formed Try.prog 52 = true := fun v => by
    unfold Value.formed
    rw [Try.underlying52]
    simp [tabF_cells, bools_size]
  have hc : ∀ v : Nat → Bool, (Value.agg (bools v)).cells.toList = (bools v).toList := fun v => by simp [Value.cells]
  obtain ⟨r, hr, hiff⟩ := run_equalIn_deep (P := Try.prog) 9995 5 52 tabF_key w 3 3 _ _ _ _ (hf t) (hf u) (by rw [hc]; exact boolsF_lits t) (by rw [hc]; exact boolsF_lits u)
  rw [hr]
  have e : r = Plain.alike t u := by
    rw [Bool.eq_iff_iff, hiff, Plain.alike, Plain.alikeTo_iff]
    constructor
    · intro h i hi
      have := congrArg (fun l => l[i]?) h
      simp [hi] at this
      exact this
    · intro h
      refine List.map_congr_left fun i hi => ?_
      rw [h i (by simpa using hi)]
  rw [e]

end Go.Proofs.Ytepmldbleconfaa
