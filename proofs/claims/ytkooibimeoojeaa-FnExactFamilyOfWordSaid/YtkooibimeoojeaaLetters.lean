/- Contract: spec.LettersLeft tells for each set how many letters are left. Conditions: numbers of 64 bits, a length that fits. -/
import Derived.Test.YtkooibimeoojeaaFallOrd
import Derived.Deep.RegionLaw
namespace Go.Proofs.Ytkooibimeoojeaa
open Go.ChangeShapes Go.WideShapes Go.ChangeAt Go.RowKit
set_option linter.unusedVariables false

/-- Sixty-four numbers in a block. -/
def upToI (f : Nat → Int) (k : Nat) : Nat → Int := fun i => if i < k then f i else 0
theorem ints64_size (f : Nat → Int) : (ints64 f).size = 64 := arr64_size _
theorem ints64_one (f : Nat → Int) : (ints64 f).all (·.oneCell') = true := arr64_one fun _ => rfl
theorem ints64_cong {f g : Nat → Int} (h : ∀ i, i < 64 → f i = g i) : ints64 f = ints64 g := arr64_cong fun i hi => by rw [h i hi]
theorem ints64_set (f : Nat → Int) (k : Nat) (h : k < 64) : (ints64 (upToI f k)).setIfInBounds k (.int .i64 (f k)) = ints64 (upToI f (k + 1)) := by
  rw [ints64, arr64_set _ _ h]
  refine arr64_cong fun i hi => ?_
  by_cases e : i = k
  · subst e; simp [upToI]
  · by_cases h2 : i < k
    · have h3 : i < k + 1 := by omega
      simp [upToI, e, h2, h3]
    · have h3 : ¬ i < k + 1 := by omega
      simp [upToI, e, h2, h3]
theorem ints64_zero : ints64 (fun _ => 0) = #[.int .i64 0, .int .i64 0, .int .i64 0, .int .i64 0, .int .i64 0, .int .i64 0, .int .i64 0, .int .i64 0, .int .i64 0, .int .i64 0, .int .i64 0, .int .i64 0, .int .i64 0, .int .i64 0, .int .i64 0, .int .i64 0, .int .i64 0, .int .i64 0, .int .i64 0, .int .i64 0, .int .i64 0, .int .i64 0, .int .i64 0, .int .i64 0, .int .i64 0, .int .i64 0, .int .i64 0, .int .i64 0, .int .i64 0, .int .i64 0, .int .i64 0, .int .i64 0, .int .i64 0, .int .i64 0, .int .i64 0, .int .i64 0, .int .i64 0, .int .i64 0, .int .i64 0, .int .i64 0, .int .i64 0, .int .i64 0, .int .i64 0, .int .i64 0, .int .i64 0, .int .i64 0, .int .i64 0, .int .i64 0, .int .i64 0, .int .i64 0, .int .i64 0, .int .i64 0, .int .i64 0, .int .i64 0, .int .i64 0, .int .i64 0, .int .i64 0, .int .i64 0, .int .i64 0, .int .i64 0, .int .i64 0, .int .i64 0, .int .i64 0, .int .i64 0] := by kernel_rfl
/-- A variable and the result's, both in new blocks. -/
theorem upToI_zero (f : Nat → Int) : upToI f 0 = fun _ => 0 := by funext i; simp [upToI]
theorem upToI_all (f : Nat → Int) : ints64 (upToI f 64) = ints64 f := ints64_cong fun i hi => by simp [upToI, hi]

/-- A whole row loaded, stored, as a step of a region that draws its order. -/
theorem step_load_row {ops : Array Oper} {o : Oper} {a : Act} {w : World} {K : Act → World → Prop} {Q : Exit → Act → World → Prop} {E : Prop} (hgd : o.guard = none) (ty : TypeId) (x : Operand) (ho : o.op = .load ty x)
    (g : Nat) (hx : a.eval x = .pointer (some ⟨g, 0, none⟩)) (cs : Array Value) (hl : (loadVar ty ⟨g, 0, none⟩).run Try.prog w = .ok (.agg cs) w)
    (h : K (a.put o.dst (.agg cs)) w) : if Region.wanted o (yielded ops a.tmps) = true then Oper.wp Try.prog o a w K Q else E := by
  rw [if_pos (by simp [Region.wanted, hgd])]
  unfold Oper.wp execOp
  simp only [ho, hx, Instr.loadAt, Instr.sureAddr, Sem.run_bind, Sem.run_pure, Result.andThen_ok, hl]
  exact h
theorem step_store_row {ops : Array Oper} {o : Oper} {a : Act} {w : World} {K : Act → World → Prop} {Q : Exit → Act → World → Prop} {E : Prop} (hgd : o.guard = none) (ty : TypeId) (x y : Operand) (ho : o.op = .store ty x y)
    (g : Nat) (cells : Array Value) (hx : a.eval x = .pointer (some ⟨g, 0, none⟩)) (hy : a.eval y = .agg cells)
    (t : TypeId) (old : Array Value) (hg : w.heap[g]? = some (.cells old t (0, 0))) (hi : (Try.prog.info? ty).map (·.size) = some cells.size)
    (hold : old.size = cells.size) (h1 : cells.all (·.oneCell') = true)
    (h : K (a.put o.dst undef) (w.setRow g cells)) : if Region.wanted o (yielded ops a.tmps) = true then Oper.wp Try.prog o a w K Q else E := by
  rw [if_pos (by simp [Region.wanted, hgd])]
  exact wp_store_row ty x y ho g cells hx hy t old hg hi hold h1 h

def leftV (xs : List Int) : Nat → Int := fun s => if Plain.wordB xs = true then ((Plain.takeOut xs s).length : Int) else 0
theorem leftV_yes {xs : List Int} (h : Plain.wordB xs = true) : leftV xs = fun s => ((Plain.takeOut xs s).length : Int) := by funext s; exact if_pos h
theorem leftV_no {xs : List Int} (h : Plain.wordB xs = false) : leftV xs = fun _ => 0 := by funext s; exact if_neg (by rw [h]; simp)

end Go.Proofs.Ytkooibimeoojeaa
