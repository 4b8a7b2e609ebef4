/- The run of the comparison of two points, in both programs' forms. Condition: coordinates from -100 to 100. -/
import Derived.Test.YtpaijobmoddgpaaPtsKit
import Derived.DeepKeys
namespace Go.Proofs.Ytpaijobmoddgpaa
open Go.ChangeShapes Go.WideShapes Go.ChangeAt Go.RowKit
set_option linter.unusedVariables false
set_option linter.unusedSimpArgs false

def Pt100 (p : Plain.Pt) : Prop := -100 ≤ p.1 ∧ p.1 ≤ 100 ∧ -100 ≤ p.2 ∧ p.2 ≤ 100
theorem pt_litOk {x : Int} (h : -100 ≤ x ∧ x ≤ 100) : (Lit.int .i64 x).wf = true := by
  have e1 : IntKind.i64.min = -9223372036854775808 := by decide
  have e2 : IntKind.i64.max = 9223372036854775807 := by decide
  simp [Lit.wf]
  omega
theorem pt_lit (d : Nat) {x : Int} (h : -100 ≤ x ∧ x ≤ 100) : Try.prog.keyLits (d + 1) 3 [.int .i64 x] = some [.int .i64 x] := by
  unfold Program.keyLits
  rw [Try.underlying3]
  simp [pt_litOk h]
theorem pt_intCells : Try.prog.cellsOf 3 = 1 := by kernel_rfl
theorem ptP_key : Try.prog.keyTypeAt 5 63 = true := by kernel_rfl
theorem ptP_cells : Try.prog.cellsOf 63 = 2 := by kernel_rfl
theorem ptP_lits {p : Plain.Pt} (h : Pt100 p) : Try.prog.keyLits 3 63 [.int .i64 p.1, .int .i64 p.2] = some [.int .i64 p.1, .int .i64 p.2] := by
  obtain ⟨h1, h2, h3, h4⟩ := h
  unfold Program.keyLits
  rw [Try.underlying63]
  simp [ptP_cells, pt_intCells, List.range_succ, pt_lit 1 ⟨h1, h2⟩, pt_lit 1 ⟨h3, h4⟩]
theorem ptP_formed (p : Plain.Pt) : (Value.agg #[.int .i64 p.1, .int .i64 p.2]).formed Try.prog 63 = true := by
  unfold Value.formed
  rw [Try.underlying63]
  simp [ptP_cells, pt_intCells]
theorem run_ptP (w : World) {p q : Plain.Pt} (hp : Pt100 p) (hq : Pt100 q) :
    Sem.run Try.prog (Op.equalIn 10000 63 (.agg #[.int .i64 p.1, .int .i64 p.2]) (.agg #[.int .i64 q.1, .int .i64 q.2])) w = .ok (decide (p = q)) w := by
  have hc : ∀ p : Plain.Pt, (Value.agg #[.int .i64 p.1, .int .i64 p.2]).cells.toList = [.int .i64 p.1, .int .i64 p.2] := fun p => by simp [Value.cells]
  obtain ⟨r, hr, hiff⟩ := run_equalIn_deep (P := Try.prog) 9995 5 63 ptP_key w 3 3 _ _ _ _ (ptP_formed p) (ptP_formed q) (by rw [hc]; exact ptP_lits hp) (by rw [hc]; exact ptP_lits hq)
  have e : r = decide (p = q) := by
    rw [Bool.eq_iff_iff, hiff]
    obtain ⟨p1, p2⟩ := p
    obtain ⟨q1, q2⟩ := q
    simp
  rw [← e]
  exact hr
theorem ptA_key : Try.prog.keyTypeAt 5 23 = true := by kernel_rfl
theorem ptA_cells : Try.prog.cellsOf 23 = 2 := by kernel_rfl
theorem ptA_lits {p : Plain.Pt} (h : Pt100 p) : Try.prog.keyLits 3 23 [.int .i64 p.1, .int .i64 p.2] = some [.int .i64 p.1, .int .i64 p.2] := by
  obtain ⟨h1, h2, h3, h4⟩ := h
  unfold Program.keyLits
  rw [Try.underlying23]
  simp [ptA_cells, pt_intCells, List.range_succ, pt_lit 1 ⟨h1, h2⟩, pt_lit 1 ⟨h3, h4⟩]
theorem ptA_formed (p : Plain.Pt) : (Value.agg #[.int .i64 p.1, .int .i64 p.2]).formed Try.prog 23 = true := by
  unfold Value.formed
  rw [Try.underlying23]
  simp [ptA_cells, pt_intCells]
theorem run_ptA (w : World) {p q : Plain.Pt} (hp : Pt100 p) (hq : Pt100 q) :
    Sem.run Try.prog (Op.equalIn 10000 23 (.agg #[.int .i64 p.1, .int .i64 p.2]) (.agg #[.int .i64 q.1, .int .i64 q.2])) w = .ok (decide (p = q)) w := by
  have hc : ∀ p : Plain.Pt, (Value.agg #[.int .i64 p.1, .int .i64 p.2]).cells.toList = [.int .i64 p.1, .int .i64 p.2] := fun p => by simp [Value.cells]
  obtain ⟨r, hr, hiff⟩ := run_equalIn_deep (P := Try.prog) 9995 5 23 ptA_key w 3 3 _ _ _ _ (ptA_formed p) (ptA_formed q) (by rw [hc]; exact ptA_lits hp) (by rw [hc]; exact ptA_lits hq)
  have e : r = decide (p = q) := by
    rw [Bool.eq_iff_iff, hiff]
    obtain ⟨p1, p2⟩ := p
    obtain ⟨q1, q2⟩ := q
    simp
  rw [← e]
  exact hr
end Go.Proofs.Ytpaijobmoddgpaa
