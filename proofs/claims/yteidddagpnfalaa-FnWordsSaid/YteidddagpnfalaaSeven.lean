/- The run of the comparison of two equal arrays of seven numbers. Condition: numbers from 0 to 1000. -/
import Derived.Test.YteidddagpnfalaaRows
import Derived.WalkKit
import Derived.ProofKit
import Derived.DeepKeys
namespace Go.Proofs.Yteidddagpnfalaa
open Go.ChangeShapes Go.WideShapes Go.ChangeAt Go.RowKit
set_option linter.unusedVariables false

theorem seven_key : Try.prog.keyTypeAt 5 56 = true := by kernel_rfl
theorem seven_cells : Try.prog.cellsOf 56 = 7 := by kernel_rfl
theorem int_cells : Try.prog.cellsOf 3 = 1 := by kernel_rfl
theorem lit_ok {x : Int} (h : 0 ≤ x ∧ x ≤ 1000) : (Lit.int .i64 x).wf = true := by
  have e1 : IntKind.i64.min = -9223372036854775808 := by decide
  have e2 : IntKind.i64.max = 9223372036854775807 := by decide
  simp [Lit.wf]
  omega
theorem one_lit (d : Nat) {x : Int} (h : 0 ≤ x ∧ x ≤ 1000) : Try.prog.keyLits (d + 1) 3 [.int .i64 x] = some [.int .i64 x] := by
  unfold Program.keyLits
  rw [Try.underlying3]
  simp [lit_ok h]
theorem seven_lits {r0 r1 r2 r3 r4 r5 r6 : Int} (h0 : 0 ≤ r0 ∧ r0 ≤ 1000) (h1 : 0 ≤ r1 ∧ r1 ≤ 1000) (h2 : 0 ≤ r2 ∧ r2 ≤ 1000) (h3 : 0 ≤ r3 ∧ r3 ≤ 1000) (h4 : 0 ≤ r4 ∧ r4 ≤ 1000) (h5 : 0 ≤ r5 ∧ r5 ≤ 1000) (h6 : 0 ≤ r6 ∧ r6 ≤ 1000) :
    ∃ l, Try.prog.keyLits 3 56 [.int .i64 r0, .int .i64 r1, .int .i64 r2, .int .i64 r3, .int .i64 r4, .int .i64 r5, .int .i64 r6] = some l := by
  unfold Program.keyLits
  rw [Try.underlying56]
  simp [seven_cells, int_cells, List.range_succ, one_lit 1 h0, one_lit 1 h1, one_lit 1 h2, one_lit 1 h3, one_lit 1 h4, one_lit 1 h5, one_lit 1 h6]
theorem run_seven (w : World) {r0 r1 r2 r3 r4 r5 r6 : Int} (h0 : 0 ≤ r0 ∧ r0 ≤ 1000) (h1 : 0 ≤ r1 ∧ r1 ≤ 1000) (h2 : 0 ≤ r2 ∧ r2 ≤ 1000) (h3 : 0 ≤ r3 ∧ r3 ≤ 1000) (h4 : 0 ≤ r4 ∧ r4 ≤ 1000) (h5 : 0 ≤ r5 ∧ r5 ≤ 1000) (h6 : 0 ≤ r6 ∧ r6 ≤ 1000) :
    Sem.run Try.prog (Op.equalIn 10000 56 (.agg #[.int .i64 r0, .int .i64 r1, .int .i64 r2, .int .i64 r3, .int .i64 r4, .int .i64 r5, .int .i64 r6]) (.agg #[.int .i64 r0, .int .i64 r1, .int .i64 r2, .int .i64 r3, .int .i64 r4, .int .i64 r5, .int .i64 r6])) w = .ok true w := by
  obtain ⟨l, hl⟩ := seven_lits h0 h1 h2 h3 h4 h5 h6
  have hf : (Value.agg #[.int .i64 r0, .int .i64 r1, .int .i64 r2, .int .i64 r3, .int .i64 r4, .int .i64 r5, .int .i64 r6]).formed Try.prog 56 = true := by
    unfold Value.formed
    rw [Try.underlying56]
    simp [seven_cells]
  have hc : (Value.agg #[.int .i64 r0, .int .i64 r1, .int .i64 r2, .int .i64 r3, .int .i64 r4, .int .i64 r5, .int .i64 r6]).cells.toList = [.int .i64 r0, .int .i64 r1, .int .i64 r2, .int .i64 r3, .int .i64 r4, .int .i64 r5, .int .i64 r6] := by simp [Value.cells]
  obtain ⟨r, hr, hiff⟩ := run_equalIn_deep (P := Try.prog) 9995 5 56 seven_key w 3 3 _ _ l l hf hf (by rw [hc]; exact hl) (by rw [hc]; exact hl)
  rw [hiff.2 rfl] at hr
  exact hr

end Go.Proofs.Yteidddagpnfalaa
