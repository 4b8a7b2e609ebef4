/- Two equal arrays of four numbers compare as equal; the counts' bounds. Condition: numbers of 64 bits. -/
import Derived.Test.YtnmjanhpjnlfcaaProd
import Derived.Test.YtnmjanhpjnlfcaaWindCount
import Derived.Test.YtnmjanhpjnlfcaaWindEq
namespace Go.Proofs.Ytnmjanhpjnlfcaa
set_option linter.unusedVariables false

theorem lits_four (D : Nat) (f : Nat → Int) (hs : SmallN 4 f) : Try.prog.keyLits (D + 2) 32 ((List.range 4).map (intsV f)) = some (litsN 4 f) :=
  lits_rows (n := 4) (m := 1) Try.underlying32 (by kernel_rfl) one_cells (lits_int D) f hs
theorem run_four (w : World) (f g : Nat → Int) (hf : SmallN 4 f) (hg : SmallN 4 g) : Sem.run Try.prog (Op.equalIn 10000 32 (.agg (arrN 4 (intsV f))) (.agg (arrN 4 (intsV g)))) w = .ok (eqTo 4 f g) w :=
  run_rows (by kernel_rfl) (by kernel_rfl) ⟨_, Try.underlying32, rfl⟩ w f g (lits_four 3 f hf) (lits_four 3 g hg)
theorem ccW_bd (us : List Int) (i : Nat) : 0 ≤ ccW us i ∧ ccW us i ≤ 259 := by
  cases h : Plain.wordB us with
  | false => rw [cc_no h]; show (0 : Int) ≤ 0 ∧ (0 : Int) ≤ 259; omega
  | true =>
    rw [cc_yes h]
    have := Plain.cntTo_le (Plain.cof us) 259 i
    unfold ccV
    omega
theorem run_counts (us : List Int) (w : World) {c0 c1 c2 c3 : Int} (h0 : c0 = ccW us 0) (h1 : c1 = ccW us 1) (h2 : c2 = ccW us 2) (h3 : c3 = ccW us 3) : Sem.run Try.prog (Op.equalIn 10000 32 (.agg #[.int .i64 c0, .int .i64 c1, .int .i64 c2, .int .i64 c3]) (.agg #[.int .i64 c0, .int .i64 c1, .int .i64 c2, .int .i64 c3])) w = .ok true w := by
  have hs : SmallN 4 (ccW us) := fun i hi => by have := ccW_bd us i; omega
  have h := run_four w (ccW us) (ccW us) hs hs
  have e : eqTo 4 (ccW us) (ccW us) = true := eqTo_iff.2 fun i _ => rfl
  rw [e] at h
  subst h0 h1 h2 h3
  exact h
/-- A product that is handed back is the reduced one, and a word. -/
theorem prod_good {xs ys zs : List Int} (hl : Plain.Letters zs) (h : prodOk xs ys zs = true) : prodOut xs ys zs = Plain.red zs ∧ Plain.wordB (Plain.red zs) = true := by
  unfold prodOk at h
  rw [Bool.and_eq_true] at h
  have h2 : (Plain.red zs).length ≤ 64 := by have := h.2; simpa [shortB] using this
  refine ⟨?_, Plain.wordB_iff.2 ⟨h2, hl.red⟩⟩
  unfold prodOut short
  rw [if_pos h.1]
  simp [h2]

end Go.Proofs.Ytnmjanhpjnlfcaa
