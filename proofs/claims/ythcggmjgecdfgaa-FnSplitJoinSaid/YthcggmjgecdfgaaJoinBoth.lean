/- Both joins come to the same. Condition: sizes of at most 2^20. -/
import Derived.Test.YthcggmjgecdfgaaImplJoin
namespace Go.Proofs.Ythcggmjgecdfgaa
open Go.ChangeShapes Go.WideShapes Go.ChangeAt Go.RowKit

theorem joinBoth (ss : List ByteArray) (sep : ByteArray) (hn : ss.length + Plain.tot ss ≤ 1048576) : ∃ o b,
    (∀ v a cap, Hid (Strs v a ss) → Calls Try.prog 13 #[.slice a ss.length cap, .string sep] v fun e w' => e = .returned (.tuple #[.string o, .bool b]) ∧ Below v.heap.size v w') ∧
    (∀ v a cap, Hid (Strs v a ss) → ss.length ≤ cap → Calls Try.prog 12 #[.slice a ss.length cap, .string sep] v fun e w' => e = .returned (.tuple #[.string o, .bool b]) ∧ Below v.heap.size v w') := by
  by_cases hs : sep.size = 1
  · obtain ⟨c, rfl⟩ := Plain.sep_of sep hs
    by_cases h0 : ss.length = 0
    · rw [h0]
      exact ⟨ByteArray.empty, false, fun v a cap _ => (specJoin_nil a cap c v).mono fun _ _ h => h, fun v a cap _ _ => (implJoin_nil a cap c v).mono fun _ _ h => h⟩
    · have h1 : 0 < ss.length := by omega
      cases hk : Plain.joinOk c ss with
      | true =>
        refine ⟨Plain.jn ⟨#[c]⟩ ss, true, fun v a cap h => (specJoin_any a cap c ss v h h1 hn).mono ?_, fun v a cap h hc => (implJoin_any a cap c ss v h h1 hc hn).mono ?_⟩
        all_goals
          rintro e w' ⟨⟨_, he⟩ | ⟨hf, _⟩, hb⟩
          · exact ⟨he, hb⟩
          · rw [hk] at hf; cases hf
      | false =>
        refine ⟨ByteArray.empty, false, fun v a cap h => (specJoin_any a cap c ss v h h1 hn).mono ?_, fun v a cap h hc => (implJoin_any a cap c ss v h h1 hc hn).mono ?_⟩
        all_goals
          rintro e w' ⟨⟨hf, _⟩ | ⟨_, he⟩, hb⟩
          · rw [hk] at hf; cases hf
          · exact ⟨he, hb⟩
  · exact ⟨ByteArray.empty, false, fun v a cap _ => (specJoin_sep a _ cap sep v hs).mono fun _ _ h => h, fun v a cap _ _ => (implJoin_sep a _ cap sep v (by omega) hs).mono fun _ _ h => h⟩

theorem Filled.strs {ss : List ByteArray} {w w' : World} (h : Filled ss w.heap.size w ss.length w') : Strs w' (some ⟨w.heap.size, 0, none⟩) ss := by
  have ho := h.1
  rw [mixed_all] at ho
  obtain ⟨a, cap, e, hs⟩ := strs_of_owns ho
  simp only [Value.slice.injEq] at e
  obtain ⟨rfl, -, -⟩ := e
  exact hs

end Go.Proofs.Ythcggmjgecdfgaa
