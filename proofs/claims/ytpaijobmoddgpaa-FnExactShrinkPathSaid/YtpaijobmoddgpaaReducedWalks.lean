/- Contract: (impl.word).reduced returns what a list of letters is reduced to, in new memory. Condition: letters, a length that fits. -/
import Derived.Test.YtpaijobmoddgpaaReduceWalks
import Derived.Test.YtpaijobmoddgpaaIntsWalks
namespace Go.Proofs.Ytpaijobmoddgpaa
open Go.ChangeShapes Go.WideShapes Go.ChangeAt Go.RowKit

/-- The loop's relation: the first cells hold what has been kept; there is room. -/
def Stacked (n : Nat) (st : List Int) (B : Nat) (w : World) (wr : World) : Prop :=
  ∃ zs : List Int, zs.length = n ∧ wr.ownsRow B 3 1 (.slice (some ⟨B, 0, none⟩) n n) n (nums zs) ∧ zs.take st.length = st.reverse ∧ Below B w wr
theorem Stacked.pop {n : Nat} {y : Int} {t : List Int} {B : Nat} {w wr : World} (h : Stacked n (y :: t) B w wr) : Stacked n t B w wr := by
  obtain ⟨zs, hl, ho, ht, hb⟩ := h
  refine ⟨zs, hl, ho, ?_, hb⟩
  have : (zs.take (t.length + 1)).take t.length = (t.reverse ++ [y]).take t.length := by rw [show zs.take (t.length + 1) = t.reverse ++ [y] by simpa using ht]
  rw [List.take_take, Nat.min_eq_left (by omega)] at this
  rw [this, List.take_left' (by simp)]
theorem Stacked.push {n : Nat} {x : Int} {st : List Int} {B : Nat} {w wr : World} (h : Stacked n st B w wr) (hlt : st.length < n) : Stacked n (x :: st) B w (wr.setCell ⟨B, st.length, none⟩ (.int .i64 x)) := by
  obtain ⟨zs, hl, ho, ht, hb⟩ := h
  refine ⟨zs.set st.length x, by simpa using hl, ?_, ?_, hb.setCell (p := ⟨B, st.length, none⟩) (Nat.le_refl _) _⟩
  · rw [← nums_set]
    exact (World.ownsRow.stored ho st.length (.int .i64 x)).1
  · rw [List.length_cons, List.take_add_one, List.getElem?_set_self (by omega), List.take_set_of_le (Nat.le_refl _), ht]
    simp
theorem Stacked.top {n : Nat} {y : Int} {t : List Int} {B : Nat} {w wr : World} (h : Stacked n (y :: t) B w wr) (hlt : t.length < n) : wr.cell? ⟨B, t.length, none⟩ = some (.int .i64 y) := by
  obtain ⟨zs, hl, ho, ht, hb⟩ := h
  rw [World.ownsRow.cellAt ho t.length (by omega)]
  refine nums_at ?_
  have : (zs.take (t.length + 1))[t.length]? = (t.reverse ++ [y])[t.length]? := by rw [show zs.take (t.length + 1) = t.reverse ++ [y] by simpa using ht]
  rw [List.getElem?_take_of_lt (by omega)] at this
  rw [this]
  simp
theorem Stacked.room {n : Nat} {st : List Int} {B : Nat} {w wr : World} (h : Stacked n st B w wr) (hlt : st.length < n) : (∃ u, wr.cell? ⟨B, st.length, none⟩ = some (.int .i64 u)) ∧ wr.frozen? ⟨B, st.length, none⟩ = false := by
  obtain ⟨zs, hl, ho, ht, hb⟩ := h
  obtain ⟨u, hu⟩ := at_some zs st.length (by omega)
  exact ⟨⟨u, by rw [World.ownsRow.cellAt ho st.length (by omega), nums_at hu]⟩, World.ownsRow.frozenAt ho _⟩
theorem Stacked.res {n : Nat} {st : List Int} {B : Nat} {w wr : World} (h : Stacked n st B w wr) (hle : st.length ≤ n) : Res B wr (.slice (some ⟨B, 0, none⟩) st.length st.length) st.reverse := by
  obtain ⟨zs, hl, ho, ht, hb⟩ := h
  obtain ⟨a, cap, e, h1, h2, -, h3, -, -⟩ := owns_ints ho
  simp only [Value.slice.injEq] at e
  obtain ⟨rfl, -, rfl⟩ := e
  refine ⟨_, st.length, by simp, fun j x hx => h1 j x ?_, ?_, by simp, by omega, fun h => (by cases h), fun x h => ⟨B, 0, by cases h; rfl⟩⟩
  · have hj := at_lt hx
    rw [← ht] at hx
    rwa [List.getElem?_take_of_lt (by simpa using hj)] at hx
  · rw [List.length_reverse]
    rcases h2 with h2 | h2
    · exact .inl (by omega)
    · exact .inr h2


end Go.Proofs.Ytpaijobmoddgpaa
