/- Contract: spec.l2Reduce returns what a list of letters is reduced to, in new memory. Condition: letters, a length that fits. -/
import Derived.Test.YtpaijobmoddgpaaInts
import Derived.Test.YtpaijobmoddgpaaWord
namespace Go.Proofs.Ytpaijobmoddgpaa
open Go.ChangeShapes Go.WideShapes Go.ChangeAt Go.RowKit

/-- The loop's relation: what has been kept of the first numbers. -/
def Kept (st : List Int) (B : Nat) (w : World) (v : Value) (wr : World) : Prop :=
  ∃ g cap, v = .slice (some ⟨g, 0, none⟩) st.length cap ∧ wr.ownsRow B 3 1 v st.length (nums st.reverse) ∧ Below B w wr ∧ B ≤ wr.heap.size
theorem kept_start (w : World) : Kept [] w.heap.size w (.slice (some ⟨w.heap.size, 0, none⟩) 0 0) (w.alloc (.cells #[] 3)) :=
  ⟨_, 0, rfl, World.ownsRow_made w #[] 0 (Nat.le_refl _) (Nat.zero_le _) rfl, (Below.refl _ w).alloc (Nat.le_refl _) _, by simp⟩
theorem kept_pop {y : Int} {t : List Int} {B : Nat} {w wr : World} {g cap : Nat} (h : Kept (y :: t) B w (.slice (some ⟨g, 0, none⟩) (t.length + 1) cap) wr) (n : Nat) : Kept t B w (.slice (some ⟨g, 0, none⟩) t.length cap) (wr.drewN n) := by
  obtain ⟨g', cap', e, ho, hb, hB⟩ := h
  refine ⟨g, cap, rfl, ?_, below_drewN hb n, hB⟩
  have : nums (y :: t).reverse = nums t.reverse ++ [.int .i64 y] := by simp [nums]
  rw [this] at ho
  exact ownsRow_pop (w := wr) (by simp [nums]) ho
theorem kept_push {x : Int} {st : List Int} {B m : Nat} {L : List Value} {w wr w1 : World} {v v' : Value} {o : Obj} (n : Nat) (h : Kept st B w v wr) (hm : m = st.length + 1) (hL : L = nums st.reverse ++ [.int .i64 x])
    (hown : w1.ownsRow B 3 1 v' m L) (hgrow : ((wr.drewN n).alloc o).grownBy w1 v.ownBlock) : Kept (x :: st) B w v' w1 := by
  subst hm hL
  obtain ⟨g, cap, e, ho, hb, hB⟩ := h
  have ho1 : w1.ownsRow B 3 1 v' (x :: st).length (nums (x :: st).reverse) := by simpa [nums] using hown
  have hl := ho.lt
  obtain ⟨-, ⟨-, h0⟩ | ⟨g', cap', cur, rfl, -⟩⟩ := ho1
  · simp at h0
  · exact ⟨g', cap', rfl, by simpa [nums] using hown, ((below_drewN hb n).alloc hB o).grown hgrow (by simp; omega) (fun j hj => (hl j hj).1), by have := hgrow.size; simp at this; omega⟩
theorem kept_cell {y : Int} {t : List Int} {B : Nat} {w wr : World} {g cap : Nat} (h : Kept (y :: t) B w (.slice (some ⟨g, 0, none⟩) (t.length + 1) cap) wr) : wr.cell? ⟨g, t.length, none⟩ = some (.int .i64 y) := by
  obtain ⟨g', cap', e, ho, hb, hB⟩ := h
  rw [World.ownsRow.cellAt ho t.length (by simp)]
  simp [nums]
theorem kept_res {st : List Int} {B : Nat} {w wr : World} {v : Value} (h : Kept st B w v wr) : Res B wr v st.reverse := by
  obtain ⟨g, cap, rfl, ho, hb, hB⟩ := h
  exact owns_ints (by simpa using ho)
theorem kept_len {st : List Int} {B : Nat} {w wr : World} {v : Value} (h : Kept st B w v wr) : ∃ g cap, v = .slice (some ⟨g, 0, none⟩) st.length cap := by
  obtain ⟨g, cap, rfl, _⟩ := h
  exact ⟨g, cap, rfl⟩
theorem kept_owns {st : List Int} {B : Nat} {w wr : World} {v : Value} (h : Kept st B w v wr) (n : Nat) : (wr.drewN n).ownsRow B 3 1 v st.length (nums st.reverse) ∧ B ≤ (wr.drewN n).heap.size := by
  obtain ⟨g, cap, rfl, ho, hb, hB⟩ := h
  exact ⟨ho, hB⟩
theorem kept_cap {st : List Int} {B n g cap : Nat} {w wr : World} (h : Kept st B w (.slice (some ⟨g, 0, none⟩) n cap) wr) : st.length ≤ cap ∧ cap ≤ 9223372036854775807 := by
  obtain ⟨g', cap', e, ⟨-, ⟨e2, -⟩ | ⟨g2, cap2, cur, e2, -, -, h1, h2, -⟩⟩, -⟩ := h
  · cases e2
  · cases e2
    cases e
    unfold maxLen at h2
    exact ⟨h1, by omega⟩
/-- Behind a reduction. -/
def RedPost (xs : List Int) (w : World) (e : Ending) (w' : World) : Prop := ∃ v, e = .returned v ∧ Res w.heap.size w' v (Plain.red xs) ∧ Below w.heap.size w w'


end Go.Proofs.Ytpaijobmoddgpaa
