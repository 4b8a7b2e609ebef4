/- Contracts of the helpers on lists of numbers: laws.toIntS copies one into new memory, laws.eqIntS compares two, laws.markIntS writes numbers from k on, laws.heldIntS finds them there. Conditions: lengths that fit. -/
import Derived.Test.YtnmjanhpjnlfcaaInts
namespace Go.Proofs.Ytnmjanhpjnlfcaa
open Go.ChangeShapes Go.WideShapes Go.ChangeAt Go.RowKit

/-- A list's first k numbers, and zeros behind. -/
def mixed (xs : List Int) (k : Nat) : List Int := xs.take k ++ List.replicate (xs.length - k) 0
theorem mixed_length (xs : List Int) (k : Nat) (h : k ≤ xs.length) : (mixed xs k).length = xs.length := by simp [mixed]; omega
theorem mixed_zero (xs : List Int) : mixed xs 0 = List.replicate xs.length 0 := by simp [mixed]
theorem mixed_all (xs : List Int) : mixed xs xs.length = xs := by simp [mixed]
theorem mixed_set (xs : List Int) (k : Nat) (x : Int) (hx : xs[k]? = some x) : (mixed xs k).set k x = mixed xs (k + 1) := by
  have hk := at_lt hx
  have hl : (xs.take k).length = k := by simp; omega
  unfold mixed
  obtain ⟨n, hn⟩ : ∃ n, xs.length - k = n + 1 := ⟨xs.length - k - 1, by omega⟩
  rw [hn, List.replicate_succ, List.set_append_right _ _ (by omega), hl, Nat.sub_self, List.set_cons_zero, show xs.length - (k + 1) = n by omega]
  rw [List.take_add_one, hx]
  simp
theorem nums_set (xs : List Int) (k : Nat) (x : Int) : (nums xs).set k (.int .i64 x) = nums (xs.set k x) := by simp [nums, List.map_set]

/-- The loop's relation behind k stores. -/
def Filled (xs : List Int) (B : Nat) (w : World) (k : Nat) (wr : World) : Prop :=
  wr.ownsRow B 3 1 (.slice (some ⟨B, 0, none⟩) xs.length xs.length) xs.length (nums (mixed xs k)) ∧ Below B w wr
theorem Filled.step {xs : List Int} {B k : Nat} {w wr : World} {x : Int} (h : Filled xs B w k wr) (hx : xs[k]? = some x) : Filled xs B w (k + 1) (wr.setCell ⟨B, k, none⟩ (.int .i64 x)) := by
  obtain ⟨ho, hb⟩ := h
  refine ⟨?_, hb.setCell (p := ⟨B, k, none⟩) (Nat.le_refl _) _⟩
  rw [← mixed_set xs k x hx, ← nums_set]
  exact (World.ownsRow.stored ho k (.int .i64 x)).1
theorem Filled.cell {xs : List Int} {B k : Nat} {w wr : World} (h : Filled xs B w k wr) (hk : k < xs.length) : ∃ y, wr.cell? ⟨B, k, none⟩ = some (.int .i64 y) := by
  obtain ⟨y, hy⟩ := at_some (mixed xs k) k (by rw [mixed_length xs k (by omega)]; omega)
  exact ⟨y, by rw [World.ownsRow.cellAt h.1 k (by omega), nums_at hy]⟩

/-- Behind a copy: a new block holds the numbers. -/
def CopyPost (xs : List Int) (w : World) (e : Ending) (w' : World) : Prop :=
  e = .returned (.slice (some ⟨w.heap.size, 0, none⟩) xs.length xs.length) ∧ Ints w' (some ⟨w.heap.size, 0, none⟩) xs ∧ Own w.heap.size w' (some ⟨w.heap.size, 0, none⟩) xs.length ∧ Below w.heap.size w w'
theorem copy_post {xs : List Int} {w w' : World} (h : Filled xs w.heap.size w xs.length w') : CopyPost xs w (.returned (.slice (some ⟨w.heap.size, 0, none⟩) xs.length xs.length)) w' := by
  obtain ⟨ho, hb⟩ := h
  rw [mixed_all] at ho
  obtain ⟨a, cap, e, h1, h2, -⟩ := owns_ints ho
  simp only [Value.slice.injEq] at e
  obtain ⟨rfl, -, rfl⟩ := e
  exact ⟨rfl, h1, h2, hb⟩


/-- Two lists are compared from place k on. -/
theorem eq_differ {xs ys : List Int} {k : Nat} {x y : Int} (hx : xs[k]? = some x) (hy : ys[k]? = some y) (hne : x ≠ y) : decide (xs = ys) = false := by
  rw [decide_eq_false_iff_not]
  rintro rfl
  rw [hx] at hy
  exact hne (by simpa using hy)
theorem eq_agree {xs ys : List Int} (hl : xs.length = ys.length) (h : ∀ (j : Nat) (x y : Int), j < xs.length → xs[j]? = some x → ys[j]? = some y → x = y) : decide (xs = ys) = true := by
  rw [decide_eq_true_iff]
  refine List.ext_getElem hl fun i h1 h2 => ?_
  exact h i _ _ h1 (List.getElem?_eq_getElem h1) (List.getElem?_eq_getElem h2)
def Agree (xs ys : List Int) (k : Nat) : Prop := ∀ (j : Nat) (x y : Int), j < k → xs[j]? = some x → ys[j]? = some y → x = y
theorem agree_zero (xs ys : List Int) : Agree xs ys 0 := fun j x y h => by omega
theorem agree_succ {xs ys : List Int} {k : Nat} {x : Int} (h : Agree xs ys k) (hx : xs[k]? = some x) (hy : ys[k]? = some x) : Agree xs ys (k + 1) := fun j a b hj ha hb => by
  by_cases e : j = k
  · subst e
    rw [hx] at ha; rw [hy] at hb
    simp at ha hb
    omega
  · exact h j a b (by omega) ha hb

def EqPost (b : Bool) (w : World) (e : Ending) (w' : World) : Prop := e = .returned (.bool b) ∧ ∃ n, w' = w.drewN n
theorem EqPost.on {b : Bool} {w w' : World} {e : Ending} (h : EqPost b w e w') : e = .returned (.bool b) ∧ Below w.heap.size w w' := by
  obtain ⟨rfl, n, rfl⟩ := h
  exact ⟨rfl, below_drewN (Below.refl _ _) n⟩


theorem grown_set (w : World) (B i : Nat) (v : Value) : w.grownBy (w.setCell ⟨B, i, none⟩ v) (some B) := by
  refine ⟨rfl, rfl, rfl, ?_, fun j hj hne => ?_⟩
  · simp [World.setCell]
  · exact Below.heap_setCell _ _ _ _ (by simpa using hne)
theorem frozen_set (w : World) (b i j : Nat) (v : Value) : (w.setCell ⟨b, i, none⟩ v).frozen? ⟨b, j, none⟩ = w.frozen? ⟨b, j, none⟩ := by
  simp only [World.frozen?, World.setCell, Array.getElem?_modify]
  simp
  cases w.heap[b]? with
  | none => rfl
  | some x => cases x <;> rfl


end Go.Proofs.Ytnmjanhpjnlfcaa
