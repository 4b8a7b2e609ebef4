/- Contracts: spec.l6Letter, l6Keys, KeyAt; impl.withOneLetterMore, keys, KeyAt. Conditions: numbers of 64 bits. -/
import Derived.Test.YticekahpmjjmkaaBuildMath
import Derived.Test.YticekahpmjjmkaaLists
import Derived.Test.YticekahpmjjmkaaSetWords
namespace Go.Proofs.Yticekahpmjjmkaa
open Go.ChangeShapes Go.WideShapes Go.ChangeAt Go.RowKit
set_option linter.unusedVariables false

def lists (fs : List Fac) : List (List Int) := fs.map (·.2.2)
theorem lists_length (fs : List Fac) : (lists fs).length = fs.length := by simp [lists]
theorem lists_append (fs gs : List Fac) : lists (fs ++ gs) = lists fs ++ lists gs := by simp [lists]
theorem lists_at {fs : List Fac} {k : Nat} {f : Fac} (h : fs[k]? = some f) : (lists fs)[k]? = some f.2.2 := by simp [lists, h]
theorem infoLL : (Try.prog.info? 22).map (fun i => (i.zero, i.size, i.bytes)) = some (some (.slice none 0 0), 1, 24) := by kernel_rfl
theorem infoLW : (Try.prog.info? 52).map (fun i => (i.zero, i.size, i.bytes)) = some (some (.slice none 0 0), 1, 24) := by kernel_rfl
theorem info_partsL {t : TypeId} {z : Value} {n b : Nat} (h : (Try.prog.info? t).map (fun i => (i.zero, i.size, i.bytes)) = some (some z, n, b)) : ∃ i, Try.prog.info? t = some i ∧ i.zero = some z ∧ i.size = n ∧ i.bytes = b := by
  rcases hi : Try.prog.info? t with _ | i
  · rw [hi] at h; cases h
  · rw [hi] at h
    simp only [Option.map_some, Option.some.injEq, Prod.mk.injEq] at h
    exact ⟨i, rfl, h.1, h.2.1, h.2.2⟩
/-- A row with one empty list, laid at once. -/
theorem collF_first (T : TypeId) (w : World) : CollF T [(some ⟨w.heap.size, 0, none⟩, 0, [])] w.heap.size w (.slice (some ⟨w.heap.size + 1, 0, none⟩) 1 1) ((w.alloc (.cells #[] 3)).alloc (.cells #[.slice (some ⟨w.heap.size, 0, none⟩) 0 0] T)) := by
  have h1 := World.ownsRow_lit (base := w.heap.size) (e := T) (size := 1) (w.alloc (.cells #[] 3)) #[.slice (some ⟨w.heap.size, 0, none⟩) 0 0] 1 (by simp) (by decide) rfl
  rw [show (w.alloc (.cells #[] 3)).heap.size = w.heap.size + 1 by simp] at h1
  refine ⟨h1, fun f hf => ?_, ((Below.refl _ w).alloc (Nat.le_refl _) _).alloc (by simp) _, by simp; omega⟩
  obtain rfl := List.mem_singleton.1 hf
  exact ⟨Ints.nil _ _, ⟨Nat.le_refl _, by show (0 : Nat) ≤ _; decide, fun h => (by cases h), fun x h => ⟨_, _, by cases h; rfl⟩⟩, .inl rfl, .inl rfl⟩
/-- A list that is laid at once goes to the end of the row. -/
theorem collF_lit {T : TypeId} (hT : T ≠ 3) {xs : List Int} {fs : List Fac} {B : Nat} {w wr w1 : World} {v v' : Value} {o : Obj} (h : CollF T fs B w v wr) (hn : xs.length ≤ 1048576)
    (hown : w1.ownsRow B T 1 v' (fs.length + 1) (rowOf fs ++ [.slice (some ⟨wr.heap.size, 0, none⟩) xs.length xs.length])) (hgrow : ((wr.alloc (.cells (nums xs).toArray 3)).alloc o).grownBy w1 v.ownBlock) :
    CollF T (fs ++ [(some ⟨wr.heap.size, 0, none⟩, xs.length, xs)]) B w v' w1 :=
  collF_push hT (h.later ((Below.refl _ wr).alloc (Nat.le_refl _) _)) ((facOk_lit wr xs hn).mono h.2.2.2) hown hgrow
theorem cell_two_new (w : World) (o : Obj) (t : TypeId) (v : Value) : ∀ j u, [v][j]? = some u → ((w.alloc o).alloc (.cells #[v] t)).cell? ((⟨w.heap.size + 1, 0, none⟩ : Addr).add j) = some u := by
  have h := cell_one_new (w.alloc o) v t
  rw [show (w.alloc o).heap.size = w.heap.size + 1 by simp] at h
  exact h

end Go.Proofs.Yticekahpmjjmkaa
