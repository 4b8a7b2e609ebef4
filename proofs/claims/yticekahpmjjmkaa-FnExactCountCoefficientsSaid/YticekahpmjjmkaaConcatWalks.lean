/- Contracts: spec.l2Join; slices.Grow at a nil list, slices.Concat, impl.productOf: products of lists of letters, in new memory. Conditions: letters, lengths that fit. -/
import Derived.Lib.AppendZerosOnto
import Derived.Test.YticekahpmjjmkaaReducedWalks
import Derived.Test.YticekahpmjjmkaaProd
namespace Go.Proofs.Yticekahpmjjmkaa
open Go.ChangeShapes Go.WideShapes Go.ChangeAt Go.RowKit

/-- A list of lists: where each lies, its room, its numbers. -/
abbrev Fac := Option Addr × Nat × List Int
def flat (fs : List Fac) : List Int := (fs.map (·.2.2)).flatten
def facVal (f : Fac) : Value := .slice f.1 f.2.2.length f.2.1
/-- At an address lie these lists. -/
def Facs (w : World) (a : Option Addr) (fs : List Fac) : Prop := ∀ j f, fs[j]? = some f → (∃ b o, a = some ⟨b, o, none⟩ ∧ w.cell? ⟨b, o + j, none⟩ = some (.slice f.1 f.2.2.length f.2.1)) ∧ Ints w f.1 f.2.2 ∧ Cap f.1 f.2.2.length f.2.1
theorem Facs.on {w w' : World} {a : Option Addr} {fs : List Fac} (h : Facs w a fs) (hb : Below w.heap.size w w') : Facs w' a fs := fun j f hf => by
  obtain ⟨⟨b, o, e, hc⟩, hi, hk⟩ := h j f hf
  exact ⟨⟨b, o, e, cell_later hb hc⟩, hi.on hb, hk⟩
theorem flat_take {fs : List Fac} {k : Nat} {f : Fac} (h : fs[k]? = some f) : flat (fs.take (k + 1)) = flat (fs.take k) ++ f.2.2 := by
  unfold flat
  rw [List.take_add_one, h]
  simp
theorem flat_all (fs : List Fac) : flat (fs.take fs.length) = flat fs := by rw [List.take_length]
theorem flat_le (fs : List Fac) (k : Nat) : (flat (fs.take k)).length ≤ (flat fs).length := by
  unfold flat
  conv => rhs; rw [← List.take_append_drop k fs]
  rw [List.map_append, List.flatten_append, List.length_append]
  omega


end Go.Proofs.Yticekahpmjjmkaa
