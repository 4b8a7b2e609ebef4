/- What the walks of the laws on lists share: lists in blocks apart, and what stays behind the marks. No condition. -/
import Derived.Test.YtnmjanhpjnlfcaaIntsWalks
namespace Go.Proofs.Ytnmjanhpjnlfcaa
set_option linter.unusedVariables false
open Go.ChangeShapes Go.WideShapes Go.ChangeAt Go.RowKit

/-- Behind a call that hands back a value: new memory alone. -/
def Val (v : Value) (w : World) (e : Ending) (w' : World) : Prop := e = .returned v ∧ Below w.heap.size w w'
/-- A list and a bool. -/
def SB (out : List Int) (ok : Bool) (w : World) (e : Ending) (w' : World) : Prop := ∃ v, e = .returned (.tuple #[v, .bool ok]) ∧ Res w.heap.size w' v out ∧ Below w.heap.size w w'
/-- A list. -/
def S1 (out : List Int) (w : World) (e : Ending) (w' : World) : Prop := ∃ v, e = .returned v ∧ Res w.heap.size w' v out ∧ Below w.heap.size w w'
theorem val_same {v : Value} {w w' : World} {e : Ending} (h : e = .returned v ∧ w = w') : Val v w e w' := by obtain ⟨rfl, rfl⟩ := h; exact ⟨rfl, Below.refl _ _⟩

/-- Two lists lie in different blocks. -/
def Apart (a1 : Option Addr) (n1 : Nat) (a2 : Option Addr) (n2 : Nat) : Prop := n1 = 0 ∨ n2 = 0 ∨ ∃ b1 o1 b2 o2, a1 = some ⟨b1, o1, none⟩ ∧ a2 = some ⟨b2, o2, none⟩ ∧ b1 ≠ b2
/-- Two lists in new memory, apart. -/
def Two (o1 o2 : List Int) (a1 : Option Addr) (c1 : Nat) (a2 : Option Addr) (c2 : Nat) (w w' : World) : Prop :=
  Ints w' a1 o1 ∧ Own w.heap.size w' a1 o1.length ∧ Cap a1 o1.length c1 ∧ Ints w' a2 o2 ∧ Own w.heap.size w' a2 o2.length ∧ Cap a2 o2.length c2 ∧ Apart a1 o1.length a2 o2.length ∧ Below w.heap.size w w'
/-- Two lists. -/
def SS (o1 o2 : List Int) (w : World) (e : Ending) (w' : World) : Prop := ∃ a1 c1 a2 c2, e = .returned (.tuple #[.slice a1 o1.length c1, .slice a2 o2.length c2]) ∧ Two o1 o2 a1 c1 a2 c2 w w'
/-- Two lists and a bool. -/
def SSB (o1 o2 : List Int) (ok : Bool) (w : World) (e : Ending) (w' : World) : Prop :=
  ∃ a1 c1 a2 c2, e = .returned (.tuple #[.slice a1 o1.length c1, .slice a2 o2.length c2, .bool ok]) ∧ Two o1 o2 a1 c1 a2 c2 w w'
theorem Apart.symm {a1 a2 : Option Addr} {n1 n2 : Nat} (h : Apart a1 n1 a2 n2) : Apart a2 n2 a1 n1 := by
  rcases h with h | h | ⟨b1, o1, b2, o2, h1, h2, h3⟩
  · exact .inr (.inl h)
  · exact .inl h
  · exact .inr (.inr ⟨b2, o2, b1, o1, h2, h1, fun e => h3 e.symm⟩)
theorem apart_of {B1 B2 : Nat} {W1 W2 : World} {a1 a2 : Option Addr} {n1 n2 : Nat} (h1 : Own B1 W1 a1 n1) (h2 : Own B2 W2 a2 n2) (hle : W1.heap.size ≤ B2) : Apart a1 n1 a2 n2 := by
  rcases h1 with h1 | ⟨b1, o1, e1, _, g1, _⟩
  · exact .inl h1
  rcases h2 with h2 | ⟨b2, o2, e2, g2, _, _⟩
  · exact .inr (.inl h2)
  exact .inr (.inr ⟨b1, o1, b2, o2, e1, e2, by omega⟩)
end Go.Proofs.Ytnmjanhpjnlfcaa
