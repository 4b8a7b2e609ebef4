/- Contract: spec.DrawLessWord hands back two lists of at most 100 numbers, in memory of their own. Condition: the code's bytes lie in memory. -/
import Derived.Test.YtoikehpnpealpaaDrawWs
namespace Go.Proofs.Ytoikehpnpealpaa
open Go.ChangeShapes Go.WideShapes Go.ChangeAt Go.RowKit
set_option linter.unusedVariables false

theorem Draw.stored {L : List Int} {B len cap m : Nat} {a : Option Addr} {w wr : World} {b o n c k : Nat} {x : Int} (h : Draw L B a len cap m w (.slice (some ⟨b, o, none⟩) n c) wr) :
    Draw (L.set k x) B a len cap m w (.slice (some ⟨b, o, none⟩) n c) (wr.setCell ⟨b, o + k, none⟩ (.int .i64 x)) := by
  obtain ⟨ho, hw, hB, hH, hy⟩ := h
  have h2 := ho.2
  rcases h2 with ⟨e, -⟩ | ⟨g, cap', cur, e, -⟩
  · simp at e
  · simp only [Value.slice.injEq, Option.some.injEq, Addr.mk.injEq, and_true] at e
    obtain ⟨⟨rfl, rfl⟩, rfl, rfl⟩ := e
    obtain ⟨hs, hg⟩ := World.ownsRow.stored ho k (.int .i64 x)
    rw [nums_set] at hs
    rw [Nat.zero_add]
    have hr : ∀ j, some b = some j → w.heap.size ≤ j := fun j e => by cases e; exact (ho.lt b rfl).1
    have hw1 := Draw.grown_over hw hg hr
    exact ⟨by simpa using hs, hw1, hB, hH.aside hy hw1 hB hg hr, hy⟩

theorem in64_set {L : List Int} {k : Nat} {x : Int} (h : In64 L) (h0 : -9223372036854775808 ≤ x) (h1 : x ≤ 9223372036854775807) : In64 (L.set k x) := by
  intro j y hy
  rw [List.getElem?_set] at hy
  split at hy
  · split at hy
    · cases hy; exact ⟨h0, h1⟩
    · cases hy
  · exact h j y hy


end Go.Proofs.Ytoikehpnpealpaa
