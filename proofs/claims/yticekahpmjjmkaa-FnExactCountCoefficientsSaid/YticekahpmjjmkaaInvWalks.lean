/- Contracts: spec.l2Inverse and (impl.word).inverse return the inverse of a list of letters, spec.l1Own a copy, spec.l2Join a product, in new memory. Conditions: letters, lengths that fit. -/
import Derived.Test.YticekahpmjjmkaaReducedWalks
import Derived.Test.YticekahpmjjmkaaSetKit
namespace Go.Proofs.Yticekahpmjjmkaa
open Go.ChangeShapes Go.WideShapes Go.ChangeAt Go.RowKit

/-- The opposites of what stands from place j on, from the last one on. -/
def invTo (xs : List Int) (j : Nat) : List Int := Plain.inv (xs.drop j)
theorem invTo_end (xs : List Int) : invTo xs xs.length = [] := by simp [invTo, Plain.inv]
theorem invTo_zero (xs : List Int) : invTo xs 0 = Plain.inv xs := by simp [invTo]
theorem invTo_step {xs : List Int} {j : Nat} {x : Int} (h : xs[j]? = some x) : invTo xs j = invTo xs (j + 1) ++ [-x] := by
  have hj := at_lt h
  have : xs.drop j = x :: xs.drop (j + 1) := by
    rw [List.drop_eq_getElem_cons hj]
    congr 1
    rw [List.getElem?_eq_getElem hj] at h
    simpa using h
  rw [invTo, this, Plain.inv_cons]
  rfl
theorem invTo_length (xs : List Int) (j : Nat) : (invTo xs j).length ≤ xs.length := by simp [invTo, Plain.inv]

theorem RedPost_def (xs : List Int) (w : World) : RedPost xs w = ListPost (Plain.red xs) w := rfl



theorem l1Own_any (a : Option Addr) (cap : Nat) (xs : List Int) (w : World) (h : Hid (Ints w a xs)) (hcp : Hid (Cap a xs.length cap)) (hn : xs.length ≤ 1048576) :
    Calls Try.prog 62 #[.slice a xs.length cap] w fun e w' => ∃ v, e = .returned v ∧ Coll xs w.heap.size w v w' ∧ v ≠ .slice none 0 0 := by
  obtain ⟨i0, hi0, hz0, hz1, hz2⟩ := info_parts infoInt
  go_enter Try.func62, Try.ntmps62
  have HC := Lib.hid (coll_start w)
  have HI := Lib.hid (h.out.on ((Below.refl w.heap.size w).alloc (Nat.le_refl _) (.cells #[] 3)))
  go_wp2_with (at_builtin; refine wpList_append_ints rfl _ _ 22 i0 rfl Try.underlying22 hi0 hz0 hz1 hz2 w.heap.size _ 0 [] rfl HC.out.1 a xs.length cap xs rfl rfl HI.out hcp.out (by omega) HC.out.2.2 ?_)
  intro v' w1 hown hgrow hnil
  have HR := Lib.hid (coll_more HC.out rfl (by simpa using hown) hgrow)
  have HN : Hid (v' ≠ .slice none 0 0) := Lib.hid (fun e => by have := hnil e; simp at this)
  clear hown hgrow hnil
  go_wp2
  go_ret
  exact ⟨_, rfl, by simpa using HR.out, HN.out⟩

end Go.Proofs.Yticekahpmjjmkaa
