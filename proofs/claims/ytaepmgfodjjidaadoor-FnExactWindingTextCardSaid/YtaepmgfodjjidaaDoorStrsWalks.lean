/- Contracts of the helpers on lists of texts: laws.szStringS, laws.toStringS, laws.eqStringS (at equal lists). Conditions: as each says. -/
import Derived.Test.YtaepmgfodjjidaaDoorSplitWalks
import Derived.Test.YtaepmgfodjjidaaDoorStrs
import Derived.Laws.OwnMore
import Derived.OwnWalk
import Derived.Deep.QuietTactic
import Derived.BigQuiet
namespace Go.Proofs.YtaepmgfodjjidaaDoor
open Go.ChangeShapes Go.WideShapes Go.ChangeAt Go.RowKit

/-- At an address lie these texts. -/
def Strs (w : World) (a : Option Addr) (ss : List ByteArray) : Prop := ∀ j x, ss[j]? = some x → ∃ b o, a = some ⟨b, o, none⟩ ∧ w.cell? ⟨b, o + j, none⟩ = some (.string x)

theorem Strs.on {w w' : World} {a : Option Addr} {ss : List ByteArray} (h : Strs w a ss) (hb : Below w.heap.size w w') : Strs w' a ss := fun j x hx => by
  obtain ⟨b, o, e, hc⟩ := h j x hx
  exact ⟨b, o, e, cell_later hb hc⟩

theorem strVals_length (ss : List ByteArray) : (strVals ss).length = ss.length := by simp [strVals]
theorem strVals_at {ss : List ByteArray} {j : Nat} {x : ByteArray} (h : ss[j]? = some x) : (strVals ss)[j]? = some (.string x) := by simp [strVals, h]

/-- What a call owns reads as its texts. -/
theorem strs_of_owns {w : World} {B : Nat} {v : Value} {ss : List ByteArray} (h : w.ownsRow B 9 1 v ss.length (strVals ss)) :
    ∃ a cap, v = .slice a ss.length cap ∧ Strs w a ss := by
  have h0 := h
  obtain ⟨hl, ⟨rfl, hn⟩ | ⟨g, cap, cur, rfl, hg, hc, hn, hm, hz, ht⟩⟩ := h
  · have : ss = [] := List.eq_nil_of_length_eq_zero hn
    subst this
    exact ⟨none, 0, rfl, fun j x hx => by simp at hx⟩
  · refine ⟨_, cap, rfl, fun j x hx => ⟨g, 0, rfl, ?_⟩⟩
    have hj : j < ss.length := by
      rw [List.getElem?_eq_some_iff] at hx
      exact hx.1
    rw [Nat.zero_add, World.ownsRow.cellAt h0 j (by omega), strVals_at hx]

def szLeft (ss : List ByteArray) (k : Nat) : Int := 1048576 - (ss.length : Int) - (Plain.tot (ss.take k) : Int)
theorem szLeft_zero (ss : List ByteArray) : szLeft ss 0 = 1048576 - (ss.length : Int) := by simp [szLeft, Plain.tot]
theorem szLeft_succ (ss : List ByteArray) (k : Nat) (x : ByteArray) (h : ss[k]? = some x) : szLeft ss (k + 1) = szLeft ss k - (x.size : Int) := by
  unfold szLeft; rw [Plain.tot_take ss k x h]; omega
theorem szLeft_le (ss : List ByteArray) (k : Nat) : szLeft ss k ≤ 1048576 := by unfold szLeft; omega



theorem str_same (x : ByteArray) : (x.toList == x.toList) = true := by simp

end Go.Proofs.YtaepmgfodjjidaaDoor
