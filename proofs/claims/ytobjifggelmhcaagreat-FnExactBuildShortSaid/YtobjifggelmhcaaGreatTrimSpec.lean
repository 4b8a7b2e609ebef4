/- Contracts: spec.l6Without, impl's word.trimmedOnce; TrimWord of both. Conditions: numbers of 64 bits, lengths that fit. -/
import Derived.Test.YtobjifggelmhcaaGreatFor
import Derived.Test.YtobjifggelmhcaaGreatConjKit
import Derived.Test.YtobjifggelmhcaaGreatWord
import Derived.Deep.RegionLaw
namespace Go.Proofs.YtobjifggelmhcaaGreat
open Go.ChangeShapes Go.WideShapes Go.ChangeAt Go.RowKit
set_option linter.unusedVariables false

theorem Plain.falls_red (xs : List Int) : Plain.fallsB (Plain.red xs) = Plain.fallsB xs := by
  funext s
  rw [Plain.fallsB, Plain.fallsB, Plain.takeOut, Plain.takeOut, Plain.red_without]
theorem Plain.alike_refl (t : Nat → Bool) : Plain.alike t t = true := (Plain.alikeTo_iff 64).2 fun _ _ => rfl
theorem Plain.spares_same {t u : Nat → Bool} (h : Plain.alike t u = true) (xs : List Int) : Plain.sparesB t xs = Plain.sparesB u xs := by
  funext i
  exact Plain.alike_left h _
/-- What trimmedOnce answers. -/
def onceI (xs : List Int) : Option Nat := Plain.seek (Plain.sparesB (Plain.fallsB xs) xs) xs.length
def onceW (xs : List Int) : List Int := match onceI xs with
  | some i => Plain.dropAt xs i
  | none => []
def onceB (xs : List Int) : Bool := (onceI xs).isSome
theorem once_hit {xs : List Int} {i : Nat} (hi : i < xs.length) (h : ∀ j, j < i → Plain.sparesB (Plain.fallsB xs) xs j = false) (hg : Plain.sparesB (Plain.fallsB xs) xs i = true) : onceW xs = Plain.dropAt xs i ∧ onceB xs = true := by
  have e : onceI xs = some i := Plain.seek_hit hi h hg
  simp [onceW, onceB, e]
theorem once_none {xs : List Int} (h : ∀ j, j < xs.length → Plain.sparesB (Plain.fallsB xs) xs j = false) : onceW xs = [] ∧ onceB xs = false := by
  have e : onceI xs = none := Plain.seek_none h
  simp [onceW, onceB, e]
/-- What TrimWord answers. -/
def trimV (xs : List Int) : List Int := Plain.trimTo (Plain.fallsB xs) 64 (Plain.red xs)
def trimW (xs : List Int) : List Int := if Plain.wordB xs = true then trimV xs else []
theorem trim_no {xs : List Int} (h : Plain.wordB xs = false) : trimW xs = [] := if_neg (by rw [h]; simp)
theorem trim_yes {xs : List Int} (h : Plain.wordB xs = true) : trimW xs = trimV xs := if_pos h
theorem trimW_le (xs : List Int) : (trimW xs).length ≤ 64 := by
  cases h : Plain.wordB xs with
  | false => rw [trim_no h]; simp
  | true =>
    rw [trim_yes h]
    have h1 := (Plain.wordB_iff.1 h).1
    exact Nat.le_trans (Plain.trimTo_le _ _ _) (Nat.le_trans (Plain.red_length _) h1)
/-- What the loops hold: a list from which the rest is to be taken. -/
def Trims (xs u : List Int) : Prop := Plain.trimTo (Plain.fallsB xs) 64 u = trimV xs ∧ Plain.alike (Plain.fallsB u) (Plain.fallsB xs) = true ∧ Plain.Letters u ∧ u.length ≤ 64
theorem trims_start {xs : List Int} (h : Plain.wordB xs = true) : Trims xs (Plain.red xs) :=
  ⟨rfl, by rw [Plain.falls_red]; exact Plain.alike_refl _, (Plain.wordB_iff.1 h).2.red, Nat.le_trans (Plain.red_length _) (Plain.wordB_iff.1 h).1⟩
theorem Trims.next {xs u : List Int} {i : Nat} (h : Trims xs u) (hi : i < u.length) (hno : ∀ j, j < i → Plain.sparesB (Plain.fallsB xs) u j = false) (hg : Plain.sparesB (Plain.fallsB xs) u i = true) : Trims xs (Plain.dropAt u i) ∧ (Plain.dropAt u i).length < u.length :=
  ⟨⟨(Plain.trim_hit hi hno hg h.2.2.2).symm.trans h.1, hg, Plain.dropAt_letters h.2.2.1 i, by have := Plain.dropAt_len hi; have := h.2.2.2; omega⟩, Plain.dropAt_len hi⟩
theorem Trims.done {xs u : List Int} (h : Trims xs u) (hno : ∀ j, j < u.length → Plain.sparesB (Plain.fallsB xs) u j = false) : u = trimV xs := (Plain.trim_none hno h.2.2.2).symm.trans h.1
def lenV : Value → Nat
  | .slice _ n _ => n
  | _ => 0
theorem l2Join_at (a1 a2 : Option Addr) (c1 c2 n1 n2 : Nat) (xs ys : List Int) (w : World) (e1 : xs.length = n1) (e2 : ys.length = n2) (h1 : Hid (Ints w a1 xs)) (k1 : Hid (Cap a1 n1 c1)) (h2 : Hid (Ints w a2 ys)) (k2 : Hid (Cap a2 n2 c2))
    (l1 : Hid (Plain.Letters xs)) (l2 : Hid (Plain.Letters ys)) (hn : n1 + n2 ≤ 1048576) :
    Calls Tryz.prog 47 #[.slice a1 n1 c1, .slice a2 n2 c2] w (ListPost (Plain.red (xs ++ ys)) w) := by
  subst e1 e2
  exact l2Join_any a1 a2 c1 c2 xs ys w h1 k1 h2 k2 l1 l2 hn
/-- The parts ahead of a place and behind it. -/
structure Cut (w : World) (b o cap n i o2 : Nat) (xs : List Int) : Prop where
  i1 : Ints w (some ⟨b, o, none⟩) (xs.take i)
  i2 : Ints w (some ⟨b, o2, none⟩) (xs.drop (i + 1))
  k1 : Cap (some ⟨b, o, none⟩) i cap
  k2 : Cap (some ⟨b, o2, none⟩) (n - (i + 1)) (cap - (i + 1))
  e1 : (xs.take i).length = i
  e2 : (xs.drop (i + 1)).length = n - (i + 1)
theorem cut_mid {w : World} {b o cap i : Nat} {xs : List Int} (h : Ints w (some ⟨b, o, none⟩) xs) (k : Cap (some ⟨b, o, none⟩) xs.length cap) (hi : i < xs.length) : Cut w b o cap xs.length i (o + (i + 1)) xs :=
  ⟨h.upto i, h.from (i + 1), cap_upto k (by omega), cap_from k (by omega), by simp; omega, by simp⟩
theorem cut_end {w : World} {b o cap i : Nat} {xs : List Int} (h : Ints w (some ⟨b, o, none⟩) xs) (k : Cap (some ⟨b, o, none⟩) xs.length cap) (hi : i < xs.length) (hc : cap = i + 1) : Cut w b o cap xs.length i o xs := by
  have := k.1
  have e : xs.drop (i + 1) = [] := List.drop_eq_nil_of_le (by omega)
  exact ⟨h.upto i, by rw [e]; exact Ints.nil _ _, cap_upto k (by omega), ⟨by omega, by have := k.2.1; omega, fun h => (by cases h), fun x h => ⟨b, o, by cases h; rfl⟩⟩, by simp; omega, by simp⟩
theorem Cut.on {w w' : World} {b o cap n i o2 : Nat} {xs : List Int} (h : Cut w b o cap n i o2 xs) (hb : Below w.heap.size w w') : Cut w' b o cap n i o2 xs := ⟨h.i1.on hb, h.i2.on hb, h.k1, h.k2, h.e1, h.e2⟩

end Go.Proofs.YtobjifggelmhcaaGreat
