/- Words for lists of numbers in memory: what lies at an address, and whose it is. No condition. -/
import Derived.Test.YtbapggpnpfiaaaaRows
import Derived.WalkKit
import Derived.ProofKit
import Derived.OpenShut
import Derived.ShutString
import Derived.Lib.Hide
import Derived.Outline
import Derived.WalkSpells
import Derived.WalkSmall
import Derived.Laws.OwnMore
import Derived.OwnWalk
import Derived.Deep.QuietTactic
import Derived.BigQuiet
import Derived.Maps.AppendAt
import Derived.IntWalk
namespace Go.Proofs.Ytbapggpnpfiaaaa
open Go.ChangeShapes Go.WideShapes Go.ChangeAt Go.RowKit

theorem infoInt : (Try.prog.info? 3).map (fun i => (i.zero, i.size, i.bytes)) = some (some (.int .i64 0), 1, 8) := by kernel_rfl
theorem ret_int {k : IntKind} {a b : Int} (h : a = b) : Ending.returned (.int k a) = .returned (.int k b) := by rw [h]
theorem ret_bool {a b : Bool} (h : a = b) : Ending.returned (.bool a) = .returned (.bool b) := by rw [h]
theorem at_some {α : Type} (xs : List α) (k : Nat) (h : k < xs.length) : ∃ x, xs[k]? = some x := ⟨xs[k], List.getElem?_eq_getElem h⟩
theorem at_lt {α : Type} {xs : List α} {k : Nat} {x : α} (h : xs[k]? = some x) : k < xs.length := (List.getElem?_eq_some_iff.1 h).1

def nums (xs : List Int) : List Value := xs.map (Value.int .i64)
theorem nums_length (xs : List Int) : (nums xs).length = xs.length := by simp [nums]
theorem nums_at {xs : List Int} {j : Nat} {x : Int} (h : xs[j]? = some x) : (nums xs)[j]? = some (.int .i64 x) := by simp [nums, h]
theorem nums_one (xs : List Int) : ∀ u ∈ nums xs, u.oneCell' = true := ints_oneCell .i64 xs

/-- At an address lie these numbers. -/
def Ints (w : World) (a : Option Addr) (xs : List Int) : Prop := ∀ j x, xs[j]? = some x → ∃ b o, a = some ⟨b, o, none⟩ ∧ w.cell? ⟨b, o + j, none⟩ = some (.int .i64 x)
/-- What lies there lies in a block from B on, which may be written. -/
def Own (B : Nat) (w : World) (a : Option Addr) (n : Nat) : Prop := n = 0 ∨ ∃ b o, a = some ⟨b, o, none⟩ ∧ B ≤ b ∧ b < w.heap.size ∧ ∀ j, w.frozen? ⟨b, j, none⟩ = false
/-- A slice of these numbers, its memory from B on. -/
def Res (B : Nat) (w : World) (v : Value) (xs : List Int) : Prop := ∃ a cap, v = .slice a xs.length cap ∧ Ints w a xs ∧ Own B w a xs.length

theorem Ints.nil (w : World) (a : Option Addr) : Ints w a [] := fun j x h => by simp at h
theorem Ints.on {w w' : World} {a : Option Addr} {xs : List Int} (h : Ints w a xs) (hb : Below w.heap.size w w') : Ints w' a xs := fun j x hx => by
  obtain ⟨b, o, e, hc⟩ := h j x hx
  exact ⟨b, o, e, cell_later hb hc⟩
theorem Ints.drewN {w : World} {a : Option Addr} {xs : List Int} (h : Ints w a xs) (n : Nat) : Ints (w.drewN n) a xs := h
theorem Ints.off {w w' : World} {a : Option Addr} {xs : List Int} {g : Nat} (h : Ints w a xs) (hg : w.grownBy w' (some g)) (hne : ∀ b o, a = some ⟨b, o, none⟩ → xs ≠ [] → b ≠ g) : Ints w' a xs := fun j x hx => by
  obtain ⟨b, o, e, hc⟩ := h j x hx
  refine ⟨b, o, e, hg.cell hc ?_⟩
  have := hne b o e (by intro h0; subst h0; simp at hx)
  simp; omega
theorem Own.on {B : Nat} {w w' : World} {a : Option Addr} {n : Nat} (h : Own B w a n) (hb : Below w.heap.size w w') : Own B w' a n := by
  rcases h with h | ⟨b, o, e, h1, h2, h3⟩
  · exact .inl h
  · exact .inr ⟨b, o, e, h1, by have := hb.size; omega, fun j => (hb.frozen (p := ⟨b, j, none⟩) h2).trans (h3 j)⟩
theorem Own.mono {B B' : Nat} {w : World} {a : Option Addr} {n : Nat} (h : Own B w a n) (hB : B' ≤ B) : Own B' w a n := by
  rcases h with h | ⟨b, o, e, h1, h2, h3⟩
  · exact .inl h
  · exact .inr ⟨b, o, e, by omega, h2, h3⟩
theorem Res.on {B : Nat} {w w' : World} {v : Value} {xs : List Int} (h : Res B w v xs) (hb : Below w.heap.size w w') : Res B w' v xs := by
  obtain ⟨a, cap, rfl, h1, h2⟩ := h
  exact ⟨a, cap, rfl, h1.on hb, h2.on hb⟩
theorem Res.drewN {B : Nat} {w : World} {v : Value} {xs : List Int} (h : Res B w v xs) (n : Nat) : Res B (w.drewN n) v xs := h

theorem owns_ints {w : World} {B : Nat} {v : Value} {n : Nat} {xs : List Int} (h : w.ownsRow B 3 1 v n (nums xs)) : Res B w v xs := by
  have h0 := h
  obtain ⟨hl, ⟨rfl, rfl⟩ | ⟨g, cap, cur, rfl, hg, hc, hn, hm, hz, ht⟩⟩ := h
  · have e : xs = [] := by simpa [nums] using hl
    subst e
    exact ⟨none, 0, rfl, Ints.nil _ _, .inl rfl⟩
  · have e : xs.length = n := by simpa [nums] using hl
    subst e
    have hlt : g < w.heap.size := (Array.getElem?_eq_some_iff.1 hc).1
    refine ⟨_, cap, rfl, fun j x hx => ⟨g, 0, rfl, ?_⟩, .inr ⟨g, 0, rfl, hg, hlt, fun j => by simp [World.frozen?, hc]⟩⟩
    rw [Nat.zero_add, World.ownsRow.cellAt h0 j (by have := at_lt hx; omega), nums_at hx]

/-- What came in as a slice of numbers. -/
def Row (k : IntKind) (w : World) (a : Option Addr) (len cap : Nat) (zs : List Int) : Prop :=
  (a = none ∧ len = 0 ∧ cap = 0 ∧ zs = []) ∨
  ∃ x, a = some x ∧ len ≤ cap ∧ cap ≤ maxLen ∧ zs.length = cap ∧ (∀ i, i < zs.length → w.cell? (x.add i) = some (.int k (zs.getD i 0))) ∧ ∀ n ∈ zs, (Lit.int k n).wf = true

def In64 (xs : List Int) : Prop := ∀ (j : Nat) (x : Int), xs[j]? = some x → -9223372036854775808 ≤ x ∧ x ≤ 9223372036854775807
theorem row_ints {w : World} {a : Option Addr} {len cap : Nat} {zs : List Int} (h : Row .i64 w a len cap zs) : ∃ xs : List Int, xs.length = len ∧ Ints w a xs ∧ In64 xs ∧ len ≤ 9223372036854775807 := by
  rcases h with ⟨rfl, rfl, rfl, rfl⟩ | ⟨x, rfl, hl, hm, hz, hc, hw⟩
  · exact ⟨[], rfl, Ints.nil _ _, fun j x hx => by simp at hx, by omega⟩
  · unfold maxLen at hm
    refine ⟨zs.take len, by simp; omega, fun j y hy => ?_, fun j y hy => ?_, by omega⟩
    · have hj : j < len := by have := at_lt hy; simp at this; omega
      have hy' : zs[j]? = some y := by rwa [List.getElem?_take_of_lt hj] at hy
      have hc' := hc j (by omega)
      obtain ⟨b, o, s⟩ := x
      have hsp : s = none := by simpa [Addr.add] using World.cell?_spot (hc 0 (by omega))
      subst hsp
      refine ⟨b, o, rfl, ?_⟩
      rw [List.getD_eq_getElem?_getD, hy'] at hc'
      rw [← add_plain]
      exact hc'
    · have hj : j < len := by have := at_lt hy; simp at this; omega
      have hy' : zs[j]? = some y := by rwa [List.getElem?_take_of_lt hj] at hy
      have hb := hw y (List.mem_of_getElem? hy')
      have e1 : IntKind.i64.min = -9223372036854775808 := by decide
      have e2 : IntKind.i64.max = 9223372036854775807 := by decide
      simp [Lit.wf] at hb
      omega

theorem int_range {x : Int} (h : (Lit.int .i64 x).wf = true) : -9223372036854775808 ≤ x ∧ x ≤ 9223372036854775807 := by
  have e1 : IntKind.i64.min = -9223372036854775808 := by decide
  have e2 : IntKind.i64.max = 9223372036854775807 := by decide
  simp [Lit.wf] at h
  omega
end Go.Proofs.Ytbapggpnpfiaaaa
