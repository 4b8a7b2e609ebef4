/- What the walks of the laws on lists share: lists in blocks apart, and what stays behind the marks. No condition. -/
import Derived.Test.YtpaijobmoddgpabIntsWalks
namespace Go.Proofs.Ytpaijobmoddgpab
set_option linter.unusedVariables false
open Go.ChangeShapes Go.WideShapes Go.ChangeAt Go.RowKit

/-- Behind a call that hands back a value: new memory alone. -/
def Val (v : Value) (w : World) (e : Ending) (w' : World) : Prop := e = .returned v ∧ Below w.heap.size w w'
/-- A list and a bool. -/
def SB (out : List Int) (ok : Bool) (w : World) (e : Ending) (w' : World) : Prop := ∃ v, e = .returned (.tuple #[v, .bool ok]) ∧ Res w.heap.size w' v out ∧ Below w.heap.size w w'
/-- A list. -/
def S1 (out : List Int) (w : World) (e : Ending) (w' : World) : Prop := ∃ v, e = .returned v ∧ Res w.heap.size w' v out ∧ Below w.heap.size w w'
theorem val_same {v : Value} {w w' : World} {e : Ending} (h : e = .returned v ∧ w = w') : Val v w e w' := by obtain ⟨rfl, rfl⟩ := h; exact ⟨rfl, Below.refl _ _⟩

/-- Two lists lie in different blocks. -/
def Apart (a1 : Option Addr) (n1 : Nat) (a2 : Option Addr) (n2 : Nat) : Prop := n1 = 0 ∨ n2 = 0 ∨ ∃ b1 o1 b2 o2, a1 = some ⟨b1, o1, none⟩ ∧ a2 = some ⟨b2, o2, none⟩ ∧ b1 ≠ b2
/-- Two lists in new memory, apart. -/
def Two (o1 o2 : List Int) (a1 : Option Addr) (c1 : Nat) (a2 : Option Addr) (c2 : Nat) (w w' : World) : Prop :=
  Ints w' a1 o1 ∧ Own w.heap.size w' a1 o1.length ∧ Cap a1 o1.length c1 ∧ Ints w' a2 o2 ∧ Own w.heap.size w' a2 o2.length ∧ Cap a2 o2.length c2 ∧ Apart a1 o1.length a2 o2.length ∧ Below w.heap.size w w'
/-- Two lists. -/
def SS (o1 o2 : List Int) (w : World) (e : Ending) (w' : World) : Prop := ∃ a1 c1 a2 c2, e = .returned (.tuple #[.slice a1 o1.length c1, .slice a2 o2.length c2]) ∧ Two o1 o2 a1 c1 a2 c2 w w'
/-- Two lists and a bool. -/
def SSB (o1 o2 : List Int) (ok : Bool) (w : World) (e : Ending) (w' : World) : Prop :=
  ∃ a1 c1 a2 c2, e = .returned (.tuple #[.slice a1 o1.length c1, .slice a2 o2.length c2, .bool ok]) ∧ Two o1 o2 a1 c1 a2 c2 w w'
theorem Apart.symm {a1 a2 : Option Addr} {n1 n2 : Nat} (h : Apart a1 n1 a2 n2) : Apart a2 n2 a1 n1 := by
  rcases h with h | h | ⟨b1, o1, b2, o2, h1, h2, h3⟩
  · exact .inr (.inl h)
  · exact .inl h
  · exact .inr (.inr ⟨b2, o2, b1, o1, h2, h1, fun e => h3 e.symm⟩)
theorem apart_of {B1 B2 : Nat} {W1 W2 : World} {a1 a2 : Option Addr} {n1 n2 : Nat} (h1 : Own B1 W1 a1 n1) (h2 : Own B2 W2 a2 n2) (hle : W1.heap.size ≤ B2) : Apart a1 n1 a2 n2 := by
  rcases h1 with h1 | ⟨b1, o1, e1, _, g1, _⟩
  · exact .inl h1
  rcases h2 with h2 | ⟨b2, o2, e2, g2, _, _⟩
  · exact .inr (.inl h2)
  exact .inr (.inr ⟨b1, o1, b2, o2, e1, e2, by omega⟩)
theorem past {a1 a2 : Option Addr} {k n1 : Nat} {ys : List Int} {w w' : World} {e : Ending} (hm : MarkPost a2 k ys w e w') (ha : Apart a1 n1 a2 ys.length) :
    n1 = 0 ∨ Below w.heap.size w w' ∨ ∃ g, w.grownBy w' (some g) ∧ ∀ b o, a1 = some ⟨b, o, none⟩ → b ≠ g := by
  obtain ⟨_, _, ⟨_, hb⟩ | ⟨h0, b, o, e2, hg⟩⟩ := hm
  · exact .inr (.inl hb)
  · rcases ha with ha | ha | ⟨b1, o1, b2, o2, e1, e2', hne⟩
    · exact .inl ha
    · exact absurd ha h0
    · rw [e2] at e2'
      simp only [Option.some.injEq, Addr.mk.injEq, and_true] at e2'
      refine .inr (.inr ⟨b, hg, fun b3 o3 e3 => ?_⟩)
      rw [e1] at e3
      simp only [Option.some.injEq, Addr.mk.injEq, and_true] at e3
      omega
theorem ints_past {a1 a2 : Option Addr} {k : Nat} {xs ys : List Int} {w w' : World} {e : Ending} (h : Ints w a1 xs) (hm : MarkPost a2 k ys w e w') (ha : Apart a1 xs.length a2 ys.length) : Ints w' a1 xs := by
  rcases past hm ha with h0 | hb | ⟨g, hg, hne⟩
  · obtain rfl : xs = [] := List.eq_nil_of_length_eq_zero h0
    exact Ints.nil _ _
  · exact h.on hb
  · exact h.off hg fun b o e _ => hne b o e
theorem marks_past {a1 a2 : Option Addr} {k k1 n1 : Nat} {ys : List Int} {w w' : World} {e : Ending} (h : Marks w a1 k1 n1) (hm : MarkPost a2 k ys w e w') (ha : Apart a1 n1 a2 ys.length) : Marks w' a1 k1 n1 := by
  rcases past hm ha with rfl | hb | ⟨g, hg, hne⟩
  · exact fun j hj => by omega
  · exact h.on hb
  · exact h.off hg fun b o e _ => hne b o e
theorem own_past {B k n1 : Nat} {a1 a2 : Option Addr} {ys : List Int} {w w' : World} {e : Ending} (h : Own B w a1 n1) (hm : MarkPost a2 k ys w e w') (ha : Apart a1 n1 a2 ys.length) : Own B w' a1 n1 := by
  rcases past hm ha with rfl | hb | ⟨g, hg, hne⟩
  · exact .inl rfl
  · exact h.on hb
  · rcases h with h | ⟨b, o, e1, h1, h2, h3⟩
    · exact .inl h
    · refine .inr ⟨b, o, e1, h1, by have := hg.size; omega, fun j => ?_⟩
      have hb := hg.block b h2 (by simpa using hne b o e1)
      rw [← h3 j]
      exact World.frozen?_of_block (w := w) (a := ⟨b, j, none⟩) hb
theorem below_past {B B' : Nat} {a : Option Addr} {k : Nat} {ys : List Int} {w0 w w' W : World} {e : Ending} (h : Below B w0 w) (hm : MarkPost a k ys w e w') (ho : Own B' W a ys.length) (hB : B ≤ B') (hs : B ≤ w.heap.size) : Below B w0 w' := by
  obtain ⟨_, _, ⟨_, hb⟩ | ⟨h0, b, o, e2, hg⟩⟩ := hm
  · exact h.trans (hb.mono hs)
  · rcases ho with ho | ⟨b1, o1, e1, g1, _, _⟩
    · exact absurd ho h0
    · rw [e2] at e1
      simp only [Option.some.injEq, Addr.mk.injEq, and_true] at e1
      exact h.grown hg hs (fun j hj => by cases hj; omega)
theorem size_past {a : Option Addr} {k : Nat} {ys : List Int} {w w' : World} {e : Ending} (hm : MarkPost a k ys w e w') : w.heap.size ≤ w'.heap.size := by
  obtain ⟨_, _, ⟨_, hb⟩ | ⟨h0, b, o, e2, hg⟩⟩ := hm
  · exact hb.size
  · exact hg.size

theorem mark_first (B : Nat) (a : Option Addr) (cap : Nat) (xs : List Int) (w : World) (h : Hid (Ints w a xs)) (ho : Hid (Own B w a xs.length)) (hn : xs.length ≤ 1048576) :
    Calls Try.prog 16 #[.slice a xs.length cap, .int .i64 1] w fun e w' => e = .returned (.int .i64 (1 + (xs.length : Int))) ∧ MarkPost a 1 xs w (.returned (.int .i64 ((1 + xs.length : Nat) : Int))) w' := by
  have hc : Calls Try.prog 16 #[.slice a xs.length cap, .int .i64 1] w _ := mark_any B a cap 1 xs w h ho (by omega)
  refine hc.mono ?_
  rintro e w' ⟨rfl, hm⟩
  exact ⟨ret_int (by omega), rfl, hm⟩
theorem mark_next (B n : Nat) (a : Option Addr) (cap : Nat) (xs : List Int) (w : World) (h : Hid (Ints w a xs)) (ho : Hid (Own B w a xs.length)) (hn : xs.length ≤ 1048576) (hn1 : n ≤ 1048576) :
    Calls Try.prog 16 #[.slice a xs.length cap, .int .i64 (1 + (n : Int))] w fun e w' => e = .returned (.int .i64 (1 + (n : Int) + (xs.length : Int))) ∧ MarkPost a (1 + n) xs w (.returned (.int .i64 ((1 + n + xs.length : Nat) : Int))) w' := by
  have hc : Calls Try.prog 16 #[.slice a xs.length cap, .int .i64 ((1 + n : Nat) : Int)] w _ := mark_any B a cap (1 + n) xs w h ho (by omega)
  rw [show ((1 + n : Nat) : Int) = 1 + (n : Int) by omega] at hc
  refine hc.mono ?_
  rintro e w' ⟨rfl, hm⟩
  exact ⟨ret_int (by omega), rfl, hm⟩
theorem held_first (a : Option Addr) (cap n : Nat) (w : World) (h : Hid (Marks w a 1 n)) (hn : n ≤ 1048576) :
    Calls Try.prog 17 #[.slice a n cap, .int .i64 1] w fun e w' => e = .returned (.int .i64 (1 + (n : Int))) ∧ Below w.heap.size w w' := by
  have hc : Calls Try.prog 17 #[.slice a n cap, .int .i64 1] w _ := held_any a cap 1 n w h (by omega)
  refine hc.mono ?_
  rintro e w' ⟨rfl, hm⟩
  exact ⟨ret_int (by omega), hm⟩
theorem held_next (a : Option Addr) (cap n1 n : Nat) (w : World) (h : Hid (Marks w a (1 + n1) n)) (hn : n ≤ 1048576) (hn1 : n1 ≤ 1048576) :
    Calls Try.prog 17 #[.slice a n cap, .int .i64 (1 + (n1 : Int))] w fun e w' => e = .returned (.int .i64 (1 + (n1 : Int) + (n : Int))) ∧ Below w.heap.size w w' := by
  have hc : Calls Try.prog 17 #[.slice a n cap, .int .i64 ((1 + n1 : Nat) : Int)] w _ := held_any a cap (1 + n1) n w h (by omega)
  rw [show ((1 + n1 : Nat) : Int) = 1 + (n1 : Int) by omega] at hc
  refine hc.mono ?_
  rintro e w' ⟨rfl, hm⟩
  exact ⟨ret_int (by omega), hm⟩
theorem mark_third (B n1 n2 : Nat) (a : Option Addr) (cap : Nat) (xs : List Int) (w : World) (h : Hid (Ints w a xs)) (ho : Hid (Own B w a xs.length)) (hn : xs.length ≤ 1048576) (hn1 : n1 + n2 ≤ 1048576) :
    Calls Try.prog 16 #[.slice a xs.length cap, .int .i64 (1 + (n1 : Int) + (n2 : Int))] w fun e w' => e = .returned (.int .i64 (1 + (n1 : Int) + (n2 : Int) + (xs.length : Int))) ∧ MarkPost a (1 + (n1 + n2)) xs w (.returned (.int .i64 ((1 + (n1 + n2) + xs.length : Nat) : Int))) w' := by
  have hc : Calls Try.prog 16 #[.slice a xs.length cap, .int .i64 ((1 + (n1 + n2) : Nat) : Int)] w _ := mark_any B a cap (1 + (n1 + n2)) xs w h ho (by omega)
  rw [show ((1 + (n1 + n2) : Nat) : Int) = 1 + (n1 : Int) + (n2 : Int) by omega] at hc
  refine hc.mono ?_
  rintro e w' ⟨rfl, hm⟩
  exact ⟨ret_int (by omega), rfl, hm⟩
theorem held_third (a : Option Addr) (cap n1 n2 n : Nat) (w : World) (h : Hid (Marks w a (1 + (n1 + n2)) n)) (hn : n ≤ 1048576) (hn1 : n1 + n2 ≤ 1048576) :
    Calls Try.prog 17 #[.slice a n cap, .int .i64 (1 + (n1 : Int) + (n2 : Int))] w fun e w' => e = .returned (.int .i64 (1 + (n1 : Int) + (n2 : Int) + (n : Int))) ∧ Below w.heap.size w w' := by
  have hc : Calls Try.prog 17 #[.slice a n cap, .int .i64 ((1 + (n1 + n2) : Nat) : Int)] w _ := held_any a cap (1 + (n1 + n2)) n w h (by omega)
  rw [show ((1 + (n1 + n2) : Nat) : Int) = 1 + (n1 : Int) + (n2 : Int) by omega] at hc
  refine hc.mono ?_
  rintro e w' ⟨rfl, hm⟩
  exact ⟨ret_int (by omega), hm⟩
end Go.Proofs.Ytpaijobmoddgpab
