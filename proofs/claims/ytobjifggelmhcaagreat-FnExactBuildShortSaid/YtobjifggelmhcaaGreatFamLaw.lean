/- What the walks of laws over Families share: variables of one cell, helpers of the laws at their first calls. Conditions: lengths that fit. -/
import Derived.Test.YtobjifggelmhcaaGreatFamKit
import Derived.Deep.DeepCutAuto
import Derived.Deep.CutRange
import Derived.Deep.RegionLaw
import Derived.ChangeSame
namespace Go.Proofs.YtobjifggelmhcaaGreat
open Go.ChangeShapes Go.WideShapes Go.ChangeAt Go.RowKit
set_option linter.unusedVariables false

theorem one_of {cs : Array Value} (h : cs.size = 1) : ∃ c, cs = #[c] := by
  obtain ⟨l⟩ := cs
  match l, h with
  | [c], _ => exact ⟨c, rfl⟩
/-- A variable of one cell in a block of its own. -/
def At1 (T : TypeId) (w : World) (G : Nat) (u : Value) : Prop := w.heap[G]? = some (.cells #[u] T (0, 0))
theorem At1.lt {T : TypeId} {w : World} {G : Nat} {u : Value} (h : At1 T w G u) : G < w.heap.size := (Array.getElem?_eq_some_iff.1 h).1
theorem At1.on {T : TypeId} {w w' : World} {G : Nat} {u : Value} (h : At1 T w G u) (hb : Below w.heap.size w w') : At1 T w' G u := (hb.block G h.lt).trans h
theorem At1.cell {T : TypeId} {w : World} {G : Nat} {u : Value} (h : At1 T w G u) : w.cell? ⟨G, 0, none⟩ = some u := by rw [cell_of_row w G 0 _ _ _ h]; rfl
theorem at1_new (T : TypeId) (w : World) (u : Value) : At1 T (w.alloc (.cells #[u] T)) w.heap.size u := heap_alloc_new w _
theorem alloc_lt (w : World) (o : Obj) : w.heap.size < (w.alloc o).heap.size := by simp
theorem At1.second {T U : TypeId} (w : World) (u v : Value) : At1 U ((w.alloc (.cells #[u] T)).alloc (.cells #[v] U)) (w.heap.size + 1) v := heap_alloc2_new w _ _
theorem at1_old {T U : TypeId} (w : World) (u v : Value) : At1 T ((w.alloc (.cells #[u] T)).alloc (.cells #[v] U)) w.heap.size u := heap_alloc2_old w _ _
theorem At1.past {T : TypeId} {w w' : World} {G k : Nat} {u : Value} {a : Option Addr} {ys : List Int} {e : Ending} (h : At1 T w G u) (hm : MarkPost a k ys w e w') (hne : ∀ b o, ys.length ≠ 0 → a = some ⟨b, o, none⟩ → b ≠ G) : At1 T w' G u := by
  obtain ⟨_, _, ⟨_, hb⟩ | ⟨h0, b, o, e2, hg⟩⟩ := hm
  · exact h.on hb
  · exact (hg.block G h.lt (by simpa using fun e3 : G = b => hne b o h0 e2 e3.symm)).trans h
theorem far_low {B G n : Nat} {W : World} {a : Option Addr} (ho : Own B W a n) (hG : G < B) : ∀ b o, n ≠ 0 → a = some ⟨b, o, none⟩ → b ≠ G := fun b o h0 e => by
  rcases ho with h | ⟨b1, o1, e1, h1, -, -⟩
  · exact absurd h h0
  · rw [e] at e1; simp only [Option.some.injEq, Addr.mk.injEq, and_true] at e1; omega
theorem far_high {B G n : Nat} {W : World} {a : Option Addr} (ho : Own B W a n) (hG : W.heap.size ≤ G) : ∀ b o, n ≠ 0 → a = some ⟨b, o, none⟩ → b ≠ G := fun b o h0 e => by
  rcases ho with h | ⟨b1, o1, e1, -, h2, -⟩
  · exact absurd h h0
  · rw [e] at e1; simp only [Option.some.injEq, Addr.mk.injEq, and_true] at e1; omega
theorem sz_first (a : Option Addr) (n cap : Nat) (w : World) (hn : n ≤ 1048576) :
    Calls Tryz.prog 5 #[.agg #[.slice a n cap], .int .i64 1048576] w fun e w' => e = .returned (.int .i64 (1048576 - (n : Int))) ∧ Below w.heap.size w w' := by
  have h := sz_any a n cap 1048576 w (by omega) (Nat.le_refl _)
  refine Calls.mono h ?_
  rintro e w' ⟨rfl, hb⟩
  exact ⟨ret_int (by rw [if_pos hn]; omega), hb⟩
theorem sz_big (a : Option Addr) (n cap : Nat) (w : World) (hn : 1048576 < n) (hl : n ≤ 9223372036854775807) :
    Calls Tryz.prog 5 #[.agg #[.slice a n cap], .int .i64 1048576] w fun e w' => e = .returned (.int .i64 (-1)) ∧ Below w.heap.size w w' := by
  have h := sz_any a n cap 1048576 w hl (Nat.le_refl _)
  refine Calls.mono h ?_
  rintro e w' ⟨rfl, hb⟩
  exact ⟨ret_int (if_neg (by omega)), hb⟩
theorem sz_next (a : Option Addr) (m n cap : Nat) (w : World) (hn : m + n ≤ 1048576) :
    Calls Tryz.prog 5 #[.agg #[.slice a n cap], .int .i64 (1048576 - (m : Int))] w fun e w' => e = .returned (.int .i64 (1048576 - (m : Int) - (n : Int))) ∧ Below w.heap.size w w' := by
  have h := sz_any a n cap (1048576 - m) w (by omega) (by omega)
  rw [show ((1048576 - m : Nat) : Int) = 1048576 - (m : Int) by omega] at h
  refine Calls.mono h ?_
  rintro e w' ⟨rfl, hb⟩
  exact ⟨ret_int (by rw [if_pos (by omega)]; omega), hb⟩
theorem sz_over (a : Option Addr) (m n cap : Nat) (w : World) (hm : m ≤ 1048576) (hn : 1048576 < m + n) (hl : n ≤ 9223372036854775807) :
    Calls Tryz.prog 5 #[.agg #[.slice a n cap], .int .i64 (1048576 - (m : Int))] w fun e w' => e = .returned (.int .i64 (-1)) ∧ Below w.heap.size w w' := by
  have h := sz_any a n cap (1048576 - m) w hl (by omega)
  rw [show ((1048576 - m : Nat) : Int) = 1048576 - (m : Int) by omega] at h
  refine Calls.mono h ?_
  rintro e w' ⟨rfl, hb⟩
  exact ⟨ret_int (if_neg (by omega)), hb⟩
theorem markFam_first (B : Nat) (a : Option Addr) (cap : Nat) (xs : List Int) (w : World) (h : Hid (Ints w a xs)) (ho : Hid (Own B w a xs.length)) (hn : xs.length ≤ 1048576) :
    Calls Tryz.prog 11 #[.agg #[.slice a xs.length cap], .int .i64 1] w fun e w' => e = .returned (.int .i64 (1 + (xs.length : Int))) ∧ MarkPost a 1 xs w (.returned (.int .i64 ((1 + xs.length : Nat) : Int))) w' := by
  have hc : Calls Tryz.prog 11 #[.agg #[.slice a xs.length cap], .int .i64 1] w _ := markFam_any B a cap 1 xs w h ho (by omega)
  refine hc.mono ?_
  rintro e w' ⟨rfl, hm⟩
  exact ⟨ret_int (by omega), rfl, hm⟩
theorem markFam_next (B n : Nat) (a : Option Addr) (cap : Nat) (xs : List Int) (w : World) (h : Hid (Ints w a xs)) (ho : Hid (Own B w a xs.length)) (hn : xs.length ≤ 1048576) (hn1 : n ≤ 1048576) :
    Calls Tryz.prog 11 #[.agg #[.slice a xs.length cap], .int .i64 (1 + (n : Int))] w fun e w' => e = .returned (.int .i64 (1 + (n : Int) + (xs.length : Int))) ∧ MarkPost a (1 + n) xs w (.returned (.int .i64 ((1 + n + xs.length : Nat) : Int))) w' := by
  have hc : Calls Tryz.prog 11 #[.agg #[.slice a xs.length cap], .int .i64 ((1 + n : Nat) : Int)] w _ := markFam_any B a cap (1 + n) xs w h ho (by omega)
  rw [show ((1 + n : Nat) : Int) = 1 + (n : Int) by omega] at hc
  refine hc.mono ?_
  rintro e w' ⟨rfl, hm⟩
  exact ⟨ret_int (by omega), rfl, hm⟩

end Go.Proofs.YtobjifggelmhcaaGreat
