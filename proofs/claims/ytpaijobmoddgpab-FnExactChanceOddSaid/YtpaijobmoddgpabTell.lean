/- Tables of impl's own type in a block; contracts: impl's fallTable.deciders, isLeast, isGreatest. Contracts: impl.setsThat with isLeast and isGreatest of a table. Contract: impl.tableThat with whatever function value tells of each set. No condition but what the function tells. Conditions: a set from 0 to 63. -/
import Derived.Test.YtpaijobmoddgpabTabKit
import Derived.Shelf.Abstract
namespace Go.Proofs.Ytpaijobmoddgpab
open Go.ChangeShapes Go.WideShapes Go.ChangeAt Go.RowKit
set_option linter.unusedVariables false

/-- A table in a block of its own. -/
def TabF (w : World) (G : Nat) (t : Nat → Bool) : Prop := w.heap[G]? = some (.cells (bools t) 39 (0, 0))
theorem TabF.lt {w : World} {G : Nat} {t : Nat → Bool} (h : TabF w G t) : G < w.heap.size := (Array.getElem?_eq_some_iff.1 h).1
theorem TabF.on {w w' : World} {G : Nat} {t : Nat → Bool} (h : TabF w G t) (hb : Below w.heap.size w w') : TabF w' G t := (hb.block G h.lt).trans h
theorem TabF.cell {w : World} {G : Nat} {t : Nat → Bool} (h : TabF w G t) {i : Nat} (hi : i < 64) : w.cell? ⟨G, i, none⟩ = some (.bool (t i)) := by
  rw [cell_of_row w G i _ _ _ h]
  exact arr64_at _ hi
theorem TabF.free {w : World} {G : Nat} {t : Nat → Bool} (h : TabF w G t) (i : Nat) : w.frozen? ⟨G, i, none⟩ = false := frozen_of_row w G i _ _ h
theorem TabF.set {w : World} {G k : Nat} {t : Nat → Bool} (h : TabF w G (upTo t k)) (hk : k < 64) : TabF (w.setCell ⟨G, k, none⟩ (.bool (t k))) G (upTo t (k + 1)) := by
  rw [TabF, heap_setCell_same w G k _ _ _ h, bools_set t k hk]
theorem tabF_new (w : World) (t : Nat → Bool) : TabF (w.alloc (.cells (bools t) 39)) w.heap.size t := heap_alloc_new w _
theorem info64f : (Try.prog.info? 39).map (·.size) = some 64 := by kernel_rfl
theorem tabF_row {w : World} {G : Nat} {t : Nat → Bool} {cs : Array Value} (h : w.heap[G]? = some (.cells cs 39 (0, 0))) : TabF (w.setRow G (bools t)) G t := setRow_heap w G _ _ _ _ h
theorem TabF.other {w : World} {G H : Nat} {t : Nat → Bool} {cs : Array Value} (h : TabF w G t) (hne : G ≠ H) : TabF (w.setRow H cs) G t := (setRow_other w H G cs hne).trans h
theorem TabF.off {w : World} {G H i : Nat} {t : Nat → Bool} {v : Value} (h : TabF w G t) (hne : G ≠ H) : TabF (w.setCell ⟨H, i, none⟩ v) G t := (heap_setCell_other w ⟨H, i, none⟩ G v hne).trans h
/-- A table's variable and the result's, both in new blocks. -/
def Two64F (w wr : World) (t u : Nat → Bool) : Prop := TabF wr (w.heap.size + 1) t ∧ TabF wr w.heap.size u ∧ Below w.heap.size w wr
theorem two64F_start (w : World) : Two64F w (((w.alloc (.cells (bools fun _ => false) 39)).alloc (.cells (bools fun _ => false) 39)).setRow (w.heap.size + 1) (bools fun _ => false)) (fun _ => false) (fun _ => false) := by
  have hb : Below w.heap.size w ((w.alloc (.cells (bools fun _ => false) 39)).alloc (.cells (bools fun _ => false) 39)) := ((Below.refl _ _).alloc (Nat.le_refl _) _).alloc (by simp) _
  have h1 : TabF ((w.alloc (.cells (bools fun _ => false) 39)).alloc (.cells (bools fun _ => false) 39)) (w.heap.size + 1) (fun _ => false) := heap_alloc2_new _ _ _
  have h2 : TabF ((w.alloc (.cells (bools fun _ => false) 39)).alloc (.cells (bools fun _ => false) 39)) w.heap.size (fun _ => false) := heap_alloc2_old _ _ _
  exact ⟨tabF_row h1, h2.other (by omega), below_setRow hb (by omega) _⟩
theorem Two64F.later {w wr w1 : World} {t u : Nat → Bool} (h : Two64F w wr t u) (hb : Below wr.heap.size wr w1) : Two64F w w1 t u := ⟨h.1.on hb, h.2.1.on hb, h.2.2.trans (hb.mono h.2.2.size)⟩
theorem Two64F.set {w wr : World} {t u : Nat → Bool} {k : Nat} (h : Two64F w wr (upTo t k) u) (hk : k < 64) : Two64F w (wr.setCell ⟨w.heap.size + 1, k, none⟩ (.bool (t k))) (upTo t (k + 1)) u :=
  ⟨h.1.set hk, h.2.1.off (by omega), h.2.2.setCell (p := ⟨w.heap.size + 1, k, none⟩) (by simp) _⟩
theorem tabF_load {w : World} {G : Nat} {t : Nat → Bool} (h : TabF w G t) : (loadVar 39 ⟨G, 0, none⟩).run Try.prog w = .ok (.agg (bools t)) w :=
  run_loadVar_row w G 39 39 _ (0, 0) _ h Try.underlying39 rfl info64f
/-- A table in a new block. -/
theorem tabF_box (w : World) (t : Nat → Bool) : TabF (w.alloc (.cells (bools t) 39)) w.heap.size t ∧ Below w.heap.size w (w.alloc (.cells (bools t) 39)) :=
  ⟨tabF_new w t, (Below.refl _ _).alloc (Nat.le_refl _) _⟩
/-- A whole table loaded by an operation whose guard says yes. -/
theorem wpList_load_if {ops : Array Oper} {rest : List Oper} {o : Oper} {a : Act} {w : World} {Q : Exit → Act → World → Prop} (hw : Region.wanted o (yielded ops a.tmps) = true) (x : Operand) (ho : o.op = .load 39 x)
    (g : Nat) (hx : a.eval x = .pointer (some ⟨g, 0, none⟩)) (t : Nat → Bool) (hg : TabF w g t) (h : wpList Try.prog ops Q rest (a.put o.dst (.agg (bools t))) w) : wpList Try.prog ops Q (o :: rest) a w :=
  BigFrame.wpList_want hw fun _ hK => wp_load_row 39 x ho g hx 39 (bools t) (0, 0) _ hg Try.underlying39 rfl info64f (hK _ _ h)

end Go.Proofs.Ytpaijobmoddgpab

namespace Go.Proofs.Ytpaijobmoddgpab
open Go.ChangeShapes Go.WideShapes Go.ChangeAt Go.RowKit
set_option linter.unusedVariables false


end Go.Proofs.Ytpaijobmoddgpab

namespace Go.Proofs.Ytpaijobmoddgpab
open Go.ChangeShapes Go.WideShapes Go.ChangeAt Go.RowKit
set_option linter.unusedVariables false

/-- What a function value tells of the sets, in every world that leaves alone what lay before. -/
def Tells (g : Nat) (bs cs : Array Value) (t : Nat → Bool) (w : World) : Prop :=
  ∀ (s : Nat) (W : World), s < 64 → Below w.heap.size w W → Calls Try.prog g (bs ++ #[.int .i64 (s : Int)] ++ cs) W (Val (.bool (t s)) W)
theorem Tells.on {g : Nat} {bs cs : Array Value} {t : Nat → Bool} {w w' : World} (h : Tells g bs cs t w) (hb : Below w.heap.size w w') : Tells g bs cs t w' :=
  fun s W hs hW => h s W hs (hb.trans (hW.mono hb.size))
set_option maxRecDepth 100000 in
set_option maxHeartbeats 800000 in
theorem tableThat_any (g : Nat) (bs cs : Array Value) (t : Nat → Bool) (w : World) (eg : ∀ args w, (callFunc g args).run Try.prog w = .ok (.enter g args) w) (hp : Hid (Tells g bs cs t w)) :
    Calls Try.prog 66 #[.func (.func g) bs cs] w (Val (.agg (bools t)) w) := by
  have H0 := Lib.hid (two64F_start w)
  go_enter Try.func66, Try.ntmps66
  go_wp2_with (refine wpList_store_row rfl 39 _ _ rfl (w.heap.size + 1) (bools fun _ => false) rfl (by rw [bools_zero]; rfl) 39 (bools fun _ => false) (by rw [bools_zero]; exact heap_alloc2_new _ _ _) info64f rfl (bools_one _) ?_)
  rw [← bools_zero]
  obtain ⟨W, hW⟩ : ∃ W, W = (((w.alloc (.cells (bools fun _ => false) 39)).alloc (.cells (bools fun _ => false) 39)).setRow (w.heap.size + 1) (bools fun _ => false)) := ⟨_, rfl⟩
  rw [← hW] at H0 ⊢
  clear hW
  go_loopw [4, 6] (fun _ i wr => ∃ k : Nat, k ≤ 64 ∧ i = .int .i64 k ∧ Two64F w wr (upTo t k) (fun _ => false)) (fun _ i _ => 64 - (intOf i).toNat)
  case atStart => exact ⟨0, Nat.zero_le _, rfl, by rw [upTo_zero]; exact H0.out⟩
  case round =>
    obtain ⟨k, hk, rfl, hrel⟩ := hrel
    by_cases hlt : k < 64
    · have HK := Lib.hid hrel
      have hi : (k : Int) < 64 := by omega
      have hi0 : (0 : Int) ≤ (k : Int) := by omega
      have hcall := hp.out k wr hlt hrel.2.2
      clear hrel
      go_wp2_with fail
      refine hcall.mono ?_
      rintro e w1 ⟨rfl, hb⟩
      have H1 := Lib.hid (HK.out.later hb)
      have hc : w1.cell? ⟨w.heap.size + 1, k, none⟩ = some (.bool (upTo t k k)) := H1.out.1.cell hlt
      have hf : w1.frozen? ⟨w.heap.size + 1, k, none⟩ = false := H1.out.1.free k
      have H2 := Lib.hid (H1.out.set hlt)
      clear hb
      go_wp2_with fail
      go_roundw
      case rel => exact ⟨k + 1, by omega, by go_num, H2.out⟩
      case measure => simp [intOf]; omega
    · obtain rfl : k = 64 := by omega
      have T1 := hrel.1
      have T2 := hrel.2.1
      have HB := Lib.hid hrel.2.2
      rw [TabF, upTo_all] at T1
      have HT := Lib.hid T1
      have HT2 := Lib.hid T2
      have HF := Lib.hid (tabF_row (t := t) T2)
      have HB2 := Lib.hid (below_setRow HB.out (Nat.le_refl _) (bools t))
      clear T1 T2 hrel
      go_wp2_with (first
        | (refine wpList_load_row rfl 39 _ rfl (w.heap.size + 1) rfl 39 (bools t) (0, 0) _ HT.out Try.underlying39 rfl info64f ?_)
        | (refine wpList_store_row rfl 39 _ _ rfl w.heap.size (bools t) rfl rfl 39 _ HT2.out info64f rfl (bools_one _) ?_))
      exact bodyPost_ret (v := .agg (bools t)) (results_cell_row rfl _ _ w.heap.size 39 _ (0, 0) _ rfl HF.out Try.underlying39 rfl info64f) rfl ⟨rfl, HB2.out⟩

end Go.Proofs.Ytpaijobmoddgpab
