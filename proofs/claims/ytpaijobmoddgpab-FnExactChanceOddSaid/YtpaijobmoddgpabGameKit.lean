/- Positions of games in memory. Contracts: impl's position.hangs, position.behind, isPart of any number. Conditions: sets from 0 to 63. -/
import Derived.Test.YtpaijobmoddgpabGameMath
import Derived.Test.YtpaijobmoddgpabWindKit
import Derived.Test.YtpaijobmoddgpabFalls
import Derived.Test.YtpaijobmoddgpabSizeOf
import Derived.StillTailTactics
namespace Go.Proofs.Ytpaijobmoddgpab
open Go.ChangeShapes Go.WideShapes Go.ChangeAt Go.RowKit
set_option linter.unusedVariables false

/-- A struct that is built, as a step. -/
theorem wpList_build {ops : Array Oper} {rest : List Oper} {o : Oper} {a : Act} {w : World} {Q : Exit → Act → World → Prop} (hgd : o.guard = none) (T : TypeId) (parts : List (Nat × Operand)) (ho : o.op = .build T parts.toArray) (vals : List (Nat × Value)) (hv : parts.map (fun p => (p.1, a.eval p.2)) = vals) (cells : Array Value)
    (hb : (Instr.build T vals.toArray).run Try.prog w = .ok (.agg cells) w) (h : wpList Try.prog ops Q rest (a.put o.dst (.agg cells)) w) : wpList Try.prog ops Q (o :: rest) a w :=
  wpList_plain hgd fun _ hK => by
    have hm : (parts.toArray.map fun p => (p.1, a.eval p.2)) = vals.toArray := by rw [← hv]; simp
    unfold Oper.wp execOp
    simp only [ho, hm, Sem.run_bind, Sem.run_pure, Result.andThen_ok, hb]
    exact hK _ _ h
/-- A whole row loaded by an operation whose guard says yes. -/
theorem wpList_load9_if {ops : Array Oper} {rest : List Oper} {o : Oper} {a : Act} {w : World} {Q : Exit → Act → World → Prop} (hw : Region.wanted o (yielded ops a.tmps) = true) (T : TypeId) (x : Operand) (ho : o.op = .load T x)
    (g : Nat) (hx : a.eval x = .pointer (some ⟨g, 0, none⟩)) (cs : Array Value) (hl : (loadVar T ⟨g, 0, none⟩).run Try.prog w = .ok (.agg cs) w) (h : wpList Try.prog ops Q rest (a.put o.dst (.agg cs)) w) : wpList Try.prog ops Q (o :: rest) a w :=
  BigFrame.wpList_want hw fun _ hK => by
    unfold Oper.wp execOp
    simp only [ho, hx, Instr.loadAt, Instr.sureAddr, Sem.run_bind, Sem.run_pure, Result.andThen_ok, hl]
    exact hK _ _ h
def posV (t : Nat → Bool) (m s : Nat) : Nat → Value := fun i => if i < 64 then .bool (t i) else if i = 64 then .int .i64 (m : Int) else .int .i64 (s : Int)
/-- A position: the table, the nails of the game, those that are out. -/
def posC (t : Nat → Bool) (m s : Nat) : Array Value := arrN 66 (posV t m s)
theorem posC_one (t : Nat → Bool) (m s : Nat) : (posC t m s).all (·.oneCell') = true := arrN_one fun i => by unfold posV; split <;> (try split) <;> rfl
theorem posC_size (t : Nat → Bool) (m s : Nat) : (posC t m s).size = 66 := arrN_size _ _
theorem posC_bit (t : Nat → Bool) (m s : Nat) {i : Nat} (h : i < 64) : (posC t m s)[i]? = some (.bool (t i)) := (arrN_at _ (by omega)).trans (by unfold posV; rw [if_pos h])
theorem posC_nails (t : Nat → Bool) (m s : Nat) : (posC t m s)[64]? = some (.int .i64 (m : Int)) := arrN_at _ (by omega)
theorem posC_out (t : Nat → Bool) (m s : Nat) : (posC t m s)[65]? = some (.int .i64 (s : Int)) := arrN_at _ (by omega)
theorem posC_set (t : Nat → Bool) (m s u : Nat) : (posC t m s).setIfInBounds 65 (.int .i64 (u : Int)) = posC t m u := by
  unfold posC
  rw [arrN_set _ _ (by omega)]
  refine arrN_cong fun i hi => ?_
  unfold posV
  by_cases e : i = 65
  · subst e; rfl
  · rw [if_neg e]
    by_cases e2 : i < 64
    · rw [if_pos e2, if_pos e2]
    · rw [if_neg e2, if_neg e2, if_pos (by omega), if_pos (by omega)]
def PosAt (w : World) (G : Nat) (t : Nat → Bool) (m s : Nat) : Prop := w.heap[G]? = some (.cells (posC t m s) 41 (0, 0))
theorem PosAt.lt {w : World} {G : Nat} {t : Nat → Bool} {m s : Nat} (h : PosAt w G t m s) : G < w.heap.size := (Array.getElem?_eq_some_iff.1 h).1
theorem PosAt.on {w w' : World} {G : Nat} {t : Nat → Bool} {m s : Nat} (h : PosAt w G t m s) (hb : Below w.heap.size w w') : PosAt w' G t m s := (hb.block G h.lt).trans h
theorem PosAt.past {w w' : World} {B G : Nat} {t : Nat → Bool} {m s : Nat} (h : PosAt w G t m s) (hb : Below B w w') (hG : G < B) : PosAt w' G t m s := (hb.block G hG).trans h
theorem PosAt.bit {w : World} {G : Nat} {t : Nat → Bool} {m s : Nat} (h : PosAt w G t m s) {i : Nat} (hi : i < 64) : w.cell? ⟨G, i, none⟩ = some (.bool (t i)) := (cell_of_row w G i _ _ _ h).trans (posC_bit t m s hi)
theorem PosAt.nails {w : World} {G : Nat} {t : Nat → Bool} {m s : Nat} (h : PosAt w G t m s) : w.cell? ⟨G, 64, none⟩ = some (.int .i64 (m : Int)) := (cell_of_row w G 64 _ _ _ h).trans (posC_nails t m s)
theorem PosAt.out {w : World} {G : Nat} {t : Nat → Bool} {m s : Nat} (h : PosAt w G t m s) : w.cell? ⟨G, 65, none⟩ = some (.int .i64 (s : Int)) := (cell_of_row w G 65 _ _ _ h).trans (posC_out t m s)
theorem PosAt.free {w : World} {G : Nat} {t : Nat → Bool} {m s : Nat} (h : PosAt w G t m s) (i : Nat) : w.frozen? ⟨G, i, none⟩ = false := frozen_of_row w G i _ _ h
theorem PosAt.set {w : World} {G : Nat} {t : Nat → Bool} {m s : Nat} (h : PosAt w G t m s) (u : Nat) : PosAt (w.setCell ⟨G, 65, none⟩ (.int .i64 (u : Int))) G t m u := by
  rw [PosAt, heap_setCell_same w G 65 _ _ _ h, posC_set]
theorem posAt_row {w : World} {G : Nat} {t : Nat → Bool} {m s : Nat} {cs : Array Value} (h : w.heap[G]? = some (.cells cs 41 (0, 0))) : PosAt (w.setRow G (posC t m s)) G t m s := setRow_heap w G _ _ _ _ h
theorem posAt_new (w : World) (t : Nat → Bool) (m s : Nat) : PosAt (w.alloc (.cells (posC t m s) 41)) w.heap.size t m s := heap_alloc_new w _
set_option maxRecDepth 100000 in
theorem infoPos : (Try.prog.info? 41).map (·.size) = some 66 := by kernel_rfl
theorem infoPosC (t : Nat → Bool) (m s : Nat) : (Try.prog.info? 41).map (·.size) = some (posC t m s).size := by rw [posC_size]; exact infoPos
theorem pos_load {w : World} {G : Nat} {t : Nat → Bool} {m s : Nat} (h : PosAt w G t m s) : (loadVar 41 ⟨G, 0, none⟩).run Try.prog w = .ok (.agg (posC t m s)) w :=
  run_loadVar_row w G 41 41 _ (0, 0) _ h Try.underlying41 rfl (infoPosC t m s)
set_option maxRecDepth 100000 in
theorem built_pos (t : Nat → Bool) (m s : Nat) : Try.prog.built 41 [(0, .agg (bools t)), (1, .int .i64 (m : Int)), (2, .int .i64 (s : Int))] = some (posC t m s) := by kernel_rfl
theorem run_build_pos (t : Nat → Bool) (m s : Nat) (w : World) : (Instr.build 41 #[(0, .agg (bools t)), (1, .int .i64 (m : Int)), (2, .int .i64 (s : Int))]).run Try.prog w = .ok (.agg (posC t m s)) w := run_build w _ _ _ (built_pos t m s)
theorem posZ_zero : posC (fun _ => false) 0 0 = Try.zeroCells41 := by kernel_rfl
set_option maxRecDepth 100000 in
theorem hangs_any (t : Nat → Bool) (m s : Nat) (w : World) (hs : s < 64) :
    Calls Try.prog 33 #[.agg (posC t m s)] w (Val (.bool (!t s)) w) := by
  have h0 := posAt_new w t m s
  have hb := (Below.refl w.heap.size w).alloc (Nat.le_refl _) (.cells (posC t m s) 41)
  have HB := Lib.hid hb
  have q1 := h0.out
  have q2 := h0.bit hs
  have hi : (s : Int) < 64 := by omega
  have hi0 : (0 : Int) ≤ (s : Int) := by omega
  clear h0 hb
  go_enter Try.func33, Try.ntmps33
  go_wp2_with fail
  go_ret
  exact ⟨rfl, HB.out⟩
theorem pow_nat (p : Nat) : (2 : Int) ^ p = ((2 ^ p : Nat) : Int) := by push_cast; rfl
theorem pos_two (w : World) (t : Nat → Bool) (m s : Nat) : PosAt ((w.alloc (.cells (posC t m s) 41)).alloc (.cells (posC (fun _ => false) 0 0) 41)) w.heap.size t m s ∧
    PosAt ((w.alloc (.cells (posC t m s) 41)).alloc (.cells (posC (fun _ => false) 0 0) 41)) (w.heap.size + 1) (fun _ => false) 0 0 ∧
    Below w.heap.size w ((w.alloc (.cells (posC t m s) 41)).alloc (.cells (posC (fun _ => false) 0 0) 41)) := by
  refine ⟨(heap_alloc_old _ _ (by simp)).trans (posAt_new w t m s), heap_alloc2_new _ _ _, ((Below.refl _ _).alloc (Nat.le_refl _) _).alloc (by simp) _⟩
set_option maxRecDepth 100000 in
set_option maxHeartbeats 800000 in
theorem behind_any (t : Nat → Bool) (m s p : Nat) (w : World) (hs : s < 64) (hp : p < 6) :
    Calls Try.prog 71 #[.agg (posC t m s), .int .i64 ((p : Int) + 1)] w (Val (.agg (posC t m (s ||| 2 ^ p))) w) := by
  obtain ⟨q, hq⟩ : ∃ q : Nat, q = 2 ^ p := ⟨_, rfl⟩
  have hpow : (2 : Int) ^ p = (q : Int) := by rw [hq, pow_nat]
  have hq64 : q < 64 := by rw [hq]; exact Nat.pow_lt_pow_right (n := 6) (by omega) hp
  have hor := or_small s q hs hq64
  rw [← hq]
  clear hq
  obtain ⟨W, hW⟩ : ∃ W, W = (w.alloc (.cells (posC t m s) 41)).alloc (.cells (posC (fun _ => false) 0 0) 41) := ⟨_, rfl⟩
  obtain ⟨h1, h2, h3⟩ := pos_two w t m s
  rw [← hW] at h1 h2 h3
  have H1 := Lib.hid h1
  have H2 := Lib.hid h2
  have H3 := Lib.hid h3
  clear h1 h2 h3
  rw [posZ_zero] at hW
  go_enter Try.func71, Try.ntmps71
  go_wp2_with fail
  rw [← hW]
  clear hW
  refine wp_region_still_tail 6 (by kernel_rfl) (by kernel_rfl) ?_
  simp only [List.take_succ_cons, List.take_zero, List.drop_succ_cons, List.drop_zero]
  change wpStill _ _ (World.drew _) (fun a' => wpList _ _ _ _ a' (World.drew _)) _ _
  have K1 : Hid (PosAt W.drew w.heap.size t m s) := Lib.hid H1.out
  have K2 : Hid (PosAt W.drew (w.heap.size + 1) (fun _ => false) 0 0) := Lib.hid H2.out
  have K3 : Hid (Below w.heap.size w W.drew) := Lib.hid H3.out.drew
  generalize (World.drew _) = V at K1 K2 K3 ⊢
  clear H1 H2 H3
  have q1 := K1.out.out
  have q2 := K1.out.free 65
  repeat still_step
  still_call ((nailSet_any p q V (by omega) hpow).mono fun _ _ h => ⟨h.1, h.2.symm⟩)
  repeat still_step
  refine wpStill_nil ?_
  have L1 := Lib.hid (K1.out.set (s ||| q))
  have L2 : Hid (PosAt (V.setCell ⟨w.heap.size, 65, none⟩ (.int .i64 ((s ||| q : Nat) : Int))) (w.heap.size + 1) (fun _ => false) 0 0) := Lib.hid ((heap_setCell_other V ⟨w.heap.size, 65, none⟩ (w.heap.size + 1) _ (by simp)).trans K2.out)
  have L3 : Hid (Below w.heap.size w (V.setCell ⟨w.heap.size, 65, none⟩ (.int .i64 ((s ||| q : Nat) : Int)))) := Lib.hid (K3.out.setCell (p := ⟨w.heap.size, 65, none⟩) (Nat.le_refl _) _)
  go_wp2_with (first
    | (refine wpList_load_row rfl 41 _ rfl w.heap.size rfl 41 (posC t m (s ||| q)) (0, 0) _ L1.out Try.underlying41 rfl (infoPosC _ _ _) ?_)
    | (refine wpList_store_row rfl 41 _ _ rfl (w.heap.size + 1) (posC t m (s ||| q)) rfl rfl 41 _ L2.out (infoPosC _ _ _) (by rw [posC_size, posC_size]) (posC_one _ _ _) ?_))
  have M2 := posAt_row (t := t) (m := m) (s := s ||| q) L2.out
  exact bodyPost_ret (v := .agg (posC t m (s ||| q))) (results_cell_row rfl _ _ (w.heap.size + 1) 41 _ (0, 0) _ rfl M2 Try.underlying41 rfl (infoPosC _ _ _)) rfl ⟨rfl, below_setRow L3.out (by omega) _⟩

theorem bit_clr9 (s q p : Nat) : (Plain.clr s q).testBit p = (s.testBit p && !q.testBit p) := by
  rw [Plain.clr, Nat.testBit_xor, Nat.testBit_and]
  cases s.testBit p <;> cases q.testBit p <;> rfl
theorem clr_pow (z p : Nat) : (Plain.clr (2 ^ p) z == 0) = z.testBit p := by
  cases h : z.testBit p with
  | true =>
    have e : Plain.clr (2 ^ p) z = 0 := Nat.eq_of_testBit_eq fun i => by
      rw [bit_clr9, Nat.testBit_two_pow, Nat.zero_testBit]
      by_cases e : p = i
      · subst e; rw [h]; simp
      · simp [e]
    rw [e]; rfl
  | false =>
    have : Plain.clr (2 ^ p) z ≠ 0 := fun e => by
      have := bit_clr9 (2 ^ p) z p
      rw [e, h, Nat.testBit_two_pow] at this
      simp at this
    simpa using this
/-- Whether a number tells a part of a set. -/
def partZ (x : Int) (s : Nat) : Bool := bits .andNot .i64 x (s : Int) == 0
theorem partZ_any (x : Int) (s : Nat) (w : World) : Calls Try.prog 32 #[.int .i64 x, .int .i64 (s : Int)] w fun e w' => e = .returned (.bool (partZ x s)) ∧ w' = w := by
  go_enter Try.func32, Try.ntmps32
  go_wp2_with fail
  go_ret
  exact ⟨rfl, rfl⟩
theorem partZ_nat {a b : Nat} (ha : a < 64) (hb : b < 64) : partZ (a : Int) b = (Plain.clr a b == 0) := by
  unfold partZ
  rw [clr_small ha hb, Bool.eq_iff_iff]
  simp

end Go.Proofs.Ytpaijobmoddgpab
