/- Contracts: impl's gameMoves, newGame, game.wins, canWin, CanDrop, CanKeep, KeepNumber. Conditions: numbers of 64 bits, lengths that fit. -/
import Derived.Test.YtecbfndgdmpacaaGameRegs
namespace Go.Proofs.Ytecbfndgdmpacaa
open Go.ChangeShapes Go.WideShapes Go.ChangeAt Go.RowKit Go.Maps
set_option linter.unusedVariables false

/-- The moves of a game as a function value; the game's place. -/
def gOf (k : Bool) : Nat := if k then 70 else 57
def fOf (k : Bool) : Value := .func (.func (gOf k)) #[] #[]
def kindOf (k : Bool) : Int := if k then 0 else 1
theorem moves_of (t : Nat → Bool) (mm : Nat) (k : Bool) (hm : mm < 64) : Moves t mm k (gOf k) := by
  cases k with
  | true => exact ⟨enters_of Try.func70 (by kernel_rfl) rfl, fun s V hs => nailsIn_any t mm s V hm hs⟩
  | false => exact ⟨enters_of Try.func57 (by kernel_rfl) rfl, fun s V hs => safeNails_any t mm s V hm hs⟩
theorem gameMoves_any (w : World) : Calls Try.prog 85 #[] w (Val (.agg #[fOf true, fOf false]) w) := by
  have HB : Hid (Below w.heap.size w ((w.alloc (.cells #[.nilFunc, .nilFunc] 83)).setRow w.heap.size #[fOf true, fOf false])) := Lib.hid (below_setRow ((Below.refl _ _).alloc (Nat.le_refl _) _) (Nat.le_refl _) _)
  have HR : Hid (((w.alloc (.cells #[.nilFunc, .nilFunc] 83)).setRow w.heap.size #[fOf true, fOf false]).heap[w.heap.size]? = some (.cells #[fOf true, fOf false] 83 (0, 0))) := Lib.hid (setRow_heap _ _ _ _ _ _ (heap_alloc_new _ _))
  go_enter Try.func85, Try.ntmps85
  go_wp2_with (first | (refine wpList_build rfl 83 _ rfl [(0, fOf true), (1, fOf false)] rfl #[fOf true, fOf false] (run_build _ _ _ _ (by kernel_rfl)) ?_) | (refine wpList_store_row rfl 83 _ _ rfl w.heap.size #[fOf true, fOf false] rfl rfl 83 _ (heap_alloc_new _ _) (by kernel_rfl) (by kernel_rfl) (by kernel_rfl) ?_))
  exact bodyPost_ret (v := .agg #[fOf true, fOf false]) (results_cell_row rfl _ _ w.heap.size 83 _ (0, 0) _ rfl HR.out Try.underlying83 rfl (by kernel_rfl)) rfl ⟨rfl, HB.out⟩
theorem built_game (k : Bool) (b : Nat) : Try.prog.built 58 [(0, fOf k), (1, .map (some b))] = some (gameC (fOf k) b) := by cases k <;> kernel_rfl
theorem index_moves (k : Bool) (w : World) : Sem.run Try.prog (Instr.index 83 (.agg #[fOf true, fOf false]) (.int .i64 (kindOf k))) w = .ok (fOf k) w := by cases k <;> kernel_rfl
set_option maxRecDepth 100000 in
set_option maxHeartbeats 1600000 in
theorem newGame_any (t : Nat → Bool) (mm : Nat) (k : Bool) (w : World) : Calls Try.prog 54 #[.int .i64 (kindOf k)] w fun e w' => ∃ b, e = .returned (.agg (gameC (fOf k) b)) ∧ Below w.heap.size w w' ∧ w.heap.size ≤ b ∧ Gm t mm k w' b 0 := by
  have hidx := index_moves k
  have hmm := @run_makeMap Try.prog
  go_enter Try.func54, Try.ntmps54
  go_wp2_with fail
  refine (gameMoves_any _).mono ?_
  rintro e w1 ⟨rfl, hb1⟩
  have hsz : (w.alloc (.cells #[.nilFunc, .map none] 58)).heap.size = w.heap.size + 1 := by simp
  have hz1 : w.heap.size < w1.heap.size := by have := hb1.size; rw [hsz] at this; omega
  have hr1 : w1.heap[w.heap.size]? = some (.cells #[.nilFunc, .map none] 58 (0, 0)) := (hb1.block w.heap.size (by rw [hsz]; omega)).trans (heap_alloc_new w _)
  have HB1 : Hid (Below w.heap.size w w1) := Lib.hid (((Below.refl _ w).alloc (Nat.le_refl _) _).trans (hb1.mono (by rw [hsz]; omega)))
  have HR1 := Lib.hid hr1
  clear hb1 hr1
  go_wp2_with (first | (refine wpList_build rfl 58 _ rfl [(0, fOf k), (1, .map (some w1.heap.size))] rfl (gameC (fOf k) w1.heap.size) (run_build _ _ _ _ (built_game _ _)) ?_) | (refine wpList_store_row rfl 58 _ _ rfl w.heap.size (gameC (fOf k) w1.heap.size) rfl rfl 58 _ ((heap_alloc_old _ _ hz1).trans HR1.out) (infoGame _ _) (by kernel_rfl) (by kernel_rfl) ?_))
  have HF : Hid ((((w1.alloc (.map #[] 0))).setRow w.heap.size (gameC (fOf k) w1.heap.size)).heap[w.heap.size]? = some (.cells (gameC (fOf k) w1.heap.size) 58 (0, 0))) := Lib.hid (setRow_heap _ _ _ _ _ _ ((heap_alloc_old _ _ hz1).trans HR1.out))
  refine bodyPost_ret (v := .agg (gameC (fOf k) w1.heap.size)) (results_cell_row rfl _ _ w.heap.size 58 _ (0, 0) _ rfl HF.out Try.underlying58 rfl (infoGame _ _)) rfl ⟨w1.heap.size, rfl, below_setRow (HB1.out.alloc HB1.out.size _) (Nat.le_refl _) _, HB1.out.size, ?_⟩
  refine Gm.kept (V := (w1.alloc (.map #[] 0))) (row := some w.heap.size) ⟨0, _, Nat.le_refl _, World.ownsMap_made w1 _ _ _, Sound.start t mm k⟩ ⟨?_, ?_, ?_, ?_, fun i hi hn => ?_⟩ (fun e => by have := Option.some.inj e; omega)
  · exact (below_setRow (Below.refl w.heap.size (w1.alloc (.map #[] 0))) (Nat.le_refl _) _).os
  · exact (below_setRow (Below.refl w.heap.size (w1.alloc (.map #[] 0))) (Nat.le_refl _) _).tape
  · exact (below_setRow (Below.refl w.heap.size (w1.alloc (.map #[] 0))) (Nat.le_refl _) _).output
  · exact (below_setRow (Below.refl w.heap.size (w1.alloc (.map #[] 0))) (Nat.le_refl _) _).size
  · exact setRow_other _ w.heap.size i _ (fun e => hn (by rw [e]))
/-- Behind a call that asks whether the player who is to move wins. -/
def winB (t : Nat → Bool) (mm : Nat) (k : Bool) (s : Nat) : Bool := decide (Plain.num t mm k s ≠ 0)
theorem wins_any (t : Nat → Bool) (m : Nat) (k : Bool) (b s : Nat) (hm : m < 64) (hs : s < 64) (W : World) (N : Nat) (HM : Hid (Gm t m k W b N)) (hN : N + 117649 ≤ 100000000) :
    Calls Try.prog 77 #[.agg (gameC (fOf k) b), .agg (posC t m s)] W fun e W' => e = .returned (.bool (winB t m k s)) ∧ W.grownBy W' (some b) ∧ Gm t m k W' b (N + 117649) := by
  have hblt := HM.out.lt
  obtain ⟨W0, hW0⟩ : ∃ W0, W0 = (W.alloc (.cells (gameC (fOf k) b) 58)).alloc (.cells (posC t m s) 52) := ⟨_, rfl⟩
  have HGA : Hid (GameAt W0 W.heap.size (fOf k) b) := Lib.hid (by rw [hW0]; exact (heap_alloc_old _ _ (by simp)).trans (heap_alloc_new _ _))
  have HPA : Hid (PosAt W0 (W.heap.size + 1) t m s) := Lib.hid (by rw [hW0]; exact heap_alloc2_new _ _ _)
  have HB0 : Hid (Below W.heap.size W W0) := Lib.hid (by rw [hW0]; exact ((Below.refl _ _).alloc (Nat.le_refl _) _).alloc (by simp) _)
  have HM0 : Hid (Gm t m k W0 b N) := Lib.hid (HM.out.kept (grown_none HB0.out) (by simp))
  have HGR := HGA
  have HPR := HPA
  rw [hW0] at HGR HPR
  go_enter Try.func77, Try.ntmps77
  go_wp2_with (first | (refine wpList_load_row rfl 58 _ rfl W.heap.size rfl 58 (gameC (fOf k) b) (0, 0) _ HGR.out Try.underlying58 rfl (infoGame _ _) ?_) | (refine wpList_load_row rfl 52 _ rfl (W.heap.size + 1) rfl 52 (posC t m s) (0, 0) _ HPR.out Try.underlying52 rfl (infoPosC _ _ _) ?_))
  rw [← hW0]
  clear hW0 HGR HPR
  refine (number_any t m k (gOf k) b hm (Lib.hid (moves_of t m k hm)) 6 s (Plain.cnt_le _ _) hs _ N HM0 (by omega)).mono ?_
  rintro e W2 ⟨rfl, hg, hgm⟩
  have HR : Hid (W.grownBy W2 (some b) ∧ Gm t m k W2 b (N + 117649)) := Lib.hid ⟨World.grownBy.trans (World.grownBy.but (grown_none HB0.out) _) hg, hgm⟩
  clear hg hgm
  obtain ⟨v, hv⟩ : ∃ v, v = Plain.num t m k s := ⟨_, rfl⟩
  have HWB : Hid (winB t m k s = ((v : Int) != 0)) := Lib.hid (by unfold winB; rw [← hv, Bool.eq_iff_iff]; simp)
  rw [← hv]
  clear hv
  go_wp2_with fail
  go_ret
  exact ⟨ret_bool HWB.out.symm, HR.out⟩

end Go.Proofs.Ytecbfndgdmpacaa
