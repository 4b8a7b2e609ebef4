/- Contract: impl.tableThat with whatever function value tells of each set. No condition but what the function tells. -/
import Derived.Test.YtepmldbleconfaaSetsThat
import Derived.Shelf.Abstract
namespace Go.Proofs.Ytepmldbleconfaa
open Go.ChangeShapes Go.WideShapes Go.ChangeAt Go.RowKit
set_option linter.unusedVariables false

/-- What a function value tells of the sets, in every world that leaves alone what lay before. -/
def Tells (g : Nat) (bs cs : Array Value) (t : Nat → Bool) (w : World) : Prop :=
  ∀ (s : Nat) (W : World), s < 64 → Below w.heap.size w W → Calls Try.prog g (bs ++ #[.int .i64 (s : Int)] ++ cs) W (Val (.bool (t s)) W)
theorem Tells.on {g : Nat} {bs cs : Array Value} {t : Nat → Bool} {w w' : World} (h : Tells g bs cs t w) (hb : Below w.heap.size w w') : Tells g bs cs t w' :=
  fun s W hs hW => h s W hs (hb.trans (hW.mono hb.size))
set_option maxRecDepth 100000 in
set_option maxHeartbeats 800000 in
theorem tableThat_any (g : Nat) (bs cs : Array Value) (t : Nat → Bool) (w : World) (eg : ∀ args w, (callFunc g args).run Try.prog w = .ok (.enter g args) w) (hp : Hid (Tells g bs cs t w)) :
    Calls Try.prog 61 #[.func (.func g) bs cs] w (Val (.agg (bools t)) w) := by
  have H0 := Lib.hid (two64F_start w)
  go_enter Try.func61, Try.ntmps61
  go_wp2_with (refine wpList_store_row rfl 52 _ _ rfl (w.heap.size + 1) (bools fun _ => false) rfl (by rw [bools_zero]; rfl) 52 (bools fun _ => false) (by rw [bools_zero]; exact heap_alloc2_new _ _ _) info64f rfl (bools_one _) ?_)
  rw [← bools_zero]
  obtain ⟨W, hW⟩ : ∃ W, W = (((w.alloc (.cells (bools fun _ => false) 52)).alloc (.cells (bools fun _ => false) 52)).setRow (w.heap.size + 1) (bools fun _ => false)) := ⟨_, rfl⟩
  rw [← hW] at H0 ⊢
  clear hW
  go_loopw [4, 6] (fun _ i wr => ∃ k : Nat, k ≤ 64 ∧ i = .int .i64 k ∧ Two64F w wr (upTo t k) (fun _ => false)) (fun _ i _ => 64 - (intOf i).toNat)
  case atStart => exact ⟨0, Nat.zero_le _, rfl, by rw [upTo_zero]; exact H0.out⟩
  case round =>
    obtain ⟨k, hk, rfl, hrel⟩ := hrel
    by_cases hlt : k < 64
    · have HK := Lib.hid hrel
      have hi : (k : Int) < 64 := by omega
      have hi0 : (0 : Int) ≤ (k : Int) := by omega
      have hcall := hp.out k wr hlt hrel.2.2
      clear hrel
      go_wp2_with fail
      refine hcall.mono ?_
      rintro e w1 ⟨rfl, hb⟩
      have H1 := Lib.hid (HK.out.later hb)
      have hc : w1.cell? ⟨w.heap.size + 1, k, none⟩ = some (.bool (upTo t k k)) := H1.out.1.cell hlt
      have hf : w1.frozen? ⟨w.heap.size + 1, k, none⟩ = false := H1.out.1.free k
      have H2 := Lib.hid (H1.out.set hlt)
      clear hb
      go_wp2_with fail
      go_roundw
      case rel => exact ⟨k + 1, by omega, by go_num, H2.out⟩
      case measure => simp [intOf]; omega
    · obtain rfl : k = 64 := by omega
      have T1 := hrel.1
      have T2 := hrel.2.1
      have HB := Lib.hid hrel.2.2
      rw [TabF, upTo_all] at T1
      have HT := Lib.hid T1
      have HT2 := Lib.hid T2
      have HF := Lib.hid (tabF_row (t := t) T2)
      have HB2 := Lib.hid (below_setRow HB.out (Nat.le_refl _) (bools t))
      clear T1 T2 hrel
      go_wp2_with (first
        | (refine wpList_load_row rfl 52 _ rfl (w.heap.size + 1) rfl 52 (bools t) (0, 0) _ HT.out Try.underlying52 rfl info64f ?_)
        | (refine wpList_store_row rfl 52 _ _ rfl w.heap.size (bools t) rfl rfl 52 _ HT2.out info64f rfl (bools_one _) ?_))
      exact bodyPost_ret (v := .agg (bools t)) (results_cell_row rfl _ _ w.heap.size 52 _ (0, 0) _ rfl HF.out Try.underlying52 rfl info64f) rfl ⟨rfl, HB2.out⟩

end Go.Proofs.Ytepmldbleconfaa
