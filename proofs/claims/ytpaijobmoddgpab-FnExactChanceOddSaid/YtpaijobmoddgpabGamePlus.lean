/- Contracts: spec.l9Plus: two fractions added. Conditions: numbers that fit. -/
import Derived.Test.YtpaijobmoddgpabGameLow
namespace Go.Proofs.Ytpaijobmoddgpab
open Go.ChangeShapes Go.WideShapes Go.ChangeAt Go.RowKit
set_option linter.unusedVariables false

theorem size_alloc (w : World) (o : Obj) : (w.alloc o).heap.size = w.heap.size + 1 := Array.size_push ..
theorem three_new (w : World) (o1 o2 : Obj) (cs : Array Value) (ty : TypeId) : Hid (Below w.heap.size w (((w.alloc o1).alloc o2).alloc (.cells cs ty))) ∧ Hid ((((w.alloc o1).alloc o2).alloc (.cells cs ty)).heap[w.heap.size + 1 + 1]? = some (.cells cs ty (0, 0))) := by
  have h1 := size_alloc w o1
  have h2 := size_alloc (w.alloc o1) o2
  refine ⟨Lib.hid ((((Below.refl _ _).alloc (Nat.le_refl _) _).alloc (by omega) _).alloc (by omega) _), Lib.hid ?_⟩
  have h := heap_alloc_new ((w.alloc o1).alloc o2) (.cells cs ty)
  rw [h2, h1] at h
  exact h
set_option maxRecDepth 100000 in
set_option maxHeartbeats 1600000 in
theorem l9Plus_any (a b c d : Nat) (w : World) (ha : a ≤ 10000) (hb : b ≤ 10000) (hc : c ≤ 10000) (hd : d ≤ 10000) (hb0 : 0 < b) (hd0 : 0 < d) : Calls Try.prog 49 #[frC (a, b), frC (c, d)] w (Val (frC (Plain.low (a * d + c * b) (b * d))) w) := by
  have m1 : a * d ≤ 100000000 := Nat.mul_le_mul ha hd
  have m2 : c * b ≤ 100000000 := Nat.mul_le_mul hc hb
  have m3 : b * d ≤ 100000000 := Nat.mul_le_mul hb hd
  have m4 : 0 < b * d := Nat.mul_pos hb0 hd0
  obtain ⟨p, hp⟩ : ∃ p, p = a * d := ⟨_, rfl⟩
  obtain ⟨q, hq⟩ : ∃ q, q = c * b := ⟨_, rfl⟩
  obtain ⟨r, hr⟩ : ∃ r, r = b * d := ⟨_, rfl⟩
  have ep : (a : Int) * (d : Int) = (p : Int) := by rw [hp]; exact (Int.natCast_mul _ _).symm
  have eq' : (c : Int) * (b : Int) = (q : Int) := by rw [hq]; exact (Int.natCast_mul _ _).symm
  have er : (b : Int) * (d : Int) = (r : Int) := by rw [hr]; exact (Int.natCast_mul _ _).symm
  rw [← hp] at m1 ⊢
  rw [← hq] at m2 ⊢
  rw [← hr] at m3 m4 ⊢
  have fp : IntKind.i64.wrap (p : Int) = (p : Int) := IntWalk.i64_in _ (by omega)
  have fq : IntKind.i64.wrap (q : Int) = (q : Int) := IntWalk.i64_in _ (by omega)
  have fr : IntKind.i64.wrap (r : Int) = (r : Int) := IntWalk.i64_in _ (by omega)
  obtain ⟨s, hs⟩ : ∃ s, s = p + q := ⟨_, rfl⟩
  have es : (p : Int) + (q : Int) = (s : Int) := by omega
  have hsl : s ≤ 1000000000 := by omega
  have fs : IntKind.i64.wrap (s : Int) = (s : Int) := IntWalk.i64_in _ (by omega)
  rw [← hs]
  clear hp hq hr hs ha hb hc hd
  have HC : Hid (∀ V, Calls Try.prog 50 #[.int .i64 (s : Int), .int .i64 (r : Int)] V (Val (frC (Plain.low s r)) V)) := Lib.hid fun V => l9Cut_any s r V hsl (by omega) m4
  obtain ⟨X, Y, hZ⟩ : ∃ X Y : Nat, Plain.low s r = (X, Y) := ⟨_, _, rfl⟩
  rw [hZ] at HC ⊢
  clear hZ
  unfold frC
  go_enter Try.func49, Try.ntmps49
  go_wp2_with fail
  obtain ⟨V0, hV0⟩ : ∃ V, V = (((w.alloc (.cells #[.int .i64 (a : Int), .int .i64 (b : Int)] 23)).alloc (.cells #[.int .i64 (c : Int), .int .i64 (d : Int)] 23)).alloc (.cells #[.int .i64 0, .int .i64 0] 23)) := ⟨_, rfl⟩
  obtain ⟨HB0, HA0⟩ : Hid (Below w.heap.size w V0) ∧ Hid (V0.heap[w.heap.size + 1 + 1]? = some (.cells #[.int .i64 0, .int .i64 0] 23 (0, 0))) := by
    rw [hV0]; exact three_new w _ _ _ _
  rw [← hV0]
  clear hV0
  refine (HC.out _).mono ?_
  unfold frC
  rintro e w1 ⟨rfl, hb⟩
  have HA1 := Lib.hid ((hb.block _ (lt_of_row HA0.out)).trans HA0.out)
  have HB1 := Lib.hid (HB0.out.trans (hb.mono HB0.out.size))
  clear hb
  obtain ⟨WR, hWR⟩ : ∃ W, W = w1.setRow (w.heap.size + 1 + 1) #[.int .i64 (X : Int), .int .i64 (Y : Int)] := ⟨_, rfl⟩
  have HWR : Hid (WR.heap[w.heap.size + 1 + 1]? = some (.cells #[.int .i64 (X : Int), .int .i64 (Y : Int)] 23 (0, 0))) := Lib.hid (by rw [hWR]; exact setRow_heap _ _ _ _ _ _ HA1.out)
  have HBW : Hid (Below w.heap.size w WR) := Lib.hid (by rw [hWR]; exact below_setRow HB1.out (by omega) _)
  go_wp2_with (first | (refine wpList_store_row rfl 23 _ _ rfl (w.heap.size + 1 + 1) #[.int .i64 (X : Int), .int .i64 (Y : Int)] rfl rfl 23 _ HA1.out (by kernel_rfl) rfl (by simp [Value.oneCell']) ?_))
  rw [← hWR]
  exact bodyPost_ret (results_cell_row rfl _ _ (w.heap.size + 1 + 1) 23 _ (0, 0) _ rfl HWR.out Try.underlying23 rfl (by kernel_rfl)) rfl ⟨rfl, HBW.out⟩

end Go.Proofs.Ytpaijobmoddgpab
