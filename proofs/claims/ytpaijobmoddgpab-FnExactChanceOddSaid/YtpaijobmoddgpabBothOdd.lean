/- Both programs' ChanceOdd. Conditions: numbers of 64 bits, lengths that fit. -/
import Derived.Test.YtpaijobmoddgpabGameOSpec
import Derived.Test.YtpaijobmoddgpabGameIOdd
import Derived.Test.YtpaijobmoddgpabArr2
namespace Go.Proofs.Ytpaijobmoddgpab
open Go.ChangeShapes Go.WideShapes Go.ChangeAt Go.RowKit
set_option linter.unusedVariables false

set_option maxRecDepth 100000 in
set_option maxHeartbeats 1600000 in
theorem specChanceOdd_any (a : Option Addr) (cap : Nat) (xs : List Int) (n s : Int) (w : World) (h : Hid (Ints w a xs)) (h64 : Hid (In64 xs)) (hl : xs.length ≤ 9223372036854775807) (hnr : -9223372036854775808 ≤ n ∧ n ≤ 9223372036854775807) (hs : -9223372036854775808 ≤ s ∧ s ≤ 9223372036854775807) : Calls Try.prog 12 #[.slice a xs.length cap, .int .i64 n, .int .i64 s] w (Val (.tuple #[frC (oddW xs n s), .bool (gameB xs n s)]) w) := by
  cases hg : gameB xs n s with
  | false =>
    have HN : Hid (frC (oddW xs n s) = .agg #[.int .i64 0, .int .i64 0]) := Lib.hid (by unfold oddW; rw [hg]; rfl)
    have HG := Lib.hid hg
    rw [HN.out]
    clear hg
    go_enter Try.func12, Try.ntmps12
    go_wp2_with fail
    obtain ⟨W0, hW0⟩ : ∃ W0, W0 = w.alloc (.cells #[.int .i64 0, .int .i64 0] 23) := ⟨_, rfl⟩
    have HBW0 : Hid (Below w.heap.size w W0) := Lib.hid (by rw [hW0]; exact (Below.refl _ _).alloc (Nat.le_refl _) _)
    have HA0 : Hid (Pair W0 w.heap.size 0 0) := Lib.hid (by rw [hW0]; exact pair_new w 0 0)
    have HI0 := Lib.hid (h.out.on HBW0.out)
    rw [← hW0]
    clear hW0
    refine (l9Good_any a cap xs n s _ HI0 h64 hl hnr hs).mono ?_
    rw [HG.out]
    rintro e w1 ⟨rfl, hb⟩
    have HA1 := Lib.hid (HA0.out.on hb)
    have HB1 := Lib.hid (HBW0.out.trans (hb.mono HBW0.out.size))
    clear hb
    obtain ⟨WR, hWR⟩ : ∃ W, W = w1.setRow w.heap.size #[.int .i64 0, .int .i64 0] := ⟨_, rfl⟩
    have HWR : Hid (Pair WR w.heap.size 0 0) := Lib.hid (by rw [hWR]; exact HA1.out.set 0 0)
    have HBW : Hid (Below w.heap.size w WR) := Lib.hid (by rw [hWR]; exact below_setRow HB1.out (Nat.le_refl _) _)
    go_wp2_with (first | (refine wpList_store_row rfl 23 _ _ rfl w.heap.size #[.int .i64 0, .int .i64 0] rfl rfl 23 _ HA1.out (by kernel_rfl) rfl (by simp [Value.oneCell']) ?_))
    rw [← hWR]
    exact bodyPost_ret (results_tab2 rfl _ _ w.heap.size _ rfl (run_loadVar_row _ _ 23 23 _ (0, 0) _ HWR.out Try.underlying23 rfl (by kernel_rfl))) rfl ⟨rfl, HBW.out⟩
  | true =>
    obtain ⟨g1, g2, g3, g4, g5, g6, g7, g8, g9⟩ := game_small hg
    have HG := Lib.hid hg
    obtain ⟨N, rfl⟩ : ∃ N : Nat, n = (N : Int) := ⟨n.toNat, by omega⟩
    obtain ⟨S, rfl⟩ : ∃ S : Nat, s = (S : Int) := ⟨s.toNat, by omega⟩
    rw [Int.toNat_natCast] at g1 g2 g6 g8 g9
    have hN : N ≤ 6 := by omega
    have hl2 := (Plain.wordB_iff.1 g7).1
    have HL := Lib.hid (Plain.wordB_iff.1 g7).2
    obtain ⟨t, ht⟩ : ∃ t, t = Plain.fallsB xs := ⟨_, rfl⟩
    obtain ⟨m, hm⟩ : ∃ m, m = 2 ^ N - 1 := ⟨_, rfl⟩
    have HT := Lib.hid ht
    have HM := Lib.hid hm
    have hsub : Plain.sub S m = true := by rw [hm]; exact sub_small g6
    obtain ⟨X, Y, hv⟩ : ∃ X Y : Nat, oddW xs (N : Int) (S : Int) = (X, Y) := ⟨_, _, rfl⟩
    have hv2 : Plain.low (Plain.oddN t m S) (Plain.fact (Plain.cnt m S)) = (X, Y) := by
      rw [← hv]
      unfold oddW
      rw [hg, if_pos rfl, Int.toNat_natCast, Int.toNat_natCast, ← hm, ← ht, Plain.Hn_zero g2 hsub]
      rw [ht, g9]
      rfl
    have HC : Hid (∀ V, Calls Try.prog 27 #[.agg (bools t), .int .i64 (N : Int), .int .i64 (S : Int)] V (Val (.agg #[.int .i64 (X : Int), .int .i64 (Y : Int)]) V)) := Lib.hid (fun V => by
      have h := l9Odd_any t N m hN HM (by rw [hm]; exact g1) (Lib.hid (by rw [ht]; exact falls_mono xs)) (by rw [ht, hm]; exact g8) 6 S (Plain.cnt_le _ _) g2 hsub V
      rw [hv2] at h
      exact h)
    rw [hv]
    unfold frC
    clear hg ht hm hv hv2 hsub g1 g3 g4 g5 g6 g7 g8 g9
    go_enter Try.func12, Try.ntmps12
    go_wp2_with fail
    obtain ⟨W0, hW0⟩ : ∃ W0, W0 = w.alloc (.cells #[.int .i64 0, .int .i64 0] 23) := ⟨_, rfl⟩
    have HBW0 : Hid (Below w.heap.size w W0) := Lib.hid (by rw [hW0]; exact (Below.refl _ _).alloc (Nat.le_refl _) _)
    have HA0 : Hid (Pair W0 w.heap.size 0 0) := Lib.hid (by rw [hW0]; exact pair_new w 0 0)
    have HI0 := Lib.hid (h.out.on HBW0.out)
    rw [← hW0]
    clear hW0
    refine (l9Good_any a cap xs N S _ HI0 h64 hl hnr hs).mono ?_
    rw [HG.out]
    rintro e w1 ⟨rfl, hb⟩
    have HA1 := Lib.hid (HA0.out.on hb)
    have HB1 := Lib.hid (HBW0.out.trans (hb.mono HBW0.out.size))
    have HI := Lib.hid (HI0.out.on hb)
    clear hb
    go_wp2_with fail
    refine (l3Table_any a cap xs _ HI HL (by omega)).mono ?_
    rw [← HT.out]
    rintro e w2 ⟨rfl, hb⟩
    have HA2 := Lib.hid (HA1.out.on hb)
    have HB2 := Lib.hid (HB1.out.trans (hb.mono HB1.out.size))
    clear hb
    go_wp2_with fail
    refine (HC.out _).mono ?_
    rintro e w3 ⟨rfl, hb⟩
    have HA3 := Lib.hid (HA2.out.on hb)
    have HB3 := Lib.hid (HB2.out.trans (hb.mono HB2.out.size))
    clear hb
    obtain ⟨WR, hWR⟩ : ∃ W, W = w3.setRow w.heap.size #[.int .i64 (X : Int), .int .i64 (Y : Int)] := ⟨_, rfl⟩
    have HWR : Hid (Pair WR w.heap.size X Y) := Lib.hid (by rw [hWR]; exact HA3.out.set X Y)
    have HBW : Hid (Below w.heap.size w WR) := Lib.hid (by rw [hWR]; exact below_setRow HB3.out (Nat.le_refl _) _)
    go_wp2_with (first | (refine wpList_store_row rfl 23 _ _ rfl w.heap.size #[.int .i64 (X : Int), .int .i64 (Y : Int)] rfl rfl 23 _ HA3.out (by kernel_rfl) rfl (by simp [Value.oneCell']) ?_))
    rw [← hWR]
    exact bodyPost_ret (results_tab2 rfl _ _ w.heap.size _ rfl (run_loadVar_row _ _ 23 23 _ (0, 0) _ HWR.out Try.underlying23 rfl (by kernel_rfl))) rfl ⟨rfl, HBW.out⟩
theorem bothChanceOdd (xs : List Int) (h64 : Hid (In64 xs)) (hn : xs.length ≤ 1048576) (n : Int) (h1 : -9223372036854775808 ≤ n) (h2 : n ≤ 9223372036854775807) (s : Int) (h3 : -9223372036854775808 ≤ s) (h4 : s ≤ 9223372036854775807) : ∃ (x y : Int) (c : Bool), 
    (∀ a cap w, Hid (Ints w a xs) → Calls Try.prog 12 #[.slice a xs.length cap, .int .i64 n, .int .i64 s] w (Val (.tuple #[.agg #[.int .i64 x, .int .i64 y], .bool c]) w)) ∧
    (∀ a cap w, Hid (Ints w a xs) → Calls Try.prog 13 #[.slice a xs.length cap, .int .i64 n, .int .i64 s] w (Val (.tuple #[.agg #[.int .i64 x, .int .i64 y], .bool c]) w)) :=
  ⟨_, _, _, fun a cap w h => specChanceOdd_any a cap xs n s w h h64 (by omega) ⟨h1, h2⟩ ⟨h3, h4⟩, fun a cap w h => implChanceOdd_any a cap xs n s w h h64 (by omega) ⟨h3, h4⟩⟩

end Go.Proofs.Ytpaijobmoddgpab
