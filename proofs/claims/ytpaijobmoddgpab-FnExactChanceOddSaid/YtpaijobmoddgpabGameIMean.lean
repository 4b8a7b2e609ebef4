/- Contract: impl's MeanGame. Conditions: numbers of 64 bits, lengths that fit. -/
import Derived.Test.YtpaijobmoddgpabGameLow
namespace Go.Proofs.Ytpaijobmoddgpab
open Go.ChangeShapes Go.WideShapes Go.ChangeAt Go.RowKit
set_option linter.unusedVariables false

/-- The first numbers, added up. -/
def sumTo (f : Nat → Nat) (j : Nat) : Nat := ((List.range j).map f).sum
theorem sumTo_step (f : Nat → Nat) (j : Nat) : sumTo f (j + 1) = sumTo f j + f j := by
  unfold sumTo
  rw [List.range_succ, List.map_append, List.sum_append]
  simp
theorem sumTo_le {f : Nat → Nat} (h : ∀ k, f k ≤ 720) : ∀ j, sumTo f j ≤ j * 720
  | 0 => by simp [sumTo]
  | j + 1 => by rw [sumTo_step, Nat.add_mul]; have := sumTo_le h j; have := h j; omega
def meanW (xs : List Int) (n s : Int) : Nat × Nat := if gameB xs n s = true then Plain.low (Plain.meanN (Plain.fallsB xs) (2 ^ n.toNat - 1) s.toNat) (Plain.Hn (Plain.fallsB xs) (2 ^ n.toNat - 1) s.toNat 0) else (0, 0)
theorem index_ord7 (f : Nat → Nat) (k : Nat) (w : World) (hk : (k : Int) < 7) : Sem.run Try.prog (Instr.index 45 (.agg (ord7 f)) (.int .i64 (k : Int))) w = .ok (.int .i64 (f k : Int)) w := by
  have h2 : (ord7 f)[k]? = some (.int .i64 (f k : Int)) := arrN_at _ (by omega)
  unfold Instr.index
  go_simp
  intro h
  omega
set_option maxRecDepth 100000 in
set_option maxHeartbeats 1600000 in
theorem implMeanGame_any (a : Option Addr) (cap : Nat) (xs : List Int) (n s : Int) (w : World) (h : Hid (Ints w a xs)) (h64 : Hid (In64 xs)) (hl : xs.length ≤ 9223372036854775807) (hs : -9223372036854775808 ≤ s ∧ s ≤ 9223372036854775807) : Calls Try.prog 9 #[.slice a xs.length cap, .int .i64 n, .int .i64 s] w (Val (.tuple #[frC (meanW xs n s), .bool (gameB xs n s)]) w) := by
  cases hg : gameB xs n s with
  | false =>
    have HPV := Lib.hid (posV2_no hg)
    have HN : Hid (frC (meanW xs n s) = .agg #[.int .i64 0, .int .i64 0]) := Lib.hid (by unfold meanW; rw [hg]; rfl)
    rw [HN.out]
    clear hg
    go_enter Try.func9, Try.ntmps9
    go_wp2_with fail
    obtain ⟨W0, hW0⟩ : ∃ W0, W0 = w.alloc (.cells #[.int .i64 0, .int .i64 0] 23) := ⟨_, rfl⟩
    have HBW0 : Hid (Below w.heap.size w W0) := Lib.hid (by rw [hW0]; exact (Below.refl _ _).alloc (Nat.le_refl _) _)
    have HA0 : Hid (W0.heap[w.heap.size]? = some (.cells #[.int .i64 0, .int .i64 0] 23 (0, 0))) := Lib.hid (by rw [hW0]; exact heap_alloc_new _ _)
    have HI0 := Lib.hid (h.out.on HBW0.out)
    rw [← hW0]
    clear hW0
    refine (positionOf_any a cap xs n s _ HI0 h64 hl hs).mono ?_
    rw [HPV.out]
    rintro e w1 ⟨rfl, hb1⟩
    obtain ⟨h1, h2⟩ := pos_box W0 w1 (fun _ => false) 0 0 hb1
    obtain ⟨V, hV⟩ : ∃ V, V = ((w1.alloc (.cells Try.zeroCells41 41)).setRow w1.heap.size (posC (fun _ => false) 0 0)) := ⟨_, rfl⟩
    have HB : Hid (Below W0.heap.size W0 V) := Lib.hid (by rw [hV, ← posZ_zero]; exact h2)
    clear h1 h2 hb1
    have HAV : Hid (V.heap[w.heap.size]? = some (.cells #[.int .i64 0, .int .i64 0] 23 (0, 0))) := Lib.hid ((HB.out.block _ (lt_of_row HA0.out)).trans HA0.out)
    obtain ⟨WR, hWR⟩ : ∃ W, W = V.setRow w.heap.size #[.int .i64 0, .int .i64 0] := ⟨_, rfl⟩
    have HWR : Hid (WR.heap[w.heap.size]? = some (.cells #[.int .i64 0, .int .i64 0] 23 (0, 0))) := Lib.hid (by rw [hWR]; exact setRow_heap _ _ _ _ _ _ HAV.out)
    have HBW : Hid (Below w.heap.size w WR) := Lib.hid (by rw [hWR]; exact below_setRow (HBW0.out.trans (HB.out.mono HBW0.out.size)) (Nat.le_refl _) _)
    rw [hV] at hWR HAV
    go_wp2_with (first | (refine wpList_store_row rfl 41 _ _ rfl w1.heap.size (posC (fun _ => false) 0 0) rfl rfl 41 _ (heap_alloc_new _ _) (infoPosC _ _ _) (by rw [← posZ_zero]) (posC_one _ _ _) ?_) | (refine wpList_store_row rfl 23 _ _ rfl w.heap.size #[.int .i64 0, .int .i64 0] rfl rfl 23 _ HAV.out (by kernel_rfl) rfl (by simp [Value.oneCell']) ?_))
    rw [← hWR]
    exact bodyPost_ret (results_tab2 rfl _ _ w.heap.size _ rfl (run_loadVar_row _ _ 23 23 _ (0, 0) _ HWR.out Try.underlying23 rfl (by kernel_rfl))) rfl ⟨rfl, HBW.out⟩
  | true =>
    obtain ⟨g1, g2, g3, g4, g5, g6, g7, g8, g9⟩ := game_small hg
    obtain ⟨t, ht⟩ : ∃ t, t = Plain.fallsB xs := ⟨_, rfl⟩
    obtain ⟨m, hm⟩ : ∃ m, m = 2 ^ n.toNat - 1 := ⟨_, rfl⟩
    obtain ⟨S, hS⟩ : ∃ S, S = s.toNat := ⟨_, rfl⟩
    have HPV := Lib.hid (posV2_yes hg)
    rw [← ht, ← hm, ← hS] at HPV
    rw [← hm] at g1
    rw [← hS] at g2
    rw [← ht, ← hS] at g9
    obtain ⟨X, Y, hv⟩ : ∃ X Y : Nat, meanW xs n s = (X, Y) := ⟨_, _, rfl⟩
    obtain ⟨F9, hF9⟩ : ∃ F9, F9 = Plain.Hn t m S := ⟨_, rfl⟩
    have HV : Hid (Plain.low (sumTo F9 7) (F9 0) = (X, Y)) := Lib.hid (by rw [← hv, hF9, ht, hm, hS]; unfold meanW; rw [hg, if_pos rfl]; rfl)
    have HCH : Hid (∀ V, Calls Try.prog 24 #[.agg (posC t m S)] V (Val (.agg (ord7 F9)) V)) := Lib.hid (fun V => by rw [hF9]; exact countHanging_any t m S V g1 g2)
    rw [hv]
    have HF9 : Hid (∀ k, F9 k ≤ 720) := Lib.hid fun k => by rw [hF9]; exact Plain.Hn_720 k g2 (by rw [hm]; exact sub_small (by rw [hS]; exact g6))
    have HFR : Hid (∀ V, Calls Try.prog 25 #[.int .i64 (sumTo F9 7 : Int), .int .i64 (F9 0 : Int)] V (Val (.agg #[.int .i64 (X : Int), .int .i64 (Y : Int)]) V)) := Lib.hid fun V => by
      have h0 : F9 0 = Plain.fact (Plain.cnt m S) := by rw [hF9, Plain.Hn_zero g2 (by rw [hm]; exact sub_small (by rw [hS]; exact g6)), g9]; rfl
      have h1 := HF9.out 0
      have h2 := sumTo_le HF9.out 7
      have h3 := Plain.fact_pos (Plain.cnt m S)
      have h4 := fractionOf_any (sumTo F9 7) (F9 0) V (by omega) (by omega) (by omega)
      rw [HV.out] at h4
      exact h4
    unfold frC
    clear hg ht hm hS hv hF9 g3 g4 g5 g6 g7 g8 g9
    go_enter Try.func9, Try.ntmps9
    go_wp2_with fail
    obtain ⟨W0, hW0⟩ : ∃ W0, W0 = w.alloc (.cells #[.int .i64 0, .int .i64 0] 23) := ⟨_, rfl⟩
    have HBW0 : Hid (Below w.heap.size w W0) := Lib.hid (by rw [hW0]; exact (Below.refl _ _).alloc (Nat.le_refl _) _)
    have HA0 : Hid (W0.heap[w.heap.size]? = some (.cells #[.int .i64 0, .int .i64 0] 23 (0, 0))) := Lib.hid (by rw [hW0]; exact heap_alloc_new _ _)
    have HI0 := Lib.hid (h.out.on HBW0.out)
    rw [← hW0]
    clear hW0
    refine (positionOf_any a cap xs n s _ HI0 h64 hl hs).mono ?_
    rw [HPV.out]
    rintro e w1 ⟨rfl, hb1⟩
    obtain ⟨h1, h2⟩ := pos_box W0 w1 t m S hb1
    have HP := Lib.hid h1
    have HB := Lib.hid h2
    clear h1 h2 hb1
    obtain ⟨V, hV⟩ : ∃ V, V = ((w1.alloc (.cells (posC (fun _ => false) 0 0) 41)).setRow w1.heap.size (posC t m S)) := ⟨_, rfl⟩
    rw [← hV] at HP HB
    rw [posZ_zero] at hV
    have HPR := HP
    rw [hV] at HPR
    go_wp2_with (first | (refine wpList_store_row rfl 41 _ _ rfl w1.heap.size (posC t m S) rfl rfl 41 _ (heap_alloc_new _ _) (infoPosC _ _ _) (by rw [← posZ_zero, posC_size, posC_size]) (posC_one _ _ _) ?_) | (refine wpList_load_row rfl 41 _ rfl w1.heap.size rfl 41 (posC t m S) (0, 0) _ HPR.out Try.underlying41 rfl (infoPosC _ _ _) ?_))
    rw [← hV]
    clear hV HPR
    refine (HCH.out _).mono ?_
    rintro e w2 ⟨rfl, hb⟩
    have HB2 := Lib.hid (HB.out.trans (hb.mono HB.out.size))
    have HA2 := Lib.hid (((HB2.out).block _ (lt_of_row HA0.out)).trans HA0.out)
    clear hb
    obtain ⟨V2, hV2⟩ : ∃ V2, V2 = ((w2.alloc (.cells #[.int .i64 0, .int .i64 0, .int .i64 0, .int .i64 0, .int .i64 0, .int .i64 0, .int .i64 0] 45)).setRow w2.heap.size (ord7 F9)) := ⟨_, rfl⟩
    have HO2 : Hid (OrdAt V2 w2.heap.size F9) := Lib.hid (by rw [hV2]; exact ordAt_row (heap_alloc_new _ _))
    have HBV : Hid (Below w2.heap.size w2 V2) := Lib.hid (by rw [hV2]; exact below_setRow ((Below.refl _ _).alloc (Nat.le_refl _) _) (Nat.le_refl _) _)
    have HOR := HO2
    rw [hV2] at HOR
    go_wp2_with (first | (refine wpList_store_row rfl 45 _ _ rfl w2.heap.size (ord7 F9) rfl rfl 45 _ (heap_alloc_new _ _) (infoOrd _) (by rw [ord7_size]; rfl) (ord7_one _) ?_) | (refine wpList_load_row rfl 45 _ rfl w2.heap.size rfl 45 (ord7 F9) (0, 0) _ HOR.out Try.underlying45 rfl (infoOrd _) ?_))
    have HS : Hid (∀ j, j < 7 → sumTo F9 (j + 1) = sumTo F9 j + F9 j ∧ sumTo F9 (j + 1) ≤ 5040) := Lib.hid fun j hj => ⟨sumTo_step F9 j, by have := sumTo_le HF9.out (j + 1); omega⟩
    rw [← hV2]
    clear hV2 HOR
    go_loopw [11, 27] (fun u i wr => ∃ j : Nat, j ≤ 7 ∧ i = .int .i64 (j : Int) ∧ u = .int .i64 (sumTo F9 j : Int) ∧ Below V2.heap.size V2 wr) (fun _ i _ => 8 - (intOf i).toNat)
    case atStart => exact ⟨0, Nat.zero_le _, rfl, rfl, Below.refl _ _⟩
    case round =>
      obtain ⟨j, hj, rfl, rfl, hb⟩ := hrel
      have HB3 := Lib.hid hb
      clear hb
      by_cases hlt : j < 7
      · obtain ⟨e1, e2⟩ := HS.out j hlt
        obtain ⟨u0, hu0⟩ : ∃ u, u = sumTo F9 j := ⟨_, rfl⟩
        have HE1 := Lib.hid e1
        rw [← hu0] at e1 HE1 ⊢
        have fz : IntKind.i64.wrap ((u0 : Int) + (F9 j : Int)) = (u0 : Int) + (F9 j : Int) := IntWalk.i64_in _ (by omega)
        have hji : (j : Int) < 7 := by omega
        have hj0 : (0 : Int) ≤ (j : Int) := by omega
        have hix : ∀ w3 : World, Sem.run Try.prog (Instr.index 45 (.agg (ord7 F9)) (.int .i64 (j : Int))) w3 = .ok (.int .i64 (F9 j : Int)) w3 := fun w3 => index_ord7 F9 j w3 hji
        clear hj hu0 e1
        go_wp2_with fail
        go_roundw
        case rel => exact ⟨j + 1, by omega, by go_num, by rw [HE1.out]; go_num, HB3.out⟩
        case measure => simp [intOf]; omega
      · obtain rfl : j = 7 := by omega
        have HO3 := Lib.hid (HO2.out.on HB3.out)
        go_wp2_with (first | (refine wpList_load_row rfl 45 _ rfl w2.heap.size rfl 45 (ord7 F9) (0, 0) _ HO3.out Try.underlying45 rfl (infoOrd _) ?_))
        refine (all_any F9 _).mono ?_
        rintro e w4 ⟨rfl, hb⟩
        have HB4 := Lib.hid (HB3.out.trans (hb.mono HB3.out.size))
        clear hb
        go_wp2_with fail
        refine (HFR.out _).mono ?_
        rintro e w5 ⟨rfl, hb⟩
        have HB5 := Lib.hid (HB4.out.trans (hb.mono HB4.out.size))
        clear hb
        have HBA := Lib.hid (HB2.out.trans ((HBV.out.trans (HB5.out.mono HBV.out.size)).mono HB2.out.size))
        have HA5 := Lib.hid ((HBA.out.block _ (lt_of_row HA0.out)).trans HA0.out)
        obtain ⟨WR, hWR⟩ : ∃ W, W = w5.setRow w.heap.size #[.int .i64 (X : Int), .int .i64 (Y : Int)] := ⟨_, rfl⟩
        have HWR : Hid (WR.heap[w.heap.size]? = some (.cells #[.int .i64 (X : Int), .int .i64 (Y : Int)] 23 (0, 0))) := Lib.hid (by rw [hWR]; exact setRow_heap _ _ _ _ _ _ HA5.out)
        have HBW : Hid (Below w.heap.size w WR) := Lib.hid (by rw [hWR]; exact below_setRow (HBW0.out.trans (HBA.out.mono HBW0.out.size)) (Nat.le_refl _) _)
        go_wp2_with (first | (refine wpList_store_row rfl 23 _ _ rfl w.heap.size #[.int .i64 (X : Int), .int .i64 (Y : Int)] rfl rfl 23 _ HA5.out (by kernel_rfl) rfl (by simp [Value.oneCell']) ?_))
        rw [← hWR]
        exact bodyPost_ret (results_tab2 rfl _ _ w.heap.size _ rfl (run_loadVar_row _ _ 23 23 _ (0, 0) _ HWR.out Try.underlying23 rfl (by kernel_rfl))) rfl ⟨rfl, HBW.out⟩

end Go.Proofs.Ytpaijobmoddgpab
