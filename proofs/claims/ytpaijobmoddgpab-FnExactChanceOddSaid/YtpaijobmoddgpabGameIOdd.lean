/- Contract: impl's ChanceOdd. Conditions: numbers of 64 bits, lengths that fit. -/
import Derived.Test.YtpaijobmoddgpabGameIMean
namespace Go.Proofs.Ytpaijobmoddgpab
open Go.ChangeShapes Go.WideShapes Go.ChangeAt Go.RowKit
set_option linter.unusedVariables false

/-- The first numbers, added up with changing sign. -/
def altTo (f : Nat → Nat) : Nat → Int
  | 0 => 0
  | j + 1 => if j % 2 = 0 then altTo f j + (f j : Int) else altTo f j - (f j : Int)
theorem altTo_le {f : Nat → Nat} (h : ∀ k, f k ≤ 720) : ∀ j : Nat, -((j : Int) * 720) ≤ altTo f j ∧ altTo f j ≤ (j : Int) * 720
  | 0 => by simp [altTo]
  | j + 1 => by
    have h1 := altTo_le h j
    have h2 := h j
    unfold altTo
    split <;> omega
theorem altTo_odd {t : Nat → Bool} (hmo : Plain.Mono t) {m s : Nat} (hs : s < 64) (h1 : Plain.sub s m = true) : altTo (Plain.Hn t m s) 7 = (Plain.oddN t m s : Int) := by
  rw [Plain.oddN_is hmo hs h1]
  unfold Plain.evN Plain.odN
  simp only [altTo]
  simp
  omega
def oddW (xs : List Int) (n s : Int) : Nat × Nat := if gameB xs n s = true then Plain.low (Plain.oddN (Plain.fallsB xs) (2 ^ n.toNat - 1) s.toNat) (Plain.Hn (Plain.fallsB xs) (2 ^ n.toNat - 1) s.toNat 0) else (0, 0)
set_option maxRecDepth 100000 in
set_option maxHeartbeats 1600000 in
theorem implChanceOdd_any (a : Option Addr) (cap : Nat) (xs : List Int) (n s : Int) (w : World) (h : Hid (Ints w a xs)) (h64 : Hid (In64 xs)) (hl : xs.length ≤ 9223372036854775807) (hs : -9223372036854775808 ≤ s ∧ s ≤ 9223372036854775807) : Calls Try.prog 13 #[.slice a xs.length cap, .int .i64 n, .int .i64 s] w (Val (.tuple #[frC (oddW xs n s), .bool (gameB xs n s)]) w) := by
  cases hg : gameB xs n s with
  | false =>
    have HPV := Lib.hid (posV2_no hg)
    have HN : Hid (frC (oddW xs n s) = .agg #[.int .i64 0, .int .i64 0]) := Lib.hid (by unfold oddW; rw [hg]; rfl)
    rw [HN.out]
    clear hg
    go_enter Try.func13, Try.ntmps13
    go_wp2_with fail
    obtain ⟨W0, hW0⟩ : ∃ W0, W0 = w.alloc (.cells #[.int .i64 0, .int .i64 0] 23) := ⟨_, rfl⟩
    have HBW0 : Hid (Below w.heap.size w W0) := Lib.hid (by rw [hW0]; exact (Below.refl _ _).alloc (Nat.le_refl _) _)
    have HA0 : Hid (W0.heap[w.heap.size]? = some (.cells #[.int .i64 0, .int .i64 0] 23 (0, 0))) := Lib.hid (by rw [hW0]; exact heap_alloc_new _ _)
    have HI0 := Lib.hid (h.out.on HBW0.out)
    rw [← hW0]
    clear hW0
    refine (positionOf_any a cap xs n s _ HI0 h64 hl hs).mono ?_
    rw [HPV.out]
    rintro e w1 ⟨rfl, hb1⟩
    obtain ⟨h1, h2⟩ := pos_box W0 w1 (fun _ => false) 0 0 hb1
    obtain ⟨V, hV⟩ : ∃ V, V = ((w1.alloc (.cells Try.zeroCells41 41)).setRow w1.heap.size (posC (fun _ => false) 0 0)) := ⟨_, rfl⟩
    have HB : Hid (Below W0.heap.size W0 V) := Lib.hid (by rw [hV, ← posZ_zero]; exact h2)
    clear h1 h2 hb1
    have HAV : Hid (V.heap[w.heap.size]? = some (.cells #[.int .i64 0, .int .i64 0] 23 (0, 0))) := Lib.hid ((HB.out.block _ (lt_of_row HA0.out)).trans HA0.out)
    obtain ⟨WR, hWR⟩ : ∃ W, W = V.setRow w.heap.size #[.int .i64 0, .int .i64 0] := ⟨_, rfl⟩
    have HWR : Hid (WR.heap[w.heap.size]? = some (.cells #[.int .i64 0, .int .i64 0] 23 (0, 0))) := Lib.hid (by rw [hWR]; exact setRow_heap _ _ _ _ _ _ HAV.out)
    have HBW : Hid (Below w.heap.size w WR) := Lib.hid (by rw [hWR]; exact below_setRow (HBW0.out.trans (HB.out.mono HBW0.out.size)) (Nat.le_refl _) _)
    rw [hV] at hWR HAV
    go_wp2_with (first | (refine wpList_store_row rfl 41 _ _ rfl w1.heap.size (posC (fun _ => false) 0 0) rfl rfl 41 _ (heap_alloc_new _ _) (infoPosC _ _ _) (by rw [← posZ_zero]) (posC_one _ _ _) ?_) | (refine wpList_store_row rfl 23 _ _ rfl w.heap.size #[.int .i64 0, .int .i64 0] rfl rfl 23 _ HAV.out (by kernel_rfl) rfl (by simp [Value.oneCell']) ?_))
    rw [← hWR]
    exact bodyPost_ret (results_tab2 rfl _ _ w.heap.size _ rfl (run_loadVar_row _ _ 23 23 _ (0, 0) _ HWR.out Try.underlying23 rfl (by kernel_rfl))) rfl ⟨rfl, HBW.out⟩
  | true =>
    obtain ⟨g1, g2, g3, g4, g5, g6, g7, g8, g9⟩ := game_small hg
    obtain ⟨t, ht⟩ : ∃ t, t = Plain.fallsB xs := ⟨_, rfl⟩
    obtain ⟨m, hm⟩ : ∃ m, m = 2 ^ n.toNat - 1 := ⟨_, rfl⟩
    obtain ⟨S, hS⟩ : ∃ S, S = s.toNat := ⟨_, rfl⟩
    have HPV := Lib.hid (posV2_yes hg)
    rw [← ht, ← hm, ← hS] at HPV
    rw [← hm] at g1
    rw [← hS] at g2
    rw [← ht, ← hS] at g9
    obtain ⟨X, Y, hv⟩ : ∃ X Y : Nat, oddW xs n s = (X, Y) := ⟨_, _, rfl⟩
    obtain ⟨F9, hF9⟩ : ∃ F9, F9 = Plain.Hn t m S := ⟨_, rfl⟩
    obtain ⟨O9, hO9⟩ : ∃ O9, O9 = Plain.oddN t m S := ⟨_, rfl⟩
    have HSUB : Hid (Plain.sub S m = true) := Lib.hid (by rw [hm]; exact sub_small (by rw [hS]; exact g6))
    have HO9 : Hid (altTo F9 7 = (O9 : Int)) := Lib.hid (by rw [hF9, hO9]; exact altTo_odd (by rw [ht]; exact falls_mono xs) g2 HSUB.out)
    have hO5 : O9 ≤ 720 := by rw [hO9]; exact Nat.le_trans (Plain.oddN_le (by rw [ht]; exact falls_mono xs) g2 HSUB.out) (Plain.fact_le (Plain.cnt_le _ _))
    have HV : Hid (Plain.low O9 (F9 0) = (X, Y)) := Lib.hid (by rw [← hv, hF9, hO9, ht, hm, hS]; unfold oddW; rw [hg, if_pos rfl])
    have HCH : Hid (∀ V, Calls Try.prog 24 #[.agg (posC t m S)] V (Val (.agg (ord7 F9)) V)) := Lib.hid (fun V => by rw [hF9]; exact countHanging_any t m S V g1 g2)
    rw [hv]
    have HF9 : Hid (∀ k, F9 k ≤ 720) := Lib.hid fun k => by rw [hF9]; exact Plain.Hn_720 k g2 (by rw [hm]; exact sub_small (by rw [hS]; exact g6))
    have HFR : Hid (∀ V, Calls Try.prog 25 #[.int .i64 (O9 : Int), .int .i64 (F9 0 : Int)] V (Val (.agg #[.int .i64 (X : Int), .int .i64 (Y : Int)]) V)) := Lib.hid fun V => by
      have h0 : F9 0 = Plain.fact (Plain.cnt m S) := by rw [hF9, Plain.Hn_zero g2 (by rw [hm]; exact sub_small (by rw [hS]; exact g6)), g9]; rfl
      have h1 := HF9.out 0
      have h3 := Plain.fact_pos (Plain.cnt m S)
      have h4 := fractionOf_any O9 (F9 0) V (by omega) (by omega) (by omega)
      rw [HV.out] at h4
      exact h4
    unfold frC
    clear hg ht hm hS hv hF9 hO9 g3 g4 g5 g6 g7 g8 g9
    go_enter Try.func13, Try.ntmps13
    go_wp2_with fail
    obtain ⟨W0, hW0⟩ : ∃ W0, W0 = w.alloc (.cells #[.int .i64 0, .int .i64 0] 23) := ⟨_, rfl⟩
    have HBW0 : Hid (Below w.heap.size w W0) := Lib.hid (by rw [hW0]; exact (Below.refl _ _).alloc (Nat.le_refl _) _)
    have HA0 : Hid (W0.heap[w.heap.size]? = some (.cells #[.int .i64 0, .int .i64 0] 23 (0, 0))) := Lib.hid (by rw [hW0]; exact heap_alloc_new _ _)
    have HI0 := Lib.hid (h.out.on HBW0.out)
    rw [← hW0]
    clear hW0
    refine (positionOf_any a cap xs n s _ HI0 h64 hl hs).mono ?_
    rw [HPV.out]
    rintro e w1 ⟨rfl, hb1⟩
    obtain ⟨h1, h2⟩ := pos_box W0 w1 t m S hb1
    have HP := Lib.hid h1
    have HB := Lib.hid h2
    clear h1 h2 hb1
    obtain ⟨V, hV⟩ : ∃ V, V = ((w1.alloc (.cells (posC (fun _ => false) 0 0) 41)).setRow w1.heap.size (posC t m S)) := ⟨_, rfl⟩
    rw [← hV] at HP HB
    rw [posZ_zero] at hV
    have HPR := HP
    rw [hV] at HPR
    go_wp2_with (first | (refine wpList_store_row rfl 41 _ _ rfl w1.heap.size (posC t m S) rfl rfl 41 _ (heap_alloc_new _ _) (infoPosC _ _ _) (by rw [← posZ_zero, posC_size, posC_size]) (posC_one _ _ _) ?_) | (refine wpList_load_row rfl 41 _ rfl w1.heap.size rfl 41 (posC t m S) (0, 0) _ HPR.out Try.underlying41 rfl (infoPosC _ _ _) ?_))
    rw [← hV]
    clear hV HPR
    refine (HCH.out _).mono ?_
    rintro e w2 ⟨rfl, hb⟩
    have HB2 := Lib.hid (HB.out.trans (hb.mono HB.out.size))
    have HA2 := Lib.hid (((HB2.out).block _ (lt_of_row HA0.out)).trans HA0.out)
    clear hb
    obtain ⟨V2, hV2⟩ : ∃ V2, V2 = ((w2.alloc (.cells #[.int .i64 0, .int .i64 0, .int .i64 0, .int .i64 0, .int .i64 0, .int .i64 0, .int .i64 0] 45)).setRow w2.heap.size (ord7 F9)) := ⟨_, rfl⟩
    have HO2 : Hid (OrdAt V2 w2.heap.size F9) := Lib.hid (by rw [hV2]; exact ordAt_row (heap_alloc_new _ _))
    have HBV : Hid (Below w2.heap.size w2 V2) := Lib.hid (by rw [hV2]; exact below_setRow ((Below.refl _ _).alloc (Nat.le_refl _) _) (Nat.le_refl _) _)
    have HOR := HO2
    rw [hV2] at HOR
    go_wp2_with (first | (refine wpList_store_row rfl 45 _ _ rfl w2.heap.size (ord7 F9) rfl rfl 45 _ (heap_alloc_new _ _) (infoOrd _) (by rw [ord7_size]; rfl) (ord7_one _) ?_) | (refine wpList_load_row rfl 45 _ rfl w2.heap.size rfl 45 (ord7 F9) (0, 0) _ HOR.out Try.underlying45 rfl (infoOrd _) ?_))
    have HS : Hid (∀ j, j < 7 → -5040 ≤ altTo F9 j ∧ altTo F9 j ≤ 5040) := Lib.hid fun j hj => by have := altTo_le HF9.out j; omega
    rw [← hV2]
    clear hV2 HOR
    go_loopw [11, 27] (fun u i wr => ∃ j : Nat, j ≤ 7 ∧ i = .int .i64 (j : Int) ∧ u = .int .i64 (altTo F9 j) ∧ Below V2.heap.size V2 wr) (fun _ i _ => 8 - (intOf i).toNat)
    case atStart => exact ⟨0, Nat.zero_le _, rfl, rfl, Below.refl _ _⟩
    case round =>
      obtain ⟨j, hj, rfl, rfl, hb⟩ := hrel
      have HB3 := Lib.hid hb
      clear hb
      by_cases hlt : j < 7
      · obtain ⟨e1, e2⟩ := HS.out j hlt
        obtain ⟨u0, hu0⟩ : ∃ u, u = altTo F9 j := ⟨_, rfl⟩
        rw [← hu0] at e1 e2 ⊢
        have hfj : Hid (F9 j ≤ 720) := Lib.hid (HF9.out j)
        have fz : IntKind.i64.wrap (u0 + (F9 j : Int)) = u0 + (F9 j : Int) := IntWalk.i64_in _ (by have := hfj.out; omega)
        have fy : IntKind.i64.wrap (u0 - (F9 j : Int)) = u0 - (F9 j : Int) := IntWalk.i64_in _ (by have := hfj.out; omega)
        have hji : (j : Int) < 7 := by omega
        have hj0 : (0 : Int) ≤ (j : Int) := by omega
        have hix : ∀ w3 : World, Sem.run Try.prog (Instr.index 45 (.agg (ord7 F9)) (.int .i64 (j : Int))) w3 = .ok (.int .i64 (F9 j : Int)) w3 := fun w3 => index_ord7 F9 j w3 hji
        obtain ⟨q, hq⟩ : ∃ q, q = j % 2 := ⟨_, rfl⟩
        have hmod : (j : Int).tmod 2 = (q : Int) := by rw [hq]; rfl
        have HU := Lib.hid hu0
        have HQ := Lib.hid hq
        have hq2 : q < 2 := by omega
        clear hj hu0 hq
        by_cases hq0 : q = 0
        · have hqi : (q : Int) = 0 := by omega
          have HN : Hid (altTo F9 (j + 1) = u0 + (F9 j : Int)) := Lib.hid (by show (if j % 2 = 0 then _ else _) = _; rw [← HQ.out, if_pos hq0, ← HU.out])
          go_wp2_with fail
          go_roundw
          case rel => exact ⟨j + 1, by omega, by go_num, by rw [HN.out], HB3.out⟩
          case measure => simp [intOf]; omega
        · have hqi : ¬ (q : Int) = 0 := by omega
          have HN : Hid (altTo F9 (j + 1) = u0 - (F9 j : Int)) := Lib.hid (by show (if j % 2 = 0 then _ else _) = _; rw [← HQ.out, if_neg hq0, ← HU.out])
          go_wp2_with fail
          go_roundw
          case rel => exact ⟨j + 1, by omega, by go_num, by rw [HN.out], HB3.out⟩
          case measure => simp [intOf]; omega
      · obtain rfl : j = 7 := by omega
        rw [HO9.out]
        have HO3 := Lib.hid (HO2.out.on HB3.out)
        go_wp2_with (first | (refine wpList_load_row rfl 45 _ rfl w2.heap.size rfl 45 (ord7 F9) (0, 0) _ HO3.out Try.underlying45 rfl (infoOrd _) ?_))
        refine (all_any F9 _).mono ?_
        rintro e w4 ⟨rfl, hb⟩
        have HB4 := Lib.hid (HB3.out.trans (hb.mono HB3.out.size))
        clear hb
        go_wp2_with fail
        refine (HFR.out _).mono ?_
        rintro e w5 ⟨rfl, hb⟩
        have HB5 := Lib.hid (HB4.out.trans (hb.mono HB4.out.size))
        clear hb
        have HBA := Lib.hid (HB2.out.trans ((HBV.out.trans (HB5.out.mono HBV.out.size)).mono HB2.out.size))
        have HA5 := Lib.hid ((HBA.out.block _ (lt_of_row HA0.out)).trans HA0.out)
        obtain ⟨WR, hWR⟩ : ∃ W, W = w5.setRow w.heap.size #[.int .i64 (X : Int), .int .i64 (Y : Int)] := ⟨_, rfl⟩
        have HWR : Hid (WR.heap[w.heap.size]? = some (.cells #[.int .i64 (X : Int), .int .i64 (Y : Int)] 23 (0, 0))) := Lib.hid (by rw [hWR]; exact setRow_heap _ _ _ _ _ _ HA5.out)
        have HBW : Hid (Below w.heap.size w WR) := Lib.hid (by rw [hWR]; exact below_setRow (HBW0.out.trans (HBA.out.mono HBW0.out.size)) (Nat.le_refl _) _)
        go_wp2_with (first | (refine wpList_store_row rfl 23 _ _ rfl w.heap.size #[.int .i64 (X : Int), .int .i64 (Y : Int)] rfl rfl 23 _ HA5.out (by kernel_rfl) rfl (by simp [Value.oneCell']) ?_))
        rw [← hWR]
        exact bodyPost_ret (results_tab2 rfl _ _ w.heap.size _ rfl (run_loadVar_row _ _ 23 23 _ (0, 0) _ HWR.out Try.underlying23 rfl (by kernel_rfl))) rfl ⟨rfl, HBW.out⟩

end Go.Proofs.Ytpaijobmoddgpab
