/- Contracts: impl's hangingOrders.lengthWhile, all, LongestGame, ShortestGame. Conditions: numbers of 64 bits, lengths that fit. -/
import Derived.Test.YtecbfndgdmpacaaGameHang
namespace Go.Proofs.Ytecbfndgdmpacaa
open Go.ChangeShapes Go.WideShapes Go.ChangeAt Go.RowKit
set_option linter.unusedVariables false

theorem lead_is : ∀ (n j : Nat) (g : Nat → Bool), j ≤ n → (∀ i, i < j → g i = true) → (j = n ∨ g j = false) → Plain.lead g n = j
  | 0, j, g, h, _, _ => by simp [Plain.lead]; omega
  | n + 1, 0, g, h, _, h3 => by
    rcases h3 with h3 | h3
    · omega
    · rw [Plain.lead, if_neg (by rw [h3]; simp)]
  | n + 1, j + 1, g, h, h2, h3 => by
    rw [Plain.lead, if_pos (h2 0 (by omega)), lead_is n j (fun k => g (k + 1)) (by omega) (fun i hi => h2 (i + 1) (by omega)) (by rcases h3 with h3 | h3; exact .inl (by omega); exact .inr h3)]
    omega
set_option maxRecDepth 100000 in
set_option maxHeartbeats 1600000 in
theorem lengthWhile_any (g : Nat) (bs cs : Array Value) (f : Nat → Nat) (q : Nat → Bool) (W : World) (eg : ∀ args w, (callFunc g args).run Try.prog w = .ok (.enter g args) w)
    (HT : Hid (∀ i, i < 7 → ∀ V, Below W.heap.size W V → Calls Try.prog g (bs ++ #[.int .i64 (f i : Int)] ++ cs) V (Val (.bool (q i)) V))) :
    Calls Try.prog 60 #[.agg (ord7 f), .func (.func g) bs cs] W (Val (.int .i64 (Plain.lead q 7 : Int)) W) := by
  obtain ⟨W0, hW0⟩ : ∃ W0, W0 = W.alloc (.cells (ord7 f) 65) := ⟨_, rfl⟩
  have HO : Hid (OrdAt W0 W.heap.size f) := Lib.hid (by rw [hW0]; exact heap_alloc_new _ _)
  have HB0 : Hid (Below W.heap.size W W0) := Lib.hid (by rw [hW0]; exact (Below.refl _ _).alloc (Nat.le_refl _) _)
  obtain ⟨L, hL⟩ : ∃ L, L = Plain.lead q 7 := ⟨_, rfl⟩
  have HL := Lib.hid hL
  rw [← hL]
  clear hL
  go_enter Try.func60, Try.ntmps60
  go_wp2_with fail
  rw [← hW0]
  clear hW0
  go_loopw [5] (fun i wr => ∃ j : Nat, j ≤ 7 ∧ i = .int .i64 j ∧ (∀ i, i < j → q i = true) ∧ Below W0.heap.size W0 wr) (fun i _ => 8 - (intOf i).toNat)
  case atStart => exact ⟨0, Nat.zero_le _, rfl, fun i h => by omega, Below.refl _ _⟩
  case round =>
    obtain ⟨j, hj, rfl, hno, hb⟩ := hrel
    have HN := Lib.hid hno
    have HB := Lib.hid hb
    clear hno hb
    by_cases hlt : j < 7
    · have hq := (HO.out.on HB.out).cell hlt
      have hcall := HT.out j hlt wr (HB0.out.trans (HB.out.mono HB0.out.size))
      have hi : (j : Int) < 7 := by omega
      have hi0 : (0 : Int) ≤ (j : Int) := by omega
      go_wp2_with fail
      refine hcall.mono ?_
      clear hcall
      cases hqj : q j with
      | true =>
        rintro e w9 ⟨rfl, hb⟩
        have HB9 := Lib.hid (HB.out.trans (hb.mono HB.out.size))
        have HN2 : Hid (∀ i, i < j + 1 → q i = true) := Lib.hid fun i hi => by
          rcases Nat.lt_or_ge i j with h | h
          · exact HN.out i h
          · obtain rfl : i = j := by omega
            exact hqj
        clear hb hqj
        go_wp2_with fail
        go_roundw
        case rel => exact ⟨j + 1, by omega, by go_num, HN2.out, HB9.out⟩
        case measure => simp [intOf]; omega
      | false =>
        rintro e w9 ⟨rfl, hb⟩
        have HB9 := Lib.hid (HB0.out.trans ((HB.out.trans (hb.mono HB.out.size)).mono HB0.out.size))
        have HE : Hid (L = j) := Lib.hid (by rw [HL.out]; exact lead_is 7 j q hj HN.out (.inr hqj))
        clear hb hqj
        go_wp2_with fail
        go_ret
        exact ⟨ret_int (by rw [HE.out]), HB9.out⟩
    · obtain rfl : j = 7 := by omega
      have HE : Hid (L = 7) := Lib.hid (by rw [HL.out]; exact lead_is 7 7 q (Nat.le_refl _) HN.out (.inl rfl))
      go_wp2_with fail
      go_ret
      exact ⟨ret_int (by rw [HE.out]), HB0.out.trans (HB.out.mono HB0.out.size)⟩
theorem passLong_any (x : Int) (w : World) : Calls Try.prog 61 #[.int .i64 x] w (Val (.bool (decide (0 < x))) w) := by
  go_enter Try.func61, Try.ntmps61
  go_wp2_with fail
  go_ret
  exact ⟨rfl, Below.refl _ _⟩
def longW (xs : List Int) (n s : Int) : Nat := if gameB xs n s = true then Plain.lead (fun k => decide (0 < Plain.Hn (Plain.fallsB xs) (2 ^ n.toNat - 1) s.toNat k)) 7 else 0
set_option maxRecDepth 100000 in
set_option maxHeartbeats 1600000 in
theorem implLongestGame_any (a : Option Addr) (cap : Nat) (xs : List Int) (n s : Int) (w : World) (h : Hid (Ints w a xs)) (h64 : Hid (In64 xs)) (hl : xs.length ≤ 9223372036854775807) (hs : -9223372036854775808 ≤ s ∧ s ≤ 9223372036854775807) : Calls Try.prog 32 #[.slice a xs.length cap, .int .i64 n, .int .i64 s] w (Val (.tuple #[.int .i64 (longW xs n s : Int), .bool (gameB xs n s)]) w) := by
  cases hg : gameB xs n s with
  | false =>
    have HPV := Lib.hid (posV2_no hg)
    have HN : Hid (longW xs n s = 0) := Lib.hid (by unfold longW; rw [hg]; rfl)
    rw [HN.out]
    clear hg
    go_enter Try.func32, Try.ntmps32
    go_wp2_with fail
    refine (positionOf_any a cap xs n s _ h h64 hl hs).mono ?_
    rw [HPV.out]
    rintro e w1 ⟨rfl, hb1⟩
    obtain ⟨h1, h2⟩ := pos_box w w1 (fun _ => false) 0 0 hb1
    obtain ⟨V, hV⟩ : ∃ V, V = ((w1.alloc (.cells Try.zeroCells52 52)).setRow w1.heap.size (posC (fun _ => false) 0 0)) := ⟨_, rfl⟩
    have HB : Hid (Below w.heap.size w V) := Lib.hid (by rw [hV, ← posZ_zero]; exact h2)
    clear h1 h2 hb1
    go_wp2_with (first | (refine wpList_store_row rfl 52 _ _ rfl w1.heap.size (posC (fun _ => false) 0 0) rfl rfl 52 _ (heap_alloc_new _ _) (infoPosC _ _ _) (by rw [← posZ_zero]) (posC_one _ _ _) ?_))
    rw [hV] at HB
    go_ret2
    exact ⟨rfl, HB.out⟩
  | true =>
    obtain ⟨g1, g2, g3, g4, g5, g6, g7, g8, g9⟩ := game_small hg
    obtain ⟨t, ht⟩ : ∃ t, t = Plain.fallsB xs := ⟨_, rfl⟩
    obtain ⟨m, hm⟩ : ∃ m, m = 2 ^ n.toNat - 1 := ⟨_, rfl⟩
    obtain ⟨S, hS⟩ : ∃ S, S = s.toNat := ⟨_, rfl⟩
    have HPV := Lib.hid (posV2_yes hg)
    rw [← ht, ← hm, ← hS] at HPV
    rw [← hm] at g1
    rw [← hS] at g2
    rw [← ht, ← hS] at g9
    obtain ⟨v, hv⟩ : ∃ v, v = longW xs n s := ⟨_, rfl⟩
    obtain ⟨F9, hF9⟩ : ∃ F9, F9 = Plain.Hn t m S := ⟨_, rfl⟩
    have HV : Hid (v = Plain.lead (fun k => decide (0 < ((F9 k : Nat) : Int))) 7) := Lib.hid (by rw [hv, hF9, ht, hm, hS]; unfold longW; rw [hg, if_pos rfl]; exact Plain.lead_cong 7 fun k _ => by simp)
    have HCH : Hid (∀ V, Calls Try.prog 59 #[.agg (posC t m S)] V (Val (.agg (ord7 F9)) V)) := Lib.hid (fun V => by rw [hF9]; exact countHanging_any t m S V g1 g2)
    rw [← hv]
    clear hg ht hm hS hv hF9 g3 g4 g5 g6 g7 g8 g9
    go_enter Try.func32, Try.ntmps32
    go_wp2_with fail
    refine (positionOf_any a cap xs n s _ h h64 hl hs).mono ?_
    rw [HPV.out]
    rintro e w1 ⟨rfl, hb1⟩
    obtain ⟨h1, h2⟩ := pos_box w w1 t m S hb1
    have HP := Lib.hid h1
    have HB := Lib.hid h2
    clear h1 h2 hb1
    obtain ⟨V, hV⟩ : ∃ V, V = ((w1.alloc (.cells (posC (fun _ => false) 0 0) 52)).setRow w1.heap.size (posC t m S)) := ⟨_, rfl⟩
    rw [← hV] at HP HB
    rw [posZ_zero] at hV
    have HPR := HP
    rw [hV] at HPR
    go_wp2_with (first | (refine wpList_store_row rfl 52 _ _ rfl w1.heap.size (posC t m S) rfl rfl 52 _ (heap_alloc_new _ _) (infoPosC _ _ _) (by rw [← posZ_zero, posC_size, posC_size]) (posC_one _ _ _) ?_) | (refine wpList_load_row rfl 52 _ rfl w1.heap.size rfl 52 (posC t m S) (0, 0) _ HPR.out Try.underlying52 rfl (infoPosC _ _ _) ?_))
    rw [← hV]
    clear hV HPR
    refine (HCH.out _).mono ?_
    rintro e w2 ⟨rfl, hb⟩
    have HB2 := Lib.hid (HB.out.trans (hb.mono HB.out.size))
    clear hb
    go_wp2_with fail
    refine (lengthWhile_any 61 #[] #[] F9 (fun k => decide (0 < ((F9 k : Nat) : Int))) _ (enters_of Try.func61 (by kernel_rfl) rfl) (Lib.hid fun i _ V _ => passLong_any _ V)).mono ?_
    rw [← HV.out]
    rintro e w3 ⟨rfl, hb⟩
    have HB3 := Lib.hid (HB2.out.trans (hb.mono HB2.out.size))
    clear hb
    go_wp2_with fail
    go_ret2
    exact ⟨rfl, HB3.out⟩
theorem all_any (ff : Nat → Nat) (w : World) : Calls Try.prog 63 #[.agg (ord7 ff)] w (Val (.int .i64 (ff 0 : Int)) w) := by
  have h0 : OrdAt (w.alloc (.cells (ord7 ff) 65)) w.heap.size ff := heap_alloc_new _ _
  have q0 := h0.cell (i := 0) (by omega)
  have HB : Hid (Below w.heap.size w (w.alloc (.cells (ord7 ff) 65))) := Lib.hid ((Below.refl _ _).alloc (Nat.le_refl _) _)
  clear h0
  go_enter Try.func63, Try.ntmps63
  go_wp2_with fail
  go_ret
  exact ⟨rfl, HB.out⟩
theorem passShort_any (ff : Nat → Nat) (x G : Nat) (w : World) (h : Hid (OrdAt w G ff)) : Calls Try.prog 62 #[.int .i64 (x : Int), .pointer (some ⟨G, 0, none⟩)] w (Val (.bool (decide (x = ff 0))) w) := by
  go_enter Try.func62, Try.ntmps62
  go_wp2_with (first | (refine wpList_load_row rfl 65 _ rfl G rfl 65 (ord7 ff) (0, 0) _ h.out Try.underlying65 rfl (infoOrd _) ?_))
  refine (all_any ff _).mono ?_
  rintro e w1 ⟨rfl, hb⟩
  have HB := Lib.hid hb
  have HD : Hid (decide (x = ff 0) = ((x : Int) == (ff 0 : Int))) := Lib.hid (by rw [Bool.eq_iff_iff, decide_eq_true_eq, beq_iff_eq]; omega)
  clear hb
  go_wp2_with fail
  go_ret
  exact ⟨ret_bool HD.out.symm, HB.out⟩
def shortW (xs : List Int) (n s : Int) : Nat := if gameB xs n s = true then Plain.lead (fun k => decide (Plain.Hn (Plain.fallsB xs) (2 ^ n.toNat - 1) s.toNat k = Plain.Hn (Plain.fallsB xs) (2 ^ n.toNat - 1) s.toNat 0)) 7 else 0
set_option maxRecDepth 100000 in
set_option maxHeartbeats 1600000 in
theorem implShortestGame_any (a : Option Addr) (cap : Nat) (xs : List Int) (n s : Int) (w : World) (h : Hid (Ints w a xs)) (h64 : Hid (In64 xs)) (hl : xs.length ≤ 9223372036854775807) (hs : -9223372036854775808 ≤ s ∧ s ≤ 9223372036854775807) : Calls Try.prog 34 #[.slice a xs.length cap, .int .i64 n, .int .i64 s] w (Val (.tuple #[.int .i64 (shortW xs n s : Int), .bool (gameB xs n s)]) w) := by
  cases hg : gameB xs n s with
  | false =>
    have HPV := Lib.hid (posV2_no hg)
    have HN : Hid (shortW xs n s = 0) := Lib.hid (by unfold shortW; rw [hg]; rfl)
    rw [HN.out]
    clear hg
    go_enter Try.func34, Try.ntmps34
    go_wp2_with fail
    refine (positionOf_any a cap xs n s _ h h64 hl hs).mono ?_
    rw [HPV.out]
    rintro e w1 ⟨rfl, hb1⟩
    obtain ⟨h1, h2⟩ := pos_box w w1 (fun _ => false) 0 0 hb1
    obtain ⟨V, hV⟩ : ∃ V, V = ((w1.alloc (.cells Try.zeroCells52 52)).setRow w1.heap.size (posC (fun _ => false) 0 0)) := ⟨_, rfl⟩
    have HB : Hid (Below w.heap.size w V) := Lib.hid (by rw [hV, ← posZ_zero]; exact h2)
    clear h1 h2 hb1
    go_wp2_with (first | (refine wpList_store_row rfl 52 _ _ rfl w1.heap.size (posC (fun _ => false) 0 0) rfl rfl 52 _ (heap_alloc_new _ _) (infoPosC _ _ _) (by rw [← posZ_zero]) (posC_one _ _ _) ?_))
    rw [hV] at HB
    go_ret2
    exact ⟨rfl, HB.out⟩
  | true =>
    obtain ⟨g1, g2, g3, g4, g5, g6, g7, g8, g9⟩ := game_small hg
    obtain ⟨t, ht⟩ : ∃ t, t = Plain.fallsB xs := ⟨_, rfl⟩
    obtain ⟨m, hm⟩ : ∃ m, m = 2 ^ n.toNat - 1 := ⟨_, rfl⟩
    obtain ⟨S, hS⟩ : ∃ S, S = s.toNat := ⟨_, rfl⟩
    have HPV := Lib.hid (posV2_yes hg)
    rw [← ht, ← hm, ← hS] at HPV
    rw [← hm] at g1
    rw [← hS] at g2
    rw [← ht, ← hS] at g9
    obtain ⟨v, hv⟩ : ∃ v, v = shortW xs n s := ⟨_, rfl⟩
    obtain ⟨F9, hF9⟩ : ∃ F9, F9 = Plain.Hn t m S := ⟨_, rfl⟩
    have HV : Hid (v = Plain.lead (fun k => decide (F9 k = F9 0)) 7) := Lib.hid (by rw [hv, hF9, ht, hm, hS]; unfold shortW; rw [hg, if_pos rfl])
    have HCH : Hid (∀ V, Calls Try.prog 59 #[.agg (posC t m S)] V (Val (.agg (ord7 F9)) V)) := Lib.hid (fun V => by rw [hF9]; exact countHanging_any t m S V g1 g2)
    rw [← hv]
    clear hg ht hm hS hv hF9 g3 g4 g5 g6 g7 g8 g9
    go_enter Try.func34, Try.ntmps34
    go_wp2_with fail
    refine (positionOf_any a cap xs n s _ h h64 hl hs).mono ?_
    rw [HPV.out]
    rintro e w1 ⟨rfl, hb1⟩
    obtain ⟨h1, h2⟩ := pos_box w w1 t m S hb1
    have HP := Lib.hid h1
    have HB := Lib.hid h2
    clear h1 h2 hb1
    obtain ⟨V, hV⟩ : ∃ V, V = ((w1.alloc (.cells (posC (fun _ => false) 0 0) 52)).setRow w1.heap.size (posC t m S)) := ⟨_, rfl⟩
    rw [← hV] at HP HB
    rw [posZ_zero] at hV
    have HPR := HP
    rw [hV] at HPR
    go_wp2_with (first | (refine wpList_store_row rfl 52 _ _ rfl w1.heap.size (posC t m S) rfl rfl 52 _ (heap_alloc_new _ _) (infoPosC _ _ _) (by rw [← posZ_zero, posC_size, posC_size]) (posC_one _ _ _) ?_) | (refine wpList_load_row rfl 52 _ rfl w1.heap.size rfl 52 (posC t m S) (0, 0) _ HPR.out Try.underlying52 rfl (infoPosC _ _ _) ?_))
    rw [← hV]
    clear hV HPR
    refine (HCH.out _).mono ?_
    rintro e w2 ⟨rfl, hb⟩
    have HB2 := Lib.hid (HB.out.trans (hb.mono HB.out.size))
    clear hb
    obtain ⟨V2, hV2⟩ : ∃ V2, V2 = ((w2.alloc (.cells #[.int .i64 0, .int .i64 0, .int .i64 0, .int .i64 0, .int .i64 0, .int .i64 0, .int .i64 0] 65)).setRow w2.heap.size (ord7 F9)) := ⟨_, rfl⟩
    have HO2 : Hid (OrdAt V2 w2.heap.size F9) := Lib.hid (by rw [hV2]; exact ordAt_row (heap_alloc_new _ _))
    have HBV : Hid (Below w2.heap.size w2 V2) := Lib.hid (by rw [hV2]; exact below_setRow ((Below.refl _ _).alloc (Nat.le_refl _) _) (Nat.le_refl _) _)
    have HOR := HO2
    rw [hV2] at HOR
    go_wp2_with (first | (refine wpList_store_row rfl 65 _ _ rfl w2.heap.size (ord7 F9) rfl rfl 65 _ (heap_alloc_new _ _) (infoOrd _) (by rw [ord7_size]; rfl) (ord7_one _) ?_) | (refine wpList_load_row rfl 65 _ rfl w2.heap.size rfl 65 (ord7 F9) (0, 0) _ HOR.out Try.underlying65 rfl (infoOrd _) ?_))
    rw [← hV2]
    clear hV2 HOR
    refine (lengthWhile_any 62 #[] #[.pointer (some ⟨w2.heap.size, 0, none⟩)] F9 (fun k => decide (F9 k = F9 0)) _ (enters_of Try.func62 (by kernel_rfl) rfl) (Lib.hid fun i _ V hb => passShort_any F9 (F9 i) w2.heap.size V (Lib.hid (HO2.out.on hb)))).mono ?_
    rw [← HV.out]
    rintro e w3 ⟨rfl, hb⟩
    have HB3 := Lib.hid (HB2.out.trans ((HBV.out.trans (hb.mono HBV.out.size)).mono HB2.out.size))
    clear hb
    go_wp2_with fail
    go_ret2
    exact ⟨rfl, HB3.out⟩

end Go.Proofs.Ytecbfndgdmpacaa
