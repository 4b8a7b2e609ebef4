/- Contracts: impl's Family.table, PivotCounts. Conditions: numbers of 64 bits, lengths that fit. -/
import Derived.Test.YtcmabcdgdfibjaaSpecPiv
namespace Go.Proofs.Ytcmabcdgdfibjaa
open Go.ChangeShapes Go.WideShapes Go.ChangeAt Go.RowKit
set_option linter.unusedVariables false

theorem table_any (a : Option Addr) (cap : Nat) (xs : List Int) (w : World) (h : Hid (Ints w a xs)) (hl : Hid (Plain.setsB xs = true)) (hn : xs.length ≤ 1048576) :
    Calls Try.prog 82 #[.agg #[.slice a xs.length cap]] w (Val (.agg (bools (Plain.hasB xs))) w) := by
  have h1 := tabF_new (w.alloc (.cells #[.slice a xs.length cap] 27)) (fun _ => false)
  rw [show (w.alloc (.cells #[.slice a xs.length cap] 27)).heap.size = w.heap.size + 1 by simp] at h1
  have HT := Lib.hid h1
  have H0 := Lib.hid (((Below.refl w.heap.size w).alloc (Nat.le_refl _) (.cells #[.slice a xs.length cap] 27)).alloc (by simp) (.cells (bools fun _ => false) 75))
  have hct : Tells 55 #[.agg #[.slice a xs.length cap]] #[] (Plain.hasB xs) w := fun s W hs hb => by
    simpa using has_any a cap xs s W (Lib.hid (h.out.on hb)) hl (by omega) hs
  have HCT := Lib.hid hct
  clear hct h1
  go_enter Try.func82, Try.ntmps82
  go_wp2_with fail
  rw [← bools_zero]
  obtain ⟨W, hW⟩ : ∃ W, W = (w.alloc (.cells #[.slice a xs.length cap] 27)).alloc (.cells (bools fun _ => false) 75) := ⟨_, rfl⟩
  rw [← hW] at H0 HT ⊢
  clear hW
  refine (tableThat_any 55 #[.agg #[.slice a xs.length cap]] #[] (Plain.hasB xs) _ (enters_of Try.func55 (by kernel_rfl) rfl) (Lib.hid (HCT.out.on H0.out))).mono ?_
  rintro e w1 ⟨rfl, hb⟩
  have HT2 := Lib.hid (HT.out.on hb)
  have HF := Lib.hid (tabF_row (t := Plain.hasB xs) HT2.out)
  have HB := Lib.hid (below_setRow (H0.out.trans (hb.mono H0.out.size)) (g := w.heap.size + 1) (by omega) (bools (Plain.hasB xs)))
  clear hb
  go_wp2_with (refine wpList_store_row rfl 75 _ _ rfl (w.heap.size + 1) (bools (Plain.hasB xs)) rfl rfl 75 _ HT2.out info64f rfl (bools_one _) ?_)
  exact bodyPost_ret (v := .agg (bools (Plain.hasB xs))) (results_cell_row rfl _ _ (w.heap.size + 1) 75 _ (0, 0) _ rfl HF.out Try.underlying75 rfl info64f) rfl ⟨rfl, HB.out⟩
set_option maxRecDepth 100000 in
set_option maxHeartbeats 4000000 in
theorem implPivotCounts_any (a : Option Addr) (cap : Nat) (xs : List Int) (w : World) (h : Hid (Ints w a xs)) (h64 : Hid (In64 xs)) (hn : xs.length ≤ 1048576) :
    Calls Try.prog 47 #[.agg #[.slice a xs.length cap]] w (Val (.tuple #[.agg (six (pivV xs)), .bool (Plain.famB xs)]) w) := by
  have H0 := Lib.hid (piv_start w (.slice a xs.length cap))
  cases hf : Plain.famB xs with
  | false =>
    have HE := Lib.hid (piv_no hf)
    have HF := Lib.hid hf
    clear hf
    go_enter Try.func47, Try.ntmps47
    go_wp2_with fail
    rw [← six_zero]
    obtain ⟨W, hW⟩ : ∃ W, W = (((w.alloc (.cells #[.slice a xs.length cap] 27)).alloc (.cells (six fun _ => 0) 46)).alloc (.cells (six fun _ => 0) 46)) := ⟨_, rfl⟩
    rw [← hW] at H0 ⊢
    clear hW
    refine (implIsFamily_any _ _ xs _ (Lib.hid (h.out.on H0.out.2.2.2)) h64 hn).mono ?_
    rw [HF.out]
    rintro e w2 ⟨rfl, hb⟩
    have H2 := Lib.hid (And.intro (H0.out.1.on hb) (And.intro (H0.out.2.1.on hb) (And.intro (H0.out.2.2.1.on hb) (H0.out.2.2.2.trans (hb.mono H0.out.2.2.2.size)))))
    clear hb
    have hfin := at6_row (v := fun _ => 0) H2.out.2.1
    have hbel := below_setRow H2.out.2.2.2 (g := w.heap.size + 1) (by omega) (six (fun _ => 0))
    have HFIN := Lib.hid (And.intro hfin hbel)
    have HLD := Lib.hid H2.out.2.2.1
    have HST := Lib.hid H2.out.2.1
    clear hfin hbel
    go_wp2_with (first
      | (refine wpList_load_row rfl 46 _ rfl (w.heap.size + 1 + 1) rfl 46 (six (fun _ => 0)) (0, 0) _ HLD.out Try.underlying46 rfl info6 ?_)
      | (refine wpList_store_row rfl 46 _ _ rfl (w.heap.size + 1) (six (fun _ => 0)) rfl rfl 46 _ HST.out info6 rfl (six_one _) ?_))
    refine bodyPost_ret (results_six2 rfl _ _ (w.heap.size + 1) _ (.bool false) rfl rfl HFIN.out.1) rfl (val_6b HE.out.1.symm rfl ⟨rfl, HFIN.out.2⟩)
  | true =>
    have HE := Lib.hid (piv_yes hf)
    have HF := Lib.hid hf
    have HSB := Lib.hid (Plain.fam_sets hf)
    clear hf
    go_enter Try.func47, Try.ntmps47
    go_wp2_with fail
    rw [← six_zero]
    obtain ⟨W, hW⟩ : ∃ W, W = (((w.alloc (.cells #[.slice a xs.length cap] 27)).alloc (.cells (six fun _ => 0) 46)).alloc (.cells (six fun _ => 0) 46)) := ⟨_, rfl⟩
    rw [← hW] at H0 ⊢
    clear hW
    refine (implIsFamily_any _ _ xs _ (Lib.hid (h.out.on H0.out.2.2.2)) h64 hn).mono ?_
    rw [HF.out]
    rintro e w2 ⟨rfl, hb⟩
    have H2 := Lib.hid (And.intro (H0.out.1.on hb) (And.intro (H0.out.2.1.on hb) (And.intro (H0.out.2.2.1.on hb) (H0.out.2.2.2.trans (hb.mono H0.out.2.2.2.size)))))
    clear hb
    have hcf := H2.out.1.cell
    go_wp2_with fail
    clear hcf
    refine (table_any a cap xs _ (Lib.hid (h.out.on H2.out.2.2.2)) HSB hn).mono ?_
    rintro e w4 ⟨rfl, hb⟩
    have H4 := Lib.hid (And.intro (H2.out.2.1.on hb) (And.intro (H2.out.2.2.1.on hb) (H2.out.2.2.2.trans (hb.mono H2.out.2.2.2.size))))
    clear hb
    have HTN := Lib.hid (tabF_new w4 (fun _ => false))
    have HB5 := Lib.hid (below_setRow (H4.out.2.2.alloc H4.out.2.2.size (.cells (bools fun _ => false) 75)) (g := w4.heap.size) H4.out.2.2.size (bools (Plain.hasB xs)))
    have HT5 := Lib.hid (tabF_row (t := Plain.hasB xs) HTN.out)
    have h61 : At6 ((w4.alloc (.cells (bools fun _ => false) 75)).setRow w4.heap.size (bools (Plain.hasB xs))) (w.heap.size + 1) (fun _ => 0) := (setRow_other _ w4.heap.size (w.heap.size + 1) _ (by have := H4.out.1.lt; omega)).trans ((Below.heap_alloc w4 _ _ H4.out.1.lt).trans H4.out.1)
    have h62 : At6 ((w4.alloc (.cells (bools fun _ => false) 75)).setRow w4.heap.size (bools (Plain.hasB xs))) (w.heap.size + 1 + 1) (fun _ => 0) := (setRow_other _ w4.heap.size (w.heap.size + 1 + 1) _ (by have := H4.out.2.1.lt; omega)).trans ((Below.heap_alloc w4 _ _ H4.out.2.1.lt).trans H4.out.2.1)
    have H6 := Lib.hid (And.intro h61 h62)
    have HLT := Lib.hid H4.out.2.1.lt
    clear h61 h62
    go_wp2_with (refine wpList_store_row rfl 75 _ _ rfl w4.heap.size (bools (Plain.hasB xs)) rfl rfl 75 (bools fun _ => false) (by rw [← bools_zero]; exact HTN.out) info64f rfl (bools_one _) ?_)
    rw [← bools_zero]
    obtain ⟨W5, hW5⟩ : ∃ W5, W5 = ((w4.alloc (.cells (bools fun _ => false) 75)).setRow w4.heap.size (bools (Plain.hasB xs))) := ⟨_, rfl⟩
    rw [← hW5] at HB5 HT5 H6 ⊢
    clear hW5 HTN
    go_loopw [6, 7, 8, 16] (fun _ _ _ c wr => ∃ k : Nat, k ≤ 64 ∧ c = .int .i64 (k : Int) ∧ At6 wr (w.heap.size + 1 + 1) (fun j => ((countTo (pvB xs j) k : Nat) : Int)) ∧ At6 wr (w.heap.size + 1) (fun _ => 0) ∧ TabF wr w4.heap.size (Plain.hasB xs) ∧ Below w.heap.size w wr) (fun _ _ _ c _ => 64 - (intOf c).toNat)
    case atStart => exact ⟨0, Nat.zero_le _, rfl, H6.out.2.cong (fun i hi => by simp [countTo]), H6.out.1, HT5.out, HB5.out⟩
    case round =>
      obtain ⟨k, hk, rfl, hrel⟩ := hrel
      have HR := Lib.hid hrel
      clear hrel
      by_cases hk64 : k < 64
      · have hk1 : (k : Int) < 64 := by omega
        have hk0 : (0 : Int) ≤ (k : Int) := by omega
        go_wp2_with (refine wpList_load_row rfl 75 _ rfl w4.heap.size rfl 75 (bools (Plain.hasB xs)) (0, 0) _ HR.out.2.2.1 Try.underlying75 rfl info64f ?_)
        refine (deciders_any (Plain.hasB xs) k _ hk64).mono ?_
        rintro e w6 ⟨rfl, hb⟩
        have HD64 := Plain.decN_lt (Plain.hasB xs) k
        have hclr := clr_small HD64 hk64
        have hd64 := clr_lt k HD64
        obtain ⟨d, hd⟩ : ∃ d, d = Plain.clr (Plain.decN (Plain.hasB xs) k) k := ⟨_, rfl⟩
        rw [← hd] at hclr hd64
        have HDB : Hid (∀ i, i < 6 → d.testBit i = pvB xs i k) := Lib.hid (fun i hi => by rw [hd]; exact pv_dec hk64 hi)
        obtain ⟨dn, hdn⟩ : ∃ dn, dn = Plain.decN (Plain.hasB xs) k := ⟨_, rfl⟩
        rw [← hdn] at hclr ⊢
        have HX := Lib.hid (And.intro ((HR.out.1.on hb).cong (u := fun j => ((countTo (pvB xs j) (if j < 0 then k + 1 else k) : Nat) : Int)) (fun j hj => by simp)) (And.intro (HR.out.2.1.on hb) (And.intro (HR.out.2.2.1.on hb) (HR.out.2.2.2.trans (hb.mono HR.out.2.2.2.size)))))
        clear hb hd HD64 hdn
        go_wp2_with fail
        go_loopw [8, 24] (fun _ c wr => ∃ i : Nat, i ≤ 6 ∧ c = .int .i64 (i : Int) ∧ At6 wr (w.heap.size + 1 + 1) (fun j => ((countTo (pvB xs j) (if j < i then k + 1 else k) : Nat) : Int)) ∧ At6 wr (w.heap.size + 1) (fun _ => 0) ∧ TabF wr w4.heap.size (Plain.hasB xs) ∧ Below w.heap.size w wr) (fun _ c _ => 6 - (intOf c).toNat)
        case atStart => exact ⟨0, Nat.zero_le _, rfl, HX.out⟩
        case round =>
          obtain ⟨i, hi, rfl, hrel⟩ := hrel
          have HY := Lib.hid hrel
          clear hrel
          by_cases hlt : i < 6
          · have hi6 : (i : Int) < 6 := by omega
            have hi0 : (0 : Int) ≤ (i : Int) := by omega
            obtain ⟨q, hq⟩ : ∃ q, q = 2 ^ i := ⟨_, rfl⟩
            have hpow : (2 : Int) ^ i = (q : Int) := by rw [hq]; simp
            have hq0 : 0 < q := by rw [hq]; exact Nat.pow_pos (by decide)
            have hqn : ((q : Int) != 0) = true := by simp; omega
            have hand := and_nail (s := d) hd64 (by omega : i ≤ 5) hpow
            have HP := Lib.hid hpow
            rw [HDB.out i hlt] at hand
            have hcle := countTo_le (pvB xs i) k
            have hcx := HY.out.1.cell hlt
            have hfx := HY.out.1.free i
            simp only [Nat.lt_irrefl, if_false] at hcx
            obtain ⟨c, hcc⟩ : ∃ c, c = countTo (pvB xs i) k := ⟨_, rfl⟩
            rw [← hcc] at hcle hcx
            have HCC := Lib.hid hcc
            clear hq hcc hpow
            cases hb : pvB xs i k with
            | false =>
              rw [hb] at hand
              simp only [Bool.false_eq_true, if_false] at hand
              have HN : Hid (At6 wr (w.heap.size + 1 + 1) (fun j => ((countTo (pvB xs j) (if j < i + 1 then k + 1 else k) : Nat) : Int))) := Lib.hid (HY.out.1.cong (fun j hj => by
                by_cases e : j < i
                · simp [e, show j < i + 1 by omega]
                · by_cases e2 : j = i
                  · subst e2; simp [count_step, hb]
                  · simp [e, show ¬ j < i + 1 by omega]))
              clear hb
              go_wp2_with fail
              refine (nailSet_any i q _ (by omega) HP.out).mono ?_
              rintro e w' ⟨rfl, hw'⟩
              have hw2 := hw'.symm
              clear hw'
              subst hw2
              go_wp2_with fail
              go_roundw
              case rel => exact ⟨i + 1, by omega, by go_num, HN.out, HY.out.2⟩
              case measure => simp [intOf]; omega
            | true =>
              rw [hb] at hand
              simp only [if_true] at hand
              have HS := Lib.hid (And.intro ((HY.out.1.set (((c : Nat) : Int) + 1) hlt).cong (u := fun j => ((countTo (pvB xs j) (if j < i + 1 then k + 1 else k) : Nat) : Int)) (fun j hj => by
                by_cases e : j = i
                · subst e; simp [count_step, hb, HCC.out]
                · by_cases e2 : j < i
                  · simp [e, e2, show j < i + 1 by omega]
                  · simp [e, e2, show ¬ j < i + 1 by omega])) (And.intro (HY.out.2.1.off (H := w.heap.size + 1 + 1) (i := i) (x := .int .i64 (((c : Nat) : Int) + 1)) (by omega)) (And.intro (HY.out.2.2.1.off (H := w.heap.size + 1 + 1) (i := i) (v := .int .i64 (((c : Nat) : Int) + 1)) (by have := HLT.out; omega)) (HY.out.2.2.2.setCell (p := ⟨w.heap.size + 1 + 1, i, none⟩) (by simp; omega) (.int .i64 (((c : Nat) : Int) + 1))))))
              clear hb
              go_wp2_with fail
              refine (nailSet_any i q _ (by omega) HP.out).mono ?_
              rintro e w' ⟨rfl, hw'⟩
              have hw2 := hw'.symm
              clear hw'
              subst hw2
              go_wp2_with fail
              go_roundw
              case rel => exact ⟨i + 1, by omega, by go_num, HS.out⟩
              case measure => simp [intOf]; omega
          · obtain rfl : i = 6 := by omega
            have HN : Hid (At6 wr (w.heap.size + 1 + 1) (fun j => ((countTo (pvB xs j) (k + 1) : Nat) : Int))) := Lib.hid (HY.out.1.cong (fun j hj => by simp [hj]))
            go_wp2_with fail
            go_roundw
            case rel => exact ⟨k + 1, by omega, by go_num, HN.out, HY.out.2⟩
            case measure => simp [intOf]; omega
      · obtain rfl : k = 64 := by omega
        have hfin := at6_row (v := fun i => ((countTo (pvB xs i) 64 : Nat) : Int)) HR.out.2.1
        have hbel := below_setRow HR.out.2.2.2 (g := w.heap.size + 1) (by omega) (six (fun i => ((countTo (pvB xs i) 64 : Nat) : Int)))
        have HFIN := Lib.hid (And.intro hfin hbel)
        have HLD := Lib.hid HR.out.1
        have HST := Lib.hid HR.out.2.1
        clear hfin hbel
        go_wp2_with (first
          | (refine wpList_load_row rfl 46 _ rfl (w.heap.size + 1 + 1) rfl 46 (six (fun i => ((countTo (pvB xs i) 64 : Nat) : Int))) (0, 0) _ HLD.out Try.underlying46 rfl info6 ?_)
          | (refine wpList_store_row rfl 46 _ _ rfl (w.heap.size + 1) (six (fun i => ((countTo (pvB xs i) 64 : Nat) : Int))) rfl rfl 46 _ HST.out info6 rfl (six_one _) ?_))
        refine bodyPost_ret (results_six2 rfl _ _ (w.heap.size + 1) _ (.bool true) rfl rfl HFIN.out.1) rfl (val_6b HE.out.1.symm rfl ⟨rfl, HFIN.out.2⟩)
theorem bothPivotCounts (xs : List Int) (h64 : Hid (In64 xs)) (hn : xs.length ≤ 1048576) : ∃ (r : Nat → Int) (ok : Bool),
    (∀ a cap w, Hid (Ints w a xs) → Calls Try.prog 46 #[.agg #[.slice a xs.length cap]] w (Val (.tuple #[.agg (six r), .bool ok]) w)) ∧
    (∀ a cap w, Hid (Ints w a xs) → Calls Try.prog 47 #[.agg #[.slice a xs.length cap]] w (Val (.tuple #[.agg (six r), .bool ok]) w)) :=
  ⟨_, _, fun a cap w h => specPivotCounts_any a cap xs w h h64 hn, fun a cap w h => implPivotCounts_any a cap xs w h h64 hn⟩

end Go.Proofs.Ytcmabcdgdfibjaa
