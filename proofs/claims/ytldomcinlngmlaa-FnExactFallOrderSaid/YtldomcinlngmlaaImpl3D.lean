/- Tables of 64 bools of impl's own type in a block; contracts of (impl.word).fallTable, impl.FallTable, impl.LettersLeft. Conditions: letters, lengths that fit. -/
import Derived.Test.YtldomcinlngmlaaImpl3C
import Derived.Test.YtldomcinlngmlaaFallMath
import Derived.Test.YtldomcinlngmlaaLetters
namespace Go.Proofs.Ytldomcinlngmlaa
open Go.ChangeShapes Go.WideShapes Go.ChangeAt Go.RowKit
set_option linter.unusedVariables false

/-- A table in a block of its own. -/
def TabF (w : World) (G : Nat) (t : Nat → Bool) : Prop := w.heap[G]? = some (.cells (bools t) 53 (0, 0))
theorem TabF.lt {w : World} {G : Nat} {t : Nat → Bool} (h : TabF w G t) : G < w.heap.size := (Array.getElem?_eq_some_iff.1 h).1
theorem TabF.on {w w' : World} {G : Nat} {t : Nat → Bool} (h : TabF w G t) (hb : Below w.heap.size w w') : TabF w' G t := (hb.block G h.lt).trans h
theorem TabF.cell {w : World} {G : Nat} {t : Nat → Bool} (h : TabF w G t) {i : Nat} (hi : i < 64) : w.cell? ⟨G, i, none⟩ = some (.bool (t i)) := by
  rw [cell_of_row w G i _ _ _ h]
  exact arr64_at _ hi
theorem TabF.free {w : World} {G : Nat} {t : Nat → Bool} (h : TabF w G t) (i : Nat) : w.frozen? ⟨G, i, none⟩ = false := frozen_of_row w G i _ _ h
theorem TabF.set {w : World} {G k : Nat} {t : Nat → Bool} (h : TabF w G (upTo t k)) (hk : k < 64) : TabF (w.setCell ⟨G, k, none⟩ (.bool (t k))) G (upTo t (k + 1)) := by
  rw [TabF, heap_setCell_same w G k _ _ _ h, bools_set t k hk]
theorem tabF_new (w : World) (t : Nat → Bool) : TabF (w.alloc (.cells (bools t) 53)) w.heap.size t := heap_alloc_new w _
theorem info64f : (Try.prog.info? 53).map (·.size) = some 64 := by kernel_rfl
theorem tabF_row {w : World} {G : Nat} {t : Nat → Bool} {cs : Array Value} (h : w.heap[G]? = some (.cells cs 53 (0, 0))) : TabF (w.setRow G (bools t)) G t := setRow_heap w G _ _ _ _ h
theorem TabF.other {w : World} {G H : Nat} {t : Nat → Bool} {cs : Array Value} (h : TabF w G t) (hne : G ≠ H) : TabF (w.setRow H cs) G t := (setRow_other w H G cs hne).trans h
theorem TabF.off {w : World} {G H i : Nat} {t : Nat → Bool} {v : Value} (h : TabF w G t) (hne : G ≠ H) : TabF (w.setCell ⟨H, i, none⟩ v) G t := (heap_setCell_other w ⟨H, i, none⟩ G v hne).trans h
/-- A table's variable and the result's, both in new blocks. -/
def Two64F (w wr : World) (t u : Nat → Bool) : Prop := TabF wr (w.heap.size + 1) t ∧ TabF wr w.heap.size u ∧ Below w.heap.size w wr
theorem two64F_start (w : World) : Two64F w (((w.alloc (.cells (bools fun _ => false) 53)).alloc (.cells (bools fun _ => false) 53)).setRow (w.heap.size + 1) (bools fun _ => false)) (fun _ => false) (fun _ => false) := by
  have hb : Below w.heap.size w ((w.alloc (.cells (bools fun _ => false) 53)).alloc (.cells (bools fun _ => false) 53)) := ((Below.refl _ _).alloc (Nat.le_refl _) _).alloc (by simp) _
  have h1 : TabF ((w.alloc (.cells (bools fun _ => false) 53)).alloc (.cells (bools fun _ => false) 53)) (w.heap.size + 1) (fun _ => false) := heap_alloc2_new _ _ _
  have h2 : TabF ((w.alloc (.cells (bools fun _ => false) 53)).alloc (.cells (bools fun _ => false) 53)) w.heap.size (fun _ => false) := heap_alloc2_old _ _ _
  exact ⟨tabF_row h1, h2.other (by omega), below_setRow hb (by omega) _⟩
theorem Two64F.later {w wr w1 : World} {t u : Nat → Bool} (h : Two64F w wr t u) (hb : Below wr.heap.size wr w1) : Two64F w w1 t u := ⟨h.1.on hb, h.2.1.on hb, h.2.2.trans (hb.mono h.2.2.size)⟩
theorem Two64F.set {w wr : World} {t u : Nat → Bool} {k : Nat} (h : Two64F w wr (upTo t k) u) (hk : k < 64) : Two64F w (wr.setCell ⟨w.heap.size + 1, k, none⟩ (.bool (t k))) (upTo t (k + 1)) u :=
  ⟨h.1.set hk, h.2.1.off (by omega), h.2.2.setCell (p := ⟨w.heap.size + 1, k, none⟩) (by simp) _⟩

theorem tabF_load {w : World} {G : Nat} {t : Nat → Bool} (h : TabF w G t) : (loadVar 53 ⟨G, 0, none⟩).run Try.prog w = .ok (.agg (bools t)) w :=
  run_loadVar_row w G 53 53 _ (0, 0) _ h Try.underlying53 rfl info64f

set_option maxRecDepth 100000 in
set_option maxHeartbeats 800000 in
theorem fallTable_any (a : Option Addr) (cap : Nat) (xs : List Int) (w : World) (h : Hid (Ints w a xs)) (hl : Hid (Plain.Letters xs)) (hn : xs.length ≤ 1048576) :
    Calls Try.prog 53 #[.slice a xs.length cap] w (Val (.agg (bools (Plain.fallsB xs))) w) := by
  have H0 := Lib.hid (two64F_start w)
  go_enter Try.func53, Try.ntmps53
  go_wp2_with (refine wpList_store_row rfl 53 _ _ rfl (w.heap.size + 1) (bools fun _ => false) rfl (by rw [bools_zero]; rfl) 53 (bools fun _ => false) (by rw [bools_zero]; exact heap_alloc2_new _ _ _) info64f rfl (bools_one _) ?_)
  rw [← bools_zero]
  obtain ⟨W, hW⟩ : ∃ W, W = (((w.alloc (.cells (bools fun _ => false) 53)).alloc (.cells (bools fun _ => false) 53)).setRow (w.heap.size + 1) (bools fun _ => false)) := ⟨_, rfl⟩
  rw [← hW] at H0 ⊢
  clear hW
  go_loopw [6] (fun i wr => ∃ k : Nat, k ≤ 64 ∧ i = .int .i64 k ∧ Two64F w wr (upTo (Plain.fallsB xs) k) (fun _ => false)) (fun i _ => 64 - (intOf i).toNat)
  case atStart => exact ⟨0, Nat.zero_le _, rfl, by rw [upTo_zero]; exact H0.out⟩
  case round =>
    obtain ⟨k, hk, rfl, hrel⟩ := hrel
    by_cases hlt : k < 64
    · have HK := Lib.hid hrel
      have HI := Lib.hid (h.out.on (hrel.2.2))
      have hi : (k : Int) < 64 := by omega
      have hi0 : (0 : Int) ≤ (k : Int) := by omega
      have hle := Plain.takeOut_le xs k
      obtain ⟨L, hL⟩ : ∃ L, L = Plain.takeOut xs k := ⟨_, rfl⟩
      have hF : Plain.fallsB xs k = decide (L.length = 0) := by rw [hL]; rfl
      rw [← hL] at hle
      have HL := Lib.hid hL
      clear hrel hL
      go_wp2_with fail
      refine (without_any a cap xs k _ HI hl hn hlt).mono ?_
      rw [← HL.out]
      rintro e w1 ⟨v, rfl, ⟨a2, c2, rfl, -, -, -⟩, hb⟩
      have H1 := Lib.hid (HK.out.later hb)
      have hc : w1.cell? ⟨w.heap.size + 1, k, none⟩ = some (.bool (upTo (Plain.fallsB xs) k k)) := H1.out.1.cell hlt
      have hf : w1.frozen? ⟨w.heap.size + 1, k, none⟩ = false := H1.out.1.free k
      have H2 := Lib.hid (H1.out.set hlt)
      clear hb HK HI
      by_cases h0 : L.length = 0
      · have hq : ((L.length : Int) == 0) = true := by simp [h0]
        have HF : Hid (Plain.fallsB xs k = true) := Lib.hid (by rw [hF]; simp [h0])
        rw [HF.out] at H2
        clear h0 hF
        go_wp2_with fail
        go_roundw
        case rel => exact ⟨k + 1, by omega, by go_num, H2.out⟩
        case measure => simp [intOf]; omega
      · have hq : ((L.length : Int) == 0) = false := by simpa using h0
        have HF : Hid (Plain.fallsB xs k = false) := Lib.hid (by rw [hF]; simp [h0])
        rw [HF.out] at H2
        clear h0 hF
        go_wp2_with fail
        go_roundw
        case rel => exact ⟨k + 1, by omega, by go_num, H2.out⟩
        case measure => simp [intOf]; omega
    · obtain rfl : k = 64 := by omega
      have T1 := hrel.1
      have T2 := hrel.2.1
      have HB := Lib.hid hrel.2.2
      rw [TabF, upTo_all] at T1
      have HT := Lib.hid T1
      have HT2 := Lib.hid T2
      have HF := Lib.hid (tabF_row (t := Plain.fallsB xs) T2)
      have HB2 := Lib.hid (below_setRow HB.out (Nat.le_refl _) (bools (Plain.fallsB xs)))
      clear T1 T2 hrel
      go_wp2_with (first
        | (refine wpList_load_row rfl 53 _ rfl (w.heap.size + 1) rfl 53 (bools (Plain.fallsB xs)) (0, 0) _ HT.out Try.underlying53 rfl info64f ?_)
        | (refine wpList_store_row rfl 53 _ _ rfl w.heap.size (bools (Plain.fallsB xs)) rfl rfl 53 _ HT2.out info64f rfl (bools_one _) ?_))
      exact bodyPost_ret (v := .agg (bools (Plain.fallsB xs))) (results_cell_row rfl _ _ w.heap.size 53 _ (0, 0) _ rfl HF.out Try.underlying53 rfl info64f) rfl ⟨rfl, HB2.out⟩

set_option maxRecDepth 100000 in
set_option maxHeartbeats 400000 in
theorem implFallTable_any (a : Option Addr) (cap : Nat) (xs : List Int) (w : World) (h : Hid (Ints w a xs)) (h64 : Hid (In64 xs)) (hn : xs.length ≤ 9223372036854775807) :
    Calls Try.prog 24 #[.slice a xs.length cap] w (Val (.tuple #[.agg (bools (tabW xs)), .bool (Plain.wordB xs)]) w) := by
  have hb0 := (Below.refl w.heap.size w).alloc (Nat.le_refl _) (.cells (bools fun _ => false) 31)
  have H1 := Lib.hid (h.out.on hb0)
  have HB := Lib.hid hb0
  have HT := Lib.hid (tab_new w (fun _ => false))
  rw [bools_zero] at H1 HB
  clear hb0
  cases hw : Plain.wordB xs with
  | false =>
    have HE := Lib.hid (tabW_no hw)
    have HW := Lib.hid hw
    clear hw
    go_enter Try.func24, Try.ntmps24
    go_wp2_with fail
    refine (isWord_any _ _ xs _ H1 h64 hn).mono ?_
    rw [HW.out]
    rintro e w' ⟨rfl, rfl⟩
    go_wp2_with (refine wpList_store_row rfl 31 _ _ rfl w.heap.size (bools fun _ => false) rfl (by rw [bools_zero]; rfl) 31 (bools fun _ => false) (by rw [bools_zero]; exact heap_alloc_new _ _) info64 rfl (bools_one _) ?_)
    rw [← bools_zero] at *
    have HF := Lib.hid (tab_row (t := fun _ => false) HT.out)
    have HB2 := Lib.hid (below_setRow HB.out (Nat.le_refl _) (bools fun _ => false))
    rw [HE.out]
    exact bodyPost_ret (results_tab2 rfl _ _ w.heap.size (bools fun _ => false) rfl (tab_load HF.out)) rfl ⟨rfl, HB2.out⟩
  | true =>
    have m1 := (Plain.wordB_iff.1 hw).1
    have HL := Lib.hid (Plain.wordB_iff.1 hw).2
    have HE := Lib.hid (tabW_yes hw)
    have HW := Lib.hid hw
    clear hw
    go_enter Try.func24, Try.ntmps24
    go_wp2_with fail
    refine (isWord_any _ _ xs _ H1 h64 hn).mono ?_
    rw [HW.out]
    rintro e w' ⟨rfl, rfl⟩
    go_wp2_with fail
    refine (fallTable_any _ _ xs _ H1 HL (by omega)).mono ?_
    rintro e w1 ⟨rfl, hb⟩
    have HT1 : Hid (Tab w1 w.heap.size (fun _ => false)) := Lib.hid (by
      refine HT.out.on ?_
      rw [bools_zero]
      exact hb)
    have HB1 := Lib.hid (HB.out.trans (hb.mono HB.out.size))
    have HF := Lib.hid (tab_row (t := Plain.fallsB xs) HT1.out)
    have HB2 := Lib.hid (below_setRow HB1.out (Nat.le_refl _) (bools (Plain.fallsB xs)))
    clear hb
    go_wp2_with (refine wpList_store_row rfl 31 _ _ rfl w.heap.size (bools (Plain.fallsB xs)) rfl rfl 31 _ HT1.out info64 rfl (bools_one _) ?_)
    rw [HE.out]
    exact bodyPost_ret (results_tab2 rfl _ _ w.heap.size (bools (Plain.fallsB xs)) rfl (tab_load HF.out)) rfl ⟨rfl, HB2.out⟩

set_option maxRecDepth 100000 in
set_option maxHeartbeats 2000000 in
theorem implLettersLeft_any (a : Option Addr) (cap : Nat) (xs : List Int) (w : World) (h : Hid (Ints w a xs)) (h64 : Hid (In64 xs)) (hn : xs.length ≤ 9223372036854775807) :
    Calls Try.prog 27 #[.slice a xs.length cap] w (Val (.tuple #[.agg (ints64 (leftV xs)), .bool (Plain.wordB xs)]) w) := by
  have H0 := Lib.hid (twoI_start w)
  go_enter Try.func27, Try.ntmps27
  go_wp2_with (refine wpList_store_row rfl 36 _ _ rfl (w.heap.size + 1) (ints64 fun _ => 0) rfl (by rw [ints64_zero]; rfl) 36 (ints64 fun _ => 0) (by rw [ints64_zero]; exact heap_alloc2_new _ _ _) info64i rfl (ints64_one _) ?_)
  rw [← ints64_zero]
  obtain ⟨W, hW⟩ : ∃ W, W = (((w.alloc (.cells (ints64 fun _ => 0) 36)).alloc (.cells (ints64 fun _ => 0) 36)).setRow (w.heap.size + 1) (ints64 fun _ => 0)) := ⟨_, rfl⟩
  rw [← hW] at H0 ⊢
  clear hW
  have HI0 := Lib.hid (h.out.on H0.out.2.2)
  cases hw : Plain.wordB xs with
  | false =>
    have HW := Lib.hid hw
    have HV := Lib.hid (leftV_no hw)
    have HF : Hid (Nums64 (W.setRow w.heap.size (ints64 fun _ => 0)) w.heap.size (fun _ => 0)) := Lib.hid (nums64_row H0.out.2.1)
    have HB2 : Hid (Below w.heap.size w (W.setRow w.heap.size (ints64 fun _ => 0))) := Lib.hid (below_setRow H0.out.2.2 (Nat.le_refl _) _)
    clear hw
    go_wp2_with fail
    refine (isWord_any _ _ xs _ HI0 h64 hn).mono ?_
    rw [HW.out]
    rintro e w' ⟨rfl, rfl⟩
    go_wp2_with (first
      | (refine wpList_load_row rfl 36 _ rfl (w.heap.size + 1) rfl 36 (ints64 fun _ => 0) (0, 0) _ H0.out.1 Try.underlying36 rfl info64i ?_)
      | (refine wpList_store_row rfl 36 _ _ rfl w.heap.size (ints64 fun _ => 0) rfl rfl 36 _ H0.out.2.1 info64i rfl (ints64_one _) ?_))
    rw [HV.out]
    exact bodyPost_ret (results_tab2 rfl _ _ w.heap.size (ints64 fun _ => 0) rfl (nums64_load HF.out)) rfl ⟨by rw [HW.out]; rfl, HB2.out⟩
  | true =>
    have HW := Lib.hid hw
    have m1 := (Plain.wordB_iff.1 hw).1
    have HL := Lib.hid (Plain.wordB_iff.1 hw).2
    have HV := Lib.hid (leftV_yes hw)
    clear hw
    go_wp2_with fail
    refine (isWord_any _ _ xs _ HI0 h64 hn).mono ?_
    rw [HW.out]
    rintro e w' ⟨rfl, rfl⟩
    go_wp2_with fail
    go_loopw [11] (fun i wr => ∃ k : Nat, k ≤ 64 ∧ i = .int .i64 k ∧ TwoI w wr (upToI (leftV xs) k) (fun _ => 0)) (fun i _ => 64 - (intOf i).toNat)
    case atStart => exact ⟨0, Nat.zero_le _, rfl, by rw [upToI_zero]; exact H0.out⟩
    case round =>
      obtain ⟨k, hk, rfl, hrel⟩ := hrel
      have HK := Lib.hid hrel
      have HI := Lib.hid (h.out.on hrel.2.2)
      clear hrel
      by_cases hlt : k < 64
      · have hi : (k : Int) < 64 := by omega
        have hi0 : (0 : Int) ≤ (k : Int) := by omega
        have hle := Plain.takeOut_le xs k
        obtain ⟨L, hL⟩ : ∃ L, L = Plain.takeOut xs k := ⟨_, rfl⟩
        rw [← hL] at hle
        have HVK : Hid (leftV xs k = (L.length : Int)) := Lib.hid (by rw [HV.out, hL])
        have HLL := Lib.hid hL
        clear hL
        go_wp2_with fail
        refine (without_any _ _ xs k _ HI HL (by omega) hlt).mono ?_
        rw [← HLL.out]
        rintro e w1 ⟨v, rfl, ⟨a2, c2, rfl, -, -, -⟩, hb⟩
        have H1 := Lib.hid (HK.out.later hb)
        have hc : w1.cell? ⟨w.heap.size + 1, k, none⟩ = some (.int .i64 (upToI (leftV xs) k k)) := H1.out.1.cell hlt
        have hf : w1.frozen? ⟨w.heap.size + 1, k, none⟩ = false := H1.out.1.free k
        have h2 := H1.out.set hlt
        rw [HVK.out] at h2
        have H2 := Lib.hid h2
        clear hb HK HI h2
        go_wp2_with fail
        go_roundw
        case rel => exact ⟨k + 1, by omega, by go_num, H2.out⟩
        case measure => simp [intOf]; omega
      · obtain rfl : k = 64 := by omega
        have T1 := HK.out.1
        have HT2 := Lib.hid HK.out.2.1
        have HB := Lib.hid HK.out.2.2
        rw [Nums64, upToI_all] at T1
        have HT := Lib.hid T1
        have HF := Lib.hid (nums64_row (f := leftV xs) HT2.out)
        have HB2 := Lib.hid (below_setRow HB.out (Nat.le_refl _) (ints64 (leftV xs)))
        clear T1
        go_wp2_with (first
          | (refine wpList_load_row rfl 36 _ rfl (w.heap.size + 1) rfl 36 (ints64 (leftV xs)) (0, 0) _ HT.out Try.underlying36 rfl info64i ?_)
          | (refine wpList_store_row rfl 36 _ _ rfl w.heap.size (ints64 (leftV xs)) rfl rfl 36 _ HT2.out info64i rfl (ints64_one _) ?_))
        exact bodyPost_ret (results_tab2 rfl _ _ w.heap.size (ints64 (leftV xs)) rfl (nums64_load HF.out)) rfl ⟨by rw [HW.out]; rfl, HB2.out⟩

end Go.Proofs.Ytldomcinlngmlaa
