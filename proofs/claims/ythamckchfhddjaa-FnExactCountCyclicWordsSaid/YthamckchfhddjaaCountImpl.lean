/- Contracts: impl's endCounts.longer, countEnds, CountReduced, CountCyclicWords. Conditions: numbers of 64 bits. -/
import Derived.Test.YthamckchfhddjaaCount7
import Derived.Laws.Rows
import Derived.Laws.Tables
import Derived.Laws.CopyOwn
namespace Go.Proofs.Ythamckchfhddjaa
open Go.ChangeShapes Go.WideShapes Go.ChangeAt Go.RowKit
set_option linter.unusedVariables false

theorem info3 : (Try.prog.info? 38).map (·.size) = some 3 := by kernel_rfl
/-- Three numbers in a block. -/
def tri3 (a s o : Int) : Array Value := #[.int .i64 a, .int .i64 s, .int .i64 o]
def At3 (w : World) (G : Nat) (a s o : Int) : Prop := w.heap[G]? = some (.cells (tri3 a s o) 38 (0, 0))
theorem At3.lt {w : World} {G : Nat} {a s o : Int} (h : At3 w G a s o) : G < w.heap.size := (Array.getElem?_eq_some_iff.1 h).1
theorem At3.on {w w' : World} {G : Nat} {a s o : Int} (h : At3 w G a s o) (hb : Below w.heap.size w w') : At3 w' G a s o := (hb.block G h.lt).trans h
theorem At3.zero {w : World} {G : Nat} {a s o : Int} (h : At3 w G a s o) : w.cell? ⟨G, 0, none⟩ = some (.int .i64 a) := by rw [cell_of_row w G 0 _ _ _ h]; rfl
theorem At3.two {w : World} {G : Nat} {a s o : Int} (h : At3 w G a s o) : w.cell? ⟨G, 2, none⟩ = some (.int .i64 o) := by rw [cell_of_row w G 2 _ _ _ h]; rfl
theorem At3.other {w : World} {G H : Nat} {a s o : Int} {cs : Array Value} (h : At3 w G a s o) (hne : G ≠ H) : At3 (w.setRow H cs) G a s o := (setRow_other w H G cs hne).trans h
theorem at3_row {w : World} {G : Nat} {a s o a' s' o' : Int} (h : At3 w G a' s' o') : At3 (w.setRow G (tri3 a s o)) G a s o := setRow_heap w G _ _ _ _ h
theorem tri3_one (a s o : Int) : (tri3 a s o).all (·.oneCell') = true := by simp [tri3, Value.oneCell']
theorem results_row2 {fn : Func} {p q : Tmp} {ty : TypeId} (h : fn.results = #[.cell p ty, .tmp q]) (tmps : Array Value) (w : World) (g : Nat) (cs : Array Value)
    (hp : tmps.getD p undef = .pointer (some ⟨g, 0, none⟩)) (hl : (loadVar ty ⟨g, 0, none⟩).run Try.prog w = .ok (.agg cs) w) :
    (results fn tmps).run Try.prog w = .ok (.tuple #[.agg cs, tmps.getD q undef]) w := by
  have hp' : tmps[p]?.getD undef = .pointer (some ⟨g, 0, none⟩) := by simpa using hp
  simp [results, h, hp', asAddr, hl]
set_option maxHeartbeats 800000 in
theorem longer_any (m m' n : Nat) (s o : Int) (w : World) (hm : m ≤ 1000000000000) (h1 : 1 ≤ n) (h6 : n ≤ 6) (hm' : m' = m * (2 * n - 1)) (hs : 0 ≤ s ∧ s ≤ (m : Int)) (ho : 0 ≤ o ∧ o ≤ (m : Int)) :
    Calls Try.prog 43 #[.agg #[.int .i64 (m : Int), .int .i64 s, .int .i64 o], .int .i64 (n : Int)] w (Val (.agg #[.int .i64 (m' : Int), .int .i64 ((m : Int) - o), .int .i64 ((m : Int) - s)]) w) := by
  have hmul : (m : Int) * (2 * (n : Int) - 1) = (m' : Int) := by
    rw [hm', Int.natCast_mul]
    congr 1
    omega
  have hM'l : m' ≤ m * 11 := by rw [hm']; exact Nat.mul_le_mul_left _ (by omega)
  clear hm'
  go_enter Try.func43, Try.ntmps43
  go_wp2_with fail
  exact bodyPost_ret (v := .agg #[.int .i64 (m' : Int), .int .i64 ((m : Int) - o), .int .i64 ((m : Int) - s)]) (results_cell_row rfl _ _ (w.heap.size + 1) 38 _ (0, 0) _ rfl (by have h := heap_alloc_new (w.alloc (.cells #[.int .i64 (m : Int), .int .i64 s, .int .i64 o] 38)) (.cells #[.int .i64 (m' : Int), .int .i64 ((m : Int) - o), .int .i64 ((m : Int) - s)] 38); simpa using h) Try.underlying38 rfl info3) rfl ⟨rfl, ((Below.refl _ _).alloc (Nat.le_refl _) _).alloc (by simp) _⟩
/-- What countEnds hands back. -/
def endsV (n L : Int) : Int × Int × Int := if Plain.cntB n L = true then (match L.toNat with
  | 0 => (1, 0, 0)
  | l + 1 => ((Plain.manyN n.toNat l : Nat), Plain.endS n.toNat l, Plain.endO n.toNat l)) else (0, 0, 0)
theorem ends_no {n L : Int} (h : Plain.cntB n L = false) : endsV n L = (0, 0, 0) := if_neg (by rw [h]; simp)
theorem ends_all (n L : Int) : (endsV n L).1 = Plain.cntW n L := by
  unfold endsV Plain.cntW
  split
  · split <;> rename_i h <;> rw [h] <;> rfl
  · rfl
theorem ends_cyc {n L : Int} : (endsV n L).1 - (endsV n L).2.2 = Plain.cycW n L := by
  unfold endsV Plain.cycW
  split
  · rename_i hb
    simp only [Plain.cntB, Bool.and_eq_true, decide_eq_true_eq] at hb
    split <;> rename_i h
    · rw [h]; rfl
    · rw [h, Plain.cyc_end (by omega)]
  · rfl
theorem ends_range (n L : Int) : 0 ≤ (endsV n L).1 ∧ (endsV n L).1 ≤ 1000000000000 ∧ 0 ≤ (endsV n L).2.2 ∧ (endsV n L).2.2 ≤ (endsV n L).1 := by
  unfold endsV
  split
  · rename_i hb
    simp only [Plain.cntB, Plain.fitB, Bool.and_eq_true, decide_eq_true_eq] at hb
    obtain ⟨hb, hf⟩ := hb
    split <;> rename_i h
    · simp
    · rw [h] at hf
      have h2 := Plain.end_range (n := n.toNat) (by omega) (by assumption)
      simp only [Plain.cntN] at hf
      dsimp only
      omega
  · simp
theorem ends_out {w w' : World} {tmps : Array Value} {a s o : Int} {b : Bool} (hp : tmps.getD 4 undef = .pointer (some ⟨w.heap.size, 0, none⟩)) (hq : tmps.getD 5 undef = .bool b) (h : At3 w' w.heap.size a s o) :
    (results Try.f25 tmps).run Try.prog w' = .ok (.tuple #[.agg (tri3 a s o), .bool b]) w' := by
  rw [← hq]
  exact results_row2 rfl tmps w' w.heap.size _ hp (run_loadVar_row w' _ _ _ _ (0, 0) _ h Try.underlying38 rfl info3)
set_option maxHeartbeats 1600000 in
theorem countEnds_any (n L : Int) (w : World) (hn : -9223372036854775808 ≤ n ∧ n ≤ 9223372036854775807) (hL : -9223372036854775808 ≤ L ∧ L ≤ 9223372036854775807) :
    Calls Try.prog 25 #[.int .i64 n, .int .i64 L] w (Val (.tuple #[.agg (tri3 (endsV n L).1 (endsV n L).2.1 (endsV n L).2.2), .bool (Plain.cntB n L)]) w) := by
  by_cases hb : 1 ≤ n ∧ n ≤ 6
  · have HN : Hid (n6B n = true) := Lib.hid (by simp [n6B, hb])
    by_cases hl0 : L < 0
    · skip
      have hcb := (cnt_out (n := n) (L := L) (by omega)).1
      rw [hcb, ends_no hcb]
      clear hcb
      go_enter Try.func25, Try.ntmps25
      go_wp2_with fail
      refine (isNail_any n _ hn).mono ?_
      rw [HN.out]
      rintro e w' ⟨rfl, rfl⟩
      go_wp2_with fail
      exact bodyPost_ret (v := .tuple #[.agg (tri3 0 0 0), .bool false]) (ends_out rfl rfl (heap_alloc_new w _)) rfl ⟨rfl, (Below.refl _ _).alloc (Nat.le_refl _) _⟩
    · by_cases hl6 : 64 < L
      · skip
        have hcb := (cnt_out (n := n) (L := L) (by omega)).1
        rw [hcb, ends_no hcb]
        clear hcb
        go_enter Try.func25, Try.ntmps25
        go_wp2_with fail
        refine (isNail_any n _ hn).mono ?_
        rw [HN.out]
        rintro e w' ⟨rfl, rfl⟩
        go_wp2_with fail
        exact bodyPost_ret (v := .tuple #[.agg (tri3 0 0 0), .bool false]) (ends_out rfl rfl (heap_alloc_new w _)) rfl ⟨rfl, (Below.refl _ _).alloc (Nat.le_refl _) _⟩
      · obtain ⟨n, rfl⟩ : ∃ k : Nat, n = (k : Int) := ⟨n.toNat, by omega⟩
        obtain ⟨L, rfl⟩ : ∃ k : Nat, L = (k : Int) := ⟨L.toNat, by omega⟩
        have h1 : 1 ≤ n := by omega
        have h6 : n ≤ 6 := by omega
        have h64 : L ≤ 64 := by omega
        clear hb hl0 hl6
        cases L with
        | zero =>
          have hc := (cnt_fit h1 h6 h64 (by simp [Plain.cntN])).1
          have he : endsV (n : Int) ((0 : Nat) : Int) = (1, 0, 0) := by rw [endsV, if_pos hc]; rfl
          rw [he, hc]
          clear he hc
          have hL0 : ((0 : Nat) : Int) = 0 := rfl
          go_enter Try.func25, Try.ntmps25
          go_wp2_with fail
          refine (isNail_any (n : Int) _ hn).mono ?_
          rw [HN.out]
          rintro e w' ⟨rfl, rfl⟩
          go_wp2_with fail
          exact bodyPost_ret (v := .tuple #[.agg (tri3 1 0 0), .bool true]) (ends_out rfl rfl (heap_alloc_new w _)) rfl ⟨rfl, (Below.refl _ _).alloc (Nat.le_refl _) _⟩
        | succ l =>
          have HFIT : Hid (Plain.manyN n l ≤ 1000000000000 → Plain.cntB (n : Int) ((l + 1 : Nat) : Int) = true ∧ endsV (n : Int) ((l + 1 : Nat) : Int) = (((Plain.manyN n l : Nat) : Int), Plain.endS n l, Plain.endO n l)) := Lib.hid (fun hf => by
            have hc := (cnt_fit h1 h6 h64 hf).1
            refine ⟨hc, ?_⟩
            rw [endsV, if_pos hc]
            simp only [Int.toNat_natCast])
          have HBIG : Hid (1000000000000 < Plain.manyN n l → Plain.cntB (n : Int) ((l + 1 : Nat) : Int) = false ∧ endsV (n : Int) ((l + 1 : Nat) : Int) = (0, 0, 0)) := Lib.hid (fun hf => by
            have hc := (cnt_big h1 h6 h64 hf).1
            exact ⟨hc, ends_no hc⟩)
          obtain ⟨L, hL'⟩ : ∃ L, L = l + 1 := ⟨_, rfl⟩
          rw [← hL'] at HFIT HBIG hL h64 ⊢
          have hL1 : 1 ≤ L := by omega
          have HLL := Lib.hid hL'
          clear hL'
          have hne : ((L : Int) == 0) = false := by simp; omega
          have hnb0 := heap_alloc2_old w (.cells (tri3 0 0 0) 38) (.cells (tri3 (2 * (n : Int)) (2 * (n : Int)) 0) 38)
          have hnb1 := heap_alloc2_new w (.cells (tri3 0 0 0) 38) (.cells (tri3 (2 * (n : Int)) (2 * (n : Int)) 0) 38)
          have hnb2 : Below w.heap.size w ((w.alloc (.cells (tri3 0 0 0) 38)).alloc (.cells (tri3 (2 * (n : Int)) (2 * (n : Int)) 0) 38)) := ((Below.refl _ _).alloc (Nat.le_refl _) _).alloc (by simp) _
          have H0 := Lib.hid (And.intro hnb0 (And.intro hnb1 hnb2))
          clear hnb0 hnb1 hnb2
          go_enter Try.func25, Try.ntmps25
          go_wp2_with fail
          refine (isNail_any (n : Int) _ hn).mono ?_
          rw [HN.out]
          rintro e w' ⟨rfl, rfl⟩
          go_wp2_with fail
          obtain ⟨W, hW⟩ : ∃ W, W = ((w.alloc (.cells (tri3 0 0 0) 38)).alloc (.cells (tri3 (2 * (n : Int)) (2 * (n : Int)) 0) 38)) := ⟨_, rfl⟩
          rw [← hW] at H0
          simp only [tri3] at hW
          rw [← hW]
          clear hW
          go_loopw [29] (fun i wr => ∃ k : Nat, k + 1 ≤ L ∧ i = .int .i64 (k : Int) ∧ Plain.manyN n k ≤ 1000000000000 ∧ At3 wr w.heap.size 0 0 0 ∧ At3 wr (w.heap.size + 1) (Plain.manyN n k : Nat) (Plain.endS n k) (Plain.endO n k) ∧ Below w.heap.size w wr ∧ w.heap.size + 1 < wr.heap.size) (fun i _ => L - (intOf i).toNat)
          case atStart => exact ⟨0, hL1, rfl, by simp [Plain.manyN]; omega, H0.out.1, by rw [show ((Plain.manyN n 0 : Nat) : Int) = 2 * (n : Int) by simp [Plain.manyN], show Plain.endS n 0 = 2 * (n : Int) by simp [Plain.endS, Plain.tri], show Plain.endO n 0 = 0 by simp [Plain.endO, Plain.tri]]; exact H0.out.2.1, H0.out.2.2, (Array.getElem?_eq_some_iff.1 H0.out.2.1).1⟩
          case round =>
            clear H0
            obtain ⟨k, hk, rfl, hm, hz, hc, hbl, hsz⟩ := hrel
            have hst := Plain.end_step h1 k
            have HS := Lib.hid (And.intro hst.1 hst.2)
            have hrg := Plain.end_range h1 k
            have hst1 := Plain.manyN_step n k
            obtain ⟨M', hM'⟩ : ∃ M', M' = Plain.manyN n (k + 1) := ⟨_, rfl⟩
            have HM' := Lib.hid hM'
            rw [← hM'] at hst1
            obtain ⟨M, hM⟩ : ∃ M, M = Plain.manyN n k := ⟨_, rfl⟩
            have HM := Lib.hid hM
            obtain ⟨S, hS⟩ : ∃ S, S = Plain.endS n k := ⟨_, rfl⟩
            obtain ⟨O, hO⟩ : ∃ O, O = Plain.endO n k := ⟨_, rfl⟩
            rw [← hM, ← hS, ← hO] at hrg hc
            rw [← hM, ← hS, ← hO] at HS
            rw [← hM] at hm hst1
            have HSO := Lib.hid (And.intro hS hO)
            have HC := Lib.hid (And.intro hc (And.intro hz (And.intro hbl hsz)))
            have HST := Lib.hid hst1
            clear hM hM' hS hO hst hc hz hbl hst1
            by_cases hlt : k + 1 < L
            · have hi : (k : Int) < (L : Int) - 1 := by omega
              have hlow : -9223372036854775808 ≤ (L : Int) - 1 := by omega
              go_wp2_with (first
                | (refine wpList_load_row rfl 38 _ rfl (w.heap.size + 1) rfl 38 (tri3 (M : Int) S O) (0, 0) _ HC.out.1 Try.underlying38 rfl info3 ?_))
              refine (longer_any M M' n S O _ hm h1 h6 HST.out ⟨hrg.1, hrg.2.1⟩ ⟨hrg.2.2.1, hrg.2.2.2⟩).mono ?_
              rintro e w1 ⟨rfl, hb⟩
              have HC1 := Lib.hid (And.intro (HC.out.1.on hb) (And.intro (HC.out.2.1.on hb) (And.intro (HC.out.2.2.1.trans (hb.mono HC.out.2.2.1.size)) (Nat.lt_of_lt_of_le HC.out.2.2.2 hb.size))))
              have hR1 : At3 (w1.setRow (w.heap.size + 1) (tri3 (M' : Int) ((M : Int) - O) ((M : Int) - S))) (w.heap.size + 1) (M' : Int) ((M : Int) - O) ((M : Int) - S) := at3_row HC1.out.1
              have hR2 := HC1.out.2.1.other (H := w.heap.size + 1) (cs := tri3 (M' : Int) ((M : Int) - O) ((M : Int) - S)) (by omega)
              have hR3 := below_setRow HC1.out.2.2.1 (g := w.heap.size + 1) (by omega) (tri3 (M' : Int) ((M : Int) - O) ((M : Int) - S))
              have hR4 : w.heap.size + 1 < (w1.setRow (w.heap.size + 1) (tri3 (M' : Int) ((M : Int) - O) ((M : Int) - S))).heap.size := hR1.lt
              have hcell := hR1.zero
              have HR := Lib.hid (And.intro hR1 (And.intro hR2 (And.intro hR3 hR4)))
              clear hb hR1 hR2 hR3 hR4
              have hbig : M' ≤ 1000000000000 ∨ 1000000000000 < M' := by omega
              rcases hbig with hle | hgt
              · have hq : ¬ (1000000000000 < (M' : Int)) := by omega
                go_wp2_with (refine wpList_store_row rfl 38 _ _ rfl (w.heap.size + 1) (tri3 (M' : Int) ((M : Int) - O) ((M : Int) - S)) rfl rfl 38 _ HC1.out.1 info3 rfl (tri3_one _ _ _) ?_)
                go_roundw
                case rel => exact ⟨k + 1, by omega, by go_num, by rw [← HM'.out]; exact hle, HR.out.2.1, by rw [← HM'.out, HS.out.1, HS.out.2]; exact HR.out.1, HR.out.2.2⟩
                case measure => simp [intOf]; omega
              · have hq : (1000000000000 < (M' : Int)) := by omega
                obtain ⟨e1, e2⟩ := HBIG.out (by have := Plain.manyN_le h1 (show k + 1 ≤ l by have := HLL.out; omega); rw [← HM'.out] at this; omega)
                have HE := Lib.hid (And.intro e1 e2)
                clear e1 e2
                have hz0 : At3 ((w1.setRow (w.heap.size + 1) (tri3 (M' : Int) ((M : Int) - O) ((M : Int) - S))).setRow w.heap.size (tri3 0 0 0)) w.heap.size 0 0 0 := at3_row HR.out.2.1
                have HZ := Lib.hid (And.intro hz0 (below_setRow HR.out.2.2.1 (g := w.heap.size) (Nat.le_refl _) (tri3 0 0 0)))
                clear hz0
                go_wp2_with (first
                  | (refine wpList_store_row rfl 38 _ _ rfl (w.heap.size + 1) (tri3 (M' : Int) ((M : Int) - O) ((M : Int) - S)) rfl rfl 38 _ HC1.out.1 info3 rfl (tri3_one _ _ _) ?_)
                  | (refine wpList_store_row rfl 38 _ _ rfl w.heap.size (tri3 0 0 0) rfl rfl 38 _ HR.out.2.1 info3 rfl (tri3_one _ _ _) ?_))
                exact bodyPost_ret (v := .tuple #[.agg (tri3 0 0 0), .bool false]) (ends_out rfl rfl HZ.out.1) rfl ⟨by rw [HE.out.1, HE.out.2], HZ.out.2⟩
            · have hi : ¬ (k : Int) < (L : Int) - 1 := by omega
              obtain ⟨e1, e2⟩ := HFIT.out (by have := HLL.out; rw [show l = k by omega, ← HM.out]; exact hm)
              rw [show l = k by have := HLL.out; omega, ← HM.out, ← HSO.out.1, ← HSO.out.2] at e2
              have HE := Lib.hid (And.intro e1 e2)
              clear e1 e2
              have hz0 : At3 (wr.setRow w.heap.size (tri3 (M : Int) S O)) w.heap.size (M : Int) S O := at3_row HC.out.2.1
              have HZ := Lib.hid (And.intro hz0 (below_setRow HC.out.2.2.1 (g := w.heap.size) (Nat.le_refl _) (tri3 (M : Int) S O)))
              clear hz0
              go_wp2_with (first
                | (refine wpList_load_row rfl 38 _ rfl (w.heap.size + 1) rfl 38 (tri3 (M : Int) S O) (0, 0) _ HC.out.1 Try.underlying38 rfl info3 ?_)
                | (refine wpList_store_row rfl 38 _ _ rfl w.heap.size (tri3 (M : Int) S O) rfl rfl 38 _ HC.out.2.1 info3 rfl (tri3_one _ _ _) ?_))
              exact bodyPost_ret (v := .tuple #[.agg (tri3 (M : Int) S O), .bool true]) (ends_out rfl rfl HZ.out.1) rfl ⟨by rw [HE.out.1, HE.out.2], HZ.out.2⟩
  · skip
    have HN : Hid (n6B n = false) := Lib.hid (by simp only [n6B, decide_eq_false_iff_not]; exact hb)
    have hcb := (cnt_out (n := n) (L := L) (by omega)).1
    rw [hcb, ends_no hcb]
    clear hcb
    go_enter Try.func25, Try.ntmps25
    go_wp2_with fail
    refine (isNail_any n _ hn).mono ?_
    rw [HN.out]
    rintro e w' ⟨rfl, rfl⟩
    go_wp2_with fail
    exact bodyPost_ret (v := .tuple #[.agg (tri3 0 0 0), .bool false]) (ends_out rfl rfl (heap_alloc_new w _)) rfl ⟨rfl, (Below.refl _ _).alloc (Nat.le_refl _) _⟩
set_option maxHeartbeats 800000 in
theorem implCountReduced_any (n L : Int) (w : World) (hn : -9223372036854775808 ≤ n ∧ n ≤ 9223372036854775807) (hL : -9223372036854775808 ≤ L ∧ L ≤ 9223372036854775807) :
    Calls Try.prog 9 #[.int .i64 n, .int .i64 L] w (Val (.tuple #[.int .i64 (Plain.cntW n L), .bool (Plain.cntB n L)]) w) := by
  have hrg := ends_range n L
  have HE : Hid ((endsV n L).1 = Plain.cntW n L) := Lib.hid (ends_all n L)
  have HC := Lib.hid (countEnds_any n L)
  obtain ⟨A, hA⟩ : ∃ A, A = (endsV n L).1 := ⟨_, rfl⟩
  obtain ⟨S, hS⟩ : ∃ S, S = (endsV n L).2.1 := ⟨_, rfl⟩
  obtain ⟨O, hO⟩ : ∃ O, O = (endsV n L).2.2 := ⟨_, rfl⟩
  rw [← hA, ← hO] at hrg
  rw [← hA] at HE
  rw [← hA, ← hS, ← hO] at HC
  clear hA hS hO
  go_enter Try.func9, Try.ntmps9
  go_wp2_with fail
  refine (HC.out _ hn hL).mono ?_
  rintro e w1 ⟨rfl, hb⟩
  have B1 := Lib.hid (hb.alloc hb.size (.cells #[.int .i64 A, .int .i64 S, .int .i64 O] 38))
  clear hb
  simp only [tri3]
  go_wp2_with fail
  go_ret2
  exact ⟨ret_ib7 HE.out rfl, B1.out⟩
set_option maxHeartbeats 800000 in
theorem implCountCyclicWords_any (n L : Int) (w : World) (hn : -9223372036854775808 ≤ n ∧ n ≤ 9223372036854775807) (hL : -9223372036854775808 ≤ L ∧ L ≤ 9223372036854775807) :
    Calls Try.prog 11 #[.int .i64 n, .int .i64 L] w (Val (.tuple #[.int .i64 (Plain.cycW n L), .bool (Plain.cntB n L)]) w) := by
  have hrg := ends_range n L
  have HE : Hid ((endsV n L).1 - (endsV n L).2.2 = Plain.cycW n L) := Lib.hid (ends_cyc)
  have HC := Lib.hid (countEnds_any n L)
  obtain ⟨A, hA⟩ : ∃ A, A = (endsV n L).1 := ⟨_, rfl⟩
  obtain ⟨S, hS⟩ : ∃ S, S = (endsV n L).2.1 := ⟨_, rfl⟩
  obtain ⟨O, hO⟩ : ∃ O, O = (endsV n L).2.2 := ⟨_, rfl⟩
  rw [← hA, ← hO] at hrg
  rw [← hA, ← hO] at HE
  rw [← hA, ← hS, ← hO] at HC
  clear hA hS hO
  go_enter Try.func11, Try.ntmps11
  go_wp2_with fail
  refine (HC.out _ hn hL).mono ?_
  rintro e w1 ⟨rfl, hb⟩
  have B1 := Lib.hid (hb.alloc hb.size (.cells #[.int .i64 A, .int .i64 S, .int .i64 O] 38))
  clear hb
  simp only [tri3]
  go_wp2_with fail
  go_ret2
  exact ⟨ret_ib7 HE.out rfl, B1.out⟩
theorem bothCountReduced (n : Int) (h1 : -9223372036854775808 ≤ n) (h2 : n ≤ 9223372036854775807) (L : Int) (h3 : -9223372036854775808 ≤ L) (h4 : L ≤ 9223372036854775807) : ∃ (m : Int) (b : Bool),
    (∀ w, Calls Try.prog 8 #[.int .i64 n, .int .i64 L] w (Val (.tuple #[.int .i64 m, .bool b]) w)) ∧
    (∀ w, Calls Try.prog 9 #[.int .i64 n, .int .i64 L] w (Val (.tuple #[.int .i64 m, .bool b]) w)) :=
  ⟨_, _, fun w => (specCountReduced_any n L w ⟨h1, h2⟩ ⟨h3, h4⟩).mono fun e w' h => ⟨h.1, by rw [← h.2]; exact Below.refl _ _⟩, fun w => implCountReduced_any n L w ⟨h1, h2⟩ ⟨h3, h4⟩⟩
theorem bothCountCyclicWords (n : Int) (h1 : -9223372036854775808 ≤ n) (h2 : n ≤ 9223372036854775807) (L : Int) (h3 : -9223372036854775808 ≤ L) (h4 : L ≤ 9223372036854775807) : ∃ (m : Int) (b : Bool),
    (∀ w, Calls Try.prog 10 #[.int .i64 n, .int .i64 L] w (Val (.tuple #[.int .i64 m, .bool b]) w)) ∧
    (∀ w, Calls Try.prog 11 #[.int .i64 n, .int .i64 L] w (Val (.tuple #[.int .i64 m, .bool b]) w)) :=
  ⟨_, _, fun w => (specCountCyclic_any n L w ⟨h1, h2⟩ ⟨h3, h4⟩).mono fun e w' h => ⟨h.1, by rw [← h.2]; exact Below.refl _ _⟩, fun w => implCountCyclicWords_any n L w ⟨h1, h2⟩ ⟨h3, h4⟩⟩

end Go.Proofs.Ythamckchfhddjaa
