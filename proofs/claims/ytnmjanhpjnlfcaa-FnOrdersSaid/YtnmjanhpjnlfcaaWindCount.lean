/- Contracts: CountCoefficients of both. Conditions: numbers of 64 bits, lengths that fit. -/
import Derived.Test.YtnmjanhpjnlfcaaWindAt
import Derived.Test.YtnmjanhpjnlfcaaWindFst
import Derived.Test.YtnmjanhpjnlfcaaWindWin
namespace Go.Proofs.Ytnmjanhpjnlfcaa.Plain
set_option linter.unusedVariables false
/-- How many of the first k places are those of lists of n nails with a coefficient other than 0. -/
def cntTo (c : Nat → Int) (k n : Nat) : Nat := ((List.range k).filter fun q => decide (lenQ q = n ∧ c q ≠ 0)).length
theorem cntTo_zero (c : Nat → Int) (n : Nat) : cntTo c 0 n = 0 := rfl
theorem cntTo_le (c : Nat → Int) (k n : Nat) : cntTo c k n ≤ k := by have := List.length_filter_le (fun q => decide (lenQ q = n ∧ c q ≠ 0)) (List.range k); simpa [cntTo] using this
theorem cntTo_hit {c : Nat → Int} {k n m : Nat} (hl : lenQ k = n) (hc : c k ≠ 0) : cntTo c (k + 1) m = if m = n then cntTo c k n + 1 else cntTo c k m := by
  unfold cntTo
  rw [List.range_succ, List.filter_append, List.length_append]
  by_cases h : m = n
  · subst h; simp [hl, hc]
  · rw [if_neg h]
    have : ¬ lenQ k = m := by omega
    simp [this]
theorem cntTo_miss {c : Nat → Int} {k m : Nat} (hc : c k = 0) : cntTo c (k + 1) m = cntTo c k m := by
  unfold cntTo
  rw [List.range_succ, List.filter_append, List.length_append]
  simp [hc]
theorem cntTo_cong {c d : Nat → Int} {k n : Nat} (h : ∀ q, q < k → c q = d q) : cntTo c k n = cntTo d k n := by
  unfold cntTo
  congr 1
  refine List.filter_congr fun q hq => ?_
  rw [h q (List.mem_range.1 hq)]
theorem lenQ_le (q : Nat) : lenQ q ≤ 3 := by
  unfold lenQ
  split
  · omega
  · split
    · omega
    · split <;> omega
theorem lenQ_in {n i : Nat} (hn : n ≤ 3) (hi : i < manyL n) : lenQ (cntL n + i) = n ∧ cntL n + i < 259 := by
  have hm := manyL_cnt n
  have hc := cntL_le hn
  have e : n = 0 ∨ n = 1 ∨ n = 2 ∨ n = 3 := by omega
  refine ⟨?_, by omega⟩
  rcases e with rfl | rfl | rfl | rfl
  · have : manyL 0 = 1 := rfl
    obtain rfl : i = 0 := by omega
    rfl
  · have a : manyL 1 = 6 := rfl
    have b : cntL 1 = 1 := rfl
    unfold lenQ; rw [if_neg (by omega), if_pos (by omega)]
  · have a : manyL 2 = 36 := rfl
    have b : cntL 2 = 7 := rfl
    unfold lenQ; rw [if_neg (by omega), if_neg (by omega), if_pos (by omega)]
  · have a : manyL 3 = 216 := rfl
    have b : cntL 3 = 43 := rfl
    unfold lenQ; rw [if_neg (by omega), if_neg (by omega), if_neg (by omega)]
end Go.Proofs.Ytnmjanhpjnlfcaa.Plain
namespace Go.Proofs.Ytnmjanhpjnlfcaa
open Go.ChangeShapes Go.WideShapes Go.ChangeAt Go.RowKit
set_option linter.unusedVariables false

/-- Four numbers in a block. -/
def ints4 (v : Nat → Int) : Array Value := arrN 4 (fun i => .int .i64 (v i))
theorem ints4_lit (v : Nat → Int) : ints4 v = #[.int .i64 (v 0), .int .i64 (v 1), .int .i64 (v 2), .int .i64 (v 3)] := rfl
theorem ints4_size (v : Nat → Int) : (ints4 v).size = 4 := arrN_size _ _
theorem ints4_one (v : Nat → Int) : (ints4 v).all (·.oneCell') = true := arrN_one fun i => rfl
theorem ints4_cong {v u : Nat → Int} (h : ∀ i, i < 4 → v i = u i) : ints4 v = ints4 u := arrN_cong fun i hi => by rw [h i hi]
def Fou (w : World) (G : Nat) (v : Nat → Int) : Prop := w.heap[G]? = some (.cells (ints4 v) 32 (0, 0))
theorem Fou.lt {w : World} {G : Nat} {v : Nat → Int} (h : Fou w G v) : G < w.heap.size := (Array.getElem?_eq_some_iff.1 h).1
theorem Fou.on {w w' : World} {G : Nat} {v : Nat → Int} (h : Fou w G v) (hb : Below w.heap.size w w') : Fou w' G v := (hb.block G h.lt).trans h
theorem Fou.cell {w : World} {G : Nat} {v : Nat → Int} (h : Fou w G v) {i : Nat} (hi : i < 4) : w.cell? ⟨G, i, none⟩ = some (.int .i64 (v i)) := by
  rw [cell_of_row w G i _ _ _ h]
  exact arrN_at _ hi
theorem Fou.free {w : World} {G : Nat} {v : Nat → Int} (h : Fou w G v) (i : Nat) : w.frozen? ⟨G, i, none⟩ = false := frozen_of_row w G i _ _ h
theorem Fou.set {w : World} {G k : Nat} {v u : Nat → Int} (h : Fou w G v) (x : Int) (hk : k < 4) (he : ∀ i, i < 4 → u i = if i = k then x else v i) : Fou (w.setCell ⟨G, k, none⟩ (.int .i64 x)) G u := by
  rw [Fou, heap_setCell_same w G k _ _ _ h, ints4, arrN_set _ _ hk]
  congr 2
  refine arrN_cong fun i hi => ?_
  rw [he i hi]
  split <;> rfl
theorem Fou.off {w : World} {G H i : Nat} {v : Nat → Int} {x : Value} (h : Fou w G v) (hne : G ≠ H) : Fou (w.setCell ⟨H, i, none⟩ x) G v := (heap_setCell_other w ⟨H, i, none⟩ G x hne).trans h
theorem Fou.other {w : World} {G H : Nat} {v : Nat → Int} {cs : Array Value} (h : Fou w G v) (hne : G ≠ H) : Fou (w.setRow H cs) G v := (setRow_other w H G cs hne).trans h
theorem fou_row {w : World} {G : Nat} {v : Nat → Int} {cs : Array Value} (h : w.heap[G]? = some (.cells cs 32 (0, 0))) : Fou (w.setRow G (ints4 v)) G v := setRow_heap w G _ _ _ _ h
theorem fou_new (w : World) : Fou (w.alloc (.cells #[.int .i64 0, .int .i64 0, .int .i64 0, .int .i64 0] 32)) w.heap.size (fun _ => 0) := heap_alloc_new w _
theorem info4s (v : Nat → Int) : (Try.prog.info? 32).map (·.size) = some (ints4 v).size := by rw [ints4_size]; kernel_rfl
theorem fou_load {w : World} {G : Nat} {v : Nat → Int} (h : Fou w G v) : (loadVar 32 ⟨G, 0, none⟩).run Try.prog w = .ok (.agg (ints4 v)) w :=
  run_loadVar_row w G 32 32 _ (0, 0) _ h Try.underlying32 rfl (info4s _)

/-- What CountCoefficients answers. -/
def ccV (c : Nat → Int) (k : Nat) : Nat → Int := fun n => (Plain.cntTo c k n : Nat)
def ccW (us : List Int) : Nat → Int := if Plain.wordB us = true then ccV (Plain.cof us) 259 else fun _ => 0
theorem cc_no {us : List Int} (h : Plain.wordB us = false) : ccW us = fun _ => 0 := if_neg (by rw [h]; simp)
theorem cc_yes {us : List Int} (h : Plain.wordB us = true) : ccW us = ccV (Plain.cof us) 259 := if_pos h
theorem ccV_zero (c : Nat → Int) : ccV c 0 = fun _ => 0 := rfl
/-- The variable of four, the result's. -/
def Two4 (w wr : World) (v : Nat → Int) : Prop := Fou wr (w.heap.size + 1) v ∧ Fou wr w.heap.size (fun _ => 0) ∧ Below w.heap.size w wr
theorem Two4.later {w wr w1 : World} {v : Nat → Int} (h : Two4 w wr v) (hb : Below wr.heap.size wr w1) : Two4 w w1 v := ⟨h.1.on hb, h.2.1.on hb, h.2.2.trans (hb.mono h.2.2.size)⟩
theorem Two4.set {w wr : World} {v u : Nat → Int} {k : Nat} (h : Two4 w wr v) (x : Int) (hk : k < 4) (he : ∀ i, i < 4 → u i = if i = k then x else v i) : Two4 w (wr.setCell ⟨w.heap.size + 1, k, none⟩ (.int .i64 x)) u :=
  ⟨h.1.set x hk he, h.2.1.off (by omega), h.2.2.setCell (p := ⟨w.heap.size + 1, k, none⟩) (by simp) _⟩
theorem Two4.drew {w wr : World} {v : Nat → Int} (h : Two4 w wr v) : Two4 w wr.drew v := ⟨h.1, h.2.1, h.2.2.drew⟩
theorem two4_start (w : World) : Two4 w (((w.alloc (.cells #[.int .i64 0, .int .i64 0, .int .i64 0, .int .i64 0] 32)).alloc (.cells #[.int .i64 0, .int .i64 0, .int .i64 0, .int .i64 0] 32)).setRow (w.heap.size + 1) (ints4 fun _ => 0)) (fun _ => 0) := by
  have hb : Below w.heap.size w ((w.alloc (.cells #[.int .i64 0, .int .i64 0, .int .i64 0, .int .i64 0] 32)).alloc (.cells #[.int .i64 0, .int .i64 0, .int .i64 0, .int .i64 0] 32)) := ((Below.refl _ _).alloc (Nat.le_refl _) _).alloc (by simp) _
  have h1 : Fou ((w.alloc (.cells #[.int .i64 0, .int .i64 0, .int .i64 0, .int .i64 0] 32)).alloc (.cells #[.int .i64 0, .int .i64 0, .int .i64 0, .int .i64 0] 32)) (w.heap.size + 1) (fun _ => 0) := heap_alloc2_new w _ _
  have h2 : Fou ((w.alloc (.cells #[.int .i64 0, .int .i64 0, .int .i64 0, .int .i64 0] 32)).alloc (.cells #[.int .i64 0, .int .i64 0, .int .i64 0, .int .i64 0] 32)) w.heap.size (fun _ => 0) := heap_alloc2_old w _ _
  exact ⟨fou_row h1, h2.other (by omega), below_setRow hb (by omega) _⟩
theorem fou_cells {w : World} {G : Nat} {v : Nat → Int} (h : Fou w G v) : ∀ i, i < 4 → w.cell? ⟨G, i, none⟩ = some (.int .i64 (v i)) := fun i hi => h.cell hi

set_option maxRecDepth 100000 in
set_option maxHeartbeats 4000000 in
theorem implCountCoefficients_any (a : Option Addr) (cap : Nat) (us : List Int) (w : World) (h : Hid (Ints w a us)) (h64 : Hid (In64 us)) (hn : us.length ≤ 1048576) :
    Calls Try.prog 12 #[.slice a us.length cap] w (Val (.tuple #[.agg (ints4 (ccW us)), .bool (Plain.wordB us)]) w) := by
  have hb0 : Below w.heap.size w (w.alloc (.cells #[.int .i64 0, .int .i64 0, .int .i64 0, .int .i64 0] 32)) := (Below.refl _ _).alloc (Nat.le_refl _) _
  have HB0 := Lib.hid hb0
  have HI := Lib.hid (h.out.on hb0)
  have H0 := Lib.hid (fou_new w)
  have HT0 := Lib.hid (two4_start w)
  have HI2 := Lib.hid (h.out.on (two4_start w).2.2)
  clear hb0
  cases hw : Plain.wordB us with
  | false =>
    have HW := Lib.hid hw
    have HE := Lib.hid (cc_no hw)
    clear hw
    have HF : Hid (Fou ((w.alloc (.cells #[.int .i64 0, .int .i64 0, .int .i64 0, .int .i64 0] 32)).setRow w.heap.size (ints4 fun _ => 0)) w.heap.size (fun _ => 0)) := Lib.hid (fou_row H0.out)
    have HB := Lib.hid (below_setRow HB0.out (Nat.le_refl _) (ints4 fun _ => 0))
    go_enter Try.func12, Try.ntmps12
    go_wp2_with fail
    refine (isWord_any _ _ us _ HI h64 (by omega)).mono ?_
    rw [HW.out]
    rintro e w1 ⟨rfl, rfl⟩
    go_wp2_with (refine wpList_store_row rfl 32 _ _ rfl w.heap.size (ints4 fun _ => 0) rfl rfl 32 _ H0.out (info4s _) rfl (ints4_one _) ?_)
    exact bodyPost_ret (wresults2 (b := .bool false) rfl _ _ w.heap.size _ rfl (fou_load HF.out) rfl) rfl ⟨by rw [HE.out], HB.out⟩
  | true =>
    have HW := Lib.hid hw
    have HE := Lib.hid (cc_yes hw)
    have HU := Lib.hid (Plain.wordB_iff.1 hw).2
    have hu64 := (Plain.wordB_iff.1 hw).1
    obtain ⟨C, hC⟩ : ∃ C, C = Plain.cutC (Plain.cntL (3 + 1)) (Plain.cof us) := ⟨_, rfl⟩
    have HCE : Hid (∀ q, q < 259 → C q = Plain.cof us q) := Lib.hid (fun q hq => by rw [hC]; exact Plain.cutC_in hq)
    have HCall := Lib.hid (fun (w3 : World) (h3' : Hid (Ints w3 a us)) => coefficients_any a cap 3 us w3 h3' HU hu64 (by omega))
    rw [← hC] at HCall
    have hfc : ∀ w3 : World, Sem.run Try.prog (Instr.field 55 (.agg (coefs 3 C)) 1) w3 = .ok (.agg (c259 C)) w3 := field_coefs 3 C
    clear hw hC
    go_enter Try.func12, Try.ntmps12
    go_wp2_with fail
    refine (isWord_any _ _ us _ HI h64 (by omega)).mono ?_
    rw [HW.out]
    rintro e w1 ⟨rfl, rfl⟩
    go_upto_region 4 with (refine wpList_store_row rfl 32 _ _ rfl (w.heap.size + 1) (ints4 fun _ => 0) rfl rfl 32 (ints4 fun _ => 0) (heap_alloc2_new _ _ _) (info4s _) rfl (ints4_one _) ?_)
    generalize (((w.alloc (.cells #[.int .i64 0, .int .i64 0, .int .i64 0, .int .i64 0] 32)).alloc (.cells #[.int .i64 0, .int .i64 0, .int .i64 0, .int .i64 0] 32)).setRow (w.heap.size + 1) (ints4 fun _ => 0)) = W at HT0 HI2 ⊢
    go_wp2_with fail
    refine (HCall.out _ HI2).mono ?_
    rintro e w3 ⟨rfl, hb⟩
    have HT3 : Hid (Two4 w w3 (ccV C 0)) := Lib.hid (HT0.out.later hb)
    clear hb
    go_wp2_with fail
    clear hfc
    go_loopw [15] (fun i wr => ∃ k : Nat, k ≤ 259 ∧ i = .int .i64 (k : Int) ∧ Two4 w wr (ccV C k)) (fun i _ => 259 - (intOf i).toNat)
    case atStart => exact ⟨0, Nat.zero_le _, rfl, HT3.out⟩
    case round =>
      clear HT3 HT0
      obtain ⟨k, hk, rfl, hrel⟩ := hrel
      have HR := Lib.hid hrel
      clear hrel
      by_cases hlt : k < 259
      · have hk9 : (k : Int) < 259 := by omega
        have hk0 : (0 : Int) ≤ (k : Int) := by omega
        obtain ⟨X, hX⟩ : ∃ X, X = C k := ⟨_, rfl⟩
        have hix : ∀ w3 : World, Sem.run Try.prog (Instr.index 53 (.agg (c259 C)) (.int .i64 (k : Int))) w3 = .ok (.int .i64 X) w3 := fun w3 => by rw [hX]; exact index_c259 C k w3 hk9
        by_cases hX0 : X = 0
        · have hXb : (X != 0) = false := by simp [hX0]
          have HN : Hid (Two4 w wr (ccV C (k + 1))) := Lib.hid (by
            have e : ccV C (k + 1) = ccV C k := by funext n; unfold ccV; rw [Plain.cntTo_miss (by rw [← hX, hX0])]
            rw [e]; exact HR.out)
          clear hX hX0 HR
          go_wp2_with fail
          go_roundw
          case rel => exact ⟨k + 1, by omega, by go_num, HN.out⟩
          case measure => simp [intOf]; omega
        · have hXb : (X != 0) = true := by simpa using hX0
          obtain ⟨D, hD⟩ : ∃ D, D = Plain.lenQ k := ⟨_, rfl⟩
          have hD3 : D ≤ 3 := by rw [hD]; exact Plain.lenQ_le k
          have HDL : Hid ((Plain.listP k).length = D) := Lib.hid (by rw [hD]; exact (Plain.listP_fact hlt).2.2)
          have hle := Plain.cntTo_le C k D
          have HST : Hid (∀ n, Plain.cntTo C (k + 1) n = if n = D then Plain.cntTo C k D + 1 else Plain.cntTo C k n) := Lib.hid (fun n => Plain.cntTo_hit hD.symm (by rw [← hX]; exact hX0))
          have HCK : Hid (ccV C k D = (Plain.cntTo C k D : Nat)) := Lib.hid rfl
          obtain ⟨M, hM⟩ : ∃ M, M = Plain.cntTo C k D := ⟨_, rfl⟩
          rw [← hM] at HST HCK hle
          have HA := Lib.hid (fun W3 => listAt_any k W3 hlt)
          clear hX hX0 hD hM
          go_wp2_with fail
          refine (HA.out _).mono ?_
          rintro e w4 ⟨v4, rfl, hC4⟩
          have hRs := coll_res hC4
          have HT4 := Lib.hid (HR.out.later hRs.2)
          obtain ⟨⟨a9, c9, rfl, -, -, -⟩, -⟩ := hRs
          have hc := HT4.out.1.cell (i := D) (by omega)
          rw [HCK.out] at hc
          have hf := HT4.out.1.free D
          have HN : Hid (Two4 w (w4.setCell ⟨w.heap.size + 1, D, none⟩ (.int .i64 ((M : Int) + 1))) (ccV C (k + 1))) := Lib.hid (HT4.out.set _ (by omega) fun i _ => by
            unfold ccV
            rw [HST.out i]
            split <;> rfl)
          rw [HDL.out]
          have hD0 : (0 : Int) ≤ (D : Int) := by omega
          have hD4 : (D : Int) < 4 := by omega
          clear hC4 HR HT4
          go_wp2_with fail
          go_roundw
          case rel => exact ⟨k + 1, by omega, by go_num, HN.out⟩
          case measure => simp [intOf]; omega
      · obtain rfl : k = 259 := by omega
        have e : ccV C 259 = ccV (Plain.cof us) 259 := by funext n; unfold ccV; rw [Plain.cntTo_cong fun q hq => HCE.out q hq]
        have hR : Two4 w wr (ccV (Plain.cof us) 259) := by rw [← e]; exact HR.out
        clear HR e
        have H1 := Lib.hid hR.1
        have H2 := Lib.hid hR.2.1
        have HF : Hid (Fou (wr.setRow w.heap.size (ints4 (ccV (Plain.cof us) 259))) w.heap.size (ccV (Plain.cof us) 259)) := Lib.hid (fou_row H2.out)
        have HB := Lib.hid (below_setRow hR.2.2 (Nat.le_refl _) (ints4 (ccV (Plain.cof us) 259)))
        clear hR
        go_wp2_with (first
          | (refine wpList_load_row rfl 32 _ rfl (w.heap.size + 1) rfl 32 (ints4 (ccV (Plain.cof us) 259)) (0, 0) _ H1.out Try.underlying32 rfl (info4s _) ?_)
          | (refine wpList_store_row rfl 32 _ _ rfl w.heap.size (ints4 (ccV (Plain.cof us) 259)) rfl rfl 32 _ H2.out (info4s _) rfl (ints4_one _) ?_))
        exact bodyPost_ret (wresults2 (b := .bool true) rfl _ _ w.heap.size _ rfl (fou_load HF.out) rfl) rfl ⟨by first | (rw [HE.out]; done) | (rw [HE.out, HW.out]), HB.out⟩

theorem grown8_later {w wr w1 : World} {row : Option Nat} (h : w.grownBy wr row) (hb : Below wr.heap.size wr w1) : w.grownBy w1 row :=
  ⟨hb.os.trans h.os, hb.tape.trans h.tape, hb.output.trans h.output, Nat.le_trans h.size hb.size, fun k hk hne => (hb.block k (Nat.lt_of_lt_of_le hk h.size)).trans (h.block k hk hne)⟩
theorem grown8_set {w wr : World} {g : Nat} (h : w.grownBy wr (some g)) (k : Nat) (v : Value) : w.grownBy (wr.setCell ⟨g, k, none⟩ v) (some g) := by
  have hb := (Below.refl g wr).setCell (p := ⟨g, k, none⟩) (Nat.le_refl _) v
  exact ⟨hb.os.trans h.os, hb.tape.trans h.tape, hb.output.trans h.output, Nat.le_trans h.size hb.size, fun j hj hne => (heap_setCell_other wr ⟨g, k, none⟩ j v (fun e => hne (by rw [e]))).trans (h.block j hj hne)⟩
theorem grown8_drew {w wr : World} {row : Option Nat} (h : w.grownBy wr row) : w.grownBy wr.drew row := ⟨h.os, h.tape, h.output, h.size, h.block⟩
set_option maxRecDepth 100000 in
set_option maxHeartbeats 8000000 in
theorem specCountCoefficients_any (a : Option Addr) (cap : Nat) (us : List Int) (w : World) (h : Hid (Ints w a us)) (h64 : Hid (In64 us)) (hn : us.length ≤ 1048576) :
    Calls Try.prog 13 #[.slice a us.length cap] w (Val (.tuple #[.agg (ints4 (ccW us)), .bool (Plain.wordB us)]) w) := by
  have HT0 := Lib.hid (two4_start w)
  have HI2 := Lib.hid (h.out.on (two4_start w).2.2)
  go_enter Try.func13, Try.ntmps13
  go_upto_region 2 with (refine wpList_store_row rfl 32 _ _ rfl (w.heap.size + 1) (ints4 fun _ => 0) rfl rfl 32 (ints4 fun _ => 0) (heap_alloc2_new _ _ _) (info4s _) rfl (ints4_one _) ?_)
  generalize (((w.alloc (.cells #[.int .i64 0, .int .i64 0, .int .i64 0, .int .i64 0] 32)).alloc (.cells #[.int .i64 0, .int .i64 0, .int .i64 0, .int .i64 0] 32)).setRow (w.heap.size + 1) (ints4 fun _ => 0)) = W at HT0 HI2 ⊢
  cases hw : Plain.wordB us with
  | false =>
    have HW := Lib.hid hw
    have HE := Lib.hid (cc_no hw)
    clear hw
    have H1 := Lib.hid HT0.out.1
    have H2 := Lib.hid HT0.out.2.1
    have HF : Hid (Fou (W.setRow w.heap.size (ints4 fun _ => 0)) w.heap.size (fun _ => 0)) := Lib.hid (fou_row H2.out)
    have HB := Lib.hid (below_setRow HT0.out.2.2 (Nat.le_refl _) (ints4 fun _ => 0))
    clear HT0
    go_wp2_with fail
    refine (l2Word_any _ _ us _ HI2 h64 (by omega)).mono ?_
    rw [HW.out]
    rintro e w1 ⟨rfl, rfl⟩
    go_wp2_with (first
      | (refine wpList_load_row rfl 32 _ rfl (w.heap.size + 1) rfl 32 (ints4 fun _ => 0) (0, 0) _ H1.out Try.underlying32 rfl (info4s _) ?_)
      | (refine wpList_store_row rfl 32 _ _ rfl w.heap.size (ints4 fun _ => 0) rfl rfl 32 _ H2.out (info4s _) rfl (ints4_one _) ?_))
    exact bodyPost_ret (wresults2 (b := .bool false) rfl _ _ w.heap.size _ rfl (fou_load HF.out) rfl) rfl ⟨by rw [HE.out, HW.out], HB.out⟩
  | true =>
    have HW := Lib.hid hw
    have HE := Lib.hid (cc_yes hw)
    have HU := Lib.hid (Plain.wordB_iff.1 hw).2
    have hu64 := (Plain.wordB_iff.1 hw).1
    have HC0 : Hid (Plain.cof us 0 = 1) := Lib.hid (Plain.bd_cof us).1
    clear hw
    go_wp2_with fail
    refine (l2Word_any _ _ us _ HI2 h64 (by omega)).mono ?_
    rw [HW.out]
    rintro e w1 ⟨rfl, rfl⟩
    go_wp2_with fail
    refine (l8Of_any _ _ us _ HI2 HU hu64).mono ?_
    rintro e w3 ⟨rfl, hb⟩
    have HB1 : Below w3.heap.size w3 ((w3.alloc (.cells Try.zeroCells49 49)).setRow w3.heap.size (sers (Plain.cof us))) := below_setRow ((Below.refl _ _).alloc (Nat.le_refl _) _) (Nat.le_refl _) _
    have HS : Hid (SerAt ((w3.alloc (.cells Try.zeroCells49 49)).setRow w3.heap.size (sers (Plain.cof us))) w3.heap.size (Plain.cof us)) := Lib.hid (serAt_row (heap_alloc_new w3 _))
    have HT : Hid (Two4 w ((w3.alloc (.cells Try.zeroCells49 49)).setRow w3.heap.size (sers (Plain.cof us))) (ccV (Plain.cof us) 0)) := Lib.hid ((HT0.out.later hb).later HB1)
    have h3 : w.heap.size + 1 < w3.heap.size := (HT0.out.later hb).1.lt
    clear hb HB1 HT0
    go_upto_region 5 with (refine wpList_store_row rfl 49 _ _ rfl w3.heap.size (sers (Plain.cof us)) rfl rfl 49 (sers fun _ => 0) (by rw [sers_zero]; exact heap_alloc_new _ _) (infoSers _) (by rw [sers_size, sers_size]) (sers_one _) ?_)
    generalize ((w3.alloc (.cells Try.zeroCells49 49)).setRow w3.heap.size (sers (Plain.cof us))) = W4 at HS HT ⊢
    go_wp2_with fail
    go_loopw [6] (fun i wr => ∃ n : Nat, n ≤ 4 ∧ i = .int .i64 (n : Int) ∧ SerAt wr w3.heap.size (Plain.cof us) ∧ Two4 w wr (ccV (Plain.cof us) (Plain.cntL n))) (fun i _ => 4 - (intOf i).toNat)
    case atStart => exact ⟨0, Nat.zero_le _, rfl, HS.out, HT.out⟩
    case round =>
      clear HS HT
      obtain ⟨n, hn4, rfl, hS, hrel⟩ := hrel
      by_cases hlt : n < 4
      · have hn3 : n ≤ 3 := by omega
        have hn3i : (n : Int) ≤ 3 := by omega
        have HSw := Lib.hid hS
        have HTw := Lib.hid hrel
        clear hS hrel
        go_wp2_with fail
        refine (l8Lists_any n _ hn3).mono ?_
        rintro e WL ⟨v, gs, rfl, hgs, hG⟩
        have HSL := Lib.hid (HSw.out.on hG.2.2.1)
        have HTL := Lib.hid (HTw.out.later hG.2.2.1)
        have hgl : gs.length = Plain.manyL n := by rw [← lists_length, hgs, Plain.listsTo_len]
        have hml := Plain.manyL_le hn3
        have hgl2 : gs.length ≤ 216 := by omega
        have HGL := Lib.hid hgl
        have HGS := Lib.hid hgs
        have HG := Lib.hid hG
        have hlw := HSw.out.lt
        obtain ⟨ga, gc, rfl, -, hcp, hsb, -⟩ := collF_facs hG
        have hgc : gs.length ≤ gc := hcp.1
        have HSB := Lib.hid hsb
        clear hG hgs hgl hml hcp hsb HSw HTw
        go_wp2_with fail
        go_loopw [8] (fun i wx => ∃ j : Nat, j ≤ gs.length ∧ i = .int .i64 (j : Int) ∧ WL.grownBy wx (some (w.heap.size + 1)) ∧ SerAt wx w3.heap.size (Plain.cof us) ∧ Two4 w wx (ccV (Plain.cof us) (Plain.cntL n + j))) (fun i _ => gs.length - (intOf i).toNat)
        case atStart => exact ⟨0, Nat.zero_le _, rfl, World.grownBy.refl _ _, HSL.out, HTL.out⟩
        case round =>
          clear HSL HTL
          obtain ⟨j, hj, rfl, hgr, hS, hrel⟩ := hrel
          by_cases hltj : j < gs.length
          · obtain ⟨f, hf⟩ := at_some gs j hltj
            have hkm : j < Plain.manyL n := by rw [← HGL.out]; exact hltj
            have hfl : f.2.2 = Plain.listP (Plain.cntL n + j) := by
              have h1 := lists_at hf
              rw [HGS.out, Plain.listsTo_at hkm] at h1
              exact (Option.some.inj h1).symm
            obtain ⟨hlq, hcl⟩ := Plain.lenQ_in hn3 hkm
            obtain ⟨b, c5, e5, hcg, hfk⟩ := facs8_coll HG.out hf
            cases e5
            have hbB := (HSB.out b 0 rfl).1
            obtain ⟨fa, fc, fl⟩ := f
            dsimp only at hfl
            have hfact := Plain.listP_fact hcl
            rw [← hfl] at hfact
            have HFB := Lib.hid hfact.1
            have hcell := hgr.cell hcg (by simp; omega)
            simp only [facVal] at hcell
            have HFI : Hid (Ints wr.drew fa fl) := Lib.hid (hfk.1.off (grown8_drew hgr) (fun b1 o1 e1 hne1 => by
              rcases hfk.2.2.2 with h0 | ⟨b2, o2, e2, hB2, -⟩
              · exact absurd (List.eq_nil_of_length_eq_zero h0) hne1
              · rw [e1] at e2; cases e2; omega))
            have HS2 : Hid (SerAt wr.drew w3.heap.size (Plain.cof us)) := Lib.hid hS
            have HR2 : Hid (Two4 w wr.drew (ccV (Plain.cof us) (Plain.cntL n + j))) := Lib.hid hrel.drew
            have HGR : Hid (WL.grownBy wr.drew (some (w.heap.size + 1))) := Lib.hid (grown8_drew hgr)
            obtain ⟨X, hX⟩ : ∃ X, X = Plain.cof us (Plain.cntL n + j) := ⟨_, rfl⟩
            have HV : Hid (Plain.cof us (Plain.placeL fl) = X) := Lib.hid (by rw [hfact.2.1]; exact hX.symm)
            have hi2 : (j : Int) < (gs.length : Int) := by omega
            have hi20 : (0 : Int) ≤ (j : Int) := by omega
            by_cases hX0 : X = 0
            · have hXb : (X != 0) = false := by simp [hX0]
              have HMS : Hid (ccV (Plain.cof us) (Plain.cntL n + (j + 1)) = ccV (Plain.cof us) (Plain.cntL n + j)) := Lib.hid (by funext m; unfold ccV; rw [← Nat.add_assoc, Plain.cntTo_miss (by rw [← hX, hX0])])
              clear hX hX0 hf hkm hfl hcl hfact hrel hfk hcg hlq hgr hS hbB
              go_wp2_with fail
              have hcell2 : wr.drew.cell? ⟨b, j, none⟩ = some (.slice fa fl.length fc) := hcell
              clear hcell
              refine wp_region_any (by kernel_rfl) ?_
              change wpAny _ _ _ _ _ _ _ (World.drew _)
              refine wpAny_take (i := 1) (v := .slice (some ⟨b, 0, none⟩) gs.length gc) rfl (by kernel_rfl) (by kernel_rfl) (by kernel_rfl) (fun _ _ _ h => h) (.inl ⟨by kernel_rfl, fun w => by go_simp⟩) ?_
              refine wpAny_take (i := 2) (v := .int .i64 (j : Int)) rfl (by kernel_rfl) (by kernel_rfl) (by kernel_rfl) (fun _ _ _ h => h) (.inl ⟨by kernel_rfl, fun w => by go_simp⟩) ?_
              refine wpAny_take (i := 3) (v := .pointer (some ⟨b, j, none⟩)) rfl (by kernel_rfl) (by kernel_rfl) (by kernel_rfl) (fun _ _ _ h => h) (.inl ⟨by kernel_rfl, fun w => by go_simp⟩) ?_
              refine wpAny_ready (rs := [0, 4]) (by kernel_rfl) (by simp) ?_
              refine AllReady.cons rfl (fun K hK => ?_) ?_
              · refine wstep_load rfl 49 _ rfl w3.heap.size rfl (sers (Plain.cof us)) (ser_load (by exact HS2.out)) (hK _ _ ?_)
                clear hK K
                refine wpAny_ready (rs := [4]) (by kernel_rfl) (by simp) ?_
                refine AllReady.cons rfl (fun K hK => ?_) ?_
                · go_simp
                  refine hK _ _ ?_
                  clear hK K
                  refine wpAny_ready (rs := [5]) (by kernel_rfl) (by simp) ?_
                  refine AllReady.cons rfl (fun K hK => ?_) ?_
                  · go_simp
                    go_at_call 31
                    refine (l8Get_any fa fc fl (Plain.cof us) _ HFI HFB HC0).mono ?_
                    rw [HV.out]
                    rintro e w5 ⟨rfl, hb⟩
                    have HG5 : Hid (WL.grownBy w5 (some (w.heap.size + 1))) := Lib.hid (grown8_later HGR.out hb)
                    have HT5 := Lib.hid (HR2.out.later hb)
                    have HS5 := Lib.hid (HS2.out.on hb)
                    clear hb
                    refine hK _ _ ?_
                    clear hK K
                    refine wpAny_ready (rs := [6]) (by kernel_rfl) (by simp) ?_
                    refine AllReady.cons rfl (fun K hK => ?_) ?_
                    · go_simp
                      refine hK _ _ ?_
                      clear hK K
                      refine wpAny_done (by kernel_rfl) ?_ _
                      have HT6 : Hid (Two4 w w5 (ccV (Plain.cof us) (Plain.cntL n + (j + 1)))) := Lib.hid (by rw [HMS.out]; exact HT5.out)
                      go_wp2_with fail
                      go_roundw
                      case rel => exact ⟨j + 1, by omega, by go_num, HG5.out, HS5.out, HT6.out⟩
                      case measure => simp [intOf]; omega
                    exact AllReady.nil
                  exact AllReady.nil
                exact AllReady.nil
              refine AllReady.cons rfl (fun K hK => ?_) ?_
              · go_simp
                refine hK _ _ ?_
                clear hK K
                refine wpAny_ready (rs := [0]) (by kernel_rfl) (by simp) ?_
                refine AllReady.cons rfl (fun K hK => ?_) ?_
                · refine wstep_load rfl 49 _ rfl w3.heap.size rfl (sers (Plain.cof us)) (ser_load (by exact HS2.out)) (hK _ _ ?_)
                  clear hK K
                  refine wpAny_ready (rs := [5]) (by kernel_rfl) (by simp) ?_
                  refine AllReady.cons rfl (fun K hK => ?_) ?_
                  · go_simp
                    go_at_call 31
                    refine (l8Get_any fa fc fl (Plain.cof us) _ HFI HFB HC0).mono ?_
                    rw [HV.out]
                    rintro e w5 ⟨rfl, hb⟩
                    have HG5 : Hid (WL.grownBy w5 (some (w.heap.size + 1))) := Lib.hid (grown8_later HGR.out hb)
                    have HT5 := Lib.hid (HR2.out.later hb)
                    have HS5 := Lib.hid (HS2.out.on hb)
                    clear hb
                    refine hK _ _ ?_
                    clear hK K
                    refine wpAny_ready (rs := [6]) (by kernel_rfl) (by simp) ?_
                    refine AllReady.cons rfl (fun K hK => ?_) ?_
                    · go_simp
                      refine hK _ _ ?_
                      clear hK K
                      refine wpAny_done (by kernel_rfl) ?_ _
                      have HT6 : Hid (Two4 w w5 (ccV (Plain.cof us) (Plain.cntL n + (j + 1)))) := Lib.hid (by rw [HMS.out]; exact HT5.out)
                      go_wp2_with fail
                      go_roundw
                      case rel => exact ⟨j + 1, by omega, by go_num, HG5.out, HS5.out, HT6.out⟩
                      case measure => simp [intOf]; omega
                    exact AllReady.nil
                  exact AllReady.nil
                exact AllReady.nil
              exact AllReady.nil
            · have hXb : (X != 0) = true := by simpa using hX0
              have HST : Hid (∀ m, Plain.cntTo (Plain.cof us) (Plain.cntL n + j + 1) m = if m = n then Plain.cntTo (Plain.cof us) (Plain.cntL n + j) n + 1 else Plain.cntTo (Plain.cof us) (Plain.cntL n + j) m) := Lib.hid (fun m => Plain.cntTo_hit hlq (by rw [← hX]; exact hX0))
              have hle := Plain.cntTo_le (Plain.cof us) (Plain.cntL n + j) n
              have HCK : Hid (ccV (Plain.cof us) (Plain.cntL n + j) n = (Plain.cntTo (Plain.cof us) (Plain.cntL n + j) n : Nat)) := Lib.hid rfl
              obtain ⟨M, hM⟩ : ∃ M, M = Plain.cntTo (Plain.cof us) (Plain.cntL n + j) n := ⟨_, rfl⟩
              rw [← hM] at HST HCK hle
              have hM259 : M ≤ 259 := by omega
              clear hX hX0 hf hkm hfl hcl hfact hrel hfk hcg hlq hgr hS hbB hM hle
              go_wp2_with fail
              have hcell2 : wr.drew.cell? ⟨b, j, none⟩ = some (.slice fa fl.length fc) := hcell
              clear hcell
              refine wp_region_any (by kernel_rfl) ?_
              change wpAny _ _ _ _ _ _ _ (World.drew _)
              refine wpAny_take (i := 1) (v := .slice (some ⟨b, 0, none⟩) gs.length gc) rfl (by kernel_rfl) (by kernel_rfl) (by kernel_rfl) (fun _ _ _ h => h) (.inl ⟨by kernel_rfl, fun w => by go_simp⟩) ?_
              refine wpAny_take (i := 2) (v := .int .i64 (j : Int)) rfl (by kernel_rfl) (by kernel_rfl) (by kernel_rfl) (fun _ _ _ h => h) (.inl ⟨by kernel_rfl, fun w => by go_simp⟩) ?_
              refine wpAny_take (i := 3) (v := .pointer (some ⟨b, j, none⟩)) rfl (by kernel_rfl) (by kernel_rfl) (by kernel_rfl) (fun _ _ _ h => h) (.inl ⟨by kernel_rfl, fun w => by go_simp⟩) ?_
              refine wpAny_ready (rs := [0, 4]) (by kernel_rfl) (by simp) ?_
              refine AllReady.cons rfl (fun K hK => ?_) ?_
              · refine wstep_load rfl 49 _ rfl w3.heap.size rfl (sers (Plain.cof us)) (ser_load (by exact HS2.out)) (hK _ _ ?_)
                clear hK K
                refine wpAny_ready (rs := [4]) (by kernel_rfl) (by simp) ?_
                refine AllReady.cons rfl (fun K hK => ?_) ?_
                · go_simp
                  refine hK _ _ ?_
                  clear hK K
                  refine wpAny_ready (rs := [5]) (by kernel_rfl) (by simp) ?_
                  refine AllReady.cons rfl (fun K hK => ?_) ?_
                  · go_simp
                    go_at_call 31
                    refine (l8Get_any fa fc fl (Plain.cof us) _ HFI HFB HC0).mono ?_
                    rw [HV.out]
                    rintro e w5 ⟨rfl, hb⟩
                    have HG5 : Hid (WL.grownBy w5 (some (w.heap.size + 1))) := Lib.hid (grown8_later HGR.out hb)
                    have HT5 := Lib.hid (HR2.out.later hb)
                    have HS5 := Lib.hid (HS2.out.on hb)
                    clear hb
                    refine hK _ _ ?_
                    clear hK K
                    refine wpAny_ready (rs := [6]) (by kernel_rfl) (by simp) ?_
                    refine AllReady.cons rfl (fun K hK => ?_) ?_
                    · go_simp
                      refine hK _ _ ?_
                      clear hK K
                      refine wpAny_done (by kernel_rfl) ?_ _
                      have hc := HT5.out.1.cell (i := n) (by omega)
                      rw [HCK.out] at hc
                      have hf := HT5.out.1.free n
                      have HN : Hid (Two4 w (w5.setCell ⟨w.heap.size + 1, n, none⟩ (.int .i64 ((M : Int) + 1))) (ccV (Plain.cof us) (Plain.cntL n + (j + 1)))) := Lib.hid (HT5.out.set _ (by omega) fun i _ => by
                        unfold ccV
                        rw [← Nat.add_assoc, HST.out i]
                        split <;> rfl)
                      have HSN : Hid (SerAt (w5.setCell ⟨w.heap.size + 1, n, none⟩ (.int .i64 ((M : Int) + 1))) w3.heap.size (Plain.cof us)) := Lib.hid (HS5.out.off (by omega))
                      have HGN : Hid (WL.grownBy (w5.setCell ⟨w.heap.size + 1, n, none⟩ (.int .i64 ((M : Int) + 1))) (some (w.heap.size + 1))) := Lib.hid (grown8_set HG5.out n _)
                      have hn0 : (0 : Int) ≤ (n : Int) := by omega
                      have hn4 : (n : Int) < 4 := by omega
                      go_wp2_with fail
                      go_roundw
                      case rel => exact ⟨j + 1, by omega, by go_num, HGN.out, HSN.out, HN.out⟩
                      case measure => simp [intOf]; omega
                    exact AllReady.nil
                  exact AllReady.nil
                exact AllReady.nil
              refine AllReady.cons rfl (fun K hK => ?_) ?_
              · go_simp
                refine hK _ _ ?_
                clear hK K
                refine wpAny_ready (rs := [0]) (by kernel_rfl) (by simp) ?_
                refine AllReady.cons rfl (fun K hK => ?_) ?_
                · refine wstep_load rfl 49 _ rfl w3.heap.size rfl (sers (Plain.cof us)) (ser_load (by exact HS2.out)) (hK _ _ ?_)
                  clear hK K
                  refine wpAny_ready (rs := [5]) (by kernel_rfl) (by simp) ?_
                  refine AllReady.cons rfl (fun K hK => ?_) ?_
                  · go_simp
                    go_at_call 31
                    refine (l8Get_any fa fc fl (Plain.cof us) _ HFI HFB HC0).mono ?_
                    rw [HV.out]
                    rintro e w5 ⟨rfl, hb⟩
                    have HG5 : Hid (WL.grownBy w5 (some (w.heap.size + 1))) := Lib.hid (grown8_later HGR.out hb)
                    have HT5 := Lib.hid (HR2.out.later hb)
                    have HS5 := Lib.hid (HS2.out.on hb)
                    clear hb
                    refine hK _ _ ?_
                    clear hK K
                    refine wpAny_ready (rs := [6]) (by kernel_rfl) (by simp) ?_
                    refine AllReady.cons rfl (fun K hK => ?_) ?_
                    · go_simp
                      refine hK _ _ ?_
                      clear hK K
                      refine wpAny_done (by kernel_rfl) ?_ _
                      have hc := HT5.out.1.cell (i := n) (by omega)
                      rw [HCK.out] at hc
                      have hf := HT5.out.1.free n
                      have HN : Hid (Two4 w (w5.setCell ⟨w.heap.size + 1, n, none⟩ (.int .i64 ((M : Int) + 1))) (ccV (Plain.cof us) (Plain.cntL n + (j + 1)))) := Lib.hid (HT5.out.set _ (by omega) fun i _ => by
                        unfold ccV
                        rw [← Nat.add_assoc, HST.out i]
                        split <;> rfl)
                      have HSN : Hid (SerAt (w5.setCell ⟨w.heap.size + 1, n, none⟩ (.int .i64 ((M : Int) + 1))) w3.heap.size (Plain.cof us)) := Lib.hid (HS5.out.off (by omega))
                      have HGN : Hid (WL.grownBy (w5.setCell ⟨w.heap.size + 1, n, none⟩ (.int .i64 ((M : Int) + 1))) (some (w.heap.size + 1))) := Lib.hid (grown8_set HG5.out n _)
                      have hn0 : (0 : Int) ≤ (n : Int) := by omega
                      have hn4 : (n : Int) < 4 := by omega
                      go_wp2_with fail
                      go_roundw
                      case rel => exact ⟨j + 1, by omega, by go_num, HGN.out, HSN.out, HN.out⟩
                      case measure => simp [intOf]; omega
                    exact AllReady.nil
                  exact AllReady.nil
                exact AllReady.nil
              exact AllReady.nil
          · have hje : j = gs.length := by omega
            have hji : ¬ ((j : Int) < (gs.length : Int)) := by omega
            have HT9 : Hid (Two4 w wr (ccV (Plain.cof us) (Plain.cntL (n + 1)))) := Lib.hid (by rw [← Plain.manyL_cnt n, ← HGL.out, ← hje]; exact hrel)
            have HS9 := Lib.hid hS
            clear hgr hS hrel hje
            go_wp2_with fail
            go_roundw
            case rel => exact ⟨n + 1, by omega, by go_num, HS9.out, HT9.out⟩
            case measure => simp [intOf]; omega
      · obtain rfl : n = 4 := by omega
        have hR : Two4 w wr (ccV (Plain.cof us) 259) := hrel
        clear hrel hS
        have H1 := Lib.hid hR.1
        have H2 := Lib.hid hR.2.1
        have HF : Hid (Fou (wr.setRow w.heap.size (ints4 (ccV (Plain.cof us) 259))) w.heap.size (ccV (Plain.cof us) 259)) := Lib.hid (fou_row H2.out)
        have HB := Lib.hid (below_setRow hR.2.2 (Nat.le_refl _) (ints4 (ccV (Plain.cof us) 259)))
        clear hR
        go_wp2_with (first
          | (refine wpList_load_row rfl 32 _ rfl (w.heap.size + 1) rfl 32 (ints4 (ccV (Plain.cof us) 259)) (0, 0) _ H1.out Try.underlying32 rfl (info4s _) ?_)
          | (refine wpList_store_row rfl 32 _ _ rfl w.heap.size (ints4 (ccV (Plain.cof us) 259)) rfl rfl 32 _ H2.out (info4s _) rfl (ints4_one _) ?_))
        exact bodyPost_ret (wresults2 (b := .bool true) rfl _ _ w.heap.size _ rfl (fou_load HF.out) rfl) rfl ⟨by first | (rw [HE.out]; done) | (rw [HE.out, HW.out]), HB.out⟩
theorem bothCountCoefficients (us : List Int) (h64 : Hid (In64 us)) (hn : us.length ≤ 1048576) : ∃ (c0 c1 c2 c3 : Int) (ok : Bool),
    (∀ a cap w, Hid (Ints w a us) → Calls Try.prog 13 #[.slice a us.length cap] w (Val (.tuple #[.agg #[.int .i64 c0, .int .i64 c1, .int .i64 c2, .int .i64 c3], .bool ok]) w)) ∧
    (∀ a cap w, Hid (Ints w a us) → Calls Try.prog 12 #[.slice a us.length cap] w (Val (.tuple #[.agg #[.int .i64 c0, .int .i64 c1, .int .i64 c2, .int .i64 c3], .bool ok]) w)) :=
  ⟨ccW us 0, ccW us 1, ccW us 2, ccW us 3, Plain.wordB us, fun a cap w h => specCountCoefficients_any a cap us w h h64 hn, fun a cap w h => implCountCoefficients_any a cap us w h h64 hn⟩


end Go.Proofs.Ytnmjanhpjnlfcaa
