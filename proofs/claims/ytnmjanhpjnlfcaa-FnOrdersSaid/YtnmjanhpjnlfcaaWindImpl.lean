/- Contract: impl's word.coefficients. Conditions: a word, a length of at most 3. -/
import Derived.Test.YtnmjanhpjnlfcaaWindTurn
namespace Go.Proofs.Ytnmjanhpjnlfcaa
open Go.ChangeShapes Go.WideShapes Go.ChangeAt Go.RowKit
set_option linter.unusedVariables false

theorem coefs_zero : coefs 0 (fun _ => 0) = Try.zeroCells55 := by kernel_rfl
theorem coefs_len (l : Int) : Try.zeroCells55.setIfInBounds 0 (.int .i64 l) = coefs l (fun _ => 0) := by
  rw [← coefs_zero]
  unfold coefs
  rw [arrN_set _ _ (by omega)]
  refine arrN_cong fun i hi => ?_
  unfold coefV
  by_cases e : i = 0
  · rw [if_pos e, if_pos e]
  · rw [if_neg e, if_neg e, if_neg e]
theorem CoefAt.past {w w' : World} {B G : Nat} {l : Int} {c : Nat → Int} (h : CoefAt w G l c) (hb : Below B w w') (hG : G < B) : CoefAt w' G l c := (hb.block G hG).trans h
theorem CoefAt.off {w : World} {G H i : Nat} {l : Int} {c : Nat → Int} {v : Value} (h : CoefAt w G l c) (hne : G ≠ H) : CoefAt (w.setCell ⟨H, i, none⟩ v) G l c := (heap_setCell_other w ⟨H, i, none⟩ G v hne).trans h
theorem CoefAt.other {w : World} {G H : Nat} {l : Int} {c : Nat → Int} {cs : Array Value} (h : CoefAt w G l c) (hne : G ≠ H) : CoefAt (w.setRow H cs) G l c := (setRow_other w H G cs hne).trans h
theorem coefAt_row {w : World} {G : Nat} {l : Int} {c : Nat → Int} {cs : Array Value} (h : w.heap[G]? = some (.cells cs 55 (0, 0))) : CoefAt (w.setRow G (coefs l c)) G l c := setRow_heap w G _ _ _ _ h
theorem infoCoefs (l : Int) (c : Nat → Int) : (Try.prog.info? 55).map (·.size) = some (coefs l c).size := by rw [coefs_size]; exact infoCoef
theorem coef_load {w : World} {G : Nat} {l : Int} {c : Nat → Int} (h : CoefAt w G l c) : (loadVar 55 ⟨G, 0, none⟩).run Try.prog w = .ok (.agg (coefs l c)) w :=
  run_loadVar_row w G 55 55 _ (0, 0) _ h Try.underlying55 rfl (infoCoefs _ _)
/-- The word's variable, the result's. -/
def TwoC (w wr : World) (l : Int) (c : Nat → Int) : Prop := CoefAt wr (w.heap.size + 1) l c ∧ CoefAt wr w.heap.size 0 (fun _ => 0) ∧ Below w.heap.size w wr
theorem twoC_start (w : World) (l : Int) : TwoC w (((w.alloc (.cells Try.zeroCells55 55)).alloc (.cells Try.zeroCells55 55)).setRow (w.heap.size + 1) (coefs l fun _ => 0)) l (fun _ => 0) := by
  have hb : Below w.heap.size w ((w.alloc (.cells Try.zeroCells55 55)).alloc (.cells Try.zeroCells55 55)) := ((Below.refl _ _).alloc (Nat.le_refl _) _).alloc (by simp) _
  have h1 : CoefAt ((w.alloc (.cells Try.zeroCells55 55)).alloc (.cells Try.zeroCells55 55)) (w.heap.size + 1) 0 (fun _ => 0) := by rw [← coefs_zero]; exact heap_alloc2_new _ _ _
  have h2 : CoefAt ((w.alloc (.cells Try.zeroCells55 55)).alloc (.cells Try.zeroCells55 55)) w.heap.size 0 (fun _ => 0) := by rw [← coefs_zero]; exact heap_alloc2_old _ _ _
  exact ⟨coefAt_row h1, h2.other (by omega), below_setRow hb (by omega) _⟩
theorem TwoC.set {w wr : World} {l : Int} {c d : Nat → Int} {k : Nat} (h : TwoC w wr l c) (x : Int) (hk : k < 259) (he : ∀ q, q < 259 → d q = if q = k then x else c q) : TwoC w (wr.setCell ⟨w.heap.size + 1, 1 + k, none⟩ (.int .i64 x)) l d :=
  ⟨h.1.set x hk he, h.2.1.off (by omega), h.2.2.setCell (p := ⟨w.heap.size + 1, 1 + k, none⟩) (by simp) _⟩

set_option maxRecDepth 100000 in
set_option maxHeartbeats 2000000 in
theorem coefficients_any (a : Option Addr) (cap l : Nat) (xs : List Int) (w : World) (h : Hid (Ints w a xs)) (hL : Hid (Plain.Letters xs)) (hn : xs.length ≤ 64) (hl : l ≤ 3) :
    Calls Try.prog 29 #[.slice a xs.length cap, .int .i64 (l : Int)] w (Val (.agg (coefs l (Plain.cutC (Plain.cntL (l + 1)) (Plain.cof xs)))) w) := by
  have H1 := Lib.hid (twoC_start w l)
  have hf := H1.out.1.free 1
  have hcl : (((w.alloc (.cells Try.zeroCells55 55)).alloc (.cells Try.zeroCells55 55)).setRow (w.heap.size + 1) (coefs l fun _ => 0)).cell? ⟨w.heap.size + 1, 1, none⟩ = some (.int .i64 0) := H1.out.1.cell (k := 0) (by omega)
  have h1m : 1 ≤ Plain.cntL (l + 1) := by show 1 ≤ 1 + 6 * _; omega
  have H2 : Hid (TwoC w ((((w.alloc (.cells Try.zeroCells55 55)).alloc (.cells Try.zeroCells55 55)).setRow (w.heap.size + 1) (coefs l fun _ => 0)).setCell ⟨w.heap.size + 1, 1, none⟩ (.int .i64 1)) l (Plain.cutC (Plain.cntL (l + 1)) (Plain.cof (xs.take 0)))) := Lib.hid (H1.out.set (k := 0) 1 (by omega) fun q hq => by
    rw [List.take_zero, Plain.cof_nil, Plain.cutC_empty h1m]
    rfl)
  clear H1
  go_enter Try.func29, Try.ntmps29
  go_wp2_with (refine wpList_store_row rfl 55 _ _ rfl (w.heap.size + 1) (coefs l fun _ => 0) rfl (congrArg Value.agg (coefs_len l)) 55 (coefs 0 fun _ => 0) (by rw [coefs_zero]; exact heap_alloc2_new _ _ _) (infoCoefs _ _) (by rw [coefs_size, coefs_size]) (coefs_one _ _) ?_)
  go_loopw [14] (fun i wr => ∃ k : Nat, k ≤ xs.length ∧ i = .int .i64 (k : Int) ∧ TwoC w wr l (Plain.cutC (Plain.cntL (l + 1)) (Plain.cof (xs.take k)))) (fun i _ => xs.length - (intOf i).toNat)
  case atStart => exact ⟨0, Nat.zero_le _, rfl, H2.out⟩
  case round =>
    obtain ⟨k, hk, rfl, hrel⟩ := hrel
    have HR := Lib.hid hrel
    have HI := Lib.hid (h.out.on hrel.2.2)
    clear hrel
    by_cases hlt : k < xs.length
    · obtain ⟨x, hx⟩ := at_some xs k hlt
      obtain ⟨b, o, rfl, hc⟩ := HI.out k x hx
      have hxl := hL.out.at hx
      have HS := Lib.hid (Plain.small_cof (l := xs.take k) (by simp; omega))
      have HS2 := Lib.hid (Plain.small_cof (l := xs.take (k + 1)) (by simp; omega))
      have HT := Lib.hid (Plain.cof_take hx)
      have hi : (k : Int) < (xs.length : Int) := by omega
      have hi0 : (0 : Int) ≤ (k : Int) := by omega
      clear hx
      by_cases hpos : 0 < x
      · obtain ⟨n, rfl⟩ : ∃ n : Nat, x = (n : Int) := ⟨x.toNat, by omega⟩
        have HU : Hid (Plain.cof (xs.take (k + 1)) = Plain.upC n (Plain.cof (xs.take k))) := Lib.hid (by rw [HT.out]; unfold Plain.letC; rw [if_pos hpos]; rfl)
        clear HT HS2
        go_wp2_with fail
        refine (turn_any _ l n _ wr (Lib.hid HR.out.1) HS hl (by omega) (by omega)).mono ?_
        rintro e w1 ⟨rfl, hc1, hb1⟩
        have HC1 := Lib.hid hc1
        have HB1 := Lib.hid hb1
        clear hc1 hb1
        go_wp2_with fail
        go_roundw
        case rel =>
          refine ⟨k + 1, by omega, by go_num, ?_⟩
          rw [HU.out]
          exact ⟨HC1.out, HR.out.2.1.past HB1.out (by omega), HR.out.2.2.trans (HB1.out.mono (by omega))⟩
        case measure => simp [intOf]; omega
      · obtain ⟨n, rfl⟩ : ∃ n : Nat, x = -(n : Int) := ⟨(-x).toNat, by omega⟩
        have HU : Hid (Plain.cof (xs.take (k + 1)) = Plain.dnC n (Plain.cof (xs.take k))) := Lib.hid (by rw [HT.out]; unfold Plain.letC; rw [if_neg hpos, show (- -(n : Int)).toNat = n by omega])
        have HD : Hid (Plain.Small (Plain.dnC n (Plain.cof (xs.take k)))) := Lib.hid (by rw [← HU.out]; exact HS2.out)
        have hneg : - -(n : Int) = (n : Int) := by omega
        clear HT HS2
        go_wp2_with fail
        refine (turnBack_any _ l n _ wr (Lib.hid HR.out.1) HS HD hl (by omega) (by omega)).mono ?_
        rintro e w1 ⟨rfl, hc1, hb1⟩
        have HC1 := Lib.hid hc1
        have HB1 := Lib.hid hb1
        clear hc1 hb1
        go_wp2_with fail
        go_roundw
        case rel =>
          refine ⟨k + 1, by omega, by go_num, ?_⟩
          rw [HU.out]
          exact ⟨HC1.out, HR.out.2.1.past HB1.out (by omega), HR.out.2.2.trans (HB1.out.mono (by omega))⟩
        case measure => simp [intOf]; omega
    · obtain rfl : k = xs.length := by omega
      have hR := HR.out
      rw [List.take_length] at hR
      have HT := Lib.hid hR.1
      have HT2 := Lib.hid hR.2.1
      have HB := Lib.hid hR.2.2
      have HF : Hid (CoefAt (wr.setRow w.heap.size (coefs l (Plain.cutC (Plain.cntL (l + 1)) (Plain.cof xs)))) w.heap.size l (Plain.cutC (Plain.cntL (l + 1)) (Plain.cof xs))) := Lib.hid (coefAt_row HT2.out)
      have HB2 := Lib.hid (below_setRow HB.out (Nat.le_refl _) (coefs l (Plain.cutC (Plain.cntL (l + 1)) (Plain.cof xs))))
      clear hR HR
      go_wp2_with (first
        | (refine wpList_load_row rfl 55 _ rfl (w.heap.size + 1) rfl 55 (coefs l (Plain.cutC (Plain.cntL (l + 1)) (Plain.cof xs))) (0, 0) _ HT.out Try.underlying55 rfl (infoCoefs _ _) ?_)
        | (refine wpList_store_row rfl 55 _ _ rfl w.heap.size (coefs l (Plain.cutC (Plain.cntL (l + 1)) (Plain.cof xs))) rfl rfl 55 _ HT2.out (infoCoefs _ _) (by rw [coefs_size, coefs_size]) (coefs_one _ _) ?_))
      exact bodyPost_ret (results_cell_row rfl _ _ w.heap.size 55 _ (0, 0) _ rfl HF.out Try.underlying55 rfl (infoCoefs _ _)) rfl ⟨rfl, HB2.out⟩

end Go.Proofs.Ytnmjanhpjnlfcaa
