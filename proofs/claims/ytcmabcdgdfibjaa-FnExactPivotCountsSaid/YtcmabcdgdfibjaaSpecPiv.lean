/- Contracts: spec.PivotCounts; impl's Family.table, PivotCounts. Conditions: numbers of 64 bits, lengths that fit. -/
import Derived.Test.YtcmabcdgdfibjaaBoth5E
import Derived.Test.YtcmabcdgdfibjaaSix
import Derived.Test.YtcmabcdgdfibjaaLater
namespace Go.Proofs.Ytcmabcdgdfibjaa
open Go.ChangeShapes Go.WideShapes Go.ChangeAt Go.RowKit
set_option linter.unusedVariables false

theorem clr_bit5 (s q p : Nat) : (Plain.clr s q).testBit p = (s.testBit p && !q.testBit p) := by
  simp only [Plain.clr, Nat.testBit_xor, Nat.testBit_and]
  cases s.testBit p <;> cases q.testBit p <;> rfl
/-- A nail decides for a set without it. -/
def pvB (xs : List Int) (i s : Nat) : Bool := !s.testBit i && (!Plain.hasB xs s && Plain.hasB xs (s ||| 2 ^ i))
theorem pv_dec {xs : List Int} {s i : Nat} (hs : s < 64) (hi : i < 6) : (Plain.clr (Plain.decN (Plain.hasB xs) s) s).testBit i = pvB xs i s := by
  rw [clr_bit5, Plain.decN_bit _ hi, pvB, Plain.decB]
  cases hb : s.testBit i with
  | true => simp
  | false =>
    obtain ⟨a, -, -, -⟩ := Plain.bit_no hs hi hb
    rw [a]
    simp
/-- What PivotCounts answers. -/
def pivV (xs : List Int) : Nat → Int := fun i => if Plain.famB xs = true then ((countTo (pvB xs i) 64 : Nat) : Int) else 0
theorem piv_no {xs : List Int} (h : Plain.famB xs = false) : pivV xs = (fun _ => 0) ∧ Plain.famB xs = false := ⟨by funext i; simp [pivV, h], h⟩
theorem piv_yes {xs : List Int} (h : Plain.famB xs = true) : pivV xs = (fun i => ((countTo (pvB xs i) 64 : Nat) : Int)) ∧ Plain.famB xs = true := ⟨by funext i; simp [pivV, h], h⟩
theorem val_6b {v v' : Nat → Int} {c c' : Bool} {w w' : World} {e : Ending} (h1 : v = v') (h2 : c = c') (h : Val (.tuple #[.agg (six v), .bool c]) w e w') : Val (.tuple #[.agg (six v'), .bool c']) w e w' := by subst h1; subst h2; exact h
theorem count_step {t : Nat → Bool} {k : Nat} : ((countTo t (k + 1) : Nat) : Int) = if t k = true then ((countTo t k : Nat) : Int) + 1 else ((countTo t k : Nat) : Int) := by
  rw [countTo]; split <;> simp
/-- A Family's variable, the result's and the counts', in three new blocks. -/
theorem piv_start (w : World) (u : Value) : FamAt (((w.alloc (.cells #[u] 27)).alloc (.cells (six fun _ => 0) 46)).alloc (.cells (six fun _ => 0) 46)) w.heap.size u ∧ At6 (((w.alloc (.cells #[u] 27)).alloc (.cells (six fun _ => 0) 46)).alloc (.cells (six fun _ => 0) 46)) (w.heap.size + 1) (fun _ => 0) ∧
    At6 (((w.alloc (.cells #[u] 27)).alloc (.cells (six fun _ => 0) 46)).alloc (.cells (six fun _ => 0) 46)) (w.heap.size + 1 + 1) (fun _ => 0) ∧ Below w.heap.size w (((w.alloc (.cells #[u] 27)).alloc (.cells (six fun _ => 0) 46)).alloc (.cells (six fun _ => 0) 46)) := by
  have h1 := heap_alloc2_old (w.alloc (.cells #[u] 27)) (.cells (six fun _ => 0) 46) (.cells (six fun _ => 0) 46)
  have h2 := heap_alloc2_new (w.alloc (.cells #[u] 27)) (.cells (six fun _ => 0) 46) (.cells (six fun _ => 0) 46)
  rw [show (w.alloc (.cells #[u] 27)).heap.size = w.heap.size + 1 by simp] at h1 h2
  exact ⟨((famAt_new w u).alloc _).alloc _, h1, h2, (((Below.refl _ _).alloc (Nat.le_refl _) _).alloc (by simp) _).alloc (by simp; omega) _⟩
set_option maxRecDepth 100000 in
set_option maxHeartbeats 4000000 in
theorem specPivotCounts_any (a : Option Addr) (cap : Nat) (xs : List Int) (w : World) (h : Hid (Ints w a xs)) (h64 : Hid (In64 xs)) (hn : xs.length ≤ 1048576) :
    Calls Try.prog 46 #[.agg #[.slice a xs.length cap]] w (Val (.tuple #[.agg (six (pivV xs)), .bool (Plain.famB xs)]) w) := by
  have H0 := Lib.hid (piv_start w (.slice a xs.length cap))
  cases hf : Plain.famB xs with
  | false =>
    have HE := Lib.hid (piv_no hf)
    have HF := Lib.hid hf
    clear hf
    go_enter Try.func46, Try.ntmps46
    go_wp2_with fail
    rw [← six_zero]
    obtain ⟨W, hW⟩ : ∃ W, W = (((w.alloc (.cells #[.slice a xs.length cap] 27)).alloc (.cells (six fun _ => 0) 46)).alloc (.cells (six fun _ => 0) 46)) := ⟨_, rfl⟩
    rw [← hW] at H0 ⊢
    clear hW
    refine (l5Family_any _ _ xs _ (Lib.hid (h.out.on H0.out.2.2.2)) h64 hn).mono ?_
    rw [HF.out]
    rintro e w2 ⟨rfl, hb⟩
    have H2 := Lib.hid (And.intro (H0.out.1.on hb) (And.intro (H0.out.2.1.on hb) (And.intro (H0.out.2.2.1.on hb) (H0.out.2.2.2.trans (hb.mono H0.out.2.2.2.size)))))
    clear hb
    have hfin := at6_row (v := fun _ => 0) H2.out.2.1
    have hbel := below_setRow H2.out.2.2.2 (g := w.heap.size + 1) (by omega) (six (fun _ => 0))
    have HFIN := Lib.hid (And.intro hfin hbel)
    have HLD := Lib.hid H2.out.2.2.1
    have HST := Lib.hid H2.out.2.1
    clear hfin hbel
    go_wp2_with (first
      | (refine wpList_load_row rfl 46 _ rfl (w.heap.size + 1 + 1) rfl 46 (six (fun _ => 0)) (0, 0) _ HLD.out Try.underlying46 rfl info6 ?_)
      | (refine wpList_store_row rfl 46 _ _ rfl (w.heap.size + 1) (six (fun _ => 0)) rfl rfl 46 _ HST.out info6 rfl (six_one _) ?_))
    refine bodyPost_ret (results_six2 rfl _ _ (w.heap.size + 1) _ (.bool false) rfl rfl HFIN.out.1) rfl (val_6b HE.out.1.symm rfl ⟨rfl, HFIN.out.2⟩)
  | true =>
    have HE := Lib.hid (piv_yes hf)
    have HF := Lib.hid hf
    have HSB := Lib.hid (Plain.fam_sets hf)
    clear hf
    go_enter Try.func46, Try.ntmps46
    go_wp2_with fail
    rw [← six_zero]
    obtain ⟨W, hW⟩ : ∃ W, W = (((w.alloc (.cells #[.slice a xs.length cap] 27)).alloc (.cells (six fun _ => 0) 46)).alloc (.cells (six fun _ => 0) 46)) := ⟨_, rfl⟩
    rw [← hW] at H0 ⊢
    clear hW
    refine (l5Family_any _ _ xs _ (Lib.hid (h.out.on H0.out.2.2.2)) h64 hn).mono ?_
    rw [HF.out]
    rintro e w2 ⟨rfl, hb⟩
    have H2 := Lib.hid (And.intro (H0.out.1.on hb) (And.intro (H0.out.2.1.on hb) (And.intro (H0.out.2.2.1.on hb) (H0.out.2.2.2.trans (hb.mono H0.out.2.2.2.size)))))
    clear hb
    go_wp2_with fail
    go_loopw [5, 6] (fun i _ wr => ∃ p : Nat, p ≤ 6 ∧ i = .int .i64 (p : Int) ∧ At6 wr (w.heap.size + 1 + 1) (fun j => if j < p then ((countTo (pvB xs j) 64 : Nat) : Int) else 0) ∧ At6 wr (w.heap.size + 1) (fun _ => 0) ∧ FamAt wr w.heap.size (.slice a xs.length cap) ∧ Below w.heap.size w wr) (fun i _ _ => 6 - (intOf i).toNat)
    case atStart => exact ⟨0, Nat.zero_le _, rfl, H2.out.2.2.1.cong (fun i hi => by simp), H2.out.2.1, H2.out.1, H2.out.2.2.2⟩
    case round =>
      obtain ⟨i, hi, rfl, h1, h2, h3, h4⟩ := hrel
      by_cases hlt : i < 6
      · have HO : Hid (At6 wr (w.heap.size + 1 + 1) (fun j => if j < i then ((countTo (pvB xs j) 64 : Nat) : Int) else if j = i then ((countTo (pvB xs i) 0 : Nat) : Int) else 0) ∧ At6 wr (w.heap.size + 1) (fun _ => 0) ∧ FamAt wr w.heap.size (.slice a xs.length cap) ∧ Below w.heap.size w wr) := Lib.hid ⟨h1.cong (fun j hj => by
          by_cases e : j < i
          · simp [e]
          · by_cases e2 : j = i <;> simp [e, e2, countTo]), h2, h3, h4⟩
        have hi6 : (i : Int) < 6 := by omega
        have hi0 : (0 : Int) ≤ (i : Int) := by omega
        obtain ⟨q, hq⟩ : ∃ q, q = 2 ^ i := ⟨_, rfl⟩
        have hpow : (2 : Int) ^ i = (q : Int) := by rw [hq]; simp
        have hq32 : q ≤ 32 := by rw [hq]; exact pow_small hlt
        have HQ := Lib.hid hq
        clear h1 h2 h3 h4 hq
        go_wp2_with fail
        go_loopw [6] (fun c wr => ∃ k : Nat, k ≤ 64 ∧ c = .int .i64 (k : Int) ∧ At6 wr (w.heap.size + 1 + 1) (fun j => if j < i then ((countTo (pvB xs j) 64 : Nat) : Int) else if j = i then ((countTo (pvB xs i) k : Nat) : Int) else 0) ∧ At6 wr (w.heap.size + 1) (fun _ => 0) ∧ FamAt wr w.heap.size (.slice a xs.length cap) ∧ Below w.heap.size w wr) (fun c _ => 64 - (intOf c).toNat)
        case atStart => exact ⟨0, Nat.zero_le _, rfl, HO.out⟩
        case round =>
          obtain ⟨k, hk, rfl, hrel⟩ := hrel
          have HR := Lib.hid hrel
          clear hrel
          by_cases hk64 : k < 64
          · have hk1 : (k : Int) < 64 := by omega
            have hk0 : (0 : Int) ≤ (k : Int) := by omega
            have hwi : IntKind.i64.wrap ((i : Int) + 1) = (i : Int) + 1 := IntWalk.i64_in _ (by omega)
            have hwq : IntKind.i64.wrap (q : Int) = (q : Int) := IntWalk.i64_in _ (by omega)
            have hor := or_small k q hk64 (by omega)
            have hu64 : k ||| q < 64 := Nat.or_lt_two_pow (n := 6) hk64 (by omega)
            obtain ⟨u, hu⟩ : ∃ u, u = k ||| q := ⟨_, rfl⟩
            rw [← hu] at hor hu64
            have HU := Lib.hid hu
            clear hu
            obtain ⟨b, hb⟩ : ∃ b, b = pvB xs i k := ⟨_, rfl⟩
            have HBV := Lib.hid hb
            clear hb
            have H4 := HR.out.2.2.2
            have HI := Lib.hid (h.out.on H4)
            go_upto_region 10 with fail
            go_cut [38] from 20 to 38 (fun s wx => s = .bool b ∧ Below wr.heap.size wr wx)
            case first =>
              have hcl : ∀ p : Later wr, p.W.cell? ⟨w.heap.size, 0, none⟩ = some (.slice a xs.length cap) := fun p => (HR.out.2.2.1.on p.ok).cell
              have HIL : ∀ p : Later wr, Hid (Ints p.W a xs) := fun p => Lib.hid (HI.out.on p.ok)
              have HIL2 := Lib.hid HIL
              clear H4 HIL
              cases hb1 : k.testBit i with
              | true =>
                have HT := Lib.hid hb1
                have HB1 : Hid (b = false) := Lib.hid (by rw [HBV.out, pvB, hb1]; rfl)
                clear hb1
                refine wp_region_below (by kernel_rfl) (by kernel_rfl) ?_
                repeat (quiet_step ((go_at_call 76; exact later_same ((l3In_any k i _ hk64 (by omega)).mono fun _ _ h => ⟨by rw [h.1, HT.out], h.2.symm⟩))))
                refine wpQuiet_nil ?_
                intro _ hw'
                obtain ⟨⟨wx, hwx⟩, rfl⟩ := hw'
                go_wp2_with fail
                go_meet
                case rel => exact ⟨by rw [HB1.out], hwx⟩
              | false =>
                have HT := Lib.hid hb1
                cases hb2 : Plain.hasB xs k with
                | true =>
                  have HH := Lib.hid hb2
                  have HB1 : Hid (b = false) := Lib.hid (by rw [HBV.out, pvB, hb1, hb2]; rfl)
                  clear hb1 hb2
                  refine wp_region_below (by kernel_rfl) (by kernel_rfl) ?_
                  repeat (quiet_step (first
                    | (go_at_call 76; exact later_same ((l3In_any k i _ hk64 (by omega)).mono fun _ _ h => ⟨by rw [h.1, HT.out], h.2.symm⟩))
                    | (go_at_call 53; exact later_of ((l5Has_any a cap xs k _ (HIL2.out _) HSB (by omega) hk64).mono fun _ _ h => ⟨by rw [h.1, HH.out], h.2⟩))))
                  refine wpQuiet_nil ?_
                  intro _ hw'
                  obtain ⟨⟨wx, hwx⟩, rfl⟩ := hw'
                  go_wp2_with fail
                  go_meet
                  case rel => exact ⟨by rw [HB1.out], hwx⟩
                | false =>
                  have HB1 : Hid (Plain.hasB xs u = b) := Lib.hid (by rw [HBV.out, pvB, hb1, hb2, HU.out, HQ.out]; rfl)
                  have hub := HB1.out
                  have HAS : Hid (∀ (p : Later wr) (v : Nat), v < 64 → Calls Try.prog 53 #[.agg #[.slice a xs.length cap], .int .i64 (v : Int)] p.W (Val (.bool (Plain.hasB xs v)) p.W)) := Lib.hid (fun p v hv => l5Has_any a cap xs v _ (HIL2.out _) HSB (by omega) hv)
                  clear hb1
                  refine wp_region_below (by kernel_rfl) (by kernel_rfl) ?_
                  repeat (quiet_step (first
                    | (go_at_call 76; exact later_same ((l3In_any k i _ hk64 (by omega)).mono fun _ _ h => ⟨by rw [h.1, HT.out], h.2.symm⟩))
                    | (go_at_call 53; exact later_of (HAS.out _ _ (by assumption)))))
                  refine wpQuiet_nil ?_
                  intro _ hw'
                  obtain ⟨⟨wx, hwx⟩, rfl⟩ := hw'
                  go_wp2_with fail
                  go_meet
                  case rel => exact ⟨rfl, hwx⟩
            case rest =>
              obtain ⟨rfl, hb⟩ := hcut
              generalize wc = wx at hb ⊢
              have HX := Lib.hid (And.intro (HR.out.1.on hb) (And.intro (HR.out.2.1.on hb) (And.intro (HR.out.2.2.1.on hb) (HR.out.2.2.2.trans (hb.mono HR.out.2.2.2.size)))))
              clear hb H4
              cases b with
              | false =>
                have HC : Hid (((countTo (pvB xs i) (k + 1) : Nat) : Int) = ((countTo (pvB xs i) k : Nat) : Int)) := Lib.hid (by rw [count_step, ← HBV.out]; simp)
                go_wp2_with fail
                go_roundw
                case rel => exact ⟨k + 1, by omega, by go_num, by rw [HC.out]; exact HX.out.1, HX.out.2⟩
                case measure => simp [intOf]; omega
              | true =>
                have HC : Hid (((countTo (pvB xs i) (k + 1) : Nat) : Int) = ((countTo (pvB xs i) k : Nat) : Int) + 1) := Lib.hid (by rw [count_step, ← HBV.out]; simp)
                have hcle := countTo_le (pvB xs i) k
                have hcx := HX.out.1.cell hlt
                have hfx := HX.out.1.free i
                simp only [Nat.lt_irrefl, if_false, if_true] at hcx
                obtain ⟨c, hcc⟩ : ∃ c, c = countTo (pvB xs i) k := ⟨_, rfl⟩
                rw [← hcc] at hcle hcx
                have HS := Lib.hid (And.intro ((HX.out.1.set (((c : Nat) : Int) + 1) hlt).cong (u := fun j => if j < i then ((countTo (pvB xs j) 64 : Nat) : Int) else if j = i then ((countTo (pvB xs i) (k + 1) : Nat) : Int) else 0) (fun j hj => by
                  by_cases e : j = i
                  · subst e; simp [HC.out, hcc]
                  · simp [e])) (And.intro (HX.out.2.1.off (H := w.heap.size + 1 + 1) (i := i) (x := .int .i64 (((c : Nat) : Int) + 1)) (by omega)) (And.intro (HX.out.2.2.1.off (H := w.heap.size + 1 + 1) (i := i) (v := .int .i64 (((c : Nat) : Int) + 1)) (by omega)) (HX.out.2.2.2.setCell (p := ⟨w.heap.size + 1 + 1, i, none⟩) (by simp; omega) (.int .i64 (((c : Nat) : Int) + 1))))))
                clear hcc
                go_wp2_with fail
                go_roundw
                case rel => exact ⟨k + 1, by omega, by go_num, HS.out⟩
                case measure => simp [intOf]; omega
          · obtain rfl : k = 64 := by omega
            have HN : Hid (At6 wr (w.heap.size + 1 + 1) (fun j => if j < i + 1 then ((countTo (pvB xs j) 64 : Nat) : Int) else 0)) := Lib.hid (HR.out.1.cong (fun j hj => by
              by_cases e : j < i
              · simp [e, show j < i + 1 by omega]
              · by_cases e2 : j = i
                · subst e2; simp
                · simp [e, e2, show ¬ j < i + 1 by omega]))
            go_wp2_with fail
            go_roundw
            case rel => exact ⟨i + 1, by omega, by go_num, HN.out, HR.out.2⟩
            case measure => simp [intOf]; omega
      · obtain rfl : i = 6 := by omega
        have h5 : At6 wr (w.heap.size + 1 + 1) (fun i => ((countTo (pvB xs i) 64 : Nat) : Int)) := h1.cong (fun i hi => by simp [hi])
        clear h1
        have hfin := at6_row (v := fun i => ((countTo (pvB xs i) 64 : Nat) : Int)) h2
        have hbel := below_setRow h4 (g := w.heap.size + 1) (by omega) (six (fun i => ((countTo (pvB xs i) 64 : Nat) : Int)))
        have HFIN := Lib.hid (And.intro hfin hbel)
        have HLD := Lib.hid h5
        have HST := Lib.hid h2
        clear hfin hbel h5 h2 h3 h4
        go_wp2_with (first
          | (refine wpList_load_row rfl 46 _ rfl (w.heap.size + 1 + 1) rfl 46 (six (fun i => ((countTo (pvB xs i) 64 : Nat) : Int))) (0, 0) _ HLD.out Try.underlying46 rfl info6 ?_)
          | (refine wpList_store_row rfl 46 _ _ rfl (w.heap.size + 1) (six (fun i => ((countTo (pvB xs i) 64 : Nat) : Int))) rfl rfl 46 _ HST.out info6 rfl (six_one _) ?_))
        refine bodyPost_ret (results_six2 rfl _ _ (w.heap.size + 1) _ (.bool true) rfl rfl HFIN.out.1) rfl (val_6b HE.out.1.symm rfl ⟨rfl, HFIN.out.2⟩)

end Go.Proofs.Ytcmabcdgdfibjaa
