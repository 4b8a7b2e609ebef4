/- Contracts: spec.ThresholdFamily; impl.ThresholdFamily and its closure. Conditions: numbers of 64 bits. -/
import Derived.Test.YtcmabcdgdfibjaaBoth5C
import Derived.Test.YtcmabcdgdfibjaaSizeOf
namespace Go.Proofs.Ytcmabcdgdfibjaa
open Go.ChangeShapes Go.WideShapes Go.ChangeAt Go.RowKit
set_option linter.unusedVariables false

/-- What ThresholdFamily answers. -/
def thrB (n k : Int) : Bool := nB n && decide (0 ≤ k ∧ k ≤ n + 1)
def thrW (n k : Int) : List Int := if thrB n k = true then Plain.edges (fun s => decide (k.toNat ≤ Plain.many (s &&& (2 ^ n.toNat - 1)))) true else []
theorem thr_no {n k : Int} (h : thrB n k = false) : thrW n k = [] ∧ thrB n k = false := ⟨by rw [thrW, h]; simp, h⟩
theorem thr_yes {p q m : Nat} (h : thrB (p : Int) (q : Int) = true) (hm : m + 1 = 2 ^ p) : thrW (p : Int) (q : Int) = Plain.edges (fun s => decide (q ≤ Plain.many (s &&& m))) true ∧ thrB (p : Int) (q : Int) = true := by
  refine ⟨?_, h⟩
  rw [thrW, h, Int.toNat_natCast, Int.toNat_natCast, show 2 ^ p - 1 = m by omega]; simp
theorem thrW_le (n k : Int) : (thrW n k).length ≤ 64 := by
  unfold thrW
  split
  · exact Plain.edges_le _ _
  · simp
theorem thr_nat {p : Nat} {k : Int} (h : decide (0 ≤ k ∧ k ≤ (p : Int) + 1) = true) : ∃ q : Nat, k = (q : Int) ∧ q ≤ p + 1 := by
  have := numsB_range h
  exact ⟨k.toNat, by omega, by omega⟩
set_option maxRecDepth 100000 in
set_option maxHeartbeats 2000000 in
theorem specThresholdFamily_any (n k : Int) (w : World) (hr : -9223372036854775808 ≤ n ∧ n ≤ 9223372036854775807) (hk : -9223372036854775808 ≤ k ∧ k ≤ 9223372036854775807) :
    Calls Try.prog 35 #[.int .i64 n, .int .i64 k] w (FB (thrW n k) (thrB n k) w) := by
  have H0 := Lib.hid (And.intro (famAt_new w (.slice none 0 0)) ((Below.refl w.heap.size w).alloc (Nat.le_refl _) (.cells #[.slice none 0 0] 27)))
  have HR := Lib.hid hr
  have HRK := Lib.hid hk
  clear hr hk
  cases hs : nB n with
  | false =>
    have HE := Lib.hid (thr_no (n := n) (k := k) (by simp [thrB, hs]))
    have HN := Lib.hid hs
    clear hs
    go_enter Try.func35, Try.ntmps35
    go_wp2_with fail
    obtain ⟨W, hW⟩ : ∃ W, W = w.alloc (.cells #[.slice none 0 0] 27) := ⟨_, rfl⟩
    rw [← hW] at H0 ⊢
    clear hW
    refine (l1In_any n 0 6 _ HR.out).mono ?_
    rw [show decide (0 ≤ n ∧ n ≤ 6) = _ from HN.out]
    rintro e w' ⟨rfl, rfl⟩
    have hB := ((H0.out.2).setCell (p := ⟨w.heap.size, 0, none⟩) (by simp <;> omega) (.slice none 0 0))
    have hF := (H0.out.1).set (.slice none 0 0)
    have hcr := (H0.out.1).cell
    have hfr := (H0.out.1).free
    have HB9 := Lib.hid (And.intro hB hF)
    clear hB hF
    go_wp2_with fail
    refine bodyPost_ret (results_fam2 rfl _ _ (w.heap.size) _ (.bool false) rfl rfl HB9.out.2) rfl (fb_of HE.out.1.symm HE.out.2.symm (fb_nil HB9.out.1))
  | true =>
    obtain ⟨p, rfl, hp6⟩ := n_nat hs
    have HN := Lib.hid hs
    cases hk : decide (0 ≤ k ∧ k ≤ (p : Int) + 1) with
    | false =>
      have HE := Lib.hid (thr_no (n := (p : Int)) (k := k) (by rw [thrB, hk, Bool.and_false]))
      have HK2 := Lib.hid hk
      clear hs hk
      go_enter Try.func35, Try.ntmps35
      go_wp2_with fail
      obtain ⟨W, hW⟩ : ∃ W, W = w.alloc (.cells #[.slice none 0 0] 27) := ⟨_, rfl⟩
      rw [← hW] at H0 ⊢
      clear hW
      refine (l1In_any (p : Int) 0 6 _ HR.out).mono ?_
      rw [show decide (0 ≤ (p : Int) ∧ (p : Int) ≤ 6) = _ from HN.out]
      rintro e w' ⟨rfl, rfl⟩
      go_wp2_with fail
      refine (l1In_any k 0 ((p : Int) + 1) _ HRK.out).mono ?_
      rw [HK2.out]
      rintro e w' ⟨rfl, rfl⟩
      have hB := ((H0.out.2).setCell (p := ⟨w.heap.size, 0, none⟩) (by simp <;> omega) (.slice none 0 0))
      have hF := (H0.out.1).set (.slice none 0 0)
      have hcr := (H0.out.1).cell
      have hfr := (H0.out.1).free
      have HB9 := Lib.hid (And.intro hB hF)
      clear hB hF
      go_wp2_with fail
      refine bodyPost_ret (results_fam2 rfl _ _ (w.heap.size) _ (.bool false) rfl rfl HB9.out.2) rfl (fb_of HE.out.1.symm HE.out.2.symm (fb_nil HB9.out.1))
    | true =>
      obtain ⟨q, rfl, hqp⟩ := thr_nat hk
      obtain ⟨m, hm⟩ : ∃ m, m + 1 = 2 ^ p := ⟨2 ^ p - 1, by have := Nat.pow_pos (a := 2) (n := p) (by decide); omega⟩
      obtain ⟨hpow, hm64⟩ := pow_m hp6 hm
      have hE := thr_yes (p := p) (q := q) (m := m) (by rw [thrB, hs, hk]; rfl) hm
      obtain ⟨L, hL⟩ : ∃ L, L = Plain.edges (fun s => decide (q ≤ Plain.many (s &&& m))) true := ⟨_, rfl⟩
      rw [← hL] at hE
      have HE := Lib.hid hE
      have HL := Lib.hid hL
      have HK2 := Lib.hid hk
      clear hs hk hE hL hm
      go_enter Try.func35, Try.ntmps35
      go_wp2_with fail
      obtain ⟨W, hW⟩ : ∃ W, W = w.alloc (.cells #[.slice none 0 0] 27) := ⟨_, rfl⟩
      rw [← hW] at H0 ⊢
      clear hW
      refine (l1In_any (p : Int) 0 6 _ HR.out).mono ?_
      rw [show decide (0 ≤ (p : Int) ∧ (p : Int) ≤ 6) = _ from HN.out]
      rintro e w' ⟨rfl, rfl⟩
      go_wp2_with fail
      refine (l1In_any (q : Int) 0 ((p : Int) + 1) _ HRK.out).mono ?_
      rw [HK2.out]
      rintro e w' ⟨rfl, rfl⟩
      have HT0 := Lib.hid (tab_new W (fun _ => false))
      have HTS := Lib.hid (tabOn_start W)
      go_wp2_with (refine wpList_store_row rfl 58 _ _ rfl W.heap.size (bools fun _ => false) rfl (by rw [bools_zero]; rfl) 58 (bools fun _ => false) (by rw [← bools_zero]; exact HT0.out) info64 rfl (bools_one _) ?_)
      rw [← bools_zero]
      obtain ⟨WT, hWT⟩ : ∃ WT, WT = ((W.alloc (.cells (bools fun _ => false) 58)).setRow W.heap.size (bools fun _ => false)) := ⟨_, rfl⟩
      rw [← hWT] at HTS ⊢
      clear hWT HT0
      go_loopw [7] (fun i wr => ∃ k : Nat, k ≤ 64 ∧ i = .int .i64 k ∧ TabOn W wr (upTo (fun s => decide (q ≤ Plain.many (s &&& m))) k)) (fun i _ => 64 - (intOf i).toNat)
      case atStart => exact ⟨0, Nat.zero_le _, rfl, by rw [upTo_zero]; exact HTS.out⟩
      case round =>
        obtain ⟨k, hk, rfl, hrel⟩ := hrel
        have HK := Lib.hid hrel
        clear hrel
        by_cases hlt : k < 64
        · have hi : (k : Int) < 64 := by omega
          have hi0 : (0 : Int) ≤ (k : Int) := by omega
          have hbit := and_small k m hlt hm64
          have hu64 : k &&& m < 64 := Nat.and_lt_two_pow (n := 6) k hm64
          obtain ⟨u, hu⟩ : ∃ u, u = k &&& m := ⟨_, rfl⟩
          rw [← hu] at hbit hu64
          have HU := Lib.hid hu
          clear hu
          go_wp2_with fail
          refine (l3Many_any u _ hu64).mono ?_
          rintro e w1 ⟨rfl, hw1⟩
          have hb : Below wr.heap.size wr w1 := by rw [hw1]; exact Below.refl _ _
          clear hw1
          by_cases hq : q ≤ Plain.many u
          · have hqi : (q : Int) ≤ ((Plain.many u : Nat) : Int) := by omega
            have HTk : Hid (decide (q ≤ Plain.many (k &&& m)) = true) := Lib.hid (by rw [← HU.out]; simpa using hq)
            have H1 := Lib.hid (HK.out.later hb)
            have hc : w1.cell? ⟨W.heap.size, k, none⟩ = some (.bool (upTo (fun s => decide (q ≤ Plain.many (s &&& m))) k k)) := H1.out.1.cell hlt
            have hf : w1.frozen? ⟨W.heap.size, k, none⟩ = false := H1.out.1.free k
            have H2 := H1.out.set hlt
            rw [HTk.out] at H2
            have H2 := Lib.hid H2
            clear hb HK
            go_wp2_with fail
            go_roundw
            case rel => exact ⟨k + 1, by omega, by go_num, H2.out⟩
            case measure => simp [intOf]; omega
          · have hqi : ¬ ((q : Int) ≤ ((Plain.many u : Nat) : Int)) := by omega
            have HTk : Hid (decide (q ≤ Plain.many (k &&& m)) = false) := Lib.hid (by rw [← HU.out]; simpa using hq)
            have H1 := Lib.hid (HK.out.later hb)
            have hc : w1.cell? ⟨W.heap.size, k, none⟩ = some (.bool (upTo (fun s => decide (q ≤ Plain.many (s &&& m))) k k)) := H1.out.1.cell hlt
            have hf : w1.frozen? ⟨W.heap.size, k, none⟩ = false := H1.out.1.free k
            have H2 := H1.out.set hlt
            rw [HTk.out] at H2
            have H2 := Lib.hid H2
            clear hb HK
            go_wp2_with fail
            go_roundw
            case rel => exact ⟨k + 1, by omega, by go_num, H2.out⟩
            case measure => simp [intOf]; omega
        · obtain rfl : k = 64 := by omega
          have T1 := HK.out.1
          rw [Tab, upTo_all] at T1
          have HT := Lib.hid T1
          clear T1
          go_wp2_with (refine wpList_load_row rfl 58 _ rfl W.heap.size rfl 58 (bools (fun s => decide (q ≤ Plain.many (s &&& m)))) (0, 0) _ HT.out Try.underlying58 rfl info64 ?_)
          refine (l5Made_any _ _).mono ?_
          rw [← HL.out]
          rintro e w3 ⟨ma, mc, rfl, hi, ho, hcp, hb⟩
          have HS := Lib.hid (fam_stored (W := wr) (B := wr.heap.size) (G := w.heap.size) ((H0.out.2).trans (HK.out.2.mono (H0.out.2).size)) (by simp <;> omega) (Nat.lt_of_lt_of_le (H0.out.1).lt HK.out.2.size) (Nat.le_refl _) ((H0.out.1).on HK.out.2) hi ho hcp hb)
          have hcr := (((H0.out.1).on HK.out.2).on hb).cell
          have hfr := (((H0.out.1).on HK.out.2).on hb).free
          clear hi ho hcp hb
          go_wp2_with fail
          refine bodyPost_ret (results_fam2 rfl _ _ (w.heap.size) _ (.bool true) rfl rfl HS.out.1) rfl (fb_of HE.out.1.symm HE.out.2.symm HS.out.2)
theorem thr_tells (q n m s g1 g2 : Nat) (w : World) (hlt : s < 64) (hn6 : n ≤ 6) (hm : Hid (m + 1 = 2 ^ n)) (hq7 : q ≤ 7) (h1 : At1 3 w g1 (.int .i64 (n : Int))) (h2 : At1 3 w g2 (.int .i64 (q : Int))) :
    Calls Try.prog 74 #[.int .i64 (s : Int), .pointer (some ⟨g1, 0, none⟩), .pointer (some ⟨g2, 0, none⟩)] w (Val (.bool (decide (q ≤ Plain.many (s &&& m)))) w) := by
  have c1 := h1.cell
  have c2 := h2.cell
  have hm64 := (pow_m hn6 hm.out).2
  have hbit := and_small s m hlt hm64
  have hu64 : s &&& m < 64 := Nat.and_lt_two_pow (n := 6) s hm64
  obtain ⟨u, hu⟩ : ∃ u, u = s &&& m := ⟨_, rfl⟩
  rw [← hu] at hbit hu64 ⊢
  clear hu h1 h2
  have hmy := Plain.many_le u
  by_cases hq : q ≤ Plain.many u
  · have hqi : (q : Int) ≤ ((Plain.many u : Nat) : Int) := by omega
    have HE : Hid (decide (q ≤ Plain.many u) = true) := Lib.hid (by simpa using hq)
    go_enter Try.func74, Try.ntmps74
    go_wp2_with fail
    go_quiet (first | (go_at_call 71; exact Calls.quiet_of_same (firstNails_any n m _ hn6 hm.out)) | (go_at_call 75; exact Calls.quiet_of_same ((sizeOf_any u _ hu64).mono fun _ _ h => ⟨h.1, h.2.symm⟩)))
    go_wp2_with fail
    go_ret
    exact ⟨ret_bool HE.out.symm, below_drewN (Below.refl _ _) _⟩
  · have hqi : ¬ (q : Int) ≤ ((Plain.many u : Nat) : Int) := by omega
    have HE : Hid (decide (q ≤ Plain.many u) = false) := Lib.hid (by simpa using hq)
    go_enter Try.func74, Try.ntmps74
    go_wp2_with fail
    go_quiet (first | (go_at_call 71; exact Calls.quiet_of_same (firstNails_any n m _ hn6 hm.out)) | (go_at_call 75; exact Calls.quiet_of_same ((sizeOf_any u _ hu64).mono fun _ _ h => ⟨h.1, h.2.symm⟩)))
    go_wp2_with fail
    go_ret
    exact ⟨ret_bool HE.out.symm, below_drewN (Below.refl _ _) _⟩
/-- Two numbers' variables and a result's, in three new blocks. -/
theorem two_int_result (w : World) (v u : Value) : At1 3 (((w.alloc (.cells #[v] 3)).alloc (.cells #[u] 3)).alloc (.cells #[.slice none 0 0] 27)) w.heap.size v ∧ At1 3 (((w.alloc (.cells #[v] 3)).alloc (.cells #[u] 3)).alloc (.cells #[.slice none 0 0] 27)) (w.heap.size + 1) u ∧
    FamAt (((w.alloc (.cells #[v] 3)).alloc (.cells #[u] 3)).alloc (.cells #[.slice none 0 0] 27)) (w.heap.size + 1 + 1) (.slice none 0 0) ∧ Below w.heap.size w (((w.alloc (.cells #[v] 3)).alloc (.cells #[u] 3)).alloc (.cells #[.slice none 0 0] 27)) := by
  have h1 : At1 3 ((w.alloc (.cells #[v] 3)).alloc (.cells #[u] 3)) (w.heap.size + 1) u := At1.second w v u
  have h2 := famAt_new ((w.alloc (.cells #[v] 3)).alloc (.cells #[u] 3)) (.slice none 0 0)
  rw [show ((w.alloc (.cells #[v] 3)).alloc (.cells #[u] 3)).heap.size = w.heap.size + 1 + 1 by simp] at h2
  have h0 : At1 3 ((w.alloc (.cells #[v] 3)).alloc (.cells #[u] 3)) w.heap.size v := at1_old w v u
  exact ⟨(Below.heap_alloc _ _ _ h0.lt).trans h0, (Below.heap_alloc _ _ _ h1.lt).trans h1, h2, (((Below.refl _ _).alloc (Nat.le_refl _) _).alloc (by simp) _).alloc (by simp; omega) _⟩
set_option maxRecDepth 100000 in
set_option maxHeartbeats 2000000 in
theorem implThresholdFamily_any (n k : Int) (w : World) (hr : -9223372036854775808 ≤ n ∧ n ≤ 9223372036854775807) (hk : -9223372036854775808 ≤ k ∧ k ≤ 9223372036854775807) :
    Calls Try.prog 36 #[.int .i64 n, .int .i64 k] w (FB (thrW n k) (thrB n k) w) := by
  have H0 := Lib.hid (two_int_result w (.int .i64 n) (.int .i64 k))
  have hcf := H0.out.1.cell
  have HR := Lib.hid hr
  have hrk := hk
  clear hr hk
  cases hs : nB n with
  | false =>
    have HE := Lib.hid (thr_no (n := n) (k := k) (by simp [thrB, hs]))
    have HN := Lib.hid hs
    clear hs
    go_enter Try.func36, Try.ntmps36
    go_wp2_with fail
    clear hcf
    obtain ⟨W, hW⟩ : ∃ W, W = ((w.alloc (.cells #[.int .i64 n] 3)).alloc (.cells #[.int .i64 k] 3)).alloc (.cells #[.slice none 0 0] 27) := ⟨_, rfl⟩
    rw [← hW] at H0 ⊢
    clear hW
    refine (isNailCount_any n _ HR.out).mono ?_
    rw [HN.out]
    rintro e w' ⟨rfl, rfl⟩
    have hc1 := H0.out.1.cell
    have hc2 := H0.out.2.1.cell
    have hB := ((H0.out.2.2.2).setCell (p := ⟨w.heap.size + 1 + 1, 0, none⟩) (by simp <;> omega) (.slice none 0 0))
    have hF := (H0.out.2.2.1).set (.slice none 0 0)
    have hcr := (H0.out.2.2.1).cell
    have hfr := (H0.out.2.2.1).free
    have HB9 := Lib.hid (And.intro hB hF)
    clear hB hF
    go_wp2_with fail
    refine bodyPost_ret (results_fam2 rfl _ _ (w.heap.size + 1 + 1) _ (.bool false) rfl rfl HB9.out.2) rfl (fb_of HE.out.1.symm HE.out.2.symm (fb_nil HB9.out.1))
  | true =>
    obtain ⟨p, rfl, hp6⟩ := n_nat hs
    have HN := Lib.hid hs
    by_cases hk0 : k < 0
    · skip
      have HE := Lib.hid (thr_no (n := (p : Int)) (k := k) (by rw [thrB, show decide (0 ≤ k ∧ k ≤ (p : Int) + 1) = false by (simp; omega), Bool.and_false]))
      clear hs
      go_enter Try.func36, Try.ntmps36
      go_wp2_with fail
      clear hcf
      obtain ⟨W, hW⟩ : ∃ W, W = ((w.alloc (.cells #[.int .i64 (p : Int)] 3)).alloc (.cells #[.int .i64 k] 3)).alloc (.cells #[.slice none 0 0] 27) := ⟨_, rfl⟩
      rw [← hW] at H0 ⊢
      clear hW
      refine (isNailCount_any (p : Int) _ HR.out).mono ?_
      rw [HN.out]
      rintro e w' ⟨rfl, rfl⟩
      have hc1 := H0.out.1.cell
      have hc2 := H0.out.2.1.cell
      have hB := ((H0.out.2.2.2).setCell (p := ⟨w.heap.size + 1 + 1, 0, none⟩) (by simp <;> omega) (.slice none 0 0))
      have hF := (H0.out.2.2.1).set (.slice none 0 0)
      have hcr := (H0.out.2.2.1).cell
      have hfr := (H0.out.2.2.1).free
      have HB9 := Lib.hid (And.intro hB hF)
      clear hB hF
      go_wp2_with fail
      all_goals refine bodyPost_ret (results_fam2 rfl _ _ (w.heap.size + 1 + 1) _ (.bool false) rfl rfl HB9.out.2) rfl (fb_of HE.out.1.symm HE.out.2.symm (fb_nil HB9.out.1))
    · by_cases hk1 : (p : Int) + 1 < k
      · skip
        have HE := Lib.hid (thr_no (n := (p : Int)) (k := k) (by rw [thrB, show decide (0 ≤ k ∧ k ≤ (p : Int) + 1) = false by (simp; omega), Bool.and_false]))
        clear hs
        go_enter Try.func36, Try.ntmps36
        go_wp2_with fail
        clear hcf
        obtain ⟨W, hW⟩ : ∃ W, W = ((w.alloc (.cells #[.int .i64 (p : Int)] 3)).alloc (.cells #[.int .i64 k] 3)).alloc (.cells #[.slice none 0 0] 27) := ⟨_, rfl⟩
        rw [← hW] at H0 ⊢
        clear hW
        refine (isNailCount_any (p : Int) _ HR.out).mono ?_
        rw [HN.out]
        rintro e w' ⟨rfl, rfl⟩
        have hc1 := H0.out.1.cell
        have hc2 := H0.out.2.1.cell
        have hB := ((H0.out.2.2.2).setCell (p := ⟨w.heap.size + 1 + 1, 0, none⟩) (by simp <;> omega) (.slice none 0 0))
        have hF := (H0.out.2.2.1).set (.slice none 0 0)
        have hcr := (H0.out.2.2.1).cell
        have hfr := (H0.out.2.2.1).free
        have HB9 := Lib.hid (And.intro hB hF)
        clear hB hF
        go_wp2_with fail
        refine bodyPost_ret (results_fam2 rfl _ _ (w.heap.size + 1 + 1) _ (.bool false) rfl rfl HB9.out.2) rfl (fb_of HE.out.1.symm HE.out.2.symm (fb_nil HB9.out.1))
      · skip
        obtain ⟨q, rfl⟩ : ∃ q : Nat, k = (q : Int) := ⟨k.toNat, by omega⟩
        have hq7 : q ≤ 7 := by omega
        obtain ⟨m, hm⟩ : ∃ m, m + 1 = 2 ^ p := ⟨2 ^ p - 1, by have := Nat.pow_pos (a := 2) (n := p) (by decide); omega⟩
        have hE := thr_yes (p := p) (q := q) (m := m) (by rw [thrB, hs, show decide (0 ≤ (q : Int) ∧ (q : Int) ≤ (p : Int) + 1) = true by (simp; omega)]; rfl) hm
        obtain ⟨L, hL⟩ : ∃ L, L = Plain.edges (fun s => decide (q ≤ Plain.many (s &&& m))) true := ⟨_, rfl⟩
        rw [← hL] at hE
        have HE := Lib.hid hE
        have HL := Lib.hid hL
        have HM := Lib.hid hm
        clear hs hE hL hm
        go_enter Try.func36, Try.ntmps36
        go_wp2_with fail
        clear hcf
        obtain ⟨W, hW⟩ : ∃ W, W = ((w.alloc (.cells #[.int .i64 (p : Int)] 3)).alloc (.cells #[.int .i64 (q : Int)] 3)).alloc (.cells #[.slice none 0 0] 27) := ⟨_, rfl⟩
        rw [← hW] at H0 ⊢
        clear hW
        refine (isNailCount_any (p : Int) _ HR.out).mono ?_
        rw [HN.out]
        rintro e w' ⟨rfl, rfl⟩
        have hc1 := H0.out.1.cell
        have hc2 := H0.out.2.1.cell
        go_wp2_with fail
        have hct : Tells 74 #[] #[.pointer (some ⟨w.heap.size, 0, none⟩), .pointer (some ⟨w.heap.size + 1, 0, none⟩)] (fun s => decide (q ≤ Plain.many (s &&& m))) w' := fun s X hs hb => by
          simpa using thr_tells q p m s w.heap.size (w.heap.size + 1) X hs hp6 HM hq7 (H0.out.1.on hb) (H0.out.2.1.on hb)
        refine (familyThat_any 74 #[] #[.pointer (some ⟨w.heap.size, 0, none⟩), .pointer (some ⟨w.heap.size + 1, 0, none⟩)] (fun s => decide (q ≤ Plain.many (s &&& m))) _ (enters_of Try.func74 (by kernel_rfl) rfl) (Lib.hid hct)).mono ?_
        rw [← HL.out]
        rintro e w5 ⟨ma, mc, rfl, hi, ho, hcp, hb⟩
        have HS := Lib.hid (fam_stored (W := w') (B := w'.heap.size) (G := w.heap.size + 1 + 1) H0.out.2.2.2 (by omega) H0.out.2.2.1.lt (Nat.le_refl _) H0.out.2.2.1 hi ho hcp hb)
        have hcr := (H0.out.2.2.1.on hb).cell
        have hfr := (H0.out.2.2.1.on hb).free
        clear hi ho hcp hb hct
        go_wp2_with fail
        refine bodyPost_ret (results_fam2 rfl _ _ (w.heap.size + 1 + 1) _ (.bool true) rfl rfl HS.out.1) rfl (fb_of HE.out.1.symm HE.out.2.symm HS.out.2)
theorem bothThresholdFamily (n : Int) (h1 : -9223372036854775808 ≤ n) (h2 : n ≤ 9223372036854775807) (k : Int) (k1 : -9223372036854775808 ≤ k) (k2 : k ≤ 9223372036854775807) : ∃ (out : List Int) (ok : Bool), out.length ≤ 1048576 ∧
    (∀ w, Calls Try.prog 35 #[.int .i64 n, .int .i64 k] w (FB out ok w)) ∧
    (∀ w, Calls Try.prog 36 #[.int .i64 n, .int .i64 k] w (FB out ok w)) :=
  ⟨_, _, Nat.le_trans (thrW_le n k) (by decide), fun w => specThresholdFamily_any n k w ⟨h1, h2⟩ ⟨k1, k2⟩, fun w => implThresholdFamily_any n k w ⟨h1, h2⟩ ⟨k1, k2⟩⟩

end Go.Proofs.Ytcmabcdgdfibjaa
