/- Contracts: impl.isNailCount, firstNails, Family.isWithin, DualFamily and its closure. Conditions: numbers of 64 bits, lengths that fit. -/
import Derived.Test.YtkifniailkppnaaBoth5B
import Derived.Test.YtkifniailkppnaaSpecDual
namespace Go.Proofs.Ytkifniailkppnaa
open Go.ChangeShapes Go.WideShapes Go.ChangeAt Go.RowKit
set_option linter.unusedVariables false

theorem low_facts : ((List.range 64).all fun a => (List.range 7).all fun n => (a &&& (2 ^ n - 1) == a) == decide (a < 2 ^ n)) = true := by kernel_rfl
theorem partB_low {a n m : Nat} (ha : a < 64) (hn : n ≤ 6) (hm : m + 1 = 2 ^ n) : Plain.partB (a : Int) m = decide ((a : Int) < ((2 ^ n : Nat) : Int)) := by
  have h1 := List.all_eq_true.1 (List.all_eq_true.1 low_facts a (List.mem_range.2 ha)) n (List.mem_range.2 (by omega))
  rw [Plain.partB, Int.toNat_natCast, show m = 2 ^ n - 1 by omega]
  have h2 : (a &&& (2 ^ n - 1) == a) = decide (a < 2 ^ n) := by simpa using h1
  rw [h2]
  rw [Bool.eq_iff_iff]
  simp only [decide_eq_true_eq]
  omega
theorem pow_m {n m : Nat} (hn : n ≤ 6) (hm : m + 1 = 2 ^ n) : (2 : Int) ^ n = (m : Int) + 1 ∧ m < 64 := by
  have h1 : ((m + 1 : Nat) : Int) = ((2 ^ n : Nat) : Int) := by rw [hm]
  have h2 : 2 ^ n ≤ 64 := Nat.le_trans (Nat.pow_le_pow_right (by decide) hn) (by decide)
  exact ⟨by simpa using h1.symm, by omega⟩
theorem isNailCount_any (n : Int) (w : World) (h : -9223372036854775808 ≤ n ∧ n ≤ 9223372036854775807) : Calls Try.prog 27 #[.int .i64 n] w fun e w' => e = .returned (.bool (nB n)) ∧ w' = w := by
  by_cases h0 : 0 ≤ n
  · by_cases h1 : n ≤ 6
    · have HE : Hid (nB n = true) := Lib.hid (by simp [nB]; omega)
      go_enter Try.func27, Try.ntmps27
      go_wp2_with fail
      go_ret
      exact ⟨ret_bool HE.out.symm, rfl⟩
    · have HE : Hid (nB n = false) := Lib.hid (by simp [nB]; omega)
      go_enter Try.func27, Try.ntmps27
      go_wp2_with fail
      go_ret
      exact ⟨ret_bool HE.out.symm, rfl⟩
  · have HE : Hid (nB n = false) := Lib.hid (by simp [nB]; omega)
    go_enter Try.func27, Try.ntmps27
    go_wp2_with fail
    go_ret
    exact ⟨ret_bool HE.out.symm, rfl⟩
theorem firstNails_any (n m : Nat) (w : World) (hn : n ≤ 6) (hm : m + 1 = 2 ^ n) : Calls Try.prog 29 #[.int .i64 (n : Int)] w fun e w' => e = .returned (.int .i64 (m : Int)) ∧ w' = w := by
  obtain ⟨hpow, hm64⟩ := pow_m hn hm
  clear hm
  go_enter Try.func29, Try.ntmps29
  go_wp2_with fail
  go_ret
  exact ⟨rfl, rfl⟩
set_option maxHeartbeats 800000 in
theorem isWithin_any (a : Option Addr) (cap : Nat) (xs : List Int) (n m : Nat) (w : World) (h : Hid (Ints w a xs)) (hx : Hid (Plain.setsB xs = true)) (hn : xs.length ≤ 1048576) (hn6 : n ≤ 6) (hm : Hid (m + 1 = 2 ^ n)) :
    Calls Try.prog 28 #[.agg #[.slice a xs.length cap], .int .i64 (m : Int)] w (Val (.bool (lowB xs n)) w) := by
  have hb0 := (Below.refl w.heap.size w).alloc (Nat.le_refl _) (.cells #[.slice a xs.length cap] 28)
  have H0 := Lib.hid (And.intro hb0 (h.out.on hb0))
  have hm64 := (pow_m hn6 hm.out).2
  clear hb0
  go_enter Try.func28, Try.ntmps28
  go_wp2_with fail
  obtain ⟨W, hW⟩ : ∃ W, W = w.alloc (.cells #[.slice a xs.length cap] 28) := ⟨_, rfl⟩
  rw [← hW] at H0 ⊢
  clear hW
  go_loop [6, 10] (fun _ i => ∃ k : Nat, k ≤ xs.length ∧ i = .int .i64 (k : Int) ∧ ∀ (j : Nat) (x : Int), j < k → xs[j]? = some x → decide (x < ((2 ^ n : Nat) : Int)) = true) (fun _ i => xs.length - (intOf i).toNat)
  case atStart => exact ⟨0, Nat.zero_le _, rfl, fun j x h => by omega⟩
  case round =>
    obtain ⟨k, hk, rfl, hrel⟩ := hrel
    have HA := Lib.hid hrel
    clear hrel
    by_cases hlt : k < xs.length
    · obtain ⟨x, hx0⟩ := at_some xs k hlt
      obtain ⟨b, o, rfl, hc⟩ := H0.out.2 k x hx0
      have HX := Lib.hid hx0
      have HR := Lib.hid (Plain.setsB_at hx.out hx0)
      obtain ⟨y, rfl⟩ : ∃ y : Nat, x = (y : Int) := ⟨x.toNat, by have := HR.out; omega⟩
      have hy64 : y < 64 := by have := HR.out; omega
      have HP := Lib.hid (partB_low hy64 hn6 hm.out)
      have hi : (k : Int) < (xs.length : Int) := by omega
      have hi0 : (0 : Int) ≤ (k : Int) := by omega
      clear hx0
      go_wp2_with fail
      refine (isPart_any (y : Int) m _ HR.out hm64).mono ?_
      rw [HP.out]
      cases hd : decide ((y : Int) < ((2 ^ n : Nat) : Int)) with
      | false =>
        have HE : Hid (lowB xs n = false) := Lib.hid (by
          cases hl : lowB xs n with
          | false => rfl
          | true =>
            have h1 := List.all_eq_true.1 hl (y : Int) (List.mem_of_getElem? HX.out)
            rw [hd] at h1
            cases h1)
        clear hd
        rintro e w' ⟨rfl, rfl⟩
        go_wp2_with fail
        go_ret
        exact ⟨ret_bool HE.out.symm, H0.out.1⟩
      | true =>
        have HA2 : Hid (∀ (j : Nat) (z : Int), j < k + 1 → xs[j]? = some z → decide (z < ((2 ^ n : Nat) : Int)) = true) := Lib.hid (fun j z hj hz => by
          by_cases e : j = k
          · subst e
            rw [HX.out] at hz
            cases hz
            exact hd
          · exact HA.out j z (by omega) hz)
        clear hd HA
        rintro e w' ⟨rfl, rfl⟩
        go_wp2_with fail
        go_round
        case rel => exact ⟨k + 1, by omega, by go_num, HA2.out⟩
        case measure => simp [intOf]; omega
    · obtain rfl : k = xs.length := by omega
      have HE : Hid (lowB xs n = true) := Lib.hid (List.all_eq_true.2 fun x hx => by
        obtain ⟨j, hj⟩ := List.getElem?_of_mem hx
        exact HA.out j x (at_lt hj) hj)
      clear HA
      go_wp2_with fail
      go_ret
      exact ⟨ret_bool HE.out.symm, H0.out.1⟩
theorem dual_tells (b : Option Addr) (cap : Nat) (xs : List Int) (n m s g1 g2 : Nat) (w : World) (hI : Hid (Ints w b xs)) (hl : Hid (Plain.setsB xs = true)) (hn : xs.length ≤ 1048576) (hlt : s < 64) (hn6 : n ≤ 6) (hm : Hid (m + 1 = 2 ^ n)) (h1 : FamAt w g1 (.slice b xs.length cap)) (h2 : At1 3 w g2 (.int .i64 (n : Int))) :
    Calls Try.prog 31 #[.int .i64 (s : Int), .pointer (some ⟨g2, 0, none⟩), .pointer (some ⟨g1, 0, none⟩)] w (Val (.bool (!Plain.hasB xs (Plain.clr m s))) w) := by
  have c1 := h1.cell
  have c2 := h2.cell
  have hm64 := (pow_m hn6 hm.out).2
  have hbit := clr_small hm64 hlt
  have hu64 := clr_lt s hm64
  obtain ⟨u, hu⟩ : ∃ u, u = Plain.clr m s := ⟨_, rfl⟩
  rw [← hu] at hbit hu64 ⊢
  clear hu h1 h2
  go_enter Try.func31, Try.ntmps31
  go_wp2_with fail
  refine (firstNails_any n m _ hn6 hm.out).mono ?_
  rintro e w' ⟨rfl, rfl⟩
  go_wp2_with fail
  refine (has_any b cap xs u _ hI hl (by omega) hu64).mono ?_
  rintro e w' ⟨rfl, hb⟩
  have HB := Lib.hid hb
  clear hb
  go_wp2_with fail
  go_ret
  exact ⟨rfl, HB.out⟩
set_option maxRecDepth 100000 in
set_option maxHeartbeats 2000000 in
theorem implDualFamily_any (a : Option Addr) (cap : Nat) (xs : List Int) (n : Int) (w : World) (h : Hid (Ints w a xs)) (h64 : Hid (In64 xs)) (hn : xs.length ≤ 1048576) (hr : -9223372036854775808 ≤ n ∧ n ≤ 9223372036854775807) :
    Calls Try.prog 18 #[.agg #[.slice a xs.length cap], .int .i64 n] w (FB (dualW xs n) (dualB xs n) w) := by
  have H0 := Lib.hid (box_int_result w (.slice a xs.length cap) (.int .i64 n))
  have HR := Lib.hid hr
  clear hr
  cases hf : Plain.famB xs with
  | false =>
    have HE := Lib.hid (dual_no (xs := xs) (n := n) (by simp [dualB, withinB, hf]))
    have HF := Lib.hid hf
    clear hf
    go_enter Try.func18, Try.ntmps18
    go_upto_region 1 with fail
    obtain ⟨W, hW⟩ : ∃ W, W = ((w.alloc (.cells #[.slice a xs.length cap] 28)).alloc (.cells #[.int .i64 n] 3)).alloc (.cells #[.slice none 0 0] 28) := ⟨_, rfl⟩
    rw [← hW] at H0 ⊢
    clear hW
    go_cut [20] from 6 to 20 (fun s wx => s = .bool true ∧ Below W.heap.size W wx)
    case first =>
      have hc1 : W.cell? _ = _ := H0.out.1.cell
      have hc2 : W.cell? _ = _ := H0.out.2.1.cell
      have hd1 : W.drew.cell? _ = _ := hc1
      have hd2 : W.drew.cell? _ = _ := hc2
      have HFd : Hid (FamAt W.drew w.heap.size _) := Lib.hid H0.out.1
      have HNd : Hid (At1 3 W.drew (w.heap.size + 1) _) := Lib.hid H0.out.2.1
      have HId : Hid (Ints W.drew a xs) := Lib.hid (h.out.on H0.out.2.2.2.drew)
      have HBd : Hid (Below W.heap.size W W.drew) := Lib.hid (Below.refl _ _).drew
      go_region_law (go_simp; first
        | (go_at_call 26; refine (implIsFamily_any _ _ xs _ HId h64 hn).mono ?_; rw [HF.out]; rintro e w2 ⟨rfl, hb⟩; have hc3 := (HFd.out.on hb).cell; have hc4 := (HNd.out.on hb).cell; have HI2 := Lib.hid (HId.out.on hb); have HB2 := Lib.hid (HBd.out.trans (hb.mono HBd.out.size)); clear hb))
      all_goals
        go_wp2_with fail
        go_meet
        case rel => exact ⟨rfl, HB2.out⟩
    case rest =>
      obtain ⟨rfl, hb⟩ := hcut
      generalize wc = w2 at hb ⊢
      have H2 := Lib.hid (And.intro (H0.out.1.on hb) (And.intro (H0.out.2.1.on hb) (And.intro (H0.out.2.2.1.on hb) (H0.out.2.2.2.trans (hb.mono H0.out.2.2.2.size)))))
      clear hb
      have hB := ((H2.out.2.2.2).setCell (p := ⟨w.heap.size + 1 + 1, 0, none⟩) (by simp <;> omega) (.slice none 0 0))
      have hF := (H2.out.2.2.1).set (.slice none 0 0)
      have hcr := (H2.out.2.2.1).cell
      have hfr := (H2.out.2.2.1).free
      have HB9 := Lib.hid (And.intro hB hF)
      clear hB hF
      go_wp2_with fail
      refine bodyPost_ret (results_fam2 rfl _ _ (w.heap.size + 1 + 1) _ (.bool false) rfl rfl HB9.out.2) rfl (fb_of HE.out.1.symm HE.out.2.symm (fb_nil HB9.out.1))
  | true =>
    cases hs : nB n with
    | false =>
      have HE := Lib.hid (dual_no (xs := xs) (n := n) (by simp [dualB, hs]))
      have HF := Lib.hid hf
      have HN := Lib.hid hs
      clear hf hs
      go_enter Try.func18, Try.ntmps18
      go_upto_region 1 with fail
      obtain ⟨W, hW⟩ : ∃ W, W = ((w.alloc (.cells #[.slice a xs.length cap] 28)).alloc (.cells #[.int .i64 n] 3)).alloc (.cells #[.slice none 0 0] 28) := ⟨_, rfl⟩
      rw [← hW] at H0 ⊢
      clear hW
      go_cut [20] from 6 to 20 (fun s wx => s = .bool true ∧ Below W.heap.size W wx)
      case first =>
        have hc1 : W.cell? _ = _ := H0.out.1.cell
        have hc2 : W.cell? _ = _ := H0.out.2.1.cell
        have hd1 : W.drew.cell? _ = _ := hc1
        have hd2 : W.drew.cell? _ = _ := hc2
        have HFd : Hid (FamAt W.drew w.heap.size _) := Lib.hid H0.out.1
        have HNd : Hid (At1 3 W.drew (w.heap.size + 1) _) := Lib.hid H0.out.2.1
        have HId : Hid (Ints W.drew a xs) := Lib.hid (h.out.on H0.out.2.2.2.drew)
        have HBd : Hid (Below W.heap.size W W.drew) := Lib.hid (Below.refl _ _).drew
        go_region_law (go_simp; first
          | (go_at_call 26; refine (implIsFamily_any _ _ xs _ HId h64 hn).mono ?_; rw [HF.out]; rintro e w2 ⟨rfl, hb⟩; have hc3 := (HFd.out.on hb).cell; have hc4 := (HNd.out.on hb).cell; have HI2 := Lib.hid (HId.out.on hb); have HB2 := Lib.hid (HBd.out.trans (hb.mono HBd.out.size)); clear hb)
          | (go_at_call 27; refine (isNailCount_any n _ HR.out).mono ?_; rw [HN.out]; rintro e w3 ⟨rfl, rfl⟩))
        all_goals
          go_wp2_with fail
          go_meet
          case rel => exact ⟨rfl, HB2.out⟩
      case rest =>
        obtain ⟨rfl, hb⟩ := hcut
        generalize wc = w2 at hb ⊢
        have H2 := Lib.hid (And.intro (H0.out.1.on hb) (And.intro (H0.out.2.1.on hb) (And.intro (H0.out.2.2.1.on hb) (H0.out.2.2.2.trans (hb.mono H0.out.2.2.2.size)))))
        clear hb
        have hB := ((H2.out.2.2.2).setCell (p := ⟨w.heap.size + 1 + 1, 0, none⟩) (by simp <;> omega) (.slice none 0 0))
        have hF := (H2.out.2.2.1).set (.slice none 0 0)
        have hcr := (H2.out.2.2.1).cell
        have hfr := (H2.out.2.2.1).free
        have HB9 := Lib.hid (And.intro hB hF)
        clear hB hF
        go_wp2_with fail
        refine bodyPost_ret (results_fam2 rfl _ _ (w.heap.size + 1 + 1) _ (.bool false) rfl rfl HB9.out.2) rfl (fb_of HE.out.1.symm HE.out.2.symm (fb_nil HB9.out.1))
    | true =>
      obtain ⟨p, rfl, hp6⟩ := n_nat hs
      obtain ⟨m, hm⟩ : ∃ m, m + 1 = 2 ^ p := ⟨2 ^ p - 1, by have := Nat.pow_pos (a := 2) (n := p) (by decide); omega⟩
      have HM := Lib.hid hm
      have HF := Lib.hid hf
      have HSB := Lib.hid (Plain.fam_sets hf)
      have HN := Lib.hid hs
      cases hw : lowB xs p with
      | false =>
        have HE := Lib.hid (dual_no (xs := xs) (n := (p : Int)) (by simp [dualB, withinB, hw]))
        have HLOW := Lib.hid hw
        clear hf hs hw hm
        go_enter Try.func18, Try.ntmps18
        go_upto_region 1 with fail
        obtain ⟨W, hW⟩ : ∃ W, W = ((w.alloc (.cells #[.slice a xs.length cap] 28)).alloc (.cells #[.int .i64 (p : Int)] 3)).alloc (.cells #[.slice none 0 0] 28) := ⟨_, rfl⟩
        rw [← hW] at H0 ⊢
        clear hW
        go_cut [20] from 6 to 20 (fun s wx => s = .bool true ∧ Below W.heap.size W wx)
        case first =>
          have hc1 : W.cell? _ = _ := H0.out.1.cell
          have hc2 : W.cell? _ = _ := H0.out.2.1.cell
          have hd1 : W.drew.cell? _ = _ := hc1
          have hd2 : W.drew.cell? _ = _ := hc2
          have HFd : Hid (FamAt W.drew w.heap.size _) := Lib.hid H0.out.1
          have HNd : Hid (At1 3 W.drew (w.heap.size + 1) _) := Lib.hid H0.out.2.1
          have HId : Hid (Ints W.drew a xs) := Lib.hid (h.out.on H0.out.2.2.2.drew)
          have HBd : Hid (Below W.heap.size W W.drew) := Lib.hid (Below.refl _ _).drew
          go_region_law (go_simp; first
            | (go_at_call 26; refine (implIsFamily_any _ _ xs _ HId h64 hn).mono ?_; rw [HF.out]; rintro e w2 ⟨rfl, hb⟩; have hc3 := (HFd.out.on hb).cell; have hc4 := (HNd.out.on hb).cell; have HI2 := Lib.hid (HId.out.on hb); have HB2 := Lib.hid (HBd.out.trans (hb.mono HBd.out.size)); clear hb)
            | (go_at_call 27; refine (isNailCount_any (p : Int) _ HR.out).mono ?_; rw [HN.out]; rintro e w3 ⟨rfl, rfl⟩)
            | (go_at_call 29; refine (firstNails_any p m _ hp6 HM.out).mono ?_; rintro e w3 ⟨rfl, rfl⟩)
            | (go_at_call 28; refine (isWithin_any _ _ xs p m _ HI2 HSB hn hp6 HM).mono ?_; rw [HLOW.out]; rintro e w4 ⟨rfl, hb⟩; have HB4 := Lib.hid (HB2.out.trans (hb.mono HB2.out.size)); clear hb))
          all_goals
            go_wp2_with fail
            go_meet
            case rel => exact ⟨rfl, HB4.out⟩
        case rest =>
          obtain ⟨rfl, hb⟩ := hcut
          generalize wc = w2 at hb ⊢
          have H2 := Lib.hid (And.intro (H0.out.1.on hb) (And.intro (H0.out.2.1.on hb) (And.intro (H0.out.2.2.1.on hb) (H0.out.2.2.2.trans (hb.mono H0.out.2.2.2.size)))))
          clear hb
          have hB := ((H2.out.2.2.2).setCell (p := ⟨w.heap.size + 1 + 1, 0, none⟩) (by simp <;> omega) (.slice none 0 0))
          have hF := (H2.out.2.2.1).set (.slice none 0 0)
          have hcr := (H2.out.2.2.1).cell
          have hfr := (H2.out.2.2.1).free
          have HB9 := Lib.hid (And.intro hB hF)
          clear hB hF
          go_wp2_with fail
          refine bodyPost_ret (results_fam2 rfl _ _ (w.heap.size + 1 + 1) _ (.bool false) rfl rfl HB9.out.2) rfl (fb_of HE.out.1.symm HE.out.2.symm (fb_nil HB9.out.1))
      | true =>
        have hE := dual_yes (xs := xs) (p := p) (m := m) (by simp [dualB, withinB, hs, hw, hf]) hm
        obtain ⟨L, hL⟩ : ∃ L, L = Plain.edges (fun s => !Plain.hasB xs (Plain.clr m s)) true := ⟨_, rfl⟩
        rw [← hL] at hE
        have HE := Lib.hid hE
        have HL := Lib.hid hL
        have HLOW := Lib.hid hw
        clear hf hs hw hm hE hL
        go_enter Try.func18, Try.ntmps18
        go_upto_region 1 with fail
        obtain ⟨W, hW⟩ : ∃ W, W = ((w.alloc (.cells #[.slice a xs.length cap] 28)).alloc (.cells #[.int .i64 (p : Int)] 3)).alloc (.cells #[.slice none 0 0] 28) := ⟨_, rfl⟩
        rw [← hW] at H0 ⊢
        clear hW
        go_cut [20] from 6 to 20 (fun s wx => s = .bool false ∧ Below W.heap.size W wx)
        case first =>
          have hc1 : W.cell? _ = _ := H0.out.1.cell
          have hc2 : W.cell? _ = _ := H0.out.2.1.cell
          have hd1 : W.drew.cell? _ = _ := hc1
          have hd2 : W.drew.cell? _ = _ := hc2
          have HFd : Hid (FamAt W.drew w.heap.size _) := Lib.hid H0.out.1
          have HNd : Hid (At1 3 W.drew (w.heap.size + 1) _) := Lib.hid H0.out.2.1
          have HId : Hid (Ints W.drew a xs) := Lib.hid (h.out.on H0.out.2.2.2.drew)
          have HBd : Hid (Below W.heap.size W W.drew) := Lib.hid (Below.refl _ _).drew
          go_region_law (go_simp; first
            | (go_at_call 26; refine (implIsFamily_any _ _ xs _ HId h64 hn).mono ?_; rw [HF.out]; rintro e w2 ⟨rfl, hb⟩; have hc3 := (HFd.out.on hb).cell; have hc4 := (HNd.out.on hb).cell; have HI2 := Lib.hid (HId.out.on hb); have HB2 := Lib.hid (HBd.out.trans (hb.mono HBd.out.size)); clear hb)
            | (go_at_call 27; refine (isNailCount_any (p : Int) _ HR.out).mono ?_; rw [HN.out]; rintro e w3 ⟨rfl, rfl⟩)
            | (go_at_call 29; refine (firstNails_any p m _ hp6 HM.out).mono ?_; rintro e w3 ⟨rfl, rfl⟩)
            | (go_at_call 28; refine (isWithin_any _ _ xs p m _ HI2 HSB hn hp6 HM).mono ?_; rw [HLOW.out]; rintro e w4 ⟨rfl, hb⟩; have HB4 := Lib.hid (HB2.out.trans (hb.mono HB2.out.size)); clear hb))
          all_goals
            go_wp2_with fail
            go_meet
            case rel => exact ⟨rfl, HB4.out⟩
        case rest =>
          obtain ⟨rfl, hb⟩ := hcut
          generalize wc = w2 at hb ⊢
          have H2 := Lib.hid (And.intro (H0.out.1.on hb) (And.intro (H0.out.2.1.on hb) (And.intro (H0.out.2.2.1.on hb) (H0.out.2.2.2.trans (hb.mono H0.out.2.2.2.size)))))
          clear hb
          go_wp2_with fail
          have hct : Tells 31 #[] #[.pointer (some ⟨w.heap.size + 1, 0, none⟩), .pointer (some ⟨w.heap.size, 0, none⟩)] (fun s => !Plain.hasB xs (Plain.clr m s)) w2 := fun s X hs hb => by
            simpa using dual_tells a cap xs p m s w.heap.size (w.heap.size + 1) X (Lib.hid (h.out.on (H2.out.2.2.2.trans (hb.mono H2.out.2.2.2.size)))) HSB hn hs hp6 HM (H2.out.1.on hb) (H2.out.2.1.on hb)
          refine (familyThat_any 31 #[] #[.pointer (some ⟨w.heap.size + 1, 0, none⟩), .pointer (some ⟨w.heap.size, 0, none⟩)] (fun s => !Plain.hasB xs (Plain.clr m s)) _ (enters_of Try.func31 (by kernel_rfl) rfl) (Lib.hid hct)).mono ?_
          rw [← HL.out]
          rintro e w5 ⟨ma, mc, rfl, hi, ho, hcp, hb⟩
          have HS := Lib.hid (fam_stored (W := w2) (B := w2.heap.size) (G := w.heap.size + 1 + 1) H2.out.2.2.2 (by omega) H2.out.2.2.1.lt (Nat.le_refl _) H2.out.2.2.1 hi ho hcp hb)
          have hcr := (H2.out.2.2.1.on hb).cell
          have hfr := (H2.out.2.2.1.on hb).free
          clear hi ho hcp hb hct
          go_wp2_with fail
          refine bodyPost_ret (results_fam2 rfl _ _ (w.heap.size + 1 + 1) _ (.bool true) rfl rfl HS.out.1) rfl (fb_of HE.out.1.symm HE.out.2.symm HS.out.2)

end Go.Proofs.Ytkifniailkppnaa
