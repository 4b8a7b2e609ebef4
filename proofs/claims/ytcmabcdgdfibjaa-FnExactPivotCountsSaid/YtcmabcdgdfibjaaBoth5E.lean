/- Contracts: spec.CountMembers, impl.CountMembers. Conditions: numbers of 64 bits, lengths that fit. -/
import Derived.Test.YtcmabcdgdfibjaaBoth5C
namespace Go.Proofs.Ytcmabcdgdfibjaa
open Go.ChangeShapes Go.WideShapes Go.ChangeAt Go.RowKit
set_option linter.unusedVariables false

/-- How many of the first k sets are members. -/
def countTo (t : Nat → Bool) : Nat → Nat
  | 0 => 0
  | k + 1 => if t k = true then countTo t k + 1 else countTo t k
theorem countTo_le (t : Nat → Bool) (k : Nat) : countTo t k ≤ k := by
  induction k with
  | zero => exact Nat.le_refl _
  | succ k ih => rw [countTo]; split <;> omega
/-- What CountMembers answers. -/
def cntB (xs : List Int) (n : Int) : Bool := Plain.famB xs && nB n
def cntV (xs : List Int) (n : Int) : Nat := if cntB xs n = true then countTo (Plain.hasB xs) (2 ^ n.toNat) else 0
theorem cnt_no {xs : List Int} {n : Int} (h : cntB xs n = false) : cntV xs n = 0 ∧ cntB xs n = false := ⟨by rw [cntV, h]; simp, h⟩
theorem cnt_yes {xs : List Int} {p : Nat} (h : cntB xs (p : Int) = true) : cntV xs (p : Int) = countTo (Plain.hasB xs) (2 ^ p) ∧ cntB xs (p : Int) = true := ⟨by rw [cntV, h, Int.toNat_natCast]; simp, h⟩
theorem val_nb {a a' : Nat} {c c' : Bool} {w w' : World} {e : Ending} (h1 : a = a') (h2 : c = c') (h : Val (.tuple #[.int .i64 (a : Int), .bool c]) w e w') : Val (.tuple #[.int .i64 (a' : Int), .bool c']) w e w' := by subst h1; subst h2; exact h
set_option maxRecDepth 100000 in
set_option maxHeartbeats 2000000 in
theorem specCountMembers_any (a : Option Addr) (cap : Nat) (xs : List Int) (n : Int) (w : World) (h : Hid (Ints w a xs)) (h64 : Hid (In64 xs)) (hn : xs.length ≤ 1048576) (hr : -9223372036854775808 ≤ n ∧ n ≤ 9223372036854775807) :
    Calls Try.prog 44 #[.agg #[.slice a xs.length cap], .int .i64 n] w (Val (.tuple #[.int .i64 ((cntV xs n : Nat) : Int), .bool (cntB xs n)]) w) := by
  have hb0 := (Below.refl w.heap.size w).alloc (Nat.le_refl _) (.cells #[.slice a xs.length cap] 27)
  have H0 := Lib.hid (And.intro hb0 (And.intro (h.out.on hb0) (famAt_new w (.slice a xs.length cap))))
  have HR := Lib.hid hr
  clear hb0 hr
  cases hf : Plain.famB xs with
  | false =>
    have HE := Lib.hid (cnt_no (xs := xs) (n := n) (by simp [cntB, hf]))
    have HF := Lib.hid hf
    clear hf
    go_enter Try.func44, Try.ntmps44
    go_wp2_with fail
    obtain ⟨W, hW⟩ : ∃ W, W = w.alloc (.cells #[.slice a xs.length cap] 27) := ⟨_, rfl⟩
    rw [← hW] at H0 ⊢
    clear hW
    refine (l5Family_any _ _ xs _ (Lib.hid H0.out.2.1) h64 hn).mono ?_
    rw [HF.out]
    rintro e w2 ⟨rfl, hb⟩
    have H2 := Lib.hid (And.intro (H0.out.1.trans (hb.mono H0.out.1.size)) (H0.out.2.2.on hb))
    clear hb
    go_wp2_with fail
    go_ret2
    exact val_nb (a := 0) HE.out.1.symm HE.out.2.symm ⟨rfl, H2.out.1⟩
  | true =>
    cases hs : nB n with
    | false =>
      have HE := Lib.hid (cnt_no (xs := xs) (n := n) (by simp [cntB, hs]))
      have HF := Lib.hid hf
      have HN := Lib.hid hs
      clear hf hs
      go_enter Try.func44, Try.ntmps44
      go_wp2_with fail
      obtain ⟨W, hW⟩ : ∃ W, W = w.alloc (.cells #[.slice a xs.length cap] 27) := ⟨_, rfl⟩
      rw [← hW] at H0 ⊢
      clear hW
      refine (l5Family_any _ _ xs _ (Lib.hid H0.out.2.1) h64 hn).mono ?_
      rw [HF.out]
      rintro e w2 ⟨rfl, hb⟩
      have H2 := Lib.hid (And.intro (H0.out.1.trans (hb.mono H0.out.1.size)) (H0.out.2.2.on hb))
      clear hb
      go_wp2_with fail
      refine (l1In_any n 0 6 _ HR.out).mono ?_
      rw [show decide (0 ≤ n ∧ n ≤ 6) = _ from HN.out]
      rintro e w' ⟨rfl, rfl⟩
      go_wp2_with fail
      go_ret2
      exact val_nb (a := 0) HE.out.1.symm HE.out.2.symm ⟨rfl, H2.out.1⟩
    | true =>
      obtain ⟨p, rfl, hp6⟩ := n_nat hs
      have HE := Lib.hid (cnt_yes (xs := xs) (p := p) (by simp [cntB, hs, hf]))
      have HF := Lib.hid hf
      have HSB := Lib.hid (Plain.fam_sets hf)
      have HN := Lib.hid hs
      obtain ⟨q, hq⟩ : ∃ q, q = 2 ^ p := ⟨_, rfl⟩
      have hpow : (2 : Int) ^ p = (q : Int) := by rw [hq]; simp
      have hq64 : q ≤ 64 := by rw [hq]; exact Nat.le_trans (Nat.pow_le_pow_right (by decide) hp6) (by decide)
      rw [← hq] at HE
      clear hf hs hq
      go_enter Try.func44, Try.ntmps44
      go_wp2_with fail
      obtain ⟨W, hW⟩ : ∃ W, W = w.alloc (.cells #[.slice a xs.length cap] 27) := ⟨_, rfl⟩
      rw [← hW] at H0 ⊢
      clear hW
      refine (l5Family_any _ _ xs _ (Lib.hid H0.out.2.1) h64 hn).mono ?_
      rw [HF.out]
      rintro e w2 ⟨rfl, hb⟩
      have H2 := Lib.hid (And.intro (H0.out.1.trans (hb.mono H0.out.1.size)) (H0.out.2.2.on hb))
      clear hb
      go_wp2_with fail
      refine (l1In_any (p : Int) 0 6 _ HR.out).mono ?_
      rw [show decide (0 ≤ (p : Int) ∧ (p : Int) ≤ 6) = _ from HN.out]
      rintro e w' ⟨rfl, rfl⟩
      go_wp2_with fail
      go_loopw [6, 7] (fun c i wr => ∃ k : Nat, k ≤ q ∧ i = .int .i64 (k : Int) ∧ c = .int .i64 ((countTo (Plain.hasB xs) k : Nat) : Int) ∧ Below w2.heap.size w2 wr) (fun _ i _ => 64 - (intOf i).toNat)
      case atStart => exact ⟨0, Nat.zero_le _, rfl, rfl, Below.refl _ _⟩
      case round =>
        obtain ⟨k, hk, rfl, rfl, hrel⟩ := hrel
        have HB := Lib.hid hrel
        have hcl := countTo_le (Plain.hasB xs) k
        obtain ⟨c, hc⟩ : ∃ c, c = countTo (Plain.hasB xs) k := ⟨_, rfl⟩
        rw [← hc] at hcl ⊢
        have HC := Lib.hid hc
        clear hrel hc
        by_cases hlt : k < q
        · have hi : (k : Int) < (q : Int) := by omega
          have hk64 : k < 64 := by omega
          have hcf := (H2.out.2.on HB.out).cell
          have HI := Lib.hid (h.out.on (H2.out.1.trans (HB.out.mono H2.out.1.size)))
          go_wp2_with fail
          refine (l5Has_any _ _ xs k _ HI HSB (by omega) hk64).mono ?_
          cases ht : Plain.hasB xs k with
          | true =>
            have HN2 : Hid (countTo (Plain.hasB xs) (k + 1) = c + 1) := Lib.hid (by rw [countTo, ht, HC.out]; rfl)
            clear ht
            rintro e w3 ⟨rfl, hb⟩
            have HB3 := Lib.hid (HB.out.trans (hb.mono HB.out.size))
            clear hb HI hcf
            go_wp2_with fail
            go_roundw
            case rel => exact ⟨k + 1, by omega, by go_num, by rw [HN2.out]; go_num, HB3.out⟩
            case measure => simp [intOf]; omega
          | false =>
            have HN2 : Hid (countTo (Plain.hasB xs) (k + 1) = c) := Lib.hid (by rw [countTo, ht, HC.out]; rfl)
            clear ht
            rintro e w3 ⟨rfl, hb⟩
            have HB3 := Lib.hid (HB.out.trans (hb.mono HB.out.size))
            clear hb HI hcf
            go_wp2_with fail
            go_roundw
            case rel => exact ⟨k + 1, by omega, by go_num, by rw [HN2.out], HB3.out⟩
            case measure => simp [intOf]; omega
        · obtain rfl : k = q := by omega
          go_wp2_with fail
          go_ret2
          exact val_nb (a := c) (by rw [HC.out]; exact HE.out.1.symm) HE.out.2.symm ⟨rfl, H2.out.1.trans (HB.out.mono H2.out.1.size)⟩
set_option maxRecDepth 100000 in
set_option maxHeartbeats 2000000 in
theorem implCountMembers_any (a : Option Addr) (cap : Nat) (xs : List Int) (n : Int) (w : World) (h : Hid (Ints w a xs)) (h64 : Hid (In64 xs)) (hn : xs.length ≤ 1048576) (hr : -9223372036854775808 ≤ n ∧ n ≤ 9223372036854775807) :
    Calls Try.prog 45 #[.agg #[.slice a xs.length cap], .int .i64 n] w (Val (.tuple #[.int .i64 ((cntV xs n : Nat) : Int), .bool (cntB xs n)]) w) := by
  have hb0 := (Below.refl w.heap.size w).alloc (Nat.le_refl _) (.cells #[.slice a xs.length cap] 27)
  have H0 := Lib.hid (And.intro hb0 (And.intro (h.out.on hb0) (famAt_new w (.slice a xs.length cap))))
  have HR := Lib.hid hr
  clear hb0 hr
  cases hf : Plain.famB xs with
  | false =>
    have HE := Lib.hid (cnt_no (xs := xs) (n := n) (by simp [cntB, hf]))
    have HF := Lib.hid hf
    clear hf
    go_enter Try.func45, Try.ntmps45
    go_wp2_with fail
    obtain ⟨W, hW⟩ : ∃ W, W = w.alloc (.cells #[.slice a xs.length cap] 27) := ⟨_, rfl⟩
    rw [← hW] at H0 ⊢
    clear hW
    refine (implIsFamily_any _ _ xs _ (Lib.hid H0.out.2.1) h64 hn).mono ?_
    rw [HF.out]
    rintro e w2 ⟨rfl, hb⟩
    have H2 := Lib.hid (And.intro (H0.out.1.trans (hb.mono H0.out.1.size)) (H0.out.2.2.on hb))
    clear hb
    go_wp2_with fail
    go_ret2
    exact val_nb (a := 0) HE.out.1.symm HE.out.2.symm ⟨rfl, H2.out.1⟩
  | true =>
    cases hs : nB n with
    | false =>
      have HE := Lib.hid (cnt_no (xs := xs) (n := n) (by simp [cntB, hs]))
      have HF := Lib.hid hf
      have HN := Lib.hid hs
      clear hf hs
      go_enter Try.func45, Try.ntmps45
      go_wp2_with fail
      obtain ⟨W, hW⟩ : ∃ W, W = w.alloc (.cells #[.slice a xs.length cap] 27) := ⟨_, rfl⟩
      rw [← hW] at H0 ⊢
      clear hW
      refine (implIsFamily_any _ _ xs _ (Lib.hid H0.out.2.1) h64 hn).mono ?_
      rw [HF.out]
      rintro e w2 ⟨rfl, hb⟩
      have H2 := Lib.hid (And.intro (H0.out.1.trans (hb.mono H0.out.1.size)) (H0.out.2.2.on hb))
      clear hb
      go_wp2_with fail
      refine (isNailCount_any n _ HR.out).mono ?_
      rw [HN.out]
      rintro e w' ⟨rfl, rfl⟩
      go_wp2_with fail
      go_ret2
      exact val_nb (a := 0) HE.out.1.symm HE.out.2.symm ⟨rfl, H2.out.1⟩
    | true =>
      obtain ⟨p, rfl, hp6⟩ := n_nat hs
      have HE := Lib.hid (cnt_yes (xs := xs) (p := p) (by simp [cntB, hs, hf]))
      have HF := Lib.hid hf
      have HSB := Lib.hid (Plain.fam_sets hf)
      have HN := Lib.hid hs
      obtain ⟨q, hq⟩ : ∃ q, q = 2 ^ p := ⟨_, rfl⟩
      have hpow : (2 : Int) ^ p = (q : Int) := by rw [hq]; simp
      have hq64 : q ≤ 64 := by rw [hq]; exact Nat.le_trans (Nat.pow_le_pow_right (by decide) hp6) (by decide)
      rw [← hq] at HE
      clear hf hs hq
      go_enter Try.func45, Try.ntmps45
      go_wp2_with fail
      obtain ⟨W, hW⟩ : ∃ W, W = w.alloc (.cells #[.slice a xs.length cap] 27) := ⟨_, rfl⟩
      rw [← hW] at H0 ⊢
      clear hW
      refine (implIsFamily_any _ _ xs _ (Lib.hid H0.out.2.1) h64 hn).mono ?_
      rw [HF.out]
      rintro e w2 ⟨rfl, hb⟩
      have H2 := Lib.hid (And.intro (H0.out.1.trans (hb.mono H0.out.1.size)) (H0.out.2.2.on hb))
      clear hb
      go_wp2_with fail
      refine (isNailCount_any (p : Int) _ HR.out).mono ?_
      rw [HN.out]
      rintro e w' ⟨rfl, rfl⟩
      go_wp2_with fail
      go_loopw [6, 7, 18] (fun c _ i wr => ∃ k : Nat, k ≤ q ∧ i = .int .i64 (k : Int) ∧ c = .int .i64 ((countTo (Plain.hasB xs) k : Nat) : Int) ∧ Below w'.heap.size w' wr) (fun _ _ i _ => 64 - (intOf i).toNat)
      case atStart => exact ⟨0, Nat.zero_le _, rfl, rfl, Below.refl _ _⟩
      case round =>
        obtain ⟨k, hk, rfl, rfl, hrel⟩ := hrel
        have HB := Lib.hid hrel
        have hcl := countTo_le (Plain.hasB xs) k
        obtain ⟨c, hc⟩ : ∃ c, c = countTo (Plain.hasB xs) k := ⟨_, rfl⟩
        rw [← hc] at hcl ⊢
        have HC := Lib.hid hc
        clear hrel hc
        by_cases hlt : k < q
        · have hi : (k : Int) < (q : Int) := by omega
          have hk64 : k < 64 := by omega
          have hcf := (H2.out.2.on HB.out).cell
          have HI := Lib.hid (h.out.on (H2.out.1.trans (HB.out.mono H2.out.1.size)))
          go_wp2_with fail
          refine (has_any _ _ xs k _ HI HSB (by omega) hk64).mono ?_
          cases ht : Plain.hasB xs k with
          | true =>
            have HN2 : Hid (countTo (Plain.hasB xs) (k + 1) = c + 1) := Lib.hid (by rw [countTo, ht, HC.out]; rfl)
            clear ht
            rintro e w3 ⟨rfl, hb⟩
            have HB3 := Lib.hid (HB.out.trans (hb.mono HB.out.size))
            clear hb HI hcf
            go_wp2_with fail
            go_roundw
            case rel => exact ⟨k + 1, by omega, by go_num, by rw [HN2.out]; go_num, HB3.out⟩
            case measure => simp [intOf]; omega
          | false =>
            have HN2 : Hid (countTo (Plain.hasB xs) (k + 1) = c) := Lib.hid (by rw [countTo, ht, HC.out]; rfl)
            clear ht
            rintro e w3 ⟨rfl, hb⟩
            have HB3 := Lib.hid (HB.out.trans (hb.mono HB.out.size))
            clear hb HI hcf
            go_wp2_with fail
            go_roundw
            case rel => exact ⟨k + 1, by omega, by go_num, by rw [HN2.out], HB3.out⟩
            case measure => simp [intOf]; omega
        · obtain rfl : k = q := by omega
          go_wp2_with fail
          go_ret2
          exact val_nb (a := c) (by rw [HC.out]; exact HE.out.1.symm) HE.out.2.symm ⟨rfl, H2.out.1.trans (HB.out.mono H2.out.1.size)⟩
theorem bothCountMembers (xs : List Int) (h64 : Hid (In64 xs)) (hn : xs.length ≤ 1048576) (n : Int) (h1 : -9223372036854775808 ≤ n) (h2 : n ≤ 9223372036854775807) : ∃ (r : Int) (ok : Bool),
    (∀ a cap w, Hid (Ints w a xs) → Calls Try.prog 44 #[.agg #[.slice a xs.length cap], .int .i64 n] w (Val (.tuple #[.int .i64 r, .bool ok]) w)) ∧
    (∀ a cap w, Hid (Ints w a xs) → Calls Try.prog 45 #[.agg #[.slice a xs.length cap], .int .i64 n] w (Val (.tuple #[.int .i64 r, .bool ok]) w)) :=
  ⟨_, _, fun a cap w h => specCountMembers_any a cap xs n w h h64 hn ⟨h1, h2⟩, fun a cap w h => implCountMembers_any a cap xs n w h h64 hn ⟨h1, h2⟩⟩

end Go.Proofs.Ytcmabcdgdfibjaa
