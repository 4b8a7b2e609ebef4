/- Contracts: spec.l5Within, l5Dual, DualFamily. Conditions: numbers of 64 bits, lengths that fit. -/
import Derived.Test.YtkifniailkppnaaFamTab
import Derived.Deep.DeepCutAuto
namespace Go.Proofs.Ytkifniailkppnaa
open Go.ChangeShapes Go.WideShapes Go.ChangeAt Go.RowKit
set_option linter.unusedVariables false

def lowB (xs : List Int) (n : Nat) : Bool := xs.all fun x => decide (x < ((2 ^ n : Nat) : Int))
def withinB (xs : List Int) (n : Nat) : Bool := Plain.famB xs && lowB xs n
theorem low_bad {xs : List Int} {n q j : Nat} {x : Int} (hq : q = 2 ^ n) (hx : xs[j]? = some x) (h : (q : Int) ≤ x) : withinB xs n = false := by
  have : lowB xs n = false := by
    cases hl : lowB xs n with
    | false => rfl
    | true =>
      have h1 := List.all_eq_true.1 hl x (List.mem_of_getElem? hx)
      rw [← hq] at h1
      simp at h1
      omega
  rw [withinB, this, Bool.and_false]
theorem low_good {xs : List Int} {n q : Nat} (hq : q = 2 ^ n) (h : ∀ (j : Nat) (x : Int), xs[j]? = some x → x < (q : Int)) : withinB xs n = Plain.famB xs := by
  have : lowB xs n = true := List.all_eq_true.2 fun x hx => by
    obtain ⟨j, hj⟩ := List.getElem?_of_mem hx
    rw [← hq]
    simpa using h j x hj
  rw [withinB, this, Bool.and_true]
theorem neg_bad {xs : List Int} {n j : Nat} {x : Int} (hx : xs[j]? = some x) (h : x < 0) : withinB xs n = false := by
  rw [withinB, Plain.fam_bad_set hx (by simp [Plain.isSet]; omega)]; rfl
set_option maxRecDepth 100000 in
set_option maxHeartbeats 2000000 in
theorem l5Within_any (a : Option Addr) (cap : Nat) (xs : List Int) (n : Nat) (w : World) (h : Hid (Ints w a xs)) (h64 : Hid (In64 xs)) (hn : xs.length ≤ 1048576) (hn6 : n ≤ 6) :
    Calls Try.prog 14 #[.agg #[.slice a xs.length cap], .int .i64 (n : Int)] w (Val (.bool (withinB xs n)) w) := by
  have hb0 := (Below.refl w.heap.size w).alloc (Nat.le_refl _) (.cells #[.slice a xs.length cap] 28)
  have H0 := Lib.hid (And.intro hb0 (And.intro (h.out.on hb0) (famAt_new w (.slice a xs.length cap)).cell))
  obtain ⟨q, hq⟩ : ∃ q, q = 2 ^ n := ⟨_, rfl⟩
  have hpow : (2 : Int) ^ n = (q : Int) := by rw [hq]; simp
  have hq64 : q ≤ 64 := by rw [hq]; exact Nat.le_trans (Nat.pow_le_pow_right (by decide) hn6) (by decide)
  have hq0 : 0 < q := by rw [hq]; exact Nat.pow_pos (by decide)
  have HQ := Lib.hid hq
  clear hb0 hq
  go_enter Try.func14, Try.ntmps14
  go_wp2_with fail
  obtain ⟨W, hW⟩ : ∃ W, W = w.alloc (.cells #[.slice a xs.length cap] 28) := ⟨_, rfl⟩
  rw [← hW] at H0 ⊢
  clear hW
  have hcf := H0.out.2.2
  go_loop [5] (fun i => ∃ k : Nat, k ≤ xs.length ∧ i = .int .i64 (k : Int) ∧ ∀ (j : Nat) (x : Int), j < k → xs[j]? = some x → x < (q : Int)) (fun i => xs.length - (intOf i).toNat)
  case atStart => exact ⟨0, Nat.zero_le _, rfl, fun j x h => by omega⟩
  case round =>
    obtain ⟨k, hk, rfl, hrel⟩ := hrel
    have HA := Lib.hid hrel
    clear hrel
    by_cases hlt : k < xs.length
    · obtain ⟨x, hx0⟩ := at_some xs k hlt
      obtain ⟨b, o, rfl, hc⟩ := H0.out.2.1 k x hx0
      have HX := Lib.hid hx0
      have HR := h64.out k x hx0
      have hi : (k : Int) < (xs.length : Int) := by omega
      have hi0 : (0 : Int) ≤ (k : Int) := by omega
      clear hx0
      by_cases hneg : x < 0
      · have HE : Hid (withinB xs n = false) := Lib.hid (neg_bad HX.out hneg)
        go_wp2_with fail
        all_goals
          go_ret
          exact ⟨ret_bool HE.out.symm, H0.out.1⟩
      · by_cases hqx : (q : Int) ≤ x
        · have HE : Hid (withinB xs n = false) := Lib.hid (low_bad HQ.out HX.out hqx)
          have hdq : 0 < x / (q : Int) := by have h1 := (Int.le_ediv_iff_mul_le (a := 1) (b := x) (c := (q : Int)) (by omega)).2 (by omega); omega
          go_wp2_with fail
          go_ret
          exact ⟨ret_bool HE.out.symm, H0.out.1⟩
        · have HA2 : Hid (∀ (j : Nat) (y : Int), j < k + 1 → xs[j]? = some y → y < (q : Int)) := Lib.hid (fun j y hj hy => by
            by_cases e : j = k
            · subst e
              rw [HX.out] at hy
              cases hy
              omega
            · exact HA.out j y (by omega) hy)
          have hdq : ¬ 0 < x / (q : Int) := by rw [Int.ediv_eq_zero_of_lt (by omega) (by omega)]; omega
          clear HA hqx
          go_wp2_with fail
          go_round
          case rel => exact ⟨k + 1, by omega, by go_num, HA2.out⟩
          case measure => simp [intOf]; omega
    · obtain rfl : k = xs.length := by omega
      have HE := Lib.hid (low_good HQ.out (fun j x hx => HA.out j x (at_lt hx) hx))
      clear HA
      go_wp2_with fail
      refine (l5Family_any _ _ xs _ (Lib.hid H0.out.2.1) h64 hn).mono ?_
      rw [← HE.out]
      rintro e w2 ⟨rfl, hb⟩
      have H2 := Lib.hid (H0.out.1.trans (hb.mono H0.out.1.size))
      clear hb
      go_wp2_with fail
      go_ret
      exact ⟨rfl, H2.out⟩
set_option maxRecDepth 100000 in
set_option maxHeartbeats 2000000 in
theorem l5Dual_any (a : Option Addr) (cap : Nat) (xs : List Int) (n m : Nat) (w : World) (h : Hid (Ints w a xs)) (HSB : Hid (Plain.setsB xs = true)) (hn : xs.length ≤ 1048576) (hn6 : n ≤ 6) (hm : m + 1 = 2 ^ n) :
    Calls Try.prog 16 #[.agg #[.slice a xs.length cap], .int .i64 (n : Int)] w (FamPost (Plain.edges (fun s => !Plain.hasB xs (Plain.clr m s)) true) w) := by
  have H0 := Lib.hid (box_result w (.slice a xs.length cap))
  have hpow : (2 : Int) ^ n = (m : Int) + 1 := by
    have : ((m + 1 : Nat) : Int) = ((2 ^ n : Nat) : Int) := by rw [hm]
    simpa using this.symm
  have hm64 : m < 64 := by
    have : 2 ^ n ≤ 64 := Nat.le_trans (Nat.pow_le_pow_right (by decide) hn6) (by decide)
    omega
  obtain ⟨L, hL⟩ : ∃ L, L = Plain.edges (fun s => !Plain.hasB xs (Plain.clr m s)) true := ⟨_, rfl⟩
  rw [← hL]
  have HL := Lib.hid hL
  clear hm hL
  go_enter Try.func16, Try.ntmps16
  go_upto_region 1 with fail
  obtain ⟨W, hW⟩ : ∃ W, W = (w.alloc (.cells #[.slice a xs.length cap] 28)).alloc (.cells #[.slice none 0 0] 28) := ⟨_, rfl⟩
  rw [← hW] at H0 ⊢
  clear hW
  have HT0 := Lib.hid (tab_new W (fun _ => false))
  have HTS := Lib.hid (tabOn_start W)
  go_wp2_with (refine wpList_store_row rfl 48 _ _ rfl W.heap.size (bools fun _ => false) rfl (by rw [bools_zero]; rfl) 48 (bools fun _ => false) (by rw [← bools_zero]; exact HT0.out) info64 rfl (bools_one _) ?_)
  rw [← bools_zero]
  obtain ⟨WT, hWT⟩ : ∃ WT, WT = ((W.alloc (.cells (bools fun _ => false) 48)).setRow W.heap.size (bools fun _ => false)) := ⟨_, rfl⟩
  rw [← hWT] at HTS ⊢
  clear hWT HT0
  go_loopw [7] (fun i wr => ∃ k : Nat, k ≤ 64 ∧ i = .int .i64 k ∧ TabOn W wr (upTo (fun s => !Plain.hasB xs (Plain.clr m s)) k)) (fun i _ => 64 - (intOf i).toNat)
  case atStart => exact ⟨0, Nat.zero_le _, rfl, by rw [upTo_zero]; exact HTS.out⟩
  case round =>
    obtain ⟨k, hk, rfl, hrel⟩ := hrel
    have HK := Lib.hid hrel
    clear hrel
    by_cases hlt : k < 64
    · have hi : (k : Int) < 64 := by omega
      have hi0 : (0 : Int) ≤ (k : Int) := by omega
      have HI := Lib.hid (h.out.on (H0.out.2.2.1.trans (HK.out.2.mono H0.out.2.2.1.size)))
      have hbx := (H0.out.1.on HK.out.2).cell
      have hbit := clr_small hm64 hlt
      have hu64 := clr_lt k hm64
      obtain ⟨u, hu⟩ : ∃ u, u = Plain.clr m k := ⟨_, rfl⟩
      rw [← hu] at hbit hu64
      have HU := Lib.hid hu
      clear hu
      go_wp2_with fail
      refine (l5Has_any a cap xs u _ HI HSB (by omega) hu64).mono ?_
      rw [HU.out]
      rintro e w1 ⟨rfl, hb⟩
      have H1 := Lib.hid (HK.out.later hb)
      have hc : w1.cell? ⟨W.heap.size, k, none⟩ = some (.bool (upTo (fun s => !Plain.hasB xs (Plain.clr m s)) k k)) := H1.out.1.cell hlt
      have hf : w1.frozen? ⟨W.heap.size, k, none⟩ = false := H1.out.1.free k
      have H2 := Lib.hid (H1.out.set hlt)
      clear hb HK
      go_wp2_with fail
      go_roundw
      case rel => exact ⟨k + 1, by omega, by go_num, H2.out⟩
      case measure => simp [intOf]; omega
    · obtain rfl : k = 64 := by omega
      have T1 := HK.out.1
      rw [Tab, upTo_all] at T1
      have HT := Lib.hid T1
      clear T1
      go_wp2_with (refine wpList_load_row rfl 48 _ rfl W.heap.size rfl 48 (bools (fun s => !Plain.hasB xs (Plain.clr m s))) (0, 0) _ HT.out Try.underlying48 rfl info64 ?_)
      refine (l5Made_any _ _).mono ?_
      rw [← HL.out]
      rintro e w3 ⟨ma, mc, rfl, hi, ho, hcp, hb⟩
      have HS := Lib.hid (fam_stored1 (W := wr) (B := wr.heap.size) (G := w.heap.size + 1) ((H0.out.2.2.1).trans (HK.out.2.mono (H0.out.2.2.1).size)) (by simp <;> omega) (Nat.lt_of_lt_of_le (H0.out.2.1).lt HK.out.2.size) (Nat.le_refl _) ((H0.out.2.1).on HK.out.2) hi ho hcp hb)
      have hcr := (((H0.out.2.1).on HK.out.2).on hb).cell
      have hfr := (((H0.out.2.1).on HK.out.2).on hb).free
      clear hi ho hcp hb
      go_wp2_with fail
      refine bodyPost_ret (results_fam rfl _ _ (w.heap.size + 1) _ rfl HS.out.1) rfl HS.out.2
/-- What DualFamily answers. -/
def nB (n : Int) : Bool := decide (0 ≤ n ∧ n ≤ 6)
def dualB (xs : List Int) (n : Int) : Bool := nB n && withinB xs n.toNat
def dualW (xs : List Int) (n : Int) : List Int := if dualB xs n = true then Plain.edges (fun s => !Plain.hasB xs (Plain.clr (2 ^ n.toNat - 1) s)) true else []
theorem n_nat {n : Int} (h : nB n = true) : ∃ p : Nat, n = (p : Int) ∧ p ≤ 6 := by
  simp [nB] at h
  exact ⟨n.toNat, by omega, by omega⟩
theorem dual_no {xs : List Int} {n : Int} (h : dualB xs n = false) : dualW xs n = [] ∧ dualB xs n = false := ⟨by rw [dualW, h]; simp, h⟩
theorem dual_yes {xs : List Int} {p m : Nat} (h : dualB xs (p : Int) = true) (hm : m + 1 = 2 ^ p) : dualW xs (p : Int) = Plain.edges (fun s => !Plain.hasB xs (Plain.clr m s)) true ∧ dualB xs (p : Int) = true := by
  refine ⟨?_, h⟩
  rw [dualW, h, Int.toNat_natCast, show 2 ^ p - 1 = m by omega]; simp
theorem dualW_le (xs : List Int) (n : Int) : (dualW xs n).length ≤ 64 := by
  unfold dualW
  split
  · exact Plain.edges_le _ _
  · simp

end Go.Proofs.Ytkifniailkppnaa
