/- Contract: slices.Reverse of a trail. Condition: from 1 to 401 points. -/
import Derived.Test.YtpaijobmoddgpaaPathClone
namespace Go.Proofs.Ytpaijobmoddgpaa
open Go.ChangeShapes Go.WideShapes Go.ChangeAt Go.RowKit
set_option linter.unusedVariables false
set_option linter.unusedSimpArgs false

/-- A list of n + 1 points of which the first i and the last i have been exchanged. -/
def revTo (L : List Plain.Pt) (n i : Nat) : List Plain.Pt := (List.range (n + 1)).map fun q => if q < i ∨ n < q + i then L.getD (n - q) (0, 0) else L.getD q (0, 0)
theorem revTo_length (L : List Plain.Pt) (n i : Nat) : (revTo L n i).length = n + 1 := by simp [revTo]
theorem revTo_get {L : List Plain.Pt} {n i q : Nat} (h : q ≤ n) : (revTo L n i)[q]? = some (if q < i ∨ n < q + i then L.getD (n - q) (0, 0) else L.getD q (0, 0)) := by
  unfold revTo
  rw [List.getElem?_map, List.getElem?_range (by omega)]; rfl
theorem revTo_zero {L : List Plain.Pt} {n : Nat} (h : L.length = n + 1) : revTo L n 0 = L := by
  apply List.ext_getElem?
  intro q
  by_cases hq : q ≤ n
  · rw [revTo_get hq, if_neg (by omega), List.getElem?_eq_getElem (by omega)]
    simp [List.getD, List.getElem?_eq_getElem (show q < L.length by omega)]
  · rw [List.getElem?_eq_none (by rw [revTo_length]; omega), List.getElem?_eq_none (by omega)]
theorem revTo_step {L : List Plain.Pt} {n i : Nat} (hi : i + i < n) : ((revTo L n i).set i (L.getD (n - i) (0, 0))).set (n - i) (L.getD i (0, 0)) = revTo L n (i + 1) := by
  apply List.ext_getElem?
  intro q
  by_cases hq : q ≤ n
  · rw [revTo_get hq]
    by_cases e1 : q = n - i
    · subst e1
      rw [List.getElem?_set_self (by rw [List.length_set, revTo_length]; omega), if_pos (by omega), show n - (n - i) = i by omega]
    · rw [List.getElem?_set_ne (by omega)]
      by_cases e2 : q = i
      · subst e2
        rw [List.getElem?_set_self (by rw [revTo_length]; omega), if_pos (by omega)]
      · rw [List.getElem?_set_ne (by omega), revTo_get hq]
        congr 1
        by_cases h : q < i ∨ n < q + i
        · rw [if_pos h, if_pos (by omega)]
        · rw [if_neg h, if_neg (by omega)]
  · rw [List.getElem?_eq_none (by rw [List.length_set, List.length_set, revTo_length]; omega), List.getElem?_eq_none (by rw [revTo_length]; omega)]
theorem revTo_all {L : List Plain.Pt} {n i : Nat} (h : L.length = n + 1) (hi : n ≤ i + i) : revTo L n i = L.reverse := by
  apply List.ext_getElem?
  intro q
  by_cases hq : q ≤ n
  · rw [revTo_get hq, List.getElem?_reverse (by omega), h, show n + 1 - 1 - q = n - q by omega, List.getElem?_eq_getElem (by omega)]
    congr 1
    have e : L.getD (n - q) (0, 0) = L[n - q]'(by omega) := by simp [List.getD, List.getElem?_eq_getElem (show n - q < L.length by omega)]
    by_cases h2 : q < i ∨ n < q + i
    · rw [if_pos h2, e]
    · rw [if_neg h2]
      have hqe : n - q = q := by omega
      rw [← e, hqe]
  · rw [List.getElem?_eq_none (by rw [revTo_length]; omega), List.getElem?_eq_none (by rw [List.length_reverse]; omega)]
theorem coll2_cells {T : TypeId} {L : List Plain.Pt} {B g n cap k : Nat} {w wr : World} {p : Plain.Pt} (h : Coll2 T L B w (.slice (some ⟨g, 0, none⟩) n cap) wr) (hn : L.length = n) (hk : L[k]? = some p) :
    (wr.cell? ⟨g, k * 2, none⟩ = some (.int .i64 p.1) ∧ wr.cell? ⟨g, k * 2 + 1, none⟩ = some (.int .i64 p.2)) ∧ ∀ j, wr.frozen? ⟨g, j, none⟩ = false := by
  subst hn
  obtain ⟨a, cap', e, hpts, hne, -⟩ := h.1.form
  cases e
  have hc := hpts.cells hk
  rw [Nat.zero_add] at hc
  obtain ⟨g2, e2, -, -, hf⟩ := hne (by intro e; rw [e] at hk; simp at hk)
  cases e2
  exact ⟨hc, hf⟩
set_option maxRecDepth 100000 in
set_option maxHeartbeats 4000000 in
theorem reverse10_any (B g cap n : Nat) (L : List Plain.Pt) (w0 w : World) (hn : L.length = n + 1) (hl : n ≤ 400) (h : Hid (Coll2 63 L B w0 (.slice (some ⟨g, 0, none⟩) (n + 1) cap) w)) :
    Calls Try.prog 96 #[.slice (some ⟨g, 0, none⟩) (n + 1) cap] w fun e w' => e = .returned (.tuple #[]) ∧ Coll2 63 L.reverse B w0 (.slice (some ⟨g, 0, none⟩) (n + 1) cap) w' := by
  have HN := Lib.hid hn
  have H0 : Hid (Coll2 63 (revTo L n 0) B w0 (.slice (some ⟨g, 0, none⟩) (n + 1) cap) w) := Lib.hid (by rw [revTo_zero hn]; exact h.out)
  clear hn
  go_enter Try.func96, Try.ntmps96
  go_wp2_with fail
  go_loopw [2, 3] (fun i j wr => ∃ k : Nat, k ≤ n ∧ k + k ≤ n + 1 ∧ i = .int .i64 k ∧ j = .int .i64 ((n : Int) - k) ∧ Coll2 63 (revTo L n k) B w0 (.slice (some ⟨g, 0, none⟩) (n + 1) cap) wr) (fun i _ _ => n + 1 - (intOf i).toNat)
  case atStart => exact ⟨0, Nat.zero_le _, by omega, rfl, by go_num, H0.out⟩
  case round =>
    obtain ⟨k, hk, hkk, rfl, rfl, hrel⟩ := hrel
    by_cases hlt : k + k < n
    · obtain ⟨m, hm⟩ : ∃ m, m = n - k := ⟨_, rfl⟩
      have hmi : (n : Int) - (k : Int) = (m : Int) := by omega
      rw [hmi]
      have HK := Lib.hid hrel
      obtain ⟨p, hp⟩ : ∃ p, p = L.getD k (0, 0) := ⟨_, rfl⟩
      obtain ⟨q, hq⟩ : ∃ q, q = L.getD m (0, 0) := ⟨_, rfl⟩
      have gp : (revTo L n k)[k]? = some p := by rw [revTo_get (by omega), if_neg (by omega), hp]
      have gq : (revTo L n k)[m]? = some q := by rw [revTo_get (by omega), if_neg (by omega), hq]
      have HST : Hid (((revTo L n k).set k q).set m p = revTo L n (k + 1)) := Lib.hid (by rw [hp, hq, hm]; exact revTo_step hlt)
      have HST2 : Hid (((revTo L n k).set m p).set k q = revTo L n (k + 1)) := Lib.hid (by rw [← HST.out, List.set_comm _ _ (by omega)])
      obtain ⟨px, py⟩ := p
      obtain ⟨qx, qy⟩ := q
      have hkm : k < m := by omega
      have hmn : m ≤ n := by omega
      clear hrel hp hq hm hkk
      obtain ⟨R, hR⟩ : ∃ R, R = revTo L n k := ⟨_, rfl⟩
      have hRl : R.length = n + 1 := by rw [hR, revTo_length]
      rw [← hR] at HK HST HST2 gp gq
      have HS1 := Lib.hid (HK.out.set hRl k (qx, qy))
      have HS2 := Lib.hid (HK.out.set hRl m (px, py))
      have HE1 : Hid (Coll2 63 (revTo L n (k + 1)) B w0 (.slice (some ⟨g, 0, none⟩) (n + 1) cap) _) := Lib.hid (by rw [← HST.out]; exact HS1.out.set (by rw [List.length_set]; exact hRl) m (px, py))
      have HE2 : Hid (Coll2 63 (revTo L n (k + 1)) B w0 (.slice (some ⟨g, 0, none⟩) (n + 1) cap) _) := Lib.hid (by rw [← HST2.out]; exact HS2.out.set (by rw [List.length_set]; exact hRl) k (qx, qy))
      obtain ⟨⟨d1, d2⟩, df⟩ := coll2_cells HK.out hRl gp
      obtain ⟨⟨d3, d4⟩, -⟩ := coll2_cells HK.out hRl gq
      have f1 := df (k * 2)
      have f2 := df (k * 2 + 1)
      have f3 := df (m * 2)
      have f4 := df (m * 2 + 1)
      obtain ⟨⟨e1, e2⟩, ef⟩ := coll2_cells (p := (qx, qy)) HS1.out (by rw [List.length_set]; exact hRl) (k := m) (by rw [List.getElem?_set_ne (by omega)]; exact gq)
      obtain ⟨⟨e3, e4⟩, eg⟩ := coll2_cells (p := (px, py)) HS2.out (by rw [List.length_set]; exact hRl) (k := k) (by rw [List.getElem?_set_ne (by omega)]; exact gp)
      have f5 := ef (m * 2)
      have f6 := ef (m * 2 + 1)
      have f7 := eg (k * 2)
      have f8 := eg (k * 2 + 1)
      have HRl := Lib.hid hRl
      have HMI := Lib.hid hmi
      clear df ef eg hR hRl gp gq HS1 HS2 hmi
      have hi1 : (k : Int) < (m : Int) := by omega
      have hi2 : (k : Int) < (n : Int) + 1 := by omega
      have hi3 : (m : Int) < (n : Int) + 1 := by omega
      have hi4 : ¬ (k * 2 = m * 2) := by omega
      have hi5 : ¬ (m * 2 = k * 2) := by omega
      have hi6 : ¬ (k * 2 + 1 = m * 2) := by omega
      have hi7 : ¬ (m * 2 = k * 2 + 1) := by omega
      have hi8 : ¬ (k * 2 = m * 2 + 1) := by omega
      have hi9 : ¬ (m * 2 + 1 = k * 2) := by omega
      go_wp2_with fail
      go_region
      go_wp2_with fail
      go_roundw
      case rel => exact ⟨k + 1, by omega, by omega, by go_num, by have := HMI.out; congr 1; omega, HE1.out.drewN 1⟩
      case measure => simp [intOf]; omega
    · have HR : Hid (Coll2 63 L.reverse B w0 (.slice (some ⟨g, 0, none⟩) (n + 1) cap) wr) := Lib.hid (by rw [← revTo_all HN.out (show n ≤ k + k by omega)]; exact hrel)
      have hd : decide ((k : Int) < (n : Int) - (k : Int)) = false := by simp; omega
      clear hrel
      go_wp2_with fail
      go_end0
      exact ⟨rfl, HR.out⟩
theorem reversed_any (n g cap : Nat) (L : List Plain.Pt) (w : World) (hn : L.length = n + 1) (hl : n ≤ 400) (h : Hid (Pts w (some ⟨g, 0, none⟩) L)) :
    Calls Try.prog 68 #[.slice (some ⟨g, 0, none⟩) (n + 1) cap] w (MadePost L.reverse w) := by
  have HN := Lib.hid hn
  clear hn
  go_enter Try.func68, Try.ntmps68
  go_wp2_with fail
  refine (clone10_any g cap n L _ HN.out hl h).mono ?_
  rintro e w1 ⟨v, rfl, hC⟩
  obtain ⟨g2, cap2, rfl, -⟩ := made_form hC HN.out
  have HC := Lib.hid hC
  clear hC
  go_wp2_with fail
  refine (reverse10_any w.heap.size g2 cap2 n L w _ HN.out hl HC).mono ?_
  rintro e w2 ⟨rfl, hC⟩
  have HC2 := Lib.hid hC
  clear hC
  go_wp2_with fail
  go_ret
  exact ⟨_, rfl, HC2.out⟩
end Go.Proofs.Ytpaijobmoddgpaa
