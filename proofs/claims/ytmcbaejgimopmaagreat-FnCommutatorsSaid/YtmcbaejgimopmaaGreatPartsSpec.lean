/- Contracts: spec.l4Parts, spec.WicksParts. Conditions: numbers of 64 bits, lengths that fit. -/
import Derived.Test.YtmcbaejgimopmaaGreatBdDrawWs
import Derived.Test.YtmcbaejgimopmaaGreatCoreWalks
import Derived.Test.YtmcbaejgimopmaaGreatSame
import Derived.Test.YtmcbaejgimopmaaGreatWordWalks
import Derived.BigRegion
namespace Go.Proofs.YtmcbaejgimopmaaGreat
open Go.ChangeShapes Go.WideShapes Go.ChangeAt Go.RowKit
set_option linter.unusedVariables false

/-- How many of three words are empty, of the lengths i, k and n - i - k. -/
def emptyN (n i k : Nat) : Nat := (if i = 0 then 1 else 0) + (if k = 0 then 1 else 0) + (if i + k = n then 1 else 0)
def restZ (t : List Int) (n i k : Nat) : List Int := (Plain.inv (t.take i) ++ Plain.inv ((t.drop i).take k)) ++ Plain.inv ((t.drop (i + k)).take (n - (i + k)))
/-- A word is three words, of some lengths, and their inverses. -/
def partsB (t : List Int) (i k : Nat) : Bool := decide (emptyN (t.length / 2) i k ≤ 1) && decide (t.drop (t.length / 2) = restZ t (t.length / 2) i k)

theorem l1Same_at (a b : Option Addr) (ca cb n m : Nat) (xs ys : List Int) (w : World) (hl : xs.length = n) (hm : ys.length = m) (ha : Hid (Ints w a xs)) (hb : Hid (Ints w b ys)) (hn : n ≤ 9223372036854775807) :
    Calls Tryz.prog 89 #[.slice a n ca, .slice b m cb] w (EqPost (decide (xs = ys)) w) := by
  subst hl hm
  exact l1Same_any a b ca cb xs ys w ha hb hn
set_option maxRecDepth 100000 in
set_option maxHeartbeats 2000000 in
theorem l4Parts_any (b o cap : Nat) (t : List Int) (n i k : Nat) (w : World) (h : Hid (Ints w (some ⟨b, o, none⟩) t)) (hcp : Hid (Cap (some ⟨b, o, none⟩) t.length cap)) (hl : Hid (Plain.Letters t)) (hlen : t.length ≤ 64) (h0 : 0 < t.length) (hn : n = t.length / 2) (hik : i + k ≤ n) :
    Calls Tryz.prog 64 #[.slice (some ⟨b, o, none⟩) t.length cap, .int .i64 (i : Int), .int .i64 (k : Int)] w (Val (.bool (partsB t i k)) w) := by
  obtain ⟨i0, hi0, hz0, hz1, hz2⟩ := info_parts infoInt
  have hc1 := hcp.out.1
  have hc2 := hcp.out.2.1
  have HQ : Hid ((t.length : Int) / 2 = (n : Int)) := Lib.hid (by rw [hn]; omega)
  have HN := Lib.hid hn
  obtain ⟨A, hA⟩ : ∃ A, A = t.take i := ⟨_, rfl⟩
  obtain ⟨B, hB⟩ : ∃ B, B = (t.drop i).take k := ⟨_, rfl⟩
  obtain ⟨m, hm⟩ : ∃ m, m = n - (i + k) := ⟨_, rfl⟩
  obtain ⟨C, hC⟩ : ∃ C, C = (t.drop (i + k)).take m := ⟨_, rfl⟩
  obtain ⟨T, hT⟩ : ∃ T, T = t.drop n := ⟨_, rfl⟩
  have lA : Hid (A.length = i) := Lib.hid (by rw [hA, List.length_take]; omega)
  have lB : Hid (B.length = k) := Lib.hid (by rw [hB, List.length_take, List.length_drop]; omega)
  have lC : Hid (C.length = m) := Lib.hid (by rw [hC, List.length_take, List.length_drop]; omega)
  have lT : Hid (T.length = t.length - n) := Lib.hid (by rw [hT, List.length_drop])
  have LA : Hid (Plain.Letters A) := Lib.hid (by rw [hA]; exact fun x hx => hl.out x (List.mem_of_mem_take hx))
  have LB : Hid (Plain.Letters B) := Lib.hid (by rw [hB]; exact fun x hx => hl.out x (List.mem_of_mem_drop (List.mem_of_mem_take hx)))
  have LC : Hid (Plain.Letters C) := Lib.hid (by rw [hC]; exact fun x hx => hl.out x (List.mem_of_mem_drop (List.mem_of_mem_take hx)))
  have IA : Hid (Ints w.drew (some ⟨b, o, none⟩) A) := Lib.hid (by rw [hA]; exact (h.out.drewN 1).upto i)
  have IB : Hid (Ints w.drew (some ⟨b, o + i, none⟩) B) := Lib.hid (by rw [hB]; exact ((h.out.drewN 1).from i).upto k)
  have IC : Hid (Ints w (some ⟨b, o + (i + k), none⟩) C) := Lib.hid (by rw [hC]; exact (h.out.from (i + k)).upto m)
  have IT : Hid (Ints w (some ⟨b, o + n, none⟩) T) := Lib.hid (by rw [hT]; exact h.out.from n)
  have HD : Hid (restZ t n i k = (Plain.inv A ++ Plain.inv B) ++ Plain.inv C) := Lib.hid (by rw [restZ, hA, hB, hC, hm])
  have HTT := Lib.hid hT
  have HM := Lib.hid hm
  have hm32 : m ≤ 32 := by omega
  clear hA hB hC hT hm
  go_enter Tryz.func64, Tryz.ntmps64
  go_wp2_with fail
  rw [HQ.out]
  have hn32 : n ≤ 32 := by omega
  have hn2 : n < t.length := by omega
  have hne : ¬ cap = i := by omega
  have hne2 : ¬ cap = i + k := by omega
  have hne3 : ¬ cap = n := by omega
  have q1 : (i : Int) ≤ (cap : Int) := by omega
  have q2 : (i : Int) + (k : Int) ≤ (cap : Int) := by omega
  have q3 : (n : Int) ≤ (cap : Int) := by omega
  have q4 : (i : Int) ≤ (i : Int) + (k : Int) := by omega
  have q5 : (i : Int) + (k : Int) ≤ (n : Int) := by omega
  have q6 : (0 : Int) ≤ (i : Int) := by omega
  have q7 : (0 : Int) ≤ (i : Int) + (k : Int) := by omega
  have q8 : (0 : Int) ≤ (n : Int) := by omega
  have q9 : (t.length : Int) ≤ (cap : Int) := by omega
  have q10 : (n : Int) ≤ (t.length : Int) := by omega
  clear hn
  go_region
  rw [show i + k - i = k by omega, ← HM.out]
  obtain ⟨A', hA'⟩ : ∃ A', A' = Plain.inv A := ⟨_, rfl⟩
  obtain ⟨B', hB'⟩ : ∃ B', B' = Plain.inv B := ⟨_, rfl⟩
  obtain ⟨C', hC'⟩ : ∃ C', C' = Plain.inv C := ⟨_, rfl⟩
  have lA' : Hid (A'.length = i) := Lib.hid (by rw [hA', ← lA.out]; simp [Plain.inv])
  have lB' : Hid (B'.length = k) := Lib.hid (by rw [hB', ← lB.out]; simp [Plain.inv])
  have lC' : Hid (C'.length = m) := Lib.hid (by rw [hC', ← lC.out]; simp [Plain.inv])
  rw [← hA', ← hB', ← hC'] at HD
  have HA' := Lib.hid hA'
  have HB' := Lib.hid hB'
  have HC' := Lib.hid hC'
  clear hA' hB' hC'
  have E0 : ((i : Int) == 0) = decide (i = 0) := by rw [Bool.eq_iff_iff]; simp
  have E1 : ((k : Int) == 0) = decide (k = 0) := by rw [Bool.eq_iff_iff]; simp
  have E2 : ((i : Int) + (k : Int) == (n : Int)) = decide (i + k = n) := by rw [Bool.eq_iff_iff]; simp; omega
  by_cases d0 : i = 0
  · by_cases d1 : k = 0
    · by_cases d2 : i + k = n
      · have HE : Hid (emptyN n i k = 3) := Lib.hid (by unfold emptyN; rw [if_pos d0, if_pos d1, if_pos d2])
        have E0v := E0.trans (by simp [d0] : decide _ = true)
        have E1v := E1.trans (by simp [d1] : decide _ = true)
        have E2v := E2.trans (by simp [d2] : decide _ = true)
        clear d0 d1 d2 E0 E1 E2
        go_wp2_with fail
        refine (l2InverseC_at _ _ i A _ lA.out IA LA (by omega)).mono ?_
        rw [← HA'.out]
        rintro e w1 ⟨v1, rfl, hc⟩
        have C1 := Lib.hid hc.undrew
        have IB1 := Lib.hid (IB.out.on hc.2.1)
        clear hc
        go_wp2_with fail
        refine (l2InverseC_at _ _ k B _ lB.out IB1 LB (by omega)).mono ?_
        rw [← HB'.out]
        rintro e w2 ⟨v2, rfl, hc⟩
        have C1b := Lib.hid (C1.out.later hc.2.1)
        obtain ⟨⟨a2, c2, rfl, hi2, -, hk2⟩, -⟩ := coll_res hc
        rw [lB'.out] at hk2
        rw [lB'.out]
        have I2 := Lib.hid hi2
        have K2 := Lib.hid hk2
        clear hc hi2 hk2
        have hown0 : Hid (w2.ownsRow w.heap.size 3 1 v1 i (nums A')) := Lib.hid (by have := C1b.out.1; rwa [lA'.out] at this)
        go_wp2_with (at_builtin; refine wpList_append_ints rfl _ _ 24 i0 rfl Tryz.underlying24 hi0 hz0 hz1 hz2 w.heap.size _ i A' rfl hown0.out a2 k c2 B' rfl lB'.out I2.out K2.out (by omega) C1b.out.2.2 ?_)
        intro v3 w3 hown hgrow hnil
        have C3 := Lib.hid (coll_more C1b.out lB'.out (by rw [lA'.out]; exact hown) hgrow)
        obtain ⟨AB, hAB⟩ : ∃ AB, AB = A' ++ B' := ⟨_, rfl⟩
        have lAB : Hid (AB.length = i + k) := Lib.hid (by rw [hAB, List.length_append, lA'.out, lB'.out])
        rw [← hAB] at C3
        have HD2 : Hid (restZ t n i k = AB ++ C') := Lib.hid (by rw [HD.out, hAB])
        clear hAB
        have IC3 := Lib.hid (IC.out.on C3.out.2.1)
        clear hown hgrow hnil
        go_wp2_with fail
        refine (l2InverseC_at _ _ m C _ lC.out IC3 LC (by omega)).mono ?_
        rw [← HC'.out]
        rintro e w4 ⟨v4, rfl, hc⟩
        have C3b := Lib.hid (C3.out.later hc.2.1)
        obtain ⟨⟨a4, c4, rfl, hi4, -, hk4⟩, -⟩ := coll_res hc
        rw [lC'.out] at hk4
        rw [lC'.out]
        have I4 := Lib.hid hi4
        have K4 := Lib.hid hk4
        clear hc hi4 hk4
        have hown1 : Hid (w4.ownsRow w.heap.size 3 1 v3 (i + k) (nums AB)) := Lib.hid (by have := C3b.out.1; rwa [lAB.out] at this)
        go_wp2_with (at_builtin; refine wpList_append_ints rfl _ _ 24 i0 rfl Tryz.underlying24 hi0 hz0 hz1 hz2 w.heap.size _ (i + k) AB rfl hown1.out a4 m c4 C' rfl lC'.out I4.out K4.out (by omega) C3b.out.2.2 ?_)
        intro v5 w5 hown hgrow hnil
        have C5 := Lib.hid (coll_more C3b.out lC'.out (by rw [lAB.out]; exact hown) hgrow)
        clear hown hgrow hnil
        have IT5 := Lib.hid (IT.out.on C5.out.2.1)
        obtain ⟨R, hR⟩ : ∃ R, R = AB ++ C' := ⟨_, rfl⟩
        rw [← hR] at C5 HD2
        have lR : Hid (R.length = i + k + m) := Lib.hid (by rw [hR, List.length_append, lAB.out, lC'.out])
        clear hR
        obtain ⟨⟨a5, c5, rfl, hi5, -, -⟩, hb5⟩ := coll_res C5.out
        rw [lR.out]
        have I5 := Lib.hid hi5
        have B5 := Lib.hid hb5
        clear hi5 hb5
        go_wp2_with fail
        go_ret
        refine ⟨ret_bool ?_, B5.out⟩
        rw [partsB, ← HN.out, HE.out]
        rfl
      · have HE : Hid (emptyN n i k = 2) := Lib.hid (by unfold emptyN; rw [if_pos d0, if_pos d1, if_neg d2])
        have E0v := E0.trans (by simp [d0] : decide _ = true)
        have E1v := E1.trans (by simp [d1] : decide _ = true)
        have E2v := E2.trans (by simp [d2] : decide _ = false)
        clear d0 d1 d2 E0 E1 E2
        go_wp2_with fail
        refine (l2InverseC_at _ _ i A _ lA.out IA LA (by omega)).mono ?_
        rw [← HA'.out]
        rintro e w1 ⟨v1, rfl, hc⟩
        have C1 := Lib.hid hc.undrew
        have IB1 := Lib.hid (IB.out.on hc.2.1)
        clear hc
        go_wp2_with fail
        refine (l2InverseC_at _ _ k B _ lB.out IB1 LB (by omega)).mono ?_
        rw [← HB'.out]
        rintro e w2 ⟨v2, rfl, hc⟩
        have C1b := Lib.hid (C1.out.later hc.2.1)
        obtain ⟨⟨a2, c2, rfl, hi2, -, hk2⟩, -⟩ := coll_res hc
        rw [lB'.out] at hk2
        rw [lB'.out]
        have I2 := Lib.hid hi2
        have K2 := Lib.hid hk2
        clear hc hi2 hk2
        have hown0 : Hid (w2.ownsRow w.heap.size 3 1 v1 i (nums A')) := Lib.hid (by have := C1b.out.1; rwa [lA'.out] at this)
        go_wp2_with (at_builtin; refine wpList_append_ints rfl _ _ 24 i0 rfl Tryz.underlying24 hi0 hz0 hz1 hz2 w.heap.size _ i A' rfl hown0.out a2 k c2 B' rfl lB'.out I2.out K2.out (by omega) C1b.out.2.2 ?_)
        intro v3 w3 hown hgrow hnil
        have C3 := Lib.hid (coll_more C1b.out lB'.out (by rw [lA'.out]; exact hown) hgrow)
        obtain ⟨AB, hAB⟩ : ∃ AB, AB = A' ++ B' := ⟨_, rfl⟩
        have lAB : Hid (AB.length = i + k) := Lib.hid (by rw [hAB, List.length_append, lA'.out, lB'.out])
        rw [← hAB] at C3
        have HD2 : Hid (restZ t n i k = AB ++ C') := Lib.hid (by rw [HD.out, hAB])
        clear hAB
        have IC3 := Lib.hid (IC.out.on C3.out.2.1)
        clear hown hgrow hnil
        go_wp2_with fail
        refine (l2InverseC_at _ _ m C _ lC.out IC3 LC (by omega)).mono ?_
        rw [← HC'.out]
        rintro e w4 ⟨v4, rfl, hc⟩
        have C3b := Lib.hid (C3.out.later hc.2.1)
        obtain ⟨⟨a4, c4, rfl, hi4, -, hk4⟩, -⟩ := coll_res hc
        rw [lC'.out] at hk4
        rw [lC'.out]
        have I4 := Lib.hid hi4
        have K4 := Lib.hid hk4
        clear hc hi4 hk4
        have hown1 : Hid (w4.ownsRow w.heap.size 3 1 v3 (i + k) (nums AB)) := Lib.hid (by have := C3b.out.1; rwa [lAB.out] at this)
        go_wp2_with (at_builtin; refine wpList_append_ints rfl _ _ 24 i0 rfl Tryz.underlying24 hi0 hz0 hz1 hz2 w.heap.size _ (i + k) AB rfl hown1.out a4 m c4 C' rfl lC'.out I4.out K4.out (by omega) C3b.out.2.2 ?_)
        intro v5 w5 hown hgrow hnil
        have C5 := Lib.hid (coll_more C3b.out lC'.out (by rw [lAB.out]; exact hown) hgrow)
        clear hown hgrow hnil
        have IT5 := Lib.hid (IT.out.on C5.out.2.1)
        obtain ⟨R, hR⟩ : ∃ R, R = AB ++ C' := ⟨_, rfl⟩
        rw [← hR] at C5 HD2
        have lR : Hid (R.length = i + k + m) := Lib.hid (by rw [hR, List.length_append, lAB.out, lC'.out])
        clear hR
        obtain ⟨⟨a5, c5, rfl, hi5, -, -⟩, hb5⟩ := coll_res C5.out
        rw [lR.out]
        have I5 := Lib.hid hi5
        have B5 := Lib.hid hb5
        clear hi5 hb5
        go_wp2_with fail
        go_ret
        refine ⟨ret_bool ?_, B5.out⟩
        rw [partsB, ← HN.out, HE.out]
        rfl
    · by_cases d2 : i + k = n
      · have HE : Hid (emptyN n i k = 2) := Lib.hid (by unfold emptyN; rw [if_pos d0, if_neg d1, if_pos d2])
        have E0v := E0.trans (by simp [d0] : decide _ = true)
        have E1v := E1.trans (by simp [d1] : decide _ = false)
        have E2v := E2.trans (by simp [d2] : decide _ = true)
        clear d0 d1 d2 E0 E1 E2
        go_wp2_with fail
        refine (l2InverseC_at _ _ i A _ lA.out IA LA (by omega)).mono ?_
        rw [← HA'.out]
        rintro e w1 ⟨v1, rfl, hc⟩
        have C1 := Lib.hid hc.undrew
        have IB1 := Lib.hid (IB.out.on hc.2.1)
        clear hc
        go_wp2_with fail
        refine (l2InverseC_at _ _ k B _ lB.out IB1 LB (by omega)).mono ?_
        rw [← HB'.out]
        rintro e w2 ⟨v2, rfl, hc⟩
        have C1b := Lib.hid (C1.out.later hc.2.1)
        obtain ⟨⟨a2, c2, rfl, hi2, -, hk2⟩, -⟩ := coll_res hc
        rw [lB'.out] at hk2
        rw [lB'.out]
        have I2 := Lib.hid hi2
        have K2 := Lib.hid hk2
        clear hc hi2 hk2
        have hown0 : Hid (w2.ownsRow w.heap.size 3 1 v1 i (nums A')) := Lib.hid (by have := C1b.out.1; rwa [lA'.out] at this)
        go_wp2_with (at_builtin; refine wpList_append_ints rfl _ _ 24 i0 rfl Tryz.underlying24 hi0 hz0 hz1 hz2 w.heap.size _ i A' rfl hown0.out a2 k c2 B' rfl lB'.out I2.out K2.out (by omega) C1b.out.2.2 ?_)
        intro v3 w3 hown hgrow hnil
        have C3 := Lib.hid (coll_more C1b.out lB'.out (by rw [lA'.out]; exact hown) hgrow)
        obtain ⟨AB, hAB⟩ : ∃ AB, AB = A' ++ B' := ⟨_, rfl⟩
        have lAB : Hid (AB.length = i + k) := Lib.hid (by rw [hAB, List.length_append, lA'.out, lB'.out])
        rw [← hAB] at C3
        have HD2 : Hid (restZ t n i k = AB ++ C') := Lib.hid (by rw [HD.out, hAB])
        clear hAB
        have IC3 := Lib.hid (IC.out.on C3.out.2.1)
        clear hown hgrow hnil
        go_wp2_with fail
        refine (l2InverseC_at _ _ m C _ lC.out IC3 LC (by omega)).mono ?_
        rw [← HC'.out]
        rintro e w4 ⟨v4, rfl, hc⟩
        have C3b := Lib.hid (C3.out.later hc.2.1)
        obtain ⟨⟨a4, c4, rfl, hi4, -, hk4⟩, -⟩ := coll_res hc
        rw [lC'.out] at hk4
        rw [lC'.out]
        have I4 := Lib.hid hi4
        have K4 := Lib.hid hk4
        clear hc hi4 hk4
        have hown1 : Hid (w4.ownsRow w.heap.size 3 1 v3 (i + k) (nums AB)) := Lib.hid (by have := C3b.out.1; rwa [lAB.out] at this)
        go_wp2_with (at_builtin; refine wpList_append_ints rfl _ _ 24 i0 rfl Tryz.underlying24 hi0 hz0 hz1 hz2 w.heap.size _ (i + k) AB rfl hown1.out a4 m c4 C' rfl lC'.out I4.out K4.out (by omega) C3b.out.2.2 ?_)
        intro v5 w5 hown hgrow hnil
        have C5 := Lib.hid (coll_more C3b.out lC'.out (by rw [lAB.out]; exact hown) hgrow)
        clear hown hgrow hnil
        have IT5 := Lib.hid (IT.out.on C5.out.2.1)
        obtain ⟨R, hR⟩ : ∃ R, R = AB ++ C' := ⟨_, rfl⟩
        rw [← hR] at C5 HD2
        have lR : Hid (R.length = i + k + m) := Lib.hid (by rw [hR, List.length_append, lAB.out, lC'.out])
        clear hR
        obtain ⟨⟨a5, c5, rfl, hi5, -, -⟩, hb5⟩ := coll_res C5.out
        rw [lR.out]
        have I5 := Lib.hid hi5
        have B5 := Lib.hid hb5
        clear hi5 hb5
        go_wp2_with fail
        go_ret
        refine ⟨ret_bool ?_, B5.out⟩
        rw [partsB, ← HN.out, HE.out]
        rfl
      · have HE : Hid (emptyN n i k = 1) := Lib.hid (by unfold emptyN; rw [if_pos d0, if_neg d1, if_neg d2])
        have E0v := E0.trans (by simp [d0] : decide _ = true)
        have E1v := E1.trans (by simp [d1] : decide _ = false)
        have E2v := E2.trans (by simp [d2] : decide _ = false)
        clear d0 d1 d2 E0 E1 E2
        go_wp2_with fail
        refine (l2InverseC_at _ _ i A _ lA.out IA LA (by omega)).mono ?_
        rw [← HA'.out]
        rintro e w1 ⟨v1, rfl, hc⟩
        have C1 := Lib.hid hc.undrew
        have IB1 := Lib.hid (IB.out.on hc.2.1)
        clear hc
        go_wp2_with fail
        refine (l2InverseC_at _ _ k B _ lB.out IB1 LB (by omega)).mono ?_
        rw [← HB'.out]
        rintro e w2 ⟨v2, rfl, hc⟩
        have C1b := Lib.hid (C1.out.later hc.2.1)
        obtain ⟨⟨a2, c2, rfl, hi2, -, hk2⟩, -⟩ := coll_res hc
        rw [lB'.out] at hk2
        rw [lB'.out]
        have I2 := Lib.hid hi2
        have K2 := Lib.hid hk2
        clear hc hi2 hk2
        have hown0 : Hid (w2.ownsRow w.heap.size 3 1 v1 i (nums A')) := Lib.hid (by have := C1b.out.1; rwa [lA'.out] at this)
        go_wp2_with (at_builtin; refine wpList_append_ints rfl _ _ 24 i0 rfl Tryz.underlying24 hi0 hz0 hz1 hz2 w.heap.size _ i A' rfl hown0.out a2 k c2 B' rfl lB'.out I2.out K2.out (by omega) C1b.out.2.2 ?_)
        intro v3 w3 hown hgrow hnil
        have C3 := Lib.hid (coll_more C1b.out lB'.out (by rw [lA'.out]; exact hown) hgrow)
        obtain ⟨AB, hAB⟩ : ∃ AB, AB = A' ++ B' := ⟨_, rfl⟩
        have lAB : Hid (AB.length = i + k) := Lib.hid (by rw [hAB, List.length_append, lA'.out, lB'.out])
        rw [← hAB] at C3
        have HD2 : Hid (restZ t n i k = AB ++ C') := Lib.hid (by rw [HD.out, hAB])
        clear hAB
        have IC3 := Lib.hid (IC.out.on C3.out.2.1)
        clear hown hgrow hnil
        go_wp2_with fail
        refine (l2InverseC_at _ _ m C _ lC.out IC3 LC (by omega)).mono ?_
        rw [← HC'.out]
        rintro e w4 ⟨v4, rfl, hc⟩
        have C3b := Lib.hid (C3.out.later hc.2.1)
        obtain ⟨⟨a4, c4, rfl, hi4, -, hk4⟩, -⟩ := coll_res hc
        rw [lC'.out] at hk4
        rw [lC'.out]
        have I4 := Lib.hid hi4
        have K4 := Lib.hid hk4
        clear hc hi4 hk4
        have hown1 : Hid (w4.ownsRow w.heap.size 3 1 v3 (i + k) (nums AB)) := Lib.hid (by have := C3b.out.1; rwa [lAB.out] at this)
        go_wp2_with (at_builtin; refine wpList_append_ints rfl _ _ 24 i0 rfl Tryz.underlying24 hi0 hz0 hz1 hz2 w.heap.size _ (i + k) AB rfl hown1.out a4 m c4 C' rfl lC'.out I4.out K4.out (by omega) C3b.out.2.2 ?_)
        intro v5 w5 hown hgrow hnil
        have C5 := Lib.hid (coll_more C3b.out lC'.out (by rw [lAB.out]; exact hown) hgrow)
        clear hown hgrow hnil
        have IT5 := Lib.hid (IT.out.on C5.out.2.1)
        obtain ⟨R, hR⟩ : ∃ R, R = AB ++ C' := ⟨_, rfl⟩
        rw [← hR] at C5 HD2
        have lR : Hid (R.length = i + k + m) := Lib.hid (by rw [hR, List.length_append, lAB.out, lC'.out])
        clear hR
        obtain ⟨⟨a5, c5, rfl, hi5, -, -⟩, hb5⟩ := coll_res C5.out
        rw [lR.out]
        have I5 := Lib.hid hi5
        have B5 := Lib.hid hb5
        clear hi5 hb5
        go_wp2_with fail
        refine (l1Same_at _ _ _ _ (t.length - n) (i + k + m) T R _ lT.out lR.out IT5 I5 (by omega)).mono ?_
        rintro e w6 ⟨rfl, nq, rfl⟩
        go_wp2_with fail
        go_ret
        refine ⟨ret_bool ?_, below_drewN B5.out _⟩
        rw [partsB, ← HN.out, HE.out, HD2.out, ← HTT.out]
        rfl
  · by_cases d1 : k = 0
    · by_cases d2 : i + k = n
      · have HE : Hid (emptyN n i k = 2) := Lib.hid (by unfold emptyN; rw [if_neg d0, if_pos d1, if_pos d2])
        have E0v := E0.trans (by simp [d0] : decide _ = false)
        have E1v := E1.trans (by simp [d1] : decide _ = true)
        have E2v := E2.trans (by simp [d2] : decide _ = true)
        clear d0 d1 d2 E0 E1 E2
        go_wp2_with fail
        refine (l2InverseC_at _ _ i A _ lA.out IA LA (by omega)).mono ?_
        rw [← HA'.out]
        rintro e w1 ⟨v1, rfl, hc⟩
        have C1 := Lib.hid hc.undrew
        have IB1 := Lib.hid (IB.out.on hc.2.1)
        clear hc
        go_wp2_with fail
        refine (l2InverseC_at _ _ k B _ lB.out IB1 LB (by omega)).mono ?_
        rw [← HB'.out]
        rintro e w2 ⟨v2, rfl, hc⟩
        have C1b := Lib.hid (C1.out.later hc.2.1)
        obtain ⟨⟨a2, c2, rfl, hi2, -, hk2⟩, -⟩ := coll_res hc
        rw [lB'.out] at hk2
        rw [lB'.out]
        have I2 := Lib.hid hi2
        have K2 := Lib.hid hk2
        clear hc hi2 hk2
        have hown0 : Hid (w2.ownsRow w.heap.size 3 1 v1 i (nums A')) := Lib.hid (by have := C1b.out.1; rwa [lA'.out] at this)
        go_wp2_with (at_builtin; refine wpList_append_ints rfl _ _ 24 i0 rfl Tryz.underlying24 hi0 hz0 hz1 hz2 w.heap.size _ i A' rfl hown0.out a2 k c2 B' rfl lB'.out I2.out K2.out (by omega) C1b.out.2.2 ?_)
        intro v3 w3 hown hgrow hnil
        have C3 := Lib.hid (coll_more C1b.out lB'.out (by rw [lA'.out]; exact hown) hgrow)
        obtain ⟨AB, hAB⟩ : ∃ AB, AB = A' ++ B' := ⟨_, rfl⟩
        have lAB : Hid (AB.length = i + k) := Lib.hid (by rw [hAB, List.length_append, lA'.out, lB'.out])
        rw [← hAB] at C3
        have HD2 : Hid (restZ t n i k = AB ++ C') := Lib.hid (by rw [HD.out, hAB])
        clear hAB
        have IC3 := Lib.hid (IC.out.on C3.out.2.1)
        clear hown hgrow hnil
        go_wp2_with fail
        refine (l2InverseC_at _ _ m C _ lC.out IC3 LC (by omega)).mono ?_
        rw [← HC'.out]
        rintro e w4 ⟨v4, rfl, hc⟩
        have C3b := Lib.hid (C3.out.later hc.2.1)
        obtain ⟨⟨a4, c4, rfl, hi4, -, hk4⟩, -⟩ := coll_res hc
        rw [lC'.out] at hk4
        rw [lC'.out]
        have I4 := Lib.hid hi4
        have K4 := Lib.hid hk4
        clear hc hi4 hk4
        have hown1 : Hid (w4.ownsRow w.heap.size 3 1 v3 (i + k) (nums AB)) := Lib.hid (by have := C3b.out.1; rwa [lAB.out] at this)
        go_wp2_with (at_builtin; refine wpList_append_ints rfl _ _ 24 i0 rfl Tryz.underlying24 hi0 hz0 hz1 hz2 w.heap.size _ (i + k) AB rfl hown1.out a4 m c4 C' rfl lC'.out I4.out K4.out (by omega) C3b.out.2.2 ?_)
        intro v5 w5 hown hgrow hnil
        have C5 := Lib.hid (coll_more C3b.out lC'.out (by rw [lAB.out]; exact hown) hgrow)
        clear hown hgrow hnil
        have IT5 := Lib.hid (IT.out.on C5.out.2.1)
        obtain ⟨R, hR⟩ : ∃ R, R = AB ++ C' := ⟨_, rfl⟩
        rw [← hR] at C5 HD2
        have lR : Hid (R.length = i + k + m) := Lib.hid (by rw [hR, List.length_append, lAB.out, lC'.out])
        clear hR
        obtain ⟨⟨a5, c5, rfl, hi5, -, -⟩, hb5⟩ := coll_res C5.out
        rw [lR.out]
        have I5 := Lib.hid hi5
        have B5 := Lib.hid hb5
        clear hi5 hb5
        go_wp2_with fail
        go_ret
        refine ⟨ret_bool ?_, B5.out⟩
        rw [partsB, ← HN.out, HE.out]
        rfl
      · have HE : Hid (emptyN n i k = 1) := Lib.hid (by unfold emptyN; rw [if_neg d0, if_pos d1, if_neg d2])
        have E0v := E0.trans (by simp [d0] : decide _ = false)
        have E1v := E1.trans (by simp [d1] : decide _ = true)
        have E2v := E2.trans (by simp [d2] : decide _ = false)
        clear d0 d1 d2 E0 E1 E2
        go_wp2_with fail
        refine (l2InverseC_at _ _ i A _ lA.out IA LA (by omega)).mono ?_
        rw [← HA'.out]
        rintro e w1 ⟨v1, rfl, hc⟩
        have C1 := Lib.hid hc.undrew
        have IB1 := Lib.hid (IB.out.on hc.2.1)
        clear hc
        go_wp2_with fail
        refine (l2InverseC_at _ _ k B _ lB.out IB1 LB (by omega)).mono ?_
        rw [← HB'.out]
        rintro e w2 ⟨v2, rfl, hc⟩
        have C1b := Lib.hid (C1.out.later hc.2.1)
        obtain ⟨⟨a2, c2, rfl, hi2, -, hk2⟩, -⟩ := coll_res hc
        rw [lB'.out] at hk2
        rw [lB'.out]
        have I2 := Lib.hid hi2
        have K2 := Lib.hid hk2
        clear hc hi2 hk2
        have hown0 : Hid (w2.ownsRow w.heap.size 3 1 v1 i (nums A')) := Lib.hid (by have := C1b.out.1; rwa [lA'.out] at this)
        go_wp2_with (at_builtin; refine wpList_append_ints rfl _ _ 24 i0 rfl Tryz.underlying24 hi0 hz0 hz1 hz2 w.heap.size _ i A' rfl hown0.out a2 k c2 B' rfl lB'.out I2.out K2.out (by omega) C1b.out.2.2 ?_)
        intro v3 w3 hown hgrow hnil
        have C3 := Lib.hid (coll_more C1b.out lB'.out (by rw [lA'.out]; exact hown) hgrow)
        obtain ⟨AB, hAB⟩ : ∃ AB, AB = A' ++ B' := ⟨_, rfl⟩
        have lAB : Hid (AB.length = i + k) := Lib.hid (by rw [hAB, List.length_append, lA'.out, lB'.out])
        rw [← hAB] at C3
        have HD2 : Hid (restZ t n i k = AB ++ C') := Lib.hid (by rw [HD.out, hAB])
        clear hAB
        have IC3 := Lib.hid (IC.out.on C3.out.2.1)
        clear hown hgrow hnil
        go_wp2_with fail
        refine (l2InverseC_at _ _ m C _ lC.out IC3 LC (by omega)).mono ?_
        rw [← HC'.out]
        rintro e w4 ⟨v4, rfl, hc⟩
        have C3b := Lib.hid (C3.out.later hc.2.1)
        obtain ⟨⟨a4, c4, rfl, hi4, -, hk4⟩, -⟩ := coll_res hc
        rw [lC'.out] at hk4
        rw [lC'.out]
        have I4 := Lib.hid hi4
        have K4 := Lib.hid hk4
        clear hc hi4 hk4
        have hown1 : Hid (w4.ownsRow w.heap.size 3 1 v3 (i + k) (nums AB)) := Lib.hid (by have := C3b.out.1; rwa [lAB.out] at this)
        go_wp2_with (at_builtin; refine wpList_append_ints rfl _ _ 24 i0 rfl Tryz.underlying24 hi0 hz0 hz1 hz2 w.heap.size _ (i + k) AB rfl hown1.out a4 m c4 C' rfl lC'.out I4.out K4.out (by omega) C3b.out.2.2 ?_)
        intro v5 w5 hown hgrow hnil
        have C5 := Lib.hid (coll_more C3b.out lC'.out (by rw [lAB.out]; exact hown) hgrow)
        clear hown hgrow hnil
        have IT5 := Lib.hid (IT.out.on C5.out.2.1)
        obtain ⟨R, hR⟩ : ∃ R, R = AB ++ C' := ⟨_, rfl⟩
        rw [← hR] at C5 HD2
        have lR : Hid (R.length = i + k + m) := Lib.hid (by rw [hR, List.length_append, lAB.out, lC'.out])
        clear hR
        obtain ⟨⟨a5, c5, rfl, hi5, -, -⟩, hb5⟩ := coll_res C5.out
        rw [lR.out]
        have I5 := Lib.hid hi5
        have B5 := Lib.hid hb5
        clear hi5 hb5
        go_wp2_with fail
        refine (l1Same_at _ _ _ _ (t.length - n) (i + k + m) T R _ lT.out lR.out IT5 I5 (by omega)).mono ?_
        rintro e w6 ⟨rfl, nq, rfl⟩
        go_wp2_with fail
        go_ret
        refine ⟨ret_bool ?_, below_drewN B5.out _⟩
        rw [partsB, ← HN.out, HE.out, HD2.out, ← HTT.out]
        rfl
    · by_cases d2 : i + k = n
      · have HE : Hid (emptyN n i k = 1) := Lib.hid (by unfold emptyN; rw [if_neg d0, if_neg d1, if_pos d2])
        have E0v := E0.trans (by simp [d0] : decide _ = false)
        have E1v := E1.trans (by simp [d1] : decide _ = false)
        have E2v := E2.trans (by simp [d2] : decide _ = true)
        clear d0 d1 d2 E0 E1 E2
        go_wp2_with fail
        refine (l2InverseC_at _ _ i A _ lA.out IA LA (by omega)).mono ?_
        rw [← HA'.out]
        rintro e w1 ⟨v1, rfl, hc⟩
        have C1 := Lib.hid hc.undrew
        have IB1 := Lib.hid (IB.out.on hc.2.1)
        clear hc
        go_wp2_with fail
        refine (l2InverseC_at _ _ k B _ lB.out IB1 LB (by omega)).mono ?_
        rw [← HB'.out]
        rintro e w2 ⟨v2, rfl, hc⟩
        have C1b := Lib.hid (C1.out.later hc.2.1)
        obtain ⟨⟨a2, c2, rfl, hi2, -, hk2⟩, -⟩ := coll_res hc
        rw [lB'.out] at hk2
        rw [lB'.out]
        have I2 := Lib.hid hi2
        have K2 := Lib.hid hk2
        clear hc hi2 hk2
        have hown0 : Hid (w2.ownsRow w.heap.size 3 1 v1 i (nums A')) := Lib.hid (by have := C1b.out.1; rwa [lA'.out] at this)
        go_wp2_with (at_builtin; refine wpList_append_ints rfl _ _ 24 i0 rfl Tryz.underlying24 hi0 hz0 hz1 hz2 w.heap.size _ i A' rfl hown0.out a2 k c2 B' rfl lB'.out I2.out K2.out (by omega) C1b.out.2.2 ?_)
        intro v3 w3 hown hgrow hnil
        have C3 := Lib.hid (coll_more C1b.out lB'.out (by rw [lA'.out]; exact hown) hgrow)
        obtain ⟨AB, hAB⟩ : ∃ AB, AB = A' ++ B' := ⟨_, rfl⟩
        have lAB : Hid (AB.length = i + k) := Lib.hid (by rw [hAB, List.length_append, lA'.out, lB'.out])
        rw [← hAB] at C3
        have HD2 : Hid (restZ t n i k = AB ++ C') := Lib.hid (by rw [HD.out, hAB])
        clear hAB
        have IC3 := Lib.hid (IC.out.on C3.out.2.1)
        clear hown hgrow hnil
        go_wp2_with fail
        refine (l2InverseC_at _ _ m C _ lC.out IC3 LC (by omega)).mono ?_
        rw [← HC'.out]
        rintro e w4 ⟨v4, rfl, hc⟩
        have C3b := Lib.hid (C3.out.later hc.2.1)
        obtain ⟨⟨a4, c4, rfl, hi4, -, hk4⟩, -⟩ := coll_res hc
        rw [lC'.out] at hk4
        rw [lC'.out]
        have I4 := Lib.hid hi4
        have K4 := Lib.hid hk4
        clear hc hi4 hk4
        have hown1 : Hid (w4.ownsRow w.heap.size 3 1 v3 (i + k) (nums AB)) := Lib.hid (by have := C3b.out.1; rwa [lAB.out] at this)
        go_wp2_with (at_builtin; refine wpList_append_ints rfl _ _ 24 i0 rfl Tryz.underlying24 hi0 hz0 hz1 hz2 w.heap.size _ (i + k) AB rfl hown1.out a4 m c4 C' rfl lC'.out I4.out K4.out (by omega) C3b.out.2.2 ?_)
        intro v5 w5 hown hgrow hnil
        have C5 := Lib.hid (coll_more C3b.out lC'.out (by rw [lAB.out]; exact hown) hgrow)
        clear hown hgrow hnil
        have IT5 := Lib.hid (IT.out.on C5.out.2.1)
        obtain ⟨R, hR⟩ : ∃ R, R = AB ++ C' := ⟨_, rfl⟩
        rw [← hR] at C5 HD2
        have lR : Hid (R.length = i + k + m) := Lib.hid (by rw [hR, List.length_append, lAB.out, lC'.out])
        clear hR
        obtain ⟨⟨a5, c5, rfl, hi5, -, -⟩, hb5⟩ := coll_res C5.out
        rw [lR.out]
        have I5 := Lib.hid hi5
        have B5 := Lib.hid hb5
        clear hi5 hb5
        go_wp2_with fail
        refine (l1Same_at _ _ _ _ (t.length - n) (i + k + m) T R _ lT.out lR.out IT5 I5 (by omega)).mono ?_
        rintro e w6 ⟨rfl, nq, rfl⟩
        go_wp2_with fail
        go_ret
        refine ⟨ret_bool ?_, below_drewN B5.out _⟩
        rw [partsB, ← HN.out, HE.out, HD2.out, ← HTT.out]
        rfl
      · have HE : Hid (emptyN n i k = 0) := Lib.hid (by unfold emptyN; rw [if_neg d0, if_neg d1, if_neg d2])
        have E0v := E0.trans (by simp [d0] : decide _ = false)
        have E1v := E1.trans (by simp [d1] : decide _ = false)
        have E2v := E2.trans (by simp [d2] : decide _ = false)
        clear d0 d1 d2 E0 E1 E2
        go_wp2_with fail
        refine (l2InverseC_at _ _ i A _ lA.out IA LA (by omega)).mono ?_
        rw [← HA'.out]
        rintro e w1 ⟨v1, rfl, hc⟩
        have C1 := Lib.hid hc.undrew
        have IB1 := Lib.hid (IB.out.on hc.2.1)
        clear hc
        go_wp2_with fail
        refine (l2InverseC_at _ _ k B _ lB.out IB1 LB (by omega)).mono ?_
        rw [← HB'.out]
        rintro e w2 ⟨v2, rfl, hc⟩
        have C1b := Lib.hid (C1.out.later hc.2.1)
        obtain ⟨⟨a2, c2, rfl, hi2, -, hk2⟩, -⟩ := coll_res hc
        rw [lB'.out] at hk2
        rw [lB'.out]
        have I2 := Lib.hid hi2
        have K2 := Lib.hid hk2
        clear hc hi2 hk2
        have hown0 : Hid (w2.ownsRow w.heap.size 3 1 v1 i (nums A')) := Lib.hid (by have := C1b.out.1; rwa [lA'.out] at this)
        go_wp2_with (at_builtin; refine wpList_append_ints rfl _ _ 24 i0 rfl Tryz.underlying24 hi0 hz0 hz1 hz2 w.heap.size _ i A' rfl hown0.out a2 k c2 B' rfl lB'.out I2.out K2.out (by omega) C1b.out.2.2 ?_)
        intro v3 w3 hown hgrow hnil
        have C3 := Lib.hid (coll_more C1b.out lB'.out (by rw [lA'.out]; exact hown) hgrow)
        obtain ⟨AB, hAB⟩ : ∃ AB, AB = A' ++ B' := ⟨_, rfl⟩
        have lAB : Hid (AB.length = i + k) := Lib.hid (by rw [hAB, List.length_append, lA'.out, lB'.out])
        rw [← hAB] at C3
        have HD2 : Hid (restZ t n i k = AB ++ C') := Lib.hid (by rw [HD.out, hAB])
        clear hAB
        have IC3 := Lib.hid (IC.out.on C3.out.2.1)
        clear hown hgrow hnil
        go_wp2_with fail
        refine (l2InverseC_at _ _ m C _ lC.out IC3 LC (by omega)).mono ?_
        rw [← HC'.out]
        rintro e w4 ⟨v4, rfl, hc⟩
        have C3b := Lib.hid (C3.out.later hc.2.1)
        obtain ⟨⟨a4, c4, rfl, hi4, -, hk4⟩, -⟩ := coll_res hc
        rw [lC'.out] at hk4
        rw [lC'.out]
        have I4 := Lib.hid hi4
        have K4 := Lib.hid hk4
        clear hc hi4 hk4
        have hown1 : Hid (w4.ownsRow w.heap.size 3 1 v3 (i + k) (nums AB)) := Lib.hid (by have := C3b.out.1; rwa [lAB.out] at this)
        go_wp2_with (at_builtin; refine wpList_append_ints rfl _ _ 24 i0 rfl Tryz.underlying24 hi0 hz0 hz1 hz2 w.heap.size _ (i + k) AB rfl hown1.out a4 m c4 C' rfl lC'.out I4.out K4.out (by omega) C3b.out.2.2 ?_)
        intro v5 w5 hown hgrow hnil
        have C5 := Lib.hid (coll_more C3b.out lC'.out (by rw [lAB.out]; exact hown) hgrow)
        clear hown hgrow hnil
        have IT5 := Lib.hid (IT.out.on C5.out.2.1)
        obtain ⟨R, hR⟩ : ∃ R, R = AB ++ C' := ⟨_, rfl⟩
        rw [← hR] at C5 HD2
        have lR : Hid (R.length = i + k + m) := Lib.hid (by rw [hR, List.length_append, lAB.out, lC'.out])
        clear hR
        obtain ⟨⟨a5, c5, rfl, hi5, -, -⟩, hb5⟩ := coll_res C5.out
        rw [lR.out]
        have I5 := Lib.hid hi5
        have B5 := Lib.hid hb5
        clear hi5 hb5
        go_wp2_with fail
        refine (l1Same_at _ _ _ _ (t.length - n) (i + k + m) T R _ lT.out lR.out IT5 I5 (by omega)).mono ?_
        rintro e w6 ⟨rfl, nq, rfl⟩
        go_wp2_with fail
        go_ret
        refine ⟨ret_bool ?_, below_drewN B5.out _⟩
        rw [partsB, ← HN.out, HE.out, HD2.out, ← HTT.out]
        rfl

end Go.Proofs.YtmcbaejgimopmaaGreat
