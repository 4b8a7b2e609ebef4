/- Contracts: spec.l6Set, impl.setWord, SetWord of both. Conditions: sets from 0 to 63, numbers of 64 bits. -/
import Derived.Test.YtepmldbleconfaaBuildMath
import Derived.Test.YtepmldbleconfaaFallSpec
namespace Go.Proofs.Ytepmldbleconfaa
open Go.ChangeShapes Go.WideShapes Go.ChangeAt Go.RowKit
set_option linter.unusedVariables false

set_option maxRecDepth 100000 in
set_option maxHeartbeats 800000 in
theorem l6Set_any (s : Nat) (w : World) (hs : s < 64) : Calls Try.prog 54 #[.int .i64 (s : Int)] w (ListPost (Plain.setWord s) w) := by
  obtain ⟨i0, hi0, hz0, hz1, hz2⟩ := info_parts infoInt
  go_enter Try.func54, Try.ntmps54
  go_wp2_with fail
  go_loopw [3, 4] (fun v i wr => ∃ k : Nat, k ≤ 6 ∧ i = .int .i64 ((k : Int) + 1) ∧ Coll (Plain.nailsTo s k) w.heap.size w v wr) (fun _ i _ => 7 - (intOf i).toNat)
  case atStart => exact ⟨0, Nat.zero_le _, rfl, coll_start w⟩
  case round =>
    obtain ⟨k, hk, rfl, hrel⟩ := hrel
    have hll := Plain.nailsTo_le s k
    by_cases hlt : k < 6
    · have HS : Hid (Plain.nailsTo s (k + 1) = if s.testBit k = true then Plain.nailsTo s k ++ [(k : Int) + 1] else Plain.nailsTo s k) := Lib.hid rfl
      obtain ⟨L, hL⟩ : ∃ L, L = Plain.nailsTo s k := ⟨_, rfl⟩
      rw [← hL] at HS hrel hll
      have HK := Lib.hid hrel
      have hi : (k : Int) + 1 ≤ 6 := by omega
      have hi0' : (0 : Int) ≤ (k : Int) := by omega
      clear hrel hL
      go_wp2_with fail
      refine (l3In_any s k _ hs (by omega)).mono ?_
      rintro e w' ⟨rfl, rfl⟩
      have HQQ : Hid (s.testBit k = s.testBit k) := Lib.hid rfl
      cases hb : s.testBit k with
      | true =>
        rw [hb] at HS HQQ
        have HS2 := Lib.hid (HS.out.trans (if_pos rfl))
        have hbit := HQQ.out
        clear HS hb
        go_wp2_with (at_builtin; refine wpList_append_own _ rfl _ _ 22 rfl w.heap.size 3 i0 (.int .i64 0) 1 8 Try.underlying22 hi0 hz0 hz1 hz2 rfl (by decide) _ _ _ rfl (HK.out.1.alloc _) ⟨wr.heap.size, 0, none⟩ 1 1 [.int .i64 ((k : Int) + 1)] rfl rfl ?c1 ?c2 ?c3 ?c4 ?c5 ?_)
        case c1 => exact cell_one_new _ _ _
        case c2 => simp [Value.oneCell']
        case c3 => unfold maxLen; omega
        case c4 => omega
        case c5 => exact Nat.le_trans HK.out.2.2 (by simp)
        intro v' w1 hown' hgrow _
        have hR := Lib.hid (coll_push (x := (k : Int) + 1) HK.out hown' hgrow)
        clear hown' hgrow
        go_wp2_with fail
        go_roundw
        case rel => exact ⟨k + 1, by omega, by go_num, by rw [HS2.out]; exact hR.out⟩
        case measure => simp [intOf]; omega
      | false =>
        rw [hb] at HS HQQ
        have HS2 := Lib.hid (HS.out.trans (if_neg (by simp)))
        have hbit := HQQ.out
        clear HS hb
        go_wp2_with fail
        go_roundw
        case rel => exact ⟨k + 1, by omega, by go_num, by rw [HS2.out]; exact HK.out⟩
        case measure => simp [intOf]; omega
    · obtain rfl : k = 6 := by omega
      have HR := Lib.hid (coll_res hrel)
      have hi : ¬ ((6 : Nat) : Int) + 1 ≤ 6 := by omega
      clear hrel hll
      go_wp2_with fail
      go_ret
      exact ⟨_, rfl, HR.out.1, HR.out.2⟩
set_option maxRecDepth 100000 in
set_option maxHeartbeats 800000 in
theorem setWord_any (s : Nat) (w : World) (hs : s < 64) : Calls Try.prog 56 #[.int .i64 (s : Int)] w (ListPost (Plain.setWord s) w) := by
  obtain ⟨i0, hi0, hz0, hz1, hz2⟩ := info_parts infoInt
  go_enter Try.func56, Try.ntmps56
  go_wp2_with fail
  go_loopw [3, 4] (fun v i wr => ∃ k : Nat, k ≤ 6 ∧ i = .int .i64 ((k : Int) + 1) ∧ Coll (Plain.nailsTo s k) w.heap.size w v wr) (fun _ i _ => 7 - (intOf i).toNat)
  case atStart => exact ⟨0, Nat.zero_le _, rfl, coll_start w⟩
  case round =>
    obtain ⟨k, hk, rfl, hrel⟩ := hrel
    have hll := Plain.nailsTo_le s k
    by_cases hlt : k < 6
    · have HS : Hid (Plain.nailsTo s (k + 1) = if s.testBit k = true then Plain.nailsTo s k ++ [(k : Int) + 1] else Plain.nailsTo s k) := Lib.hid rfl
      obtain ⟨L, hL⟩ : ∃ L, L = Plain.nailsTo s k := ⟨_, rfl⟩
      rw [← hL] at HS hrel hll
      have HK := Lib.hid hrel
      have hi : (k : Int) + 1 ≤ 6 := by omega
      have hi0' : (0 : Int) ≤ (k : Int) := by omega
      clear hrel hL
      go_wp2_with fail
      obtain ⟨q, hq⟩ : ∃ q, q = 2 ^ k := ⟨_, rfl⟩
      have hpow : (2 : Int) ^ k = (q : Int) := by rw [hq]; simp
      have hq0 : 0 < q := by rw [hq]; exact Nat.pow_pos (by decide)
      have hqn : ((q : Int) != 0) = true := by simp; omega
      have HQQ := Lib.hid (and_nail (s := s) hs (by omega : k ≤ 5) hpow)
      have HP := Lib.hid hpow
      clear hpow hq
      refine (nailSet_any k q _ (by omega) HP.out).mono ?_
      rintro e w' ⟨rfl, rfl⟩
      cases hb : s.testBit k with
      | true =>
        rw [hb] at HS HQQ
        have HS2 := Lib.hid (HS.out.trans (if_pos rfl))
        have hbit := HQQ.out
        clear HS hb
        go_wp2_with (at_builtin; refine wpList_append_own _ rfl _ _ 53 rfl w.heap.size 3 i0 (.int .i64 0) 1 8 Try.underlying53 hi0 hz0 hz1 hz2 rfl (by decide) _ _ _ rfl (HK.out.1.alloc _) ⟨wr.heap.size, 0, none⟩ 1 1 [.int .i64 ((k : Int) + 1)] rfl rfl ?c1 ?c2 ?c3 ?c4 ?c5 ?_)
        case c1 => exact cell_one_new _ _ _
        case c2 => simp [Value.oneCell']
        case c3 => unfold maxLen; omega
        case c4 => omega
        case c5 => exact Nat.le_trans HK.out.2.2 (by simp)
        intro v' w1 hown' hgrow _
        have hR := Lib.hid (coll_push (x := (k : Int) + 1) HK.out hown' hgrow)
        clear hown' hgrow
        go_wp2_with fail
        go_roundw
        case rel => exact ⟨k + 1, by omega, by go_num, by rw [HS2.out]; exact hR.out⟩
        case measure => simp [intOf]; omega
      | false =>
        rw [hb] at HS HQQ
        have HS2 := Lib.hid (HS.out.trans (if_neg (by simp)))
        have hbit := HQQ.out
        clear HS hb
        go_wp2_with fail
        go_roundw
        case rel => exact ⟨k + 1, by omega, by go_num, by rw [HS2.out]; exact HK.out⟩
        case measure => simp [intOf]; omega
    · obtain rfl : k = 6 := by omega
      have HR := Lib.hid (coll_res hrel)
      have hi : ¬ ((6 : Nat) : Int) + 1 ≤ 6 := by omega
      clear hrel hll
      go_wp2_with fail
      go_ret
      exact ⟨_, rfl, HR.out.1, HR.out.2⟩
/-- What SetWord answers. -/
def setwW (n : Int) : List Int := if setB n = true then Plain.setWord n.toNat else []
theorem setwW_le (n : Int) : (setwW n).length ≤ 64 := by
  unfold setwW
  split
  · have := Plain.setWord_le n.toNat; omega
  · simp
theorem setw_no {n : Int} (h : setB n = false) : setwW n = [] := if_neg (by rw [h]; simp)
theorem setw_yes {s : Nat} (h : setB (s : Int) = true) : setwW (s : Int) = Plain.setWord s := by rw [setwW, if_pos h, Int.toNat_natCast]
set_option maxRecDepth 100000 in
set_option maxHeartbeats 800000 in
theorem specSetWord_any (n : Int) (w : World) (hr : -9223372036854775808 ≤ n ∧ n ≤ 9223372036854775807) :
    Calls Try.prog 21 #[.int .i64 n] w (SB (setwW n) (setB n) w) := by
  have HS := Lib.hid (coll_res (coll_start w))
  cases hs : setB n with
  | false =>
    have HE := Lib.hid (setw_no hs)
    have HN := Lib.hid hs
    have HR := Lib.hid hr
    clear hs hr
    go_enter Try.func21, Try.ntmps21
    go_wp2_with fail
    refine (l3Set_any n _ HR.out).mono ?_
    rw [HN.out]
    rintro e w' ⟨rfl, rfl⟩
    go_wp2_with fail
    go_ret2
    exact sb_of HE.out.symm rfl ⟨_, rfl, HS.out.1, HS.out.2⟩
  | true =>
    obtain ⟨s, rfl, hs64⟩ := set_nat hs
    have HE := Lib.hid (setw_yes hs)
    have HN := Lib.hid hs
    have HR := Lib.hid hr
    have hl := Plain.setWord_le s
    have HM := Lib.hid (fun W => l6Set_any s W hs64)
    obtain ⟨L, hL⟩ : ∃ L, L = Plain.setWord s := ⟨_, rfl⟩
    rw [← hL] at HE hl HM
    clear hs hr hL
    go_enter Try.func21, Try.ntmps21
    go_wp2_with fail
    refine (l3Set_any (s : Int) _ HR.out).mono ?_
    rw [HN.out]
    rintro e w' ⟨rfl, rfl⟩
    go_wp2_with fail
    refine (HM.out _).mono ?_
    rintro e w2 ⟨v, rfl, hr, hb⟩
    have HO := Lib.hid (And.intro hr hb)
    clear hr hb
    go_wp2_with fail
    go_ret2
    exact sb_of HE.out.symm rfl ⟨_, rfl, HO.out.1, HO.out.2⟩
set_option maxRecDepth 100000 in
set_option maxHeartbeats 800000 in
theorem implSetWord_any (n : Int) (w : World) (hr : -9223372036854775808 ≤ n ∧ n ≤ 9223372036854775807) :
    Calls Try.prog 22 #[.int .i64 n] w (SB (setwW n) (setB n) w) := by
  have HS := Lib.hid (coll_res (coll_start w))
  cases hs : setB n with
  | false =>
    have HE := Lib.hid (setw_no hs)
    have HN := Lib.hid hs
    have HR := Lib.hid hr
    clear hs hr
    go_enter Try.func22, Try.ntmps22
    go_wp2_with fail
    refine (isSet_any n _ HR.out).mono ?_
    rw [HN.out]
    rintro e w' ⟨rfl, rfl⟩
    go_wp2_with fail
    go_ret2
    exact sb_of HE.out.symm rfl ⟨_, rfl, HS.out.1, HS.out.2⟩
  | true =>
    obtain ⟨s, rfl, hs64⟩ := set_nat hs
    have HE := Lib.hid (setw_yes hs)
    have HN := Lib.hid hs
    have HR := Lib.hid hr
    have hl := Plain.setWord_le s
    have HM := Lib.hid (fun W => setWord_any s W hs64)
    obtain ⟨L, hL⟩ : ∃ L, L = Plain.setWord s := ⟨_, rfl⟩
    rw [← hL] at HE hl HM
    clear hs hr hL
    go_enter Try.func22, Try.ntmps22
    go_wp2_with fail
    refine (isSet_any (s : Int) _ HR.out).mono ?_
    rw [HN.out]
    rintro e w' ⟨rfl, rfl⟩
    go_wp2_with fail
    refine (HM.out _).mono ?_
    rintro e w2 ⟨v, rfl, hr, hb⟩
    have HO := Lib.hid (And.intro hr hb)
    clear hr hb
    go_wp2_with fail
    go_ret2
    exact sb_of HE.out.symm rfl ⟨_, rfl, HO.out.1, HO.out.2⟩
theorem bothSetWord (n : Int) (h1 : -9223372036854775808 ≤ n) (h2 : n ≤ 9223372036854775807) : ∃ (out : List Int) (ok : Bool), out.length ≤ 1048576 ∧
    (∀ w, Calls Try.prog 21 #[.int .i64 n] w (SB out ok w)) ∧
    (∀ w, Calls Try.prog 22 #[.int .i64 n] w (SB out ok w)) :=
  ⟨_, _, Nat.le_trans (setwW_le n) (by decide), fun w => specSetWord_any n w ⟨h1, h2⟩, fun w => implSetWord_any n w ⟨h1, h2⟩⟩

end Go.Proofs.Ytepmldbleconfaa
