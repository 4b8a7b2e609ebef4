/- Contracts: spec.l6Set, impl.setWord, SetWord of both. Conditions: sets from 0 to 63, numbers of 64 bits. -/
import Derived.Test.YtobjifggelmhcaaGreatBuildMath
import Derived.Test.YtobjifggelmhcaaGreatFallSpec
namespace Go.Proofs.YtobjifggelmhcaaGreat
open Go.ChangeShapes Go.WideShapes Go.ChangeAt Go.RowKit
set_option linter.unusedVariables false

set_option maxRecDepth 100000 in
set_option maxHeartbeats 800000 in
theorem l6Set_any (s : Nat) (w : World) (hs : s < 64) : Calls Tryz.prog 31 #[.int .i64 (s : Int)] w (ListPost (Plain.setWord s) w) := by
  obtain ⟨i0, hi0, hz0, hz1, hz2⟩ := info_parts infoInt
  go_enter Tryz.func31, Tryz.ntmps31
  go_wp2_with fail
  go_loopw [3, 4] (fun v i wr => ∃ k : Nat, k ≤ 6 ∧ i = .int .i64 ((k : Int) + 1) ∧ Coll (Plain.nailsTo s k) w.heap.size w v wr) (fun _ i _ => 7 - (intOf i).toNat)
  case atStart => exact ⟨0, Nat.zero_le _, rfl, coll_start w⟩
  case round =>
    obtain ⟨k, hk, rfl, hrel⟩ := hrel
    have hll := Plain.nailsTo_le s k
    by_cases hlt : k < 6
    · have HS : Hid (Plain.nailsTo s (k + 1) = if s.testBit k = true then Plain.nailsTo s k ++ [(k : Int) + 1] else Plain.nailsTo s k) := Lib.hid rfl
      obtain ⟨L, hL⟩ : ∃ L, L = Plain.nailsTo s k := ⟨_, rfl⟩
      rw [← hL] at HS hrel hll
      have HK := Lib.hid hrel
      have hi : (k : Int) + 1 ≤ 6 := by omega
      have hi0' : (0 : Int) ≤ (k : Int) := by omega
      clear hrel hL
      go_wp2_with fail
      refine (l3In_any s k _ hs (by omega)).mono ?_
      rintro e w' ⟨rfl, rfl⟩
      have HQQ : Hid (s.testBit k = s.testBit k) := Lib.hid rfl
      cases hb : s.testBit k with
      | true =>
        rw [hb] at HS HQQ
        have HS2 := Lib.hid (HS.out.trans (if_pos rfl))
        have hbit := HQQ.out
        clear HS hb
        go_wp2_with (at_builtin; refine wpList_append_own _ rfl _ _ 22 rfl w.heap.size 3 i0 (.int .i64 0) 1 8 Tryz.underlying22 hi0 hz0 hz1 hz2 rfl (by decide) _ _ _ rfl (HK.out.1.alloc _) ⟨wr.heap.size, 0, none⟩ 1 1 [.int .i64 ((k : Int) + 1)] rfl rfl ?c1 ?c2 ?c3 ?c4 ?c5 ?_)
        case c1 => exact cell_one_new _ _ _
        case c2 => simp [Value.oneCell']
        case c3 => unfold maxLen; omega
        case c4 => omega
        case c5 => exact Nat.le_trans HK.out.2.2 (by simp)
        intro v' w1 hown' hgrow _
        have hR := Lib.hid (coll_push (x := (k : Int) + 1) HK.out hown' hgrow)
        clear hown' hgrow
        go_wp2_with fail
        go_roundw
        case rel => exact ⟨k + 1, by omega, by go_num, by rw [HS2.out]; exact hR.out⟩
        case measure => simp [intOf]; omega
      | false =>
        rw [hb] at HS HQQ
        have HS2 := Lib.hid (HS.out.trans (if_neg (by simp)))
        have hbit := HQQ.out
        clear HS hb
        go_wp2_with fail
        go_roundw
        case rel => exact ⟨k + 1, by omega, by go_num, by rw [HS2.out]; exact HK.out⟩
        case measure => simp [intOf]; omega
    · obtain rfl : k = 6 := by omega
      have HR := Lib.hid (coll_res hrel)
      have hi : ¬ ((6 : Nat) : Int) + 1 ≤ 6 := by omega
      clear hrel hll
      go_wp2_with fail
      go_ret
      exact ⟨_, rfl, HR.out.1, HR.out.2⟩
set_option maxRecDepth 100000 in
set_option maxHeartbeats 800000 in
theorem setWord_any (s : Nat) (w : World) (hs : s < 64) : Calls Tryz.prog 35 #[.int .i64 (s : Int)] w (ListPost (Plain.setWord s) w) := by
  obtain ⟨i0, hi0, hz0, hz1, hz2⟩ := info_parts infoInt
  go_enter Tryz.func35, Tryz.ntmps35
  go_wp2_with fail
  go_loopw [3, 4] (fun v i wr => ∃ k : Nat, k ≤ 6 ∧ i = .int .i64 ((k : Int) + 1) ∧ Coll (Plain.nailsTo s k) w.heap.size w v wr) (fun _ i _ => 7 - (intOf i).toNat)
  case atStart => exact ⟨0, Nat.zero_le _, rfl, coll_start w⟩
  case round =>
    obtain ⟨k, hk, rfl, hrel⟩ := hrel
    have hll := Plain.nailsTo_le s k
    by_cases hlt : k < 6
    · have HS : Hid (Plain.nailsTo s (k + 1) = if s.testBit k = true then Plain.nailsTo s k ++ [(k : Int) + 1] else Plain.nailsTo s k) := Lib.hid rfl
      obtain ⟨L, hL⟩ : ∃ L, L = Plain.nailsTo s k := ⟨_, rfl⟩
      rw [← hL] at HS hrel hll
      have HK := Lib.hid hrel
      have hi : (k : Int) + 1 ≤ 6 := by omega
      have hi0' : (0 : Int) ≤ (k : Int) := by omega
      clear hrel hL
      go_wp2_with fail
      obtain ⟨q, hq⟩ : ∃ q, q = 2 ^ k := ⟨_, rfl⟩
      have hpow : (2 : Int) ^ k = (q : Int) := by rw [hq]; simp
      have hq0 : 0 < q := by rw [hq]; exact Nat.pow_pos (by decide)
      have hqn : ((q : Int) != 0) = true := by simp; omega
      have HQQ := Lib.hid (and_nail (s := s) hs (by omega : k ≤ 5) hpow)
      have HP := Lib.hid hpow
      clear hpow hq
      refine (nailSet_any k q _ (by omega) HP.out).mono ?_
      rintro e w' ⟨rfl, rfl⟩
      cases hb : s.testBit k with
      | true =>
        rw [hb] at HS HQQ
        have HS2 := Lib.hid (HS.out.trans (if_pos rfl))
        have hbit := HQQ.out
        clear HS hb
        go_wp2_with (at_builtin; refine wpList_append_own _ rfl _ _ 41 rfl w.heap.size 3 i0 (.int .i64 0) 1 8 Tryz.underlying41 hi0 hz0 hz1 hz2 rfl (by decide) _ _ _ rfl (HK.out.1.alloc _) ⟨wr.heap.size, 0, none⟩ 1 1 [.int .i64 ((k : Int) + 1)] rfl rfl ?c1 ?c2 ?c3 ?c4 ?c5 ?_)
        case c1 => exact cell_one_new _ _ _
        case c2 => simp [Value.oneCell']
        case c3 => unfold maxLen; omega
        case c4 => omega
        case c5 => exact Nat.le_trans HK.out.2.2 (by simp)
        intro v' w1 hown' hgrow _
        have hR := Lib.hid (coll_push (x := (k : Int) + 1) HK.out hown' hgrow)
        clear hown' hgrow
        go_wp2_with fail
        go_roundw
        case rel => exact ⟨k + 1, by omega, by go_num, by rw [HS2.out]; exact hR.out⟩
        case measure => simp [intOf]; omega
      | false =>
        rw [hb] at HS HQQ
        have HS2 := Lib.hid (HS.out.trans (if_neg (by simp)))
        have hbit := HQQ.out
        clear HS hb
        go_wp2_with fail
        go_roundw
        case rel => exact ⟨k + 1, by omega, by go_num, by rw [HS2.out]; exact HK.out⟩
        case measure => simp [intOf]; omega
    · obtain rfl : k = 6 := by omega
      have HR := Lib.hid (coll_res hrel)
      have hi : ¬ ((6 : Nat) : Int) + 1 ≤ 6 := by omega
      clear hrel hll
      go_wp2_with fail
      go_ret
      exact ⟨_, rfl, HR.out.1, HR.out.2⟩
/-- What SetWord answers. -/
def setwW (n : Int) : List Int := if setB n = true then Plain.setWord n.toNat else []
theorem setwW_le (n : Int) : (setwW n).length ≤ 64 := by
  unfold setwW
  split
  · have := Plain.setWord_le n.toNat; omega
  · simp
theorem setw_no {n : Int} (h : setB n = false) : setwW n = [] := if_neg (by rw [h]; simp)
theorem setw_yes {s : Nat} (h : setB (s : Int) = true) : setwW (s : Int) = Plain.setWord s := by rw [setwW, if_pos h, Int.toNat_natCast]

end Go.Proofs.YtobjifggelmhcaaGreat
