/- Contracts: impl.setsThat with isLeast and isGreatest of a table. No condition. -/
import Derived.Test.YtepmldbleconfaaDecide
namespace Go.Proofs.Ytepmldbleconfaa
open Go.ChangeShapes Go.WideShapes Go.ChangeAt Go.RowKit
set_option linter.unusedVariables false

set_option maxRecDepth 100000 in
set_option maxHeartbeats 800000 in
theorem setsThat_isLeast (t : Nat → Bool) (w : World) :
    Calls Try.prog 116 #[.func (.func 117) #[.agg (bools t)] #[]] w (ListPost (Plain.edges t true) w) := by
  obtain ⟨i0, hi0, hz0, hz1, hz2⟩ := info_parts infoInt
  have HS := Lib.hid (coll_start w)
  go_enter Try.func116, Try.ntmps116
  go_wp2_with fail
  go_loopw [3, 6] (fun u i wr => ∃ k : Nat, k ≤ 64 ∧ i = .int .i64 k ∧ Coll (Plain.edgesTo t true k) w.heap.size w u wr) (fun _ i _ => 64 - (intOf i).toNat)
  case atStart => exact ⟨0, Nat.zero_le _, rfl, HS.out⟩
  case round =>
    obtain ⟨k, hk, rfl, hrel⟩ := hrel
    have hll := Plain.edgesTo_le t true k
    by_cases hlt : k < 64
    · have HK := Lib.hid hrel
      obtain ⟨L, hL⟩ : ∃ L, L = Plain.edgesTo t true k := ⟨_, rfl⟩
      rw [← hL] at HK hll
      have HL := Lib.hid hL
      have hi : (k : Int) < 64 := by omega
      have hi0' : (0 : Int) ≤ (k : Int) := by omega
      clear hrel hL
      go_wp2_with fail
      refine (isLeast_any t k _ hlt).mono ?_
      rintro e w1 ⟨rfl, hb⟩
      have HK1 := Lib.hid (HK.out.later hb)
      clear hb HK
      cases he : Plain.edgeB t true k with
      | false =>
        have HN : Hid (Plain.edgesTo t true (k + 1) = L) := Lib.hid (by rw [Plain.edgesTo, he, HL.out]; rfl)
        clear he
        go_wp2_with fail
        go_roundw
        case rel => exact ⟨k + 1, by omega, by go_num, by rw [HN.out]; exact HK1.out⟩
        case measure => simp [intOf]; omega
      | true =>
        have HN : Hid (Plain.edgesTo t true (k + 1) = L ++ [(k : Int)]) := Lib.hid (by rw [Plain.edgesTo, he, HL.out]; rfl)
        clear he
        go_wp2_with (at_builtin; refine wpList_append_own _ rfl _ _ 22 rfl w.heap.size 3 i0 (.int .i64 0) 1 8 Try.underlying22 hi0 hz0 hz1 hz2 rfl (by decide) _ _ _ rfl (HK1.out.1.alloc _) ⟨w1.heap.size, 0, none⟩ 1 1 [.int .i64 (k : Int)] rfl rfl ?c1 ?c2 ?c3 ?c4 ?c5 ?_)
        case c1 => exact cell_one_new _ _ _
        case c2 => simp [Value.oneCell']
        case c3 => unfold maxLen; omega
        case c4 => omega
        case c5 => exact Nat.le_trans HK1.out.2.2 (by simp)
        intro v' w2 hown' hgrow _
        have hR := Lib.hid (coll_push (x := (k : Int)) HK1.out hown' hgrow)
        clear hown' hgrow
        go_wp2_with fail
        go_roundw
        case rel => exact ⟨k + 1, by omega, by go_num, by rw [HN.out]; exact hR.out⟩
        case measure => simp [intOf]; omega
    · obtain rfl : k = 64 := by omega
      have HR := Lib.hid (coll_res hrel)
      clear hrel
      go_wp2_with fail
      go_ret
      exact ⟨_, rfl, HR.out.1, HR.out.2⟩

end Go.Proofs.Ytepmldbleconfaa
