/- Contract: laws.rInverse. Conditions: letters, a length that fits. -/
import Derived.Test.YtnmjanhpjnlfcaaInvWalks
namespace Go.Proofs.Ytnmjanhpjnlfcaa
open Go.ChangeShapes Go.WideShapes Go.ChangeAt Go.RowKit
set_option linter.unusedVariables false

set_option maxRecDepth 100000 in
set_option maxHeartbeats 800000 in
theorem rInverse_any (a : Option Addr) (cap : Nat) (xs : List Int) (w : World) (h : Hid (Ints w a xs)) (hl : Hid (Plain.Letters xs)) (hn : xs.length ≤ 1048576) :
    Calls Try.prog 18 #[.slice a xs.length cap] w fun e w' => ∃ v, e = .returned v ∧ Coll (Plain.inv xs) w.heap.size w v w' := by
  obtain ⟨i0, hi0, hz0, hz1, hz2⟩ := info_parts infoInt
  go_enter Try.func18, Try.ntmps18
  go_wp2
  go_loopw [3, 4] (fun v i wr => ∃ z : Int, -1 ≤ z ∧ z < (xs.length : Int) ∧ i = .int .i64 z ∧ Coll (invTo xs (z + 1).toNat) w.heap.size w v wr) (fun _ i _ => (intOf i + 1).toNat)
  case atStart => exact ⟨(xs.length : Int) - 1, by omega, by omega, rfl, by rw [show ((xs.length : Int) - 1 + 1).toNat = xs.length by omega, invTo_end]; exact coll_start w⟩
  case round =>
    obtain ⟨z, hz1', hz2', rfl, hrel⟩ := hrel
    by_cases hneg : 0 ≤ z
    · obtain ⟨m, rfl⟩ := Int.eq_ofNat_of_zero_le hneg
      have hm : m < xs.length := by omega
      obtain ⟨x, hx⟩ := at_some xs m hm
      obtain ⟨b, o, rfl, hc0⟩ := h.out m x hx
      obtain ⟨hx0, hx1, hx2⟩ := hl.out.at hx
      rw [show ((m : Int) + 1).toNat = m + 1 by omega] at hrel
      have HS := Lib.hid (invTo_step hx)
      have hc : wr.cell? ⟨b, o + m, none⟩ = some (.int .i64 x) := cell_later hrel.2.1 hc0
      have hll := invTo_length xs (m + 1)
      generalize invTo xs (m + 1) = L at HS hrel hll
      have HK := Lib.hid hrel
      have HO := Lib.hid hrel.1
      have HB := Lib.hid hrel.2.2
      clear hrel hc0 hx
      go_wp2_with (at_builtin; refine wpList_append_own _ rfl _ _ 24 rfl w.heap.size 3 i0 (.int .i64 0) 1 8 Try.underlying24 hi0 hz0 hz1 hz2 rfl (by decide) _ _ _ rfl (HO.out.alloc _) ⟨wr.heap.size, 0, none⟩ 1 1 [.int .i64 (-x)] rfl rfl ?c1 ?c2 ?c3 ?c4 ?c5 ?_)
      case c1 => exact cell_one_new _ _ _
      case c2 => simp [Value.oneCell']
      case c3 => unfold maxLen; omega
      case c4 => omega
      case c5 => exact Nat.le_trans HB.out (by simp)
      intro v' w1 hown' hgrow _
      have hR := Lib.hid (coll_push (x := -x) HK.out hown' hgrow)
      clear hown' hgrow
      go_wp2
      go_roundw
      case rel => exact ⟨(m : Int) - 1, by omega, by omega, rfl, by rw [show ((m : Int) - 1 + 1).toNat = m by omega, HS.out]; exact hR.out⟩
      case measure => simp [intOf]; try omega
    · obtain rfl : z = -1 := by omega
      rw [show ((-1 : Int) + 1).toNat = 0 from rfl, invTo_zero] at hrel
      have hR := Lib.hid hrel
      clear hrel
      go_wp2
      go_ret
      exact ⟨_, rfl, hR.out⟩

end Go.Proofs.Ytnmjanhpjnlfcaa
