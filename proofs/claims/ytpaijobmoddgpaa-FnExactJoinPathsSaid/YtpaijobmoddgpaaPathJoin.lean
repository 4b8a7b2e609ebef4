/- Contracts: JoinPaths of both programs. Condition: texts of at most 2^20 bytes. -/
import Derived.Test.YtpaijobmoddgpaaPathEnds
namespace Go.Proofs.Ytpaijobmoddgpaa
open Go.ChangeShapes Go.WideShapes Go.ChangeAt Go.RowKit
set_option linter.unusedVariables false
set_option linter.unusedSimpArgs false

def joinPB (s t : ByteArray) : Bool := closedB s.data.toList && Plain.pathB t.data.toList && decide (s.size + t.size ≤ 400)
def joinPW (s t : ByteArray) : ByteArray := if joinPB s t = true then s ++ t else ⟨#[]⟩
set_option maxRecDepth 100000 in
set_option maxHeartbeats 1600000 in
theorem specJoinPaths_any (s t : ByteArray) (w : World) (hs : s.size ≤ 1048576) (ht : t.size ≤ 1048576) : Calls Try.prog 34 #[.string s, .string t] w (Val (.tuple #[.string (joinPW s t), .bool (joinPB s t)]) w) := by
  cases hc : closedB s.data.toList with
  | false =>
    have HN : Hid (joinPB s t = false) := Lib.hid (by unfold joinPB; rw [hc]; rfl)
    have HV : Hid (joinPW s t = ⟨#[]⟩) := Lib.hid (by unfold joinPW; rw [HN.out]; rfl)
    have HC := Lib.hid hc
    rw [HN.out, HV.out]
    clear hc
    go_enter Try.func34, Try.ntmps34
    go_wp2_with fail
    refine (l10Closed_any s _ (Lib.hid rfl) _ (by omega)).mono ?_
    rw [HC.out]
    rintro e w1 ⟨rfl, hb⟩
    have HB := Lib.hid hb
    clear hb
    go_wp2_with fail
    go_ret2
    exact ⟨rfl, HB.out⟩
  | true =>
    cases hp : Plain.pathB t.data.toList with
    | false =>
      have HN : Hid (joinPB s t = false) := Lib.hid (by unfold joinPB; rw [hp]; simp)
      have HV : Hid (joinPW s t = ⟨#[]⟩) := Lib.hid (by unfold joinPW; rw [HN.out]; rfl)
      have HC := Lib.hid hc
      have HP := Lib.hid hp
      rw [HN.out, HV.out]
      clear hc hp
      go_enter Try.func34, Try.ntmps34
      go_wp2_with fail
      refine (l10Closed_any s _ (Lib.hid rfl) _ (by omega)).mono ?_
      rw [HC.out]
      rintro e w1 ⟨rfl, hb⟩
      have HB := Lib.hid hb
      clear hb
      go_wp2_with fail
      refine (specIsPath_any t _ (Lib.hid rfl) _ (by omega)).mono ?_
      rw [HP.out]
      rintro e w2 ⟨rfl, hb⟩
      have HB2 := Lib.hid (HB.out.trans (hb.mono HB.out.size))
      clear hb
      go_wp2_with fail
      go_ret2
      exact ⟨rfl, HB2.out⟩
    | true =>
      by_cases hsz : s.size + t.size ≤ 400
      · have HN : Hid (joinPB s t = true) := Lib.hid (by unfold joinPB; rw [hc, hp]; simpa using hsz)
        have HV : Hid (joinPW s t = s ++ t) := Lib.hid (by unfold joinPW; rw [HN.out]; rfl)
        have HC := Lib.hid hc
        have HP := Lib.hid hp
        rw [HN.out, HV.out]
        clear hc hp
        have hz2 : decide (400 < (s.size : Int) + (t.size : Int)) = false := by simp; omega
        go_enter Try.func34, Try.ntmps34
        go_wp2_with fail
        refine (l10Closed_any s _ (Lib.hid rfl) _ (by omega)).mono ?_
        rw [HC.out]
        rintro e w1 ⟨rfl, hb⟩
        have HB := Lib.hid hb
        clear hb
        go_wp2_with fail
        refine (specIsPath_any t _ (Lib.hid rfl) _ (by omega)).mono ?_
        rw [HP.out]
        rintro e w2 ⟨rfl, hb⟩
        have HB2 := Lib.hid (HB.out.trans (hb.mono HB.out.size))
        clear hb
        go_wp2_with fail
        go_ret2
        exact ⟨rfl, HB2.out⟩
      · have HN : Hid (joinPB s t = false) := Lib.hid (by unfold joinPB; rw [hc, hp]; simpa using hsz)
        have HV : Hid (joinPW s t = ⟨#[]⟩) := Lib.hid (by unfold joinPW; rw [HN.out]; rfl)
        have HC := Lib.hid hc
        have HP := Lib.hid hp
        rw [HN.out, HV.out]
        clear hc hp
        have hz2 : decide (400 < (s.size : Int) + (t.size : Int)) = true := by simp; omega
        go_enter Try.func34, Try.ntmps34
        go_wp2_with fail
        refine (l10Closed_any s _ (Lib.hid rfl) _ (by omega)).mono ?_
        rw [HC.out]
        rintro e w1 ⟨rfl, hb⟩
        have HB := Lib.hid hb
        clear hb
        go_wp2_with fail
        refine (specIsPath_any t _ (Lib.hid rfl) _ (by omega)).mono ?_
        rw [HP.out]
        rintro e w2 ⟨rfl, hb⟩
        have HB2 := Lib.hid (HB.out.trans (hb.mono HB.out.size))
        clear hb
        go_wp2_with fail
        go_ret2
        exact ⟨rfl, HB2.out⟩
set_option maxRecDepth 100000 in
set_option maxHeartbeats 1600000 in
theorem implJoinPaths_any (s t : ByteArray) (w : World) (hs : s.size ≤ 1048576) (ht : t.size ≤ 1048576) : Calls Try.prog 35 #[.string s, .string t] w (Val (.tuple #[.string (joinPW s t), .bool (joinPB s t)]) w) := by
  cases hc : closedB s.data.toList with
  | false =>
    have HN : Hid (joinPB s t = false) := Lib.hid (by unfold joinPB; rw [hc]; rfl)
    have HV : Hid (joinPW s t = ⟨#[]⟩) := Lib.hid (by unfold joinPW; rw [HN.out]; rfl)
    have HC := Lib.hid hc
    rw [HN.out, HV.out]
    clear hc
    go_enter Try.func35, Try.ntmps35
    go_wp2_with fail
    refine (implIsClosed_any s _ (Lib.hid rfl) _ (by omega)).mono ?_
    rw [HC.out]
    rintro e w1 ⟨rfl, hb⟩
    have HB := Lib.hid hb
    clear hb
    go_wp2_with fail
    go_ret2
    exact ⟨rfl, HB.out⟩
  | true =>
    cases hp : Plain.pathB t.data.toList with
    | false =>
      have HN : Hid (joinPB s t = false) := Lib.hid (by unfold joinPB; rw [hp]; simp)
      have HV : Hid (joinPW s t = ⟨#[]⟩) := Lib.hid (by unfold joinPW; rw [HN.out]; rfl)
      have HC := Lib.hid hc
      have HP := Lib.hid hp
      rw [HN.out, HV.out]
      clear hc hp
      go_enter Try.func35, Try.ntmps35
      go_wp2_with fail
      refine (implIsClosed_any s _ (Lib.hid rfl) _ (by omega)).mono ?_
      rw [HC.out]
      rintro e w1 ⟨rfl, hb⟩
      have HB := Lib.hid hb
      clear hb
      go_wp2_with fail
      refine (implIsPath_any t _ (Lib.hid rfl) _ (by omega)).mono ?_
      rw [HP.out]
      rintro e w2 ⟨rfl, hb⟩
      have HB2 := Lib.hid (HB.out.trans (hb.mono HB.out.size))
      clear hb
      go_wp2_with fail
      go_ret2
      exact ⟨rfl, HB2.out⟩
    | true =>
      by_cases hsz : s.size + t.size ≤ 400
      · have HN : Hid (joinPB s t = true) := Lib.hid (by unfold joinPB; rw [hc, hp]; simpa using hsz)
        have HV : Hid (joinPW s t = s ++ t) := Lib.hid (by unfold joinPW; rw [HN.out]; rfl)
        have HC := Lib.hid hc
        have HP := Lib.hid hp
        rw [HN.out, HV.out]
        clear hc hp
        have hz2 : decide (400 < (s.size : Int) + (t.size : Int)) = false := by simp; omega
        go_enter Try.func35, Try.ntmps35
        go_wp2_with fail
        refine (implIsClosed_any s _ (Lib.hid rfl) _ (by omega)).mono ?_
        rw [HC.out]
        rintro e w1 ⟨rfl, hb⟩
        have HB := Lib.hid hb
        clear hb
        go_wp2_with fail
        refine (implIsPath_any t _ (Lib.hid rfl) _ (by omega)).mono ?_
        rw [HP.out]
        rintro e w2 ⟨rfl, hb⟩
        have HB2 := Lib.hid (HB.out.trans (hb.mono HB.out.size))
        clear hb
        go_wp2_with fail
        go_ret2
        exact ⟨rfl, HB2.out⟩
      · have HN : Hid (joinPB s t = false) := Lib.hid (by unfold joinPB; rw [hc, hp]; simpa using hsz)
        have HV : Hid (joinPW s t = ⟨#[]⟩) := Lib.hid (by unfold joinPW; rw [HN.out]; rfl)
        have HC := Lib.hid hc
        have HP := Lib.hid hp
        rw [HN.out, HV.out]
        clear hc hp
        have hz2 : decide (400 < (s.size : Int) + (t.size : Int)) = true := by simp; omega
        go_enter Try.func35, Try.ntmps35
        go_wp2_with fail
        refine (implIsClosed_any s _ (Lib.hid rfl) _ (by omega)).mono ?_
        rw [HC.out]
        rintro e w1 ⟨rfl, hb⟩
        have HB := Lib.hid hb
        clear hb
        go_wp2_with fail
        refine (implIsPath_any t _ (Lib.hid rfl) _ (by omega)).mono ?_
        rw [HP.out]
        rintro e w2 ⟨rfl, hb⟩
        have HB2 := Lib.hid (HB.out.trans (hb.mono HB.out.size))
        clear hb
        go_wp2_with fail
        go_ret2
        exact ⟨rfl, HB2.out⟩
end Go.Proofs.Ytpaijobmoddgpaa
