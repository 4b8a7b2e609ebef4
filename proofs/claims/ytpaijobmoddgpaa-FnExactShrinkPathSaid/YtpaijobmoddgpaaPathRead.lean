/- Contracts: ReadPath of both programs. Condition: texts that fit. -/
import Derived.Test.YtpaijobmoddgpaaPathWords
import Derived.Test.YtpaijobmoddgpaaProd
namespace Go.Proofs.Ytpaijobmoddgpaa
open Go.ChangeShapes Go.WideShapes Go.ChangeAt Go.RowKit
set_option linter.unusedVariables false
set_option linter.unusedSimpArgs false

theorem trail_pts {l : List UInt8} {B : Nat} {w : World} {v : Value} (h : PtsRes 63 B w v (trailL l)) (hp : Plain.pathB l = true) : ∃ g cap, v = .slice (some ⟨g, 0, none⟩) (l.length + 1) cap ∧ B ≤ g ∧ g < w.heap.size ∧
    Pts w (some ⟨g, 0, none⟩) (Plain.pts l) ∧ l.length + 1 ≤ cap ∧ cap ≤ maxLen := by
  unfold trailL at h
  rw [if_pos hp] at h
  obtain ⟨a, cap, rfl, hpts, hne, hcap, hcapm⟩ := h.form
  have hLn := Plain.pts_length l
  obtain ⟨g, rfl, hg1, hg2, hg3⟩ := hne (by intro e; rw [e] at hLn; cases hLn)
  rw [hLn] at hcap
  exact ⟨g, cap, by rw [hLn], hg1, hg2, hpts, hcap, hcapm⟩
theorem trail_none {l : List UInt8} {B : Nat} {w : World} {v : Value} (h : PtsRes 63 B w v (trailL l)) (hp : Plain.pathB l = false) : ∃ a cap, v = .slice a 0 cap := by
  unfold trailL at h
  rw [hp] at h
  obtain ⟨a, cap, rfl, -⟩ := h.form
  exact ⟨a, cap, rfl⟩
def readB (l : List UInt8) : Bool := Plain.pathB l && shortB (Plain.letsTo l l.length)
def readL (l : List UInt8) : List Int := if Plain.pathB l = true then short (Plain.letsTo l l.length) else []
theorem readL_le (l : List UInt8) : (readL l).length ≤ 64 := by
  unfold readL
  split
  · exact short_le _
  · exact Nat.zero_le _
theorem specReadPath_any (s : ByteArray) (l : List UInt8) (hl0 : Hid (l = s.data.toList)) (w : World) (hs : s.size ≤ 9223372036854775807) : Calls Try.prog 24 #[.string s] w (SB (readL l) (readB l) w) := by
  cases hp : Plain.pathB l with
  | false =>
    have HP := Lib.hid hp
    have HL : Hid (readL l = []) := Lib.hid (by unfold readL; rw [hp]; rfl)
    have HB : Hid (readB l = false) := Lib.hid (by unfold readB; rw [hp]; rfl)
    rw [HL.out, HB.out]
    clear hp
    go_enter Try.func24, Try.ntmps24
    go_wp2_with fail
    refine (specIsPath_any s l hl0 _ hs).mono ?_
    rw [HP.out]
    rintro e w1 ⟨rfl, hb⟩
    have HB1 := Lib.hid hb
    have HS := Lib.hid (coll_start w1)
    clear hb
    go_wp2_with fail
    go_ret2
    exact ⟨_, rfl, (coll_res (coll_back HS.out HB1.out)).1, (coll_back HS.out HB1.out).2.1⟩
  | true =>
    have HP := Lib.hid hp
    have HL : Hid (readL l = short (Plain.letsTo l l.length)) := Lib.hid (by unfold readL; rw [hp]; rfl)
    have HB : Hid (readB l = shortB (Plain.letsTo l l.length)) := Lib.hid (by unfold readB; rw [hp]; rfl)
    rw [HL.out, HB.out]
    have hln := (Plain.path_ok hp).1
    have hll := Plain.letsTo_le l l.length
    clear hp
    have HW : Hid (∀ W, Calls Try.prog 59 #[.string s] W (LettersPost (Plain.letsTo l l.length) W)) := Lib.hid (fun W => l10Word_any s l hl0 W hs HP)
    generalize Plain.letsTo l l.length = zs at hll HW ⊢
    have hzl : zs.length ≤ 400 := Nat.le_trans hll hln
    clear hll HL HB
    go_enter Try.func24, Try.ntmps24
    go_wp2_with fail
    refine (specIsPath_any s l hl0 _ hs).mono ?_
    rw [HP.out]
    rintro e w1 ⟨rfl, hb⟩
    have HB1 := Lib.hid hb
    clear hb
    go_wp2_with fail
    refine (HW.out _).mono ?_
    rintro e w2 ⟨v, rfl, hC⟩
    have hC2 := coll_back hC HB1.out
    obtain ⟨⟨a, c, rfl, hi, ho, hk⟩, hb2⟩ := coll_res hC2
    have HI := Lib.hid hi
    have HO := Lib.hid ho
    have HK := Lib.hid hk
    have HB2 := Lib.hid hb2
    clear hC hC2 hi ho hk hb2
    go_wp2_with fail
    refine (l2Short_any a c zs _ HI w.heap.size HO HK HB2.out.size (by omega)).mono ?_
    rintro e w3 ⟨v, rfl, hr, hb⟩
    have HR := Lib.hid hr
    have HB3 := Lib.hid (HB2.out.trans (hb.mono HB2.out.size))
    clear hr hb
    go_wp2_with fail
    go_ret2
    exact ⟨_, rfl, HR.out, HB3.out⟩
set_option maxHeartbeats 1600000 in
theorem implReadPath_any (s : ByteArray) (l : List UInt8) (hl0 : Hid (l = s.data.toList)) (w : World) (hs : s.size ≤ 9223372036854775807) : Calls Try.prog 25 #[.string s] w (SB (readL l) (readB l) w) := by
  cases hp : Plain.pathB l with
  | false =>
    have HP := Lib.hid hp
    have HL : Hid (readL l = []) := Lib.hid (by unfold readL; rw [hp]; rfl)
    have HB : Hid (readB l = false) := Lib.hid (by unfold readB; rw [hp]; rfl)
    rw [HL.out, HB.out]
    clear hp
    go_enter Try.func25, Try.ntmps25
    go_wp2_with fail
    refine (trailOf_any s l hl0 _ hs).mono ?_
    rintro e w1 ⟨v, rfl, hr, hb⟩
    obtain ⟨a, cap, rfl⟩ := trail_none hr HP.out
    rw [HP.out]
    have HB1 := Lib.hid hb
    clear hr hb
    go_wp2_with fail
    refine (wordNone_any a cap _).mono ?_
    rintro e w2 ⟨v, rfl, hC⟩
    have hC2 := coll_back hC HB1.out
    have HB2 := Lib.hid hC2.2.1
    obtain ⟨a2, cap2, rfl, -⟩ := (coll_res hC2).1
    have HS := Lib.hid (coll_start w2)
    clear hC hC2
    go_wp2_with fail
    go_ret2
    exact ⟨_, rfl, (coll_res (coll_back HS.out HB2.out)).1, (coll_back HS.out HB2.out).2.1⟩
  | true =>
    have HP := Lib.hid hp
    have HL : Hid (readL l = short (Plain.letsTo l l.length)) := Lib.hid (by unfold readL; rw [hp]; rfl)
    have HB : Hid (readB l = shortB (Plain.letsTo l l.length)) := Lib.hid (by unfold readB; rw [hp]; rfl)
    rw [HL.out, HB.out]
    have hln := (Plain.path_ok hp).1
    have hll := Plain.letsTo_le l l.length
    clear hp HL HB
    by_cases hz : (Plain.letsTo l l.length).length ≤ 64
    · obtain ⟨e1, e2⟩ := short_yes hz
      rw [e1, e2]
      clear e1 e2
      go_enter Try.func25, Try.ntmps25
      go_wp2_with fail
      refine (trailOf_any s l hl0 _ hs).mono ?_
      rintro e w1 ⟨v, rfl, hr, hb⟩
      obtain ⟨g, cap, rfl, hg1, hg2, hpts, hcap, hcapm⟩ := trail_pts hr HP.out
      rw [HP.out]
      have HB1 := Lib.hid hb
      have HPT := Lib.hid hpts
      clear hr hb hpts hg1 hg2
      go_wp2_with fail
      refine (word10_any l g cap _ HP HPT).mono ?_
      rintro e w2 ⟨v, rfl, hC⟩
      have HC := Lib.hid (coll_back hC HB1.out)
      obtain ⟨⟨a, c, rfl, -⟩, -⟩ := coll_res HC.out
      have HR := Lib.hid (coll_res HC.out)
      have HS := Lib.hid (coll_start w2)
      clear hC
      go_wp2_with fail
      go_ret2
      exact ⟨_, rfl, HR.out.1, HR.out.2⟩
    · obtain ⟨e1, e2⟩ := short_no hz
      rw [e1, e2]
      clear e1 e2
      go_enter Try.func25, Try.ntmps25
      go_wp2_with fail
      refine (trailOf_any s l hl0 _ hs).mono ?_
      rintro e w1 ⟨v, rfl, hr, hb⟩
      obtain ⟨g, cap, rfl, hg1, hg2, hpts, hcap, hcapm⟩ := trail_pts hr HP.out
      rw [HP.out]
      have HB1 := Lib.hid hb
      have HPT := Lib.hid hpts
      clear hr hb hpts hg1 hg2
      go_wp2_with fail
      refine (word10_any l g cap _ HP HPT).mono ?_
      rintro e w2 ⟨v, rfl, hC⟩
      have HC := Lib.hid (coll_back hC HB1.out)
      obtain ⟨⟨a, c, rfl, -⟩, -⟩ := coll_res HC.out
      have HR := Lib.hid (coll_res HC.out)
      have HS := Lib.hid (coll_start w2)
      clear hC
      go_wp2_with fail
      go_ret2
      exact ⟨_, rfl, (coll_res (coll_back HS.out HR.out.2)).1, (coll_back HS.out HR.out.2).2.1⟩
end Go.Proofs.Ytpaijobmoddgpaa
