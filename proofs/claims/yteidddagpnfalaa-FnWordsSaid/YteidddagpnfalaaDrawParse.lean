/- Contracts: (*spec.l1Cur).spoilt changes a text by at most one byte, spec.DrawParseWord hands back a short text. Condition: the code's bytes lie in memory. -/
import Derived.Test.YteidddagpnfalaaDrawWs
import Derived.Test.YteidddagpnfalaaTextWalks
namespace Go.Proofs.Yteidddagpnfalaa
open Go.ChangeShapes Go.WideShapes Go.ChangeAt Go.RowKit
set_option linter.unusedVariables false

def seven : ByteArray := ⟨#[97, 98, 65, 70, 103, 71, 32]⟩
theorem size_pos_of {t : ByteArray} (h : t.toList.isEmpty = false) : 0 < t.size := by
  rcases Nat.eq_zero_or_pos t.size with h0 | h0
  · exfalso
    obtain ⟨d⟩ := t
    have : d = #[] := Array.eq_empty_of_size_eq_zero h0
    subst this
    rw [ByteArray.toList, ByteArray.toList.loop] at h
    simp at h
    exact absurd h.1 (by decide)
  · exact h0

theorem seven_one (j : Nat) : (((⟨#[97, 98, 65, 70, 103, 71, 32]⟩ : ByteArray).extract j 7).extract 0 1).size ≤ 1 := by simp; omega

set_option maxRecDepth 100000 in
set_option maxHeartbeats 1000000 in
theorem spoilt_any (B len cap m : Nat) (a : Option Addr) (t : ByteArray) (W : World) (h : Hid (Held W B a len cap m)) (hm : m ≤ 900000) (ht : t.size ≤ 1000) :
    Calls Try.prog 102 #[.pointer (some ⟨B, 0, none⟩), .string t, .string ⟨#[97, 98, 65, 70, 103, 71, 32]⟩] W fun e W' => ∃ s : ByteArray, e = .returned (.string s) ∧ s.size ≤ 3000 ∧ Held W' B a len cap (m + 6) ∧ W.grownBy W' (some B) := by
  cases hb : t.toList.isEmpty with
  | true =>
    go_enter Try.func102, Try.ntmps102
    go_wp2
    go_ret
    exact ⟨_, rfl, by decide, h.out.more (by omega), grown_refl _ _⟩
  | false =>
    have hpos := size_pos_of hb
    go_enter Try.func102, Try.ntmps102
    go_wp2_with fail
    refine (pick_any B len cap m t.size a _ h (by omega) (by omega)).mono ?_
    rintro e W1 ⟨k, rfl, hk, hH, hg⟩
    have hHH := Lib.hid hH
    have hgg := Lib.hid hg
    have hk1 : k < t.size := by omega
    clear hH hg hk
    go_wp2_with fail
    refine (pick_any B len cap (m + 2) 7 a _ hHH (by omega) (by omega)).mono ?_
    rintro e W2 ⟨j, rfl, hj, hH, hg⟩
    have hHH2 := Lib.hid hH
    have hgg2 := Lib.hid (hgg.out.trans hg)
    have hj1 : j < 7 := by omega
    clear hH hg hj
    have hj2 : (j : Int) ≤ 7 := by omega
    have hj3 : (0 : Int) ≤ (j : Int) := by omega
    have hk2 : (k : Int) ≤ (t.size : Int) := by omega
    have hk3 : (0 : Int) ≤ (k : Int) := by omega
    have hk4 : (k : Int) + 1 ≤ (t.size : Int) := by omega
    have hk5 : (0 : Int) ≤ (k : Int) + 1 := by omega
    go_wp2_with fail
    refine (pick_any B len cap (m + 4) 3 a _ hHH2 (by omega) (by omega)).mono ?_
    rintro e W3 ⟨q, rfl, hq, hH, hg⟩
    have hHH3 := Lib.hid hH
    have hgg3 := Lib.hid (hgg2.out.trans hg)
    have hq1 : q < 3 := by omega
    clear hH hg hq
    have hz := seven_one j
    generalize ((⟨#[97, 98, 65, 70, 103, 71, 32]⟩ : ByteArray).extract j 7).extract 0 1 = z at hz ⊢
    have hz2 : (z.size : Int) ≤ 8388608 := by omega
    have hz3 : ((t.extract 0 k).size : Int) ≤ 8388608 := by simp; omega
    have hz4 : ((t.extract k t.size).size : Int) ≤ 8388608 := by simp; omega
    have hz5 : ((t.extract (k + 1) t.size).size : Int) ≤ 8388608 := by simp; omega
    obtain rfl | rfl | rfl : q = 0 ∨ q = 1 ∨ q = 2 := by omega
    · go_wp2
      go_quiet (fail)
      go_wp2
      go_ret
      exact ⟨_, rfl, by simp [ByteArray.size_append]; omega, hHH3.out, grown_drawn _ _ _ _ hgg3.out⟩
    · go_wp2
      go_quiet (fail)
      go_wp2
      go_ret
      exact ⟨_, rfl, by simp [ByteArray.size_append]; omega, hHH3.out, grown_drawn _ _ _ _ hgg3.out⟩
    · go_wp2
      go_quiet (fail)
      go_wp2
      go_ret
      exact ⟨_, rfl, by simp [ByteArray.size_append]; omega, hHH3.out, grown_drawn _ _ _ _ hgg3.out⟩

/-- One text drawn. -/
def TextDraw (W : World) (e : Ending) (W' : World) : Prop := ∃ s : ByteArray, e = .returned (.string s) ∧ s.size ≤ 3000 ∧ Below W.heap.size W W'

set_option maxRecDepth 100000 in
set_option maxHeartbeats 1000000 in
theorem drawParse_any (a : Option Addr) (len cap : Nat) (W : World) (h : Hid (Code8 W a len)) :
    Calls Try.prog 48 #[.slice a len cap] W (TextDraw W) := by
  go_enter Try.func48, Try.ntmps48
  go_wp2_with fail
  refine (word_any W.heap.size len cap 0 a _ (Lib.hid (Held.fresh cap h.out)) (by omega)).mono ?_
  intro e W1 hp
  obtain ⟨v, xs, rfl, h64, hl, hf⟩ := first_of hp
  have F1 := Lib.hid hf
  have H64 := Lib.hid h64
  clear hp hf h64
  obtain ⟨av, cv, rfl, hI, hO, hcp⟩ := F1.out.2.1
  have HI1 := Lib.hid hI
  clear hI hO hcp
  cases hw : Plain.wordB xs with
  | false =>
    have HW := Lib.hid hw
    clear hw
    go_wp2_with fail
    refine (l2Word_any _ _ xs _ HI1 H64 (by omega)).mono ?_
    rw [HW.out]
    rintro e w' ⟨rfl, rfl⟩
    go_wp2_with fail
    refine (one_any W.heap.size len cap _ 3 a _ (Lib.hid F1.out.2.2) (by omega) (by omega)).mono ?_
    rintro e W2 ⟨b, rfl, hH, hg⟩
    have F2 := Lib.hid (F1.out.cur hH hg)
    clear hH hg F1
    cases b
    · have hB := Lib.hid (below_of F2.out.1)
      go_wp2
      go_ret
      exact ⟨_, rfl, by decide, hB.out⟩
    · go_wp2_with fail
      refine (spoilt_any W.heap.size len cap _ a ⟨#[97, 98, 65, 66]⟩ _ (Lib.hid F2.out.2.2) (by omega) (by decide)).mono ?_
      rintro e W3 ⟨s, rfl, hs, hH, hg⟩
      have hB := Lib.hid (below_of (F2.out.1.trans hg))
      clear hH hg
      go_wp2
      go_ret
      exact ⟨_, rfl, hs, hB.out⟩
  | true =>
    have HL := Lib.hid (Plain.wordB_iff.1 hw).2
    have HW := Lib.hid hw
    clear hw
    go_wp2_with fail
    refine (l2Word_any _ _ xs _ HI1 H64 (by omega)).mono ?_
    rw [HW.out]
    rintro e w' ⟨rfl, rfl⟩
    go_wp2_with fail
    refine (l2Text_any _ _ xs _ HI1 HL (by omega)).mono ?_
    rintro e w' ⟨rfl, rfl⟩
    have hts : Hid ((textOf xs).size ≤ 1000) := Lib.hid (by rw [textOf_size]; omega)
    go_wp2_with fail
    refine (one_any W.heap.size len cap _ 3 a _ (Lib.hid F1.out.2.2) (by omega) (by omega)).mono ?_
    rintro e W2 ⟨b, rfl, hH, hg⟩
    have F2 := Lib.hid (F1.out.cur hH hg)
    clear hH hg F1
    cases b
    · have hB := Lib.hid (below_of F2.out.1)
      go_wp2
      go_ret
      exact ⟨_, rfl, Nat.le_trans hts.out (by decide), hB.out⟩
    · go_wp2_with fail
      refine (spoilt_any W.heap.size len cap _ a (textOf xs) _ (Lib.hid F2.out.2.2) (by omega) (Nat.le_trans hts.out (by decide))).mono ?_
      rintro e W3 ⟨s, rfl, hs, hH, hg⟩
      have hB := Lib.hid (below_of (F2.out.1.trans hg))
      clear hH hg
      go_wp2
      go_ret
      exact ⟨_, rfl, hs, hB.out⟩

end Go.Proofs.Yteidddagpnfalaa
