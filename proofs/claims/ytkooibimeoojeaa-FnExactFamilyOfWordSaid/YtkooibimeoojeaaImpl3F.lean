/- Contracts: impl's setsThat (with both methods), LeastFalls, GreatestHangs, fallTable.mattering, MatteringNails. Conditions: numbers of 64 bits, lengths that fit. -/
import Derived.Test.YtkooibimeoojeaaImpl3E
import Derived.Test.YtkooibimeoojeaaSetsThat
namespace Go.Proofs.Ytkooibimeoojeaa
open Go.ChangeShapes Go.WideShapes Go.ChangeAt Go.RowKit
set_option linter.unusedVariables false

set_option maxHeartbeats 400000 in
theorem implLeastFalls_any (a : Option Addr) (cap : Nat) (xs : List Int) (w : World) (h : Hid (Ints w a xs)) (h64 : Hid (In64 xs)) (hn : xs.length ≤ 9223372036854775807) :
    Calls Try.prog 19 #[.slice a xs.length cap] w (SB (edgesW xs true) (Plain.wordB xs) w) := by
  cases hw : Plain.wordB xs with
  | false =>
    have HE := Lib.hid (edgesW_no (v := true) hw)
    have HW := Lib.hid hw
    have HS := Lib.hid (coll_res (coll_start w))
    clear hw
    go_enter Try.func19, Try.ntmps19
    go_wp2_with fail
    refine (isWord_any _ _ xs _ h h64 hn).mono ?_
    rw [HW.out]
    rintro e w' ⟨rfl, rfl⟩
    go_wp2_with fail
    go_ret2
    exact sb_of HE.out.symm rfl ⟨_, rfl, HS.out.1, HS.out.2⟩
  | true =>
    have m1 := (Plain.wordB_iff.1 hw).1
    have HL := Lib.hid (Plain.wordB_iff.1 hw).2
    have HE := Lib.hid (edgesW_yes (v := true) hw)
    have HW := Lib.hid hw
    clear hw
    go_enter Try.func19, Try.ntmps19
    go_wp2_with fail
    refine (isWord_any _ _ xs _ h h64 hn).mono ?_
    rw [HW.out]
    rintro e w' ⟨rfl, rfl⟩
    go_wp2_with fail
    refine (fallTable_any _ _ xs _ h HL (by omega)).mono ?_
    rintro e w1 ⟨rfl, hb⟩
    have HB := Lib.hid hb
    clear hb
    go_wp2_with fail
    refine (setsThat_isLeast _ _).mono ?_
    rintro e w2 ⟨v, rfl, hr, hb⟩
    have HR := Lib.hid (And.intro (hr.mono HB.out.size) (HB.out.trans (hb.mono HB.out.size)))
    clear hr hb
    go_wp2_with fail
    go_ret2
    exact sb_of HE.out.symm rfl ⟨_, rfl, HR.out.1, HR.out.2⟩
set_option maxHeartbeats 400000 in
theorem implGreatestHangs_any (a : Option Addr) (cap : Nat) (xs : List Int) (w : World) (h : Hid (Ints w a xs)) (h64 : Hid (In64 xs)) (hn : xs.length ≤ 9223372036854775807) :
    Calls Try.prog 25 #[.slice a xs.length cap] w (SB (edgesW xs false) (Plain.wordB xs) w) := by
  cases hw : Plain.wordB xs with
  | false =>
    have HE := Lib.hid (edgesW_no (v := false) hw)
    have HW := Lib.hid hw
    have HS := Lib.hid (coll_res (coll_start w))
    clear hw
    go_enter Try.func25, Try.ntmps25
    go_wp2_with fail
    refine (isWord_any _ _ xs _ h h64 hn).mono ?_
    rw [HW.out]
    rintro e w' ⟨rfl, rfl⟩
    go_wp2_with fail
    go_ret2
    exact sb_of HE.out.symm rfl ⟨_, rfl, HS.out.1, HS.out.2⟩
  | true =>
    have m1 := (Plain.wordB_iff.1 hw).1
    have HL := Lib.hid (Plain.wordB_iff.1 hw).2
    have HE := Lib.hid (edgesW_yes (v := false) hw)
    have HW := Lib.hid hw
    clear hw
    go_enter Try.func25, Try.ntmps25
    go_wp2_with fail
    refine (isWord_any _ _ xs _ h h64 hn).mono ?_
    rw [HW.out]
    rintro e w' ⟨rfl, rfl⟩
    go_wp2_with fail
    refine (fallTable_any _ _ xs _ h HL (by omega)).mono ?_
    rintro e w1 ⟨rfl, hb⟩
    have HB := Lib.hid hb
    clear hb
    go_wp2_with fail
    refine (setsThat_isGreatest _ _).mono ?_
    rintro e w2 ⟨v, rfl, hr, hb⟩
    have HR := Lib.hid (And.intro (hr.mono HB.out.size) (HB.out.trans (hb.mono HB.out.size)))
    clear hr hb
    go_wp2_with fail
    go_ret2
    exact sb_of HE.out.symm rfl ⟨_, rfl, HR.out.1, HR.out.2⟩
set_option maxRecDepth 100000 in
set_option maxHeartbeats 800000 in
theorem mattering_any (t : Nat → Bool) (w : World) :
    Calls Try.prog 52 #[.agg (bools t)] w (Val (.int .i64 (Plain.uniTo t 64 : Nat)) w) := by
  have HT := Lib.hid (tabF_box w t)
  go_enter Try.func52, Try.ntmps52
  go_wp2_with fail
  obtain ⟨W, hW⟩ : ∃ W, W = w.alloc (.cells (bools t) 50) := ⟨_, rfl⟩
  rw [← hW] at HT ⊢
  clear hW
  go_loopw [3, 5] (fun v i wr => ∃ k : Nat, k ≤ 64 ∧ i = .int .i64 k ∧ v = .int .i64 (Plain.uniTo t k : Nat) ∧ TabF wr w.heap.size t ∧ Below w.heap.size w wr) (fun _ i _ => 64 - (intOf i).toNat)
  case atStart => exact ⟨0, Nat.zero_le _, rfl, rfl, HT.out.1, HT.out.2⟩
  case round =>
    obtain ⟨k, hk, rfl, rfl, hT, hB⟩ := hrel
    have HK := Lib.hid hT
    have HB := Lib.hid hB
    have hu := Plain.uniTo_lt t k
    by_cases hlt : k < 64
    · have hd := Plain.decN_lt t k
      have hor := or_small (Plain.uniTo t k) (Plain.decN t k) hu hd
      have hi : (k : Int) < 64 := by omega
      have hi0' : (0 : Int) ≤ (k : Int) := by omega
      clear hT hB
      go_wp2_with (refine wpList_load_row rfl 50 _ rfl w.heap.size rfl 50 (bools t) (0, 0) _ HK.out Try.underlying50 rfl info64f ?_)
      refine (deciders_any t k _ hlt).mono ?_
      rintro e w1 ⟨rfl, hb⟩
      have HK1 := Lib.hid (HK.out.on hb)
      have HB1 := Lib.hid (HB.out.trans (hb.mono HB.out.size))
      clear hb HK HB
      go_wp2_with fail
      go_roundw
      case rel => exact ⟨k + 1, by omega, by go_num, rfl, HK1.out, HB1.out⟩
      case measure => simp [intOf]; omega
    · obtain rfl : k = 64 := by omega
      clear hT hB
      go_wp2_with fail
      go_ret
      exact ⟨rfl, HB.out⟩
theorem mattering_word (xs : List Int) (w : World) :
    Calls Try.prog 52 #[.agg (bools (Plain.fallsB xs))] w (Val (.int .i64 (Plain.matter (Plain.fallsB xs) : Nat)) w) := by
  rw [← Plain.matter_falls xs]
  exact mattering_any _ w
set_option maxHeartbeats 400000 in
theorem implMatteringNails_any (a : Option Addr) (cap : Nat) (xs : List Int) (w : World) (h : Hid (Ints w a xs)) (h64 : Hid (In64 xs)) (hn : xs.length ≤ 9223372036854775807) :
    Calls Try.prog 27 #[.slice a xs.length cap] w (Val (.tuple #[.int .i64 (matterW xs : Nat), .bool (Plain.wordB xs)]) w) := by
  cases hw : Plain.wordB xs with
  | false =>
    have HE := Lib.hid (matterW_no hw)
    have HW := Lib.hid hw
    clear hw
    go_enter Try.func27, Try.ntmps27
    go_wp2_with fail
    refine (isWord_any _ _ xs _ h h64 hn).mono ?_
    rw [HW.out]
    rintro e w' ⟨rfl, rfl⟩
    go_wp2_with fail
    go_ret2
    exact val_ib HE.out.symm rfl ⟨rfl, Below.refl _ _⟩
  | true =>
    have m1 := (Plain.wordB_iff.1 hw).1
    have HL := Lib.hid (Plain.wordB_iff.1 hw).2
    have HE := Lib.hid (matterW_yes hw)
    have HW := Lib.hid hw
    clear hw
    go_enter Try.func27, Try.ntmps27
    go_wp2_with fail
    refine (isWord_any _ _ xs _ h h64 hn).mono ?_
    rw [HW.out]
    rintro e w' ⟨rfl, rfl⟩
    go_wp2_with fail
    refine (fallTable_any _ _ xs _ h HL (by omega)).mono ?_
    rintro e w1 ⟨rfl, hb⟩
    have HB := Lib.hid hb
    clear hb
    go_wp2_with fail
    refine (mattering_word xs _).mono ?_
    rintro e w2 ⟨rfl, hb⟩
    have HB2 := Lib.hid (HB.out.trans (hb.mono HB.out.size))
    clear hb
    go_wp2_with fail
    go_ret2
    exact val_ib HE.out.symm rfl ⟨rfl, HB2.out⟩

end Go.Proofs.Ytkooibimeoojeaa
