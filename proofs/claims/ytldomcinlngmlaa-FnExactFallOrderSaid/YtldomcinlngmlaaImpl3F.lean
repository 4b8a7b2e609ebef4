/- Contracts: impl's setsThat (with both methods), LeastFalls, GreatestHangs, fallTable.mattering, MatteringNails. Conditions: numbers of 64 bits, lengths that fit. -/
import Derived.Test.YtldomcinlngmlaaImpl3E
namespace Go.Proofs.Ytldomcinlngmlaa
open Go.ChangeShapes Go.WideShapes Go.ChangeAt Go.RowKit
set_option linter.unusedVariables false

set_option maxRecDepth 100000 in
set_option maxHeartbeats 800000 in
theorem setsThat_isLeast (t : Nat → Bool) (w : World) :
    Calls Try.prog 55 #[.func (.func 56) #[.agg (bools t)] #[]] w (ListPost (Plain.edges t true) w) := by
  obtain ⟨i0, hi0, hz0, hz1, hz2⟩ := info_parts infoInt
  have HS := Lib.hid (coll_start w)
  go_enter Try.func55, Try.ntmps55
  go_wp2_with fail
  go_loopw [3, 6] (fun u i wr => ∃ k : Nat, k ≤ 64 ∧ i = .int .i64 k ∧ Coll (Plain.edgesTo t true k) w.heap.size w u wr) (fun _ i _ => 64 - (intOf i).toNat)
  case atStart => exact ⟨0, Nat.zero_le _, rfl, HS.out⟩
  case round =>
    obtain ⟨k, hk, rfl, hrel⟩ := hrel
    have hll := Plain.edgesTo_le t true k
    by_cases hlt : k < 64
    · have HK := Lib.hid hrel
      obtain ⟨L, hL⟩ : ∃ L, L = Plain.edgesTo t true k := ⟨_, rfl⟩
      rw [← hL] at HK hll
      have HL := Lib.hid hL
      have hi : (k : Int) < 64 := by omega
      have hi0' : (0 : Int) ≤ (k : Int) := by omega
      clear hrel hL
      go_wp2_with fail
      refine (isLeast_any t k _ hlt).mono ?_
      rintro e w1 ⟨rfl, hb⟩
      have HK1 := Lib.hid (HK.out.later hb)
      clear hb HK
      cases he : Plain.edgeB t true k with
      | false =>
        have HN : Hid (Plain.edgesTo t true (k + 1) = L) := Lib.hid (by rw [Plain.edgesTo, he, HL.out]; rfl)
        clear he
        go_wp2_with fail
        go_roundw
        case rel => exact ⟨k + 1, by omega, by go_num, by rw [HN.out]; exact HK1.out⟩
        case measure => simp [intOf]; omega
      | true =>
        have HN : Hid (Plain.edgesTo t true (k + 1) = L ++ [(k : Int)]) := Lib.hid (by rw [Plain.edgesTo, he, HL.out]; rfl)
        clear he
        go_wp2_with (at_builtin; refine wpList_append_own _ rfl _ _ 22 rfl w.heap.size 3 i0 (.int .i64 0) 1 8 Try.underlying22 hi0 hz0 hz1 hz2 rfl (by decide) _ _ _ rfl (HK1.out.1.alloc _) ⟨w1.heap.size, 0, none⟩ 1 1 [.int .i64 (k : Int)] rfl rfl ?c1 ?c2 ?c3 ?c4 ?c5 ?_)
        case c1 => exact cell_one_new _ _ _
        case c2 => simp [Value.oneCell']
        case c3 => unfold maxLen; omega
        case c4 => omega
        case c5 => exact Nat.le_trans HK1.out.2.2 (by simp)
        intro v' w2 hown' hgrow _
        have hR := Lib.hid (coll_push (x := (k : Int)) HK1.out hown' hgrow)
        clear hown' hgrow
        go_wp2_with fail
        go_roundw
        case rel => exact ⟨k + 1, by omega, by go_num, by rw [HN.out]; exact hR.out⟩
        case measure => simp [intOf]; omega
    · obtain rfl : k = 64 := by omega
      have HR := Lib.hid (coll_res hrel)
      clear hrel
      go_wp2_with fail
      go_ret
      exact ⟨_, rfl, HR.out.1, HR.out.2⟩
set_option maxRecDepth 100000 in
set_option maxHeartbeats 800000 in
theorem setsThat_isGreatest (t : Nat → Bool) (w : World) :
    Calls Try.prog 55 #[.func (.func 59) #[.agg (bools t)] #[]] w (ListPost (Plain.edges t false) w) := by
  obtain ⟨i0, hi0, hz0, hz1, hz2⟩ := info_parts infoInt
  have HS := Lib.hid (coll_start w)
  go_enter Try.func55, Try.ntmps55
  go_wp2_with fail
  go_loopw [3, 6] (fun u i wr => ∃ k : Nat, k ≤ 64 ∧ i = .int .i64 k ∧ Coll (Plain.edgesTo t false k) w.heap.size w u wr) (fun _ i _ => 64 - (intOf i).toNat)
  case atStart => exact ⟨0, Nat.zero_le _, rfl, HS.out⟩
  case round =>
    obtain ⟨k, hk, rfl, hrel⟩ := hrel
    have hll := Plain.edgesTo_le t false k
    by_cases hlt : k < 64
    · have HK := Lib.hid hrel
      obtain ⟨L, hL⟩ : ∃ L, L = Plain.edgesTo t false k := ⟨_, rfl⟩
      rw [← hL] at HK hll
      have HL := Lib.hid hL
      have hi : (k : Int) < 64 := by omega
      have hi0' : (0 : Int) ≤ (k : Int) := by omega
      clear hrel hL
      go_wp2_with fail
      refine (isGreatest_any t k _ hlt).mono ?_
      rintro e w1 ⟨rfl, hb⟩
      have HK1 := Lib.hid (HK.out.later hb)
      clear hb HK
      cases he : Plain.edgeB t false k with
      | false =>
        have HN : Hid (Plain.edgesTo t false (k + 1) = L) := Lib.hid (by rw [Plain.edgesTo, he, HL.out]; rfl)
        clear he
        go_wp2_with fail
        go_roundw
        case rel => exact ⟨k + 1, by omega, by go_num, by rw [HN.out]; exact HK1.out⟩
        case measure => simp [intOf]; omega
      | true =>
        have HN : Hid (Plain.edgesTo t false (k + 1) = L ++ [(k : Int)]) := Lib.hid (by rw [Plain.edgesTo, he, HL.out]; rfl)
        clear he
        go_wp2_with (at_builtin; refine wpList_append_own _ rfl _ _ 22 rfl w.heap.size 3 i0 (.int .i64 0) 1 8 Try.underlying22 hi0 hz0 hz1 hz2 rfl (by decide) _ _ _ rfl (HK1.out.1.alloc _) ⟨w1.heap.size, 0, none⟩ 1 1 [.int .i64 (k : Int)] rfl rfl ?c1 ?c2 ?c3 ?c4 ?c5 ?_)
        case c1 => exact cell_one_new _ _ _
        case c2 => simp [Value.oneCell']
        case c3 => unfold maxLen; omega
        case c4 => omega
        case c5 => exact Nat.le_trans HK1.out.2.2 (by simp)
        intro v' w2 hown' hgrow _
        have hR := Lib.hid (coll_push (x := (k : Int)) HK1.out hown' hgrow)
        clear hown' hgrow
        go_wp2_with fail
        go_roundw
        case rel => exact ⟨k + 1, by omega, by go_num, by rw [HN.out]; exact hR.out⟩
        case measure => simp [intOf]; omega
    · obtain rfl : k = 64 := by omega
      have HR := Lib.hid (coll_res hrel)
      clear hrel
      go_wp2_with fail
      go_ret
      exact ⟨_, rfl, HR.out.1, HR.out.2⟩
set_option maxHeartbeats 400000 in
theorem implLeastFalls_any (a : Option Addr) (cap : Nat) (xs : List Int) (w : World) (h : Hid (Ints w a xs)) (h64 : Hid (In64 xs)) (hn : xs.length ≤ 9223372036854775807) :
    Calls Try.prog 30 #[.slice a xs.length cap] w (SB (edgesW xs true) (Plain.wordB xs) w) := by
  cases hw : Plain.wordB xs with
  | false =>
    have HE := Lib.hid (edgesW_no (v := true) hw)
    have HW := Lib.hid hw
    have HS := Lib.hid (coll_res (coll_start w))
    clear hw
    go_enter Try.func30, Try.ntmps30
    go_wp2_with fail
    refine (isWord_any _ _ xs _ h h64 hn).mono ?_
    rw [HW.out]
    rintro e w' ⟨rfl, rfl⟩
    go_wp2_with fail
    go_ret2
    exact sb_of HE.out.symm rfl ⟨_, rfl, HS.out.1, HS.out.2⟩
  | true =>
    have m1 := (Plain.wordB_iff.1 hw).1
    have HL := Lib.hid (Plain.wordB_iff.1 hw).2
    have HE := Lib.hid (edgesW_yes (v := true) hw)
    have HW := Lib.hid hw
    clear hw
    go_enter Try.func30, Try.ntmps30
    go_wp2_with fail
    refine (isWord_any _ _ xs _ h h64 hn).mono ?_
    rw [HW.out]
    rintro e w' ⟨rfl, rfl⟩
    go_wp2_with fail
    refine (fallTable_any _ _ xs _ h HL (by omega)).mono ?_
    rintro e w1 ⟨rfl, hb⟩
    have HB := Lib.hid hb
    clear hb
    go_wp2_with fail
    refine (setsThat_isLeast _ _).mono ?_
    rintro e w2 ⟨v, rfl, hr, hb⟩
    have HR := Lib.hid (And.intro (hr.mono HB.out.size) (HB.out.trans (hb.mono HB.out.size)))
    clear hr hb
    go_wp2_with fail
    go_ret2
    exact sb_of HE.out.symm rfl ⟨_, rfl, HR.out.1, HR.out.2⟩
set_option maxHeartbeats 400000 in
theorem implGreatestHangs_any (a : Option Addr) (cap : Nat) (xs : List Int) (w : World) (h : Hid (Ints w a xs)) (h64 : Hid (In64 xs)) (hn : xs.length ≤ 9223372036854775807) :
    Calls Try.prog 34 #[.slice a xs.length cap] w (SB (edgesW xs false) (Plain.wordB xs) w) := by
  cases hw : Plain.wordB xs with
  | false =>
    have HE := Lib.hid (edgesW_no (v := false) hw)
    have HW := Lib.hid hw
    have HS := Lib.hid (coll_res (coll_start w))
    clear hw
    go_enter Try.func34, Try.ntmps34
    go_wp2_with fail
    refine (isWord_any _ _ xs _ h h64 hn).mono ?_
    rw [HW.out]
    rintro e w' ⟨rfl, rfl⟩
    go_wp2_with fail
    go_ret2
    exact sb_of HE.out.symm rfl ⟨_, rfl, HS.out.1, HS.out.2⟩
  | true =>
    have m1 := (Plain.wordB_iff.1 hw).1
    have HL := Lib.hid (Plain.wordB_iff.1 hw).2
    have HE := Lib.hid (edgesW_yes (v := false) hw)
    have HW := Lib.hid hw
    clear hw
    go_enter Try.func34, Try.ntmps34
    go_wp2_with fail
    refine (isWord_any _ _ xs _ h h64 hn).mono ?_
    rw [HW.out]
    rintro e w' ⟨rfl, rfl⟩
    go_wp2_with fail
    refine (fallTable_any _ _ xs _ h HL (by omega)).mono ?_
    rintro e w1 ⟨rfl, hb⟩
    have HB := Lib.hid hb
    clear hb
    go_wp2_with fail
    refine (setsThat_isGreatest _ _).mono ?_
    rintro e w2 ⟨v, rfl, hr, hb⟩
    have HR := Lib.hid (And.intro (hr.mono HB.out.size) (HB.out.trans (hb.mono HB.out.size)))
    clear hr hb
    go_wp2_with fail
    go_ret2
    exact sb_of HE.out.symm rfl ⟨_, rfl, HR.out.1, HR.out.2⟩
set_option maxRecDepth 100000 in
set_option maxHeartbeats 800000 in
theorem mattering_any (t : Nat → Bool) (w : World) :
    Calls Try.prog 61 #[.agg (bools t)] w (Val (.int .i64 (Plain.uniTo t 64 : Nat)) w) := by
  have HT := Lib.hid (tabF_box w t)
  go_enter Try.func61, Try.ntmps61
  go_wp2_with fail
  obtain ⟨W, hW⟩ : ∃ W, W = w.alloc (.cells (bools t) 53) := ⟨_, rfl⟩
  rw [← hW] at HT ⊢
  clear hW
  go_loopw [3, 5] (fun v i wr => ∃ k : Nat, k ≤ 64 ∧ i = .int .i64 k ∧ v = .int .i64 (Plain.uniTo t k : Nat) ∧ TabF wr w.heap.size t ∧ Below w.heap.size w wr) (fun _ i _ => 64 - (intOf i).toNat)
  case atStart => exact ⟨0, Nat.zero_le _, rfl, rfl, HT.out.1, HT.out.2⟩
  case round =>
    obtain ⟨k, hk, rfl, rfl, hT, hB⟩ := hrel
    have HK := Lib.hid hT
    have HB := Lib.hid hB
    have hu := Plain.uniTo_lt t k
    by_cases hlt : k < 64
    · have hd := Plain.decN_lt t k
      have hor := or_small (Plain.uniTo t k) (Plain.decN t k) hu hd
      have hi : (k : Int) < 64 := by omega
      have hi0' : (0 : Int) ≤ (k : Int) := by omega
      clear hT hB
      go_wp2_with (refine wpList_load_row rfl 53 _ rfl w.heap.size rfl 53 (bools t) (0, 0) _ HK.out Try.underlying53 rfl info64f ?_)
      refine (deciders_any t k _ hlt).mono ?_
      rintro e w1 ⟨rfl, hb⟩
      have HK1 := Lib.hid (HK.out.on hb)
      have HB1 := Lib.hid (HB.out.trans (hb.mono HB.out.size))
      clear hb HK HB
      go_wp2_with fail
      go_roundw
      case rel => exact ⟨k + 1, by omega, by go_num, rfl, HK1.out, HB1.out⟩
      case measure => simp [intOf]; omega
    · obtain rfl : k = 64 := by omega
      clear hT hB
      go_wp2_with fail
      go_ret
      exact ⟨rfl, HB.out⟩
theorem mattering_word (xs : List Int) (w : World) :
    Calls Try.prog 61 #[.agg (bools (Plain.fallsB xs))] w (Val (.int .i64 (Plain.matter (Plain.fallsB xs) : Nat)) w) := by
  rw [← Plain.matter_falls xs]
  exact mattering_any _ w
set_option maxHeartbeats 400000 in
theorem implMatteringNails_any (a : Option Addr) (cap : Nat) (xs : List Int) (w : World) (h : Hid (Ints w a xs)) (h64 : Hid (In64 xs)) (hn : xs.length ≤ 9223372036854775807) :
    Calls Try.prog 36 #[.slice a xs.length cap] w (Val (.tuple #[.int .i64 (matterW xs : Nat), .bool (Plain.wordB xs)]) w) := by
  cases hw : Plain.wordB xs with
  | false =>
    have HE := Lib.hid (matterW_no hw)
    have HW := Lib.hid hw
    clear hw
    go_enter Try.func36, Try.ntmps36
    go_wp2_with fail
    refine (isWord_any _ _ xs _ h h64 hn).mono ?_
    rw [HW.out]
    rintro e w' ⟨rfl, rfl⟩
    go_wp2_with fail
    go_ret2
    exact val_ib HE.out.symm rfl ⟨rfl, Below.refl _ _⟩
  | true =>
    have m1 := (Plain.wordB_iff.1 hw).1
    have HL := Lib.hid (Plain.wordB_iff.1 hw).2
    have HE := Lib.hid (matterW_yes hw)
    have HW := Lib.hid hw
    clear hw
    go_enter Try.func36, Try.ntmps36
    go_wp2_with fail
    refine (isWord_any _ _ xs _ h h64 hn).mono ?_
    rw [HW.out]
    rintro e w' ⟨rfl, rfl⟩
    go_wp2_with fail
    refine (fallTable_any _ _ xs _ h HL (by omega)).mono ?_
    rintro e w1 ⟨rfl, hb⟩
    have HB := Lib.hid hb
    clear hb
    go_wp2_with fail
    refine (mattering_word xs _).mono ?_
    rintro e w2 ⟨rfl, hb⟩
    have HB2 := Lib.hid (HB.out.trans (hb.mono HB.out.size))
    clear hb
    go_wp2_with fail
    go_ret2
    exact val_ib HE.out.symm rfl ⟨rfl, HB2.out⟩

end Go.Proofs.Ytldomcinlngmlaa
