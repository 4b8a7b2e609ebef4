/- Contracts: spec.PowerWord, impl.PowerWord. Conditions: numbers of 64 bits, lengths that fit. -/
import Derived.Test.YteidddagpnfalaaPowWalks
import Derived.Test.YteidddagpnfalaaMostWalks
namespace Go.Proofs.Yteidddagpnfalaa
open Go.ChangeShapes Go.WideShapes Go.ChangeAt Go.RowKit
set_option linter.unusedVariables false

/-- What is raised to a power: the word, or its inverse. -/
def baseOf (xs : List Int) (n : Int) : List Int := if n < 0 then Plain.inv xs else xs
def powB (xs : List Int) (n : Int) : Bool := Plain.wordB xs && decide (-8 ≤ n ∧ n ≤ 8)
def powOut (xs : List Int) (n : Int) : List Int := if powB xs n = true then short (Plain.red (rep (baseOf xs n) n.natAbs)) else []
def powOk (xs : List Int) (n : Int) : Bool := powB xs n && shortB (Plain.red (rep (baseOf xs n) n.natAbs))
theorem pow_no {xs : List Int} {n : Int} (h : Plain.wordB xs = false ∨ ¬ (-8 ≤ n ∧ n ≤ 8)) : powOut xs n = [] ∧ powOk xs n = false := by
  have hb : powB xs n = false := by
    rcases h with h | h
    · simp [powB, h]
    · simp only [powB, decide_eq_false h, Bool.and_false]
  simp [powOut, powOk, hb]
theorem pow_pos {xs : List Int} {k : Nat} (h : Plain.wordB xs = true) (hk : k ≤ 8) : powOut xs (k : Int) = short (Plain.red (rep xs k)) ∧ powOk xs (k : Int) = shortB (Plain.red (rep xs k)) := by
  have hb : powB xs (k : Int) = true := by simp [powB, h]; omega
  have hn : ¬ ((k : Int) < 0) := by omega
  simp [powOut, powOk, hb, baseOf, hn]
theorem pow_neg {xs : List Int} {k : Nat} (h : Plain.wordB xs = true) (hk : k ≤ 8) (hk1 : 1 ≤ k) : powOut xs (-(k : Int)) = short (Plain.red (rep (Plain.inv xs) k)) ∧ powOk xs (-(k : Int)) = shortB (Plain.red (rep (Plain.inv xs) k)) := by
  have hb : powB xs (-(k : Int)) = true := by simp [powB, h]; omega
  have hk0 : 0 < k := by omega
  simp [powOut, powOk, hb, baseOf, hk0]
theorem pow_le (xs : List Int) (n : Int) : (powOut xs n).length ≤ 1048576 := by
  have := short_le (Plain.red (rep (baseOf xs n) n.natAbs))
  unfold powOut
  split
  · omega
  · simp
theorem red_rep_succ (bs : List Int) (q : Nat) : Plain.red (Plain.red (rep bs q) ++ bs) = Plain.red (rep bs (q + 1)) := by rw [Plain.red_red_append, rep_add, rep_one]
theorem red_rep_le {bs : List Int} {q : Nat} (h : bs.length ≤ 64) (hq : q ≤ 8) : (Plain.red (rep bs q)).length ≤ 512 := by
  refine Nat.le_trans (Plain.red_length _) ?_
  rw [rep_length]
  exact Nat.mul_le_mul h hq
theorem red_rep_letters {bs : List Int} (h : Plain.Letters bs) (q : Nat) : Plain.Letters (Plain.red (rep bs q)) := (rep_letters h q).red

/-- The loop's relation of spec.PowerWord. -/
def Powed (bs : List Int) (ab : Option Addr) (q : Nat) (w : World) (v : Value) (wr : World) : Prop := Res w.heap.size wr v (Plain.red (rep bs q)) ∧ Ints wr ab bs ∧ Below w.heap.size w wr
theorem powed_step {bs : List Int} {ab : Option Addr} {q : Nat} {w wr w1 : World} {v v1 : Value} (h : Powed bs ab q w v wr) (hr : Res wr.heap.size w1 v1 (Plain.red (Plain.red (rep bs q) ++ bs))) (hb : Below wr.heap.size wr w1) : Powed bs ab (q + 1) w v1 w1 := by
  rw [red_rep_succ] at hr
  exact ⟨hr.mono h.2.2.size, h.2.1.on hb, h.2.2.trans (hb.mono h.2.2.size)⟩

set_option maxRecDepth 100000 in
theorem specPow_no (a : Option Addr) (cap : Nat) (xs : List Int) (n : Int) (w : World) (h : Hid (Ints w a xs)) (hk : Hid (Cap a xs.length cap)) (h64 : Hid (In64 xs)) (hx : xs.length ≤ 9223372036854775807) (hr : -9223372036854775808 ≤ n ∧ n ≤ 9223372036854775807) (hno : Plain.wordB xs = false ∨ ¬ (-8 ≤ n ∧ n ≤ 8)) :
    Calls Try.prog 45 #[.slice a xs.length cap, .int .i64 n] w (SB [] false w) := by
  cases hw : Plain.wordB xs with
  | false =>
    have W1 := Lib.hid hw
    clear hw hno
    go_enter Try.func45, Try.ntmps45
    go_wp2_with fail
    refine (l2Word_any _ _ xs _ h h64 hx).mono ?_
    rw [W1.out]
    rintro e w' ⟨rfl, rfl⟩
    go_wp2
    go_ret2
    exact ⟨_, rfl, (coll_res (coll_start w)).1, (coll_start w).2.1⟩
  | true =>
    have hno2 : ¬ (-8 ≤ n ∧ n ≤ 8) := by
      rcases hno with h' | h'
      · rw [hw] at h'; cases h'
      · exact h'
    have W1 := Lib.hid hw
    have HR := Lib.hid hr
    clear hw hno
    have HD : Hid (decide (-8 ≤ n ∧ n ≤ 8) = false) := Lib.hid (decide_eq_false hno2)
    clear hr hno2
    go_enter Try.func45, Try.ntmps45
    go_wp2_with fail
    refine (l2Word_any _ _ xs _ h h64 hx).mono ?_
    rw [W1.out]
    rintro e w' ⟨rfl, rfl⟩
    go_wp2_with fail
    refine (l1In_any _ _ _ _ HR.out).mono ?_
    rw [HD.out]
    rintro e w' ⟨rfl, rfl⟩
    go_wp2
    go_ret2
    exact ⟨_, rfl, (coll_res (coll_start w)).1, (coll_start w).2.1⟩

set_option maxRecDepth 100000 in
theorem implPow_no (a : Option Addr) (cap : Nat) (xs : List Int) (n : Int) (w : World) (h : Hid (Ints w a xs)) (hk : Hid (Cap a xs.length cap)) (h64 : Hid (In64 xs)) (hx : xs.length ≤ 9223372036854775807) (hr : -9223372036854775808 ≤ n ∧ n ≤ 9223372036854775807) (hno : Plain.wordB xs = false ∨ ¬ (-8 ≤ n ∧ n ≤ 8)) :
    Calls Try.prog 44 #[.slice a xs.length cap, .int .i64 n] w (SB [] false w) := by
  cases hw : Plain.wordB xs with
  | false =>
    have W1 := Lib.hid hw
    clear hw hno
    go_enter Try.func44, Try.ntmps44
    go_wp2_with fail
    refine (isWord_any _ _ xs _ h h64 hx).mono ?_
    rw [W1.out]
    rintro e w' ⟨rfl, rfl⟩
    go_wp2
    go_ret2
    exact ⟨_, rfl, (coll_res (coll_start w)).1, (coll_start w).2.1⟩
  | true =>
    have hno2 : ¬ (-8 ≤ n ∧ n ≤ 8) := by
      rcases hno with h' | h'
      · rw [hw] at h'; cases h'
      · exact h'
    have W1 := Lib.hid hw
    have HR := Lib.hid hr
    clear hw hno
    by_cases hlo : n < -8
    · have hd : decide (n < -8) = true := by simpa using hlo
      clear hr hno2
      go_enter Try.func44, Try.ntmps44
      go_wp2_with fail
      refine (isWord_any _ _ xs _ h h64 hx).mono ?_
      rw [W1.out]
      rintro e w' ⟨rfl, rfl⟩
      go_wp2
      go_ret2
      exact ⟨_, rfl, (coll_res (coll_start w)).1, (coll_start w).2.1⟩
    · have hhi : 8 < n := by omega
      have hd : decide (n < -8) = false := by simpa using hlo
      have hd2 : decide (8 < n) = true := by simpa using hhi
      clear hr hno2
      go_enter Try.func44, Try.ntmps44
      go_wp2_with fail
      refine (isWord_any _ _ xs _ h h64 hx).mono ?_
      rw [W1.out]
      rintro e w' ⟨rfl, rfl⟩
      go_wp2
      go_ret2
      exact ⟨_, rfl, (coll_res (coll_start w)).1, (coll_start w).2.1⟩

set_option maxRecDepth 100000 in
set_option maxHeartbeats 800000 in
theorem specPow_pos (a : Option Addr) (cap : Nat) (xs : List Int) (k : Nat) (w : World) (h : Hid (Ints w a xs)) (hk : Hid (Cap a xs.length cap)) (h64 : Hid (In64 xs)) (hx : xs.length ≤ 9223372036854775807) (hw : Plain.wordB xs = true) (h8 : k ≤ 8) :
    Calls Try.prog 45 #[.slice a xs.length cap, .int .i64 (k : Int)] w (SB (powOut xs (k : Int)) (powOk xs (k : Int)) w) := by
  have HE := Lib.hid (pow_pos hw h8)
  have m1 := (Plain.wordB_iff.1 hw).1
  have L1 := Lib.hid (Plain.wordB_iff.1 hw).2
  have W1 := Lib.hid hw
  clear hw
  have HD : Hid (decide (-8 ≤ (k : Int) ∧ (k : Int) ≤ 8) = true) := Lib.hid (decide_eq_true (by omega))
  have hneg : ¬ ((k : Int) < 0) := by omega
  go_enter Try.func45, Try.ntmps45
  go_wp2_with fail
  refine (l2Word_any _ _ xs _ h h64 hx).mono ?_
  rw [W1.out]
  rintro e w' ⟨rfl, rfl⟩
  go_wp2_with fail
  refine (l1In_any _ _ _ _ (by omega)).mono ?_
  rw [HD.out]
  rintro e w' ⟨rfl, rfl⟩
  go_wp2_with fail
  refine (l1Own_any _ _ xs _ h hk (by omega)).mono ?_
  rintro e w1 ⟨v1, rfl, hC, -⟩
  obtain ⟨⟨a3, c3, rfl, hi3, -, hk3⟩, hb3⟩ := coll_res hC
  have I3 := Lib.hid hi3
  have K3 := Lib.hid hk3
  have B3 := Lib.hid hb3
  have H1 := Lib.hid (h.out.on hb3)
  clear hC hi3 hk3 hb3
  have K4 := K3
  have HS : Hid (Powed xs a3 0 w (.slice (some ⟨w1.heap.size, 0, none⟩) 0 0) (w1.alloc (.cells #[] 3))) := Lib.hid ⟨(coll_res (coll_start w1)).1.mono B3.out.size, I3.out.on ((Below.refl _ w1).alloc (Nat.le_refl _) _), B3.out.alloc B3.out.size _⟩
  go_wp2
  go_loopw [7, 8] (fun v i wr => ∃ q : Nat, q ≤ k ∧ i = .int .i64 q ∧ Powed xs a3 q w v wr) (fun _ i _ => k - (intOf i).toNat)
  case atStart => exact ⟨0, Nat.zero_le _, rfl, HS.out⟩
  case round =>
    obtain ⟨q, hq, rfl, hrel⟩ := hrel
    have HR := Lib.hid hrel
    obtain ⟨⟨a5, c5, rfl, hi5, ho5, hk5⟩, hib, hbw⟩ := hrel
    have I5 := Lib.hid hi5
    have O5 := Lib.hid ho5
    have K5 := Lib.hid hk5
    have IB := Lib.hid hib
    have BW := Lib.hid hbw
    have hl5 := red_rep_le (q := q) m1 (by omega)
    have L5 := Lib.hid (red_rep_letters L1.out q)
    obtain ⟨ys, hys⟩ : ∃ ys, ys = Plain.red (rep xs q) := ⟨_, rfl⟩
    rw [← hys] at I5 O5 K5 hl5 L5 ⊢
    have HY := Lib.hid hys
    clear hi5 ho5 hk5 hib hbw hys
    go_wp2_with fail
    refine (l1Most_ge _ _ _ (by omega) (by omega) (by omega)).mono ?_
    rintro e w' ⟨rfl, rfl⟩
    by_cases hlt : q < k
    · go_wp2_with fail
      refine (l2Join_any _ _ _ _ ys xs _ I5 K5 IB K4 L5 L1 (by omega)).mono ?_
      rintro e w6 ⟨v6, rfl, hr, hb⟩
      have HN := Lib.hid (powed_step HR.out (by rw [← HY.out]; exact hr) hb)
      clear hr hb
      go_wp2
      go_roundw
      case rel => exact ⟨q + 1, by omega, by go_num, HN.out⟩
      case measure => simp [intOf]; omega
    · obtain rfl : q = k := by omega
      go_wp2_with fail
      refine (l2Short_any _ _ ys _ I5 w.heap.size O5 K5 BW.out.size (by omega)).mono ?_
      rintro e w6 ⟨v6, rfl, hr, hb⟩
      have R := Lib.hid hr
      have B6 := Lib.hid (BW.out.trans (hb.mono BW.out.size))
      clear hr hb
      go_wp2
      go_ret2
      exact sb_eq (HE.out.1.trans (by rw [HY.out])) (HE.out.2.trans (by rw [HY.out])) ⟨_, rfl, R.out, B6.out⟩

set_option maxRecDepth 100000 in
set_option maxHeartbeats 800000 in
theorem implPow_pos (a : Option Addr) (cap : Nat) (xs : List Int) (k : Nat) (w : World) (h : Hid (Ints w a xs)) (hk : Hid (Cap a xs.length cap)) (h64 : Hid (In64 xs)) (hx : xs.length ≤ 9223372036854775807) (hw : Plain.wordB xs = true) (h8 : k ≤ 8) :
    Calls Try.prog 44 #[.slice a xs.length cap, .int .i64 (k : Int)] w (SB (powOut xs (k : Int)) (powOk xs (k : Int)) w) := by
  have HE := Lib.hid (pow_pos hw h8)
  have m1 := (Plain.wordB_iff.1 hw).1
  have L1 := Lib.hid (Plain.wordB_iff.1 hw).2
  have W1 := Lib.hid hw
  clear hw
  have hneg : ¬ ((k : Int) < 0) := by omega
  have hlr : (rep xs k).length ≤ 1048576 := by rw [rep_length]; exact Nat.le_trans (Nat.mul_le_mul m1 h8) (by decide)
  have LR := Lib.hid (rep_letters L1.out k)
  obtain ⟨rs, hrs⟩ : ∃ rs, rs = rep xs k := ⟨_, rfl⟩
  rw [← hrs] at hlr LR HE
  have HR := Lib.hid hrs
  clear hrs
  have hd1 : decide ((k : Int) < -8) = false := decide_eq_false (by omega)
  have hd2 : decide (8 < (k : Int)) = false := decide_eq_false (by omega)
  go_enter Try.func44, Try.ntmps44
  go_wp2_with fail
  refine (isWord_any _ _ xs _ h h64 hx).mono ?_
  rw [W1.out]
  rintro e w' ⟨rfl, rfl⟩
  have I4 := h
  have B4 := Lib.hid (Below.refl w.heap.size w)
  go_wp2_with fail
  refine (repeat_any _ _ xs k _ I4 m1 h8).mono ?_
  rw [← HR.out]
  rintro e w3 ⟨_, rfl, ⟨a5, c5, rfl, hi5, -, hk5⟩, hb5⟩
  have I5 := Lib.hid hi5
  have K5 := Lib.hid hk5
  have B5 := Lib.hid (B4.out.trans (hb5.mono B4.out.size))
  clear hi5 hk5 hb5
  go_wp2_with fail
  refine (product1_any a5 c5 rs _ _ I5 K5 LR hlr).mono ?_
  rintro e w4 ⟨v, rfl, hr, hb⟩
  have R := Lib.hid (hr.mono B5.out.size)
  have B6 := Lib.hid (B5.out.trans (hb.mono B5.out.size))
  clear hr hb
  go_wp2
  go_ret2
  exact sb_eq HE.out.1 HE.out.2 ⟨_, rfl, R.out, B6.out⟩

set_option maxRecDepth 100000 in
set_option maxHeartbeats 800000 in
theorem specPow_neg (a : Option Addr) (cap : Nat) (xs : List Int) (k : Nat) (w : World) (h : Hid (Ints w a xs)) (hk : Hid (Cap a xs.length cap)) (h64 : Hid (In64 xs)) (hx : xs.length ≤ 9223372036854775807) (hw : Plain.wordB xs = true) (h8 : k ≤ 8) (h1 : 1 ≤ k) :
    Calls Try.prog 45 #[.slice a xs.length cap, .int .i64 (-(k : Int))] w (SB (powOut xs (-(k : Int))) (powOk xs (-(k : Int))) w) := by
  have HE := Lib.hid (pow_neg hw h8 h1)
  have m1 := (Plain.wordB_iff.1 hw).1
  have L1 := Lib.hid (Plain.wordB_iff.1 hw).2
  have W1 := Lib.hid hw
  clear hw
  have HD : Hid (decide (-8 ≤ (-(k : Int)) ∧ (-(k : Int)) ≤ 8) = true) := Lib.hid (decide_eq_true (by omega))
  have m2 : (Plain.inv xs).length ≤ 64 := by rw [Plain.inv_length]; exact m1
  have L2 := Lib.hid L1.out.inv
  obtain ⟨bs, hbs⟩ : ∃ bs, bs = Plain.inv xs := ⟨_, rfl⟩
  rw [← hbs] at m2 L2 HE
  have HB := Lib.hid hbs
  clear hbs
  have hneg : -(k : Int) < 0 := by omega
  go_enter Try.func45, Try.ntmps45
  go_wp2_with fail
  refine (l2Word_any _ _ xs _ h h64 hx).mono ?_
  rw [W1.out]
  rintro e w' ⟨rfl, rfl⟩
  go_wp2_with fail
  refine (l1In_any _ _ _ _ (by omega)).mono ?_
  rw [HD.out]
  rintro e w' ⟨rfl, rfl⟩
  go_wp2_with fail
  refine (l1Own_any _ _ xs _ h hk (by omega)).mono ?_
  rintro e w1 ⟨v1, rfl, hC, -⟩
  obtain ⟨⟨a3, c3, rfl, hi3, -, hk3⟩, hb3⟩ := coll_res hC
  have I3 := Lib.hid hi3
  have K3 := Lib.hid hk3
  have B3 := Lib.hid hb3
  have H1 := Lib.hid (h.out.on hb3)
  clear hC hi3 hk3 hb3
  have PS : Hid (Below w.heap.size w (w1.alloc (.cells #[] 3)) ∧ w1.heap.size ≤ (w1.alloc (.cells #[] 3)).heap.size) := Lib.hid ⟨B3.out.alloc B3.out.size _, by simp⟩
  have Q0 : Hid (Res w1.heap.size (w1.alloc (.cells #[] 3)) (.slice (some ⟨w1.heap.size, 0, none⟩) 0 0) []) := Lib.hid (coll_res (coll_start w1)).1
  have H2 := Lib.hid (H1.out.on ((Below.refl _ w1).alloc (Nat.le_refl _) (.cells #[] 3)))
  go_wp2_with fail
  refine (l2Inverse_any _ _ xs _ H2 L1 (by omega)).mono ?_
  rw [← HB.out]
  rintro e w2 ⟨_, rfl, ⟨a4, c4, rfl, hi4, ho4, hk4⟩, hb4⟩
  have K4 := Lib.hid hk4
  have HS : Hid (Powed bs a4 0 w (.slice (some ⟨w1.heap.size, 0, none⟩) 0 0) w2) := Lib.hid ⟨((Q0.out.on hb4).mono B3.out.size), hi4, PS.out.1.trans (hb4.mono PS.out.1.size)⟩
  clear hi4 ho4 hk4 hb4
  go_wp2
  go_loopw [7, 8] (fun v i wr => ∃ q : Nat, q ≤ k ∧ i = .int .i64 q ∧ Powed bs a4 q w v wr) (fun _ i _ => k - (intOf i).toNat)
  case atStart => exact ⟨0, Nat.zero_le _, rfl, HS.out⟩
  case round =>
    obtain ⟨q, hq, rfl, hrel⟩ := hrel
    have HR := Lib.hid hrel
    obtain ⟨⟨a5, c5, rfl, hi5, ho5, hk5⟩, hib, hbw⟩ := hrel
    have I5 := Lib.hid hi5
    have O5 := Lib.hid ho5
    have K5 := Lib.hid hk5
    have IB := Lib.hid hib
    have BW := Lib.hid hbw
    have hl5 := red_rep_le (q := q) m2 (by omega)
    have L5 := Lib.hid (red_rep_letters L2.out q)
    obtain ⟨ys, hys⟩ : ∃ ys, ys = Plain.red (rep bs q) := ⟨_, rfl⟩
    rw [← hys] at I5 O5 K5 hl5 L5 ⊢
    have HY := Lib.hid hys
    clear hi5 ho5 hk5 hib hbw hys
    go_wp2_with fail
    refine (l1Most_le _ _ _ (by omega) (by omega) (by omega)).mono ?_
    rintro e w' ⟨rfl, rfl⟩
    by_cases hlt : q < k
    · go_wp2_with fail
      refine (l2Join_any _ _ _ _ ys bs _ I5 K5 IB K4 L5 L2 (by omega)).mono ?_
      rintro e w6 ⟨v6, rfl, hr, hb⟩
      have HN := Lib.hid (powed_step HR.out (by rw [← HY.out]; exact hr) hb)
      clear hr hb
      go_wp2
      go_roundw
      case rel => exact ⟨q + 1, by omega, by go_num, HN.out⟩
      case measure => simp [intOf]; omega
    · obtain rfl : q = k := by omega
      go_wp2_with fail
      refine (l2Short_any _ _ ys _ I5 w.heap.size O5 K5 BW.out.size (by omega)).mono ?_
      rintro e w6 ⟨v6, rfl, hr, hb⟩
      have R := Lib.hid hr
      have B6 := Lib.hid (BW.out.trans (hb.mono BW.out.size))
      clear hr hb
      go_wp2
      go_ret2
      exact sb_eq (HE.out.1.trans (by rw [HY.out])) (HE.out.2.trans (by rw [HY.out])) ⟨_, rfl, R.out, B6.out⟩

set_option maxRecDepth 100000 in
set_option maxHeartbeats 800000 in
theorem implPow_neg (a : Option Addr) (cap : Nat) (xs : List Int) (k : Nat) (w : World) (h : Hid (Ints w a xs)) (hk : Hid (Cap a xs.length cap)) (h64 : Hid (In64 xs)) (hx : xs.length ≤ 9223372036854775807) (hw : Plain.wordB xs = true) (h8 : k ≤ 8) (h1 : 1 ≤ k) :
    Calls Try.prog 44 #[.slice a xs.length cap, .int .i64 (-(k : Int))] w (SB (powOut xs (-(k : Int))) (powOk xs (-(k : Int))) w) := by
  have HE := Lib.hid (pow_neg hw h8 h1)
  have m1 := (Plain.wordB_iff.1 hw).1
  have L1 := Lib.hid (Plain.wordB_iff.1 hw).2
  have W1 := Lib.hid hw
  clear hw
  have m2 : (Plain.inv xs).length ≤ 64 := by rw [Plain.inv_length]; exact m1
  have L2 := Lib.hid L1.out.inv
  obtain ⟨bs, hbs⟩ : ∃ bs, bs = Plain.inv xs := ⟨_, rfl⟩
  rw [← hbs] at m2 L2 HE
  have HB := Lib.hid hbs
  clear hbs
  have hneg : -(k : Int) < 0 := by omega
  have hlr : (rep bs k).length ≤ 1048576 := by rw [rep_length]; exact Nat.le_trans (Nat.mul_le_mul m2 h8) (by decide)
  have LR := Lib.hid (rep_letters L2.out k)
  obtain ⟨rs, hrs⟩ : ∃ rs, rs = rep bs k := ⟨_, rfl⟩
  rw [← hrs] at hlr LR HE
  have HR := Lib.hid hrs
  clear hrs
  have hd1 : decide ((-(k : Int)) < -8) = false := decide_eq_false (by omega)
  have hd2 : decide (8 < (-(k : Int))) = false := decide_eq_false (by omega)
  go_enter Try.func44, Try.ntmps44
  go_wp2_with fail
  refine (isWord_any _ _ xs _ h h64 hx).mono ?_
  rw [W1.out]
  rintro e w' ⟨rfl, rfl⟩
  go_wp2_with fail
  refine (inverse_any _ _ xs _ h L1 (by omega)).mono ?_
  rw [← HB.out]
  rintro e w2 ⟨_, rfl, ⟨a4, c4, rfl, hi4, -, -⟩, hb4⟩
  have I4 := Lib.hid hi4
  have B4 := Lib.hid hb4
  clear hi4 hb4
  go_wp2_with fail
  refine (repeat_any _ _ bs k _ I4 m2 h8).mono ?_
  rw [← HR.out]
  rintro e w3 ⟨_, rfl, ⟨a5, c5, rfl, hi5, -, hk5⟩, hb5⟩
  have I5 := Lib.hid hi5
  have K5 := Lib.hid hk5
  have B5 := Lib.hid (B4.out.trans (hb5.mono B4.out.size))
  clear hi5 hk5 hb5
  go_wp2_with fail
  refine (product1_any a5 c5 rs _ _ I5 K5 LR hlr).mono ?_
  rintro e w4 ⟨v, rfl, hr, hb⟩
  have R := Lib.hid (hr.mono B5.out.size)
  have B6 := Lib.hid (B5.out.trans (hb.mono B5.out.size))
  clear hr hb
  go_wp2
  go_ret2
  exact sb_eq HE.out.1 HE.out.2 ⟨_, rfl, R.out, B6.out⟩

theorem specPow_any (a : Option Addr) (cap : Nat) (xs : List Int) (n : Int) (w : World) (h : Hid (Ints w a xs)) (hk : Hid (Cap a xs.length cap)) (h64 : Hid (In64 xs)) (hx : xs.length ≤ 9223372036854775807) (hr : -9223372036854775808 ≤ n ∧ n ≤ 9223372036854775807) :
    Calls Try.prog 45 #[.slice a xs.length cap, .int .i64 n] w (SB (powOut xs n) (powOk xs n) w) := by
  by_cases hw : Plain.wordB xs = true
  · by_cases h8 : -8 ≤ n ∧ n ≤ 8
    · by_cases hneg : n < 0
      · obtain ⟨k, rfl⟩ : ∃ k : Nat, n = -(k : Int) := ⟨n.natAbs, by omega⟩
        exact specPow_neg a cap xs k w h hk h64 hx hw (by omega) (by omega)
      · obtain ⟨k, rfl⟩ : ∃ k : Nat, n = (k : Int) := ⟨n.natAbs, by omega⟩
        exact specPow_pos a cap xs k w h hk h64 hx hw (by omega)
    · have := specPow_no a cap xs n w h hk h64 hx hr (.inr h8)
      have he := pow_no (xs := xs) (n := n) (.inr h8)
      rw [he.1, he.2]
      exact this
  · have hw' : Plain.wordB xs = false := by simpa using hw
    have := specPow_no a cap xs n w h hk h64 hx hr (.inl hw')
    have he := pow_no (xs := xs) (n := n) (.inl hw')
    rw [he.1, he.2]
    exact this
theorem implPow_any (a : Option Addr) (cap : Nat) (xs : List Int) (n : Int) (w : World) (h : Hid (Ints w a xs)) (hk : Hid (Cap a xs.length cap)) (h64 : Hid (In64 xs)) (hx : xs.length ≤ 9223372036854775807) (hr : -9223372036854775808 ≤ n ∧ n ≤ 9223372036854775807) :
    Calls Try.prog 44 #[.slice a xs.length cap, .int .i64 n] w (SB (powOut xs n) (powOk xs n) w) := by
  by_cases hw : Plain.wordB xs = true
  · by_cases h8 : -8 ≤ n ∧ n ≤ 8
    · by_cases hneg : n < 0
      · obtain ⟨k, rfl⟩ : ∃ k : Nat, n = -(k : Int) := ⟨n.natAbs, by omega⟩
        exact implPow_neg a cap xs k w h hk h64 hx hw (by omega) (by omega)
      · obtain ⟨k, rfl⟩ : ∃ k : Nat, n = (k : Int) := ⟨n.natAbs, by omega⟩
        exact implPow_pos a cap xs k w h hk h64 hx hw (by omega)
    · have := implPow_no a cap xs n w h hk h64 hx hr (.inr h8)
      have he := pow_no (xs := xs) (n := n) (.inr h8)
      rw [he.1, he.2]
      exact this
  · have hw' : Plain.wordB xs = false := by simpa using hw
    have := implPow_no a cap xs n w h hk h64 hx hr (.inl hw')
    have he := pow_no (xs := xs) (n := n) (.inl hw')
    rw [he.1, he.2]
    exact this
theorem bothPowerWord (xs : List Int) (h64 : Hid (In64 xs)) (hx : xs.length ≤ 1048576) (n : Int) (h1 : -9223372036854775808 ≤ n) (h2 : n ≤ 9223372036854775807) : ∃ (out : List Int) (ok : Bool), out.length ≤ 1048576 ∧
    (∀ a cap w, Hid (Ints w a xs) → Hid (Cap a xs.length cap) → Calls Try.prog 45 #[.slice a xs.length cap, .int .i64 n] w (SB out ok w)) ∧
    (∀ a cap w, Hid (Ints w a xs) → Hid (Cap a xs.length cap) → Calls Try.prog 44 #[.slice a xs.length cap, .int .i64 n] w (SB out ok w)) :=
  ⟨_, _, pow_le xs n, fun a cap w h hk => specPow_any a cap xs n w h hk h64 (by omega) ⟨h1, h2⟩, fun a cap w h hk => implPow_any a cap xs n w h hk h64 (by omega) ⟨h1, h2⟩⟩
end Go.Proofs.Yteidddagpnfalaa
