/- Contracts: spec.PowerWord, impl.PowerWord. Conditions: numbers of 64 bits, lengths that fit. -/
import Derived.Test.YtmcbaejgimopmaaGreatBdDrawWs
import Derived.Test.YtmcbaejgimopmaaGreatBdNailsWalks
import Derived.Test.YtmcbaejgimopmaaGreatPowWalks
namespace Go.Proofs.YtmcbaejgimopmaaGreat
open Go.ChangeShapes Go.WideShapes Go.ChangeAt Go.RowKit
set_option linter.unusedVariables false

/-- What is raised to a power: the word, or its inverse. -/
def baseOf (xs : List Int) (n : Int) : List Int := if n < 0 then Plain.inv xs else xs
def powB (xs : List Int) (n : Int) : Bool := Plain.wordB xs && decide (-8 ≤ n ∧ n ≤ 8)
def powOut (xs : List Int) (n : Int) : List Int := if powB xs n = true then short (Plain.red (rep (baseOf xs n) n.natAbs)) else []
def powOk (xs : List Int) (n : Int) : Bool := powB xs n && shortB (Plain.red (rep (baseOf xs n) n.natAbs))
theorem pow_no {xs : List Int} {n : Int} (h : Plain.wordB xs = false ∨ ¬ (-8 ≤ n ∧ n ≤ 8)) : powOut xs n = [] ∧ powOk xs n = false := by
  have hb : powB xs n = false := by
    rcases h with h | h
    · simp [powB, h]
    · simp only [powB, decide_eq_false h, Bool.and_false]
  simp [powOut, powOk, hb]
theorem pow_pos {xs : List Int} {k : Nat} (h : Plain.wordB xs = true) (hk : k ≤ 8) : powOut xs (k : Int) = short (Plain.red (rep xs k)) ∧ powOk xs (k : Int) = shortB (Plain.red (rep xs k)) := by
  have hb : powB xs (k : Int) = true := by simp [powB, h]; omega
  have hn : ¬ ((k : Int) < 0) := by omega
  simp [powOut, powOk, hb, baseOf, hn]
theorem pow_neg {xs : List Int} {k : Nat} (h : Plain.wordB xs = true) (hk : k ≤ 8) (hk1 : 1 ≤ k) : powOut xs (-(k : Int)) = short (Plain.red (rep (Plain.inv xs) k)) ∧ powOk xs (-(k : Int)) = shortB (Plain.red (rep (Plain.inv xs) k)) := by
  have hb : powB xs (-(k : Int)) = true := by simp [powB, h]; omega
  have hk0 : 0 < k := by omega
  simp [powOut, powOk, hb, baseOf, hk0]
theorem pow_le (xs : List Int) (n : Int) : (powOut xs n).length ≤ 1048576 := by
  have := short_le (Plain.red (rep (baseOf xs n) n.natAbs))
  unfold powOut
  split
  · omega
  · simp
theorem red_rep_succ (bs : List Int) (q : Nat) : Plain.red (Plain.red (rep bs q) ++ bs) = Plain.red (rep bs (q + 1)) := by rw [Plain.red_red_append, rep_add, rep_one]
theorem red_rep_le {bs : List Int} {q : Nat} (h : bs.length ≤ 64) (hq : q ≤ 8) : (Plain.red (rep bs q)).length ≤ 512 := by
  refine Nat.le_trans (Plain.red_length _) ?_
  rw [rep_length]
  exact Nat.mul_le_mul h hq
theorem red_rep_letters {bs : List Int} (h : Plain.Letters bs) (q : Nat) : Plain.Letters (Plain.red (rep bs q)) := (rep_letters h q).red

/-- The loop's relation of spec.PowerWord. -/
def Powed (bs : List Int) (ab : Option Addr) (q : Nat) (w : World) (v : Value) (wr : World) : Prop := Res w.heap.size wr v (Plain.red (rep bs q)) ∧ Ints wr ab bs ∧ Below w.heap.size w wr
theorem powed_step {bs : List Int} {ab : Option Addr} {q : Nat} {w wr w1 : World} {v v1 : Value} (h : Powed bs ab q w v wr) (hr : Res wr.heap.size w1 v1 (Plain.red (Plain.red (rep bs q) ++ bs))) (hb : Below wr.heap.size wr w1) : Powed bs ab (q + 1) w v1 w1 := by
  rw [red_rep_succ] at hr
  exact ⟨hr.mono h.2.2.size, h.2.1.on hb, h.2.2.trans (hb.mono h.2.2.size)⟩

set_option maxRecDepth 100000 in
theorem specPow_no (a : Option Addr) (cap : Nat) (xs : List Int) (n : Int) (w : World) (h : Hid (Ints w a xs)) (hk : Hid (Cap a xs.length cap)) (h64 : Hid (In64 xs)) (hx : xs.length ≤ 9223372036854775807) (hr : -9223372036854775808 ≤ n ∧ n ≤ 9223372036854775807) (hno : Plain.wordB xs = false ∨ ¬ (-8 ≤ n ∧ n ≤ 8)) :
    Calls Tryz.prog 33 #[.slice a xs.length cap, .int .i64 n] w (SB [] false w) := by
  cases hw : Plain.wordB xs with
  | false =>
    have W1 := Lib.hid hw
    clear hw hno
    go_enter Tryz.func33, Tryz.ntmps33
    go_wp2_with fail
    refine (l2Word_any _ _ xs _ h h64 hx).mono ?_
    rw [W1.out]
    rintro e w' ⟨rfl, rfl⟩
    go_wp2
    go_ret2
    exact ⟨_, rfl, (coll_res (coll_start w)).1, (coll_start w).2.1⟩
  | true =>
    have hno2 : ¬ (-8 ≤ n ∧ n ≤ 8) := by
      rcases hno with h' | h'
      · rw [hw] at h'; cases h'
      · exact h'
    have W1 := Lib.hid hw
    have HR := Lib.hid hr
    clear hw hno
    have HD : Hid (decide (-8 ≤ n ∧ n ≤ 8) = false) := Lib.hid (decide_eq_false hno2)
    clear hr hno2
    go_enter Tryz.func33, Tryz.ntmps33
    go_wp2_with fail
    refine (l2Word_any _ _ xs _ h h64 hx).mono ?_
    rw [W1.out]
    rintro e w' ⟨rfl, rfl⟩
    go_wp2_with fail
    refine (l1In_any _ _ _ _ HR.out).mono ?_
    rw [HD.out]
    rintro e w' ⟨rfl, rfl⟩
    go_wp2
    go_ret2
    exact ⟨_, rfl, (coll_res (coll_start w)).1, (coll_start w).2.1⟩


set_option maxRecDepth 100000 in
set_option maxHeartbeats 800000 in
theorem specPow_pos (a : Option Addr) (cap : Nat) (xs : List Int) (k : Nat) (w : World) (h : Hid (Ints w a xs)) (hk : Hid (Cap a xs.length cap)) (h64 : Hid (In64 xs)) (hx : xs.length ≤ 9223372036854775807) (hw : Plain.wordB xs = true) (h8 : k ≤ 8) :
    Calls Tryz.prog 33 #[.slice a xs.length cap, .int .i64 (k : Int)] w (SB (powOut xs (k : Int)) (powOk xs (k : Int)) w) := by
  have HE := Lib.hid (pow_pos hw h8)
  have m1 := (Plain.wordB_iff.1 hw).1
  have L1 := Lib.hid (Plain.wordB_iff.1 hw).2
  have W1 := Lib.hid hw
  clear hw
  have HD : Hid (decide (-8 ≤ (k : Int) ∧ (k : Int) ≤ 8) = true) := Lib.hid (decide_eq_true (by omega))
  have hneg : ¬ ((k : Int) < 0) := by omega
  go_enter Tryz.func33, Tryz.ntmps33
  go_wp2_with fail
  refine (l2Word_any _ _ xs _ h h64 hx).mono ?_
  rw [W1.out]
  rintro e w' ⟨rfl, rfl⟩
  go_wp2_with fail
  refine (l1In_any _ _ _ _ (by omega)).mono ?_
  rw [HD.out]
  rintro e w' ⟨rfl, rfl⟩
  go_wp2_with fail
  refine (l1Own_any _ _ xs _ h hk (by omega)).mono ?_
  rintro e w1 ⟨v1, rfl, hC, -⟩
  obtain ⟨⟨a3, c3, rfl, hi3, -, hk3⟩, hb3⟩ := coll_res hC
  have I3 := Lib.hid hi3
  have K3 := Lib.hid hk3
  have B3 := Lib.hid hb3
  have H1 := Lib.hid (h.out.on hb3)
  clear hC hi3 hk3 hb3
  have K4 := K3
  have HS : Hid (Powed xs a3 0 w (.slice (some ⟨w1.heap.size, 0, none⟩) 0 0) (w1.alloc (.cells #[] 3))) := Lib.hid ⟨(coll_res (coll_start w1)).1.mono B3.out.size, I3.out.on ((Below.refl _ w1).alloc (Nat.le_refl _) _), B3.out.alloc B3.out.size _⟩
  go_wp2
  go_loopw [7, 8] (fun v i wr => ∃ q : Nat, q ≤ k ∧ i = .int .i64 q ∧ Powed xs a3 q w v wr) (fun _ i _ => k - (intOf i).toNat)
  case atStart => exact ⟨0, Nat.zero_le _, rfl, HS.out⟩
  case round =>
    obtain ⟨q, hq, rfl, hrel⟩ := hrel
    have HR := Lib.hid hrel
    obtain ⟨⟨a5, c5, rfl, hi5, ho5, hk5⟩, hib, hbw⟩ := hrel
    have I5 := Lib.hid hi5
    have O5 := Lib.hid ho5
    have K5 := Lib.hid hk5
    have IB := Lib.hid hib
    have BW := Lib.hid hbw
    have hl5 := red_rep_le (q := q) m1 (by omega)
    have L5 := Lib.hid (red_rep_letters L1.out q)
    obtain ⟨ys, hys⟩ : ∃ ys, ys = Plain.red (rep xs q) := ⟨_, rfl⟩
    rw [← hys] at I5 O5 K5 hl5 L5 ⊢
    have HY := Lib.hid hys
    clear hi5 ho5 hk5 hib hbw hys
    go_wp2_with fail
    refine (l1Most_ge _ _ _ (by omega) (by omega) (by omega)).mono ?_
    rintro e w' ⟨rfl, rfl⟩
    by_cases hlt : q < k
    · go_wp2_with fail
      refine (l2Join_any _ _ _ _ ys xs _ I5 K5 IB K4 L5 L1 (by omega)).mono ?_
      rintro e w6 ⟨v6, rfl, hr, hb⟩
      have HN := Lib.hid (powed_step HR.out (by rw [← HY.out]; exact hr) hb)
      clear hr hb
      go_wp2
      go_roundw
      case rel => exact ⟨q + 1, by omega, by go_num, HN.out⟩
      case measure => simp [intOf]; omega
    · obtain rfl : q = k := by omega
      go_wp2_with fail
      refine (l2Short_any _ _ ys _ I5 w.heap.size O5 K5 BW.out.size (by omega)).mono ?_
      rintro e w6 ⟨v6, rfl, hr, hb⟩
      have R := Lib.hid hr
      have B6 := Lib.hid (BW.out.trans (hb.mono BW.out.size))
      clear hr hb
      go_wp2
      go_ret2
      exact sb_eq (HE.out.1.trans (by rw [HY.out])) (HE.out.2.trans (by rw [HY.out])) ⟨_, rfl, R.out, B6.out⟩


set_option maxRecDepth 100000 in
set_option maxHeartbeats 800000 in
theorem specPow_neg (a : Option Addr) (cap : Nat) (xs : List Int) (k : Nat) (w : World) (h : Hid (Ints w a xs)) (hk : Hid (Cap a xs.length cap)) (h64 : Hid (In64 xs)) (hx : xs.length ≤ 9223372036854775807) (hw : Plain.wordB xs = true) (h8 : k ≤ 8) (h1 : 1 ≤ k) :
    Calls Tryz.prog 33 #[.slice a xs.length cap, .int .i64 (-(k : Int))] w (SB (powOut xs (-(k : Int))) (powOk xs (-(k : Int))) w) := by
  have HE := Lib.hid (pow_neg hw h8 h1)
  have m1 := (Plain.wordB_iff.1 hw).1
  have L1 := Lib.hid (Plain.wordB_iff.1 hw).2
  have W1 := Lib.hid hw
  clear hw
  have HD : Hid (decide (-8 ≤ (-(k : Int)) ∧ (-(k : Int)) ≤ 8) = true) := Lib.hid (decide_eq_true (by omega))
  have m2 : (Plain.inv xs).length ≤ 64 := by rw [Plain.inv_length]; exact m1
  have L2 := Lib.hid L1.out.inv
  obtain ⟨bs, hbs⟩ : ∃ bs, bs = Plain.inv xs := ⟨_, rfl⟩
  rw [← hbs] at m2 L2 HE
  have HB := Lib.hid hbs
  clear hbs
  have hneg : -(k : Int) < 0 := by omega
  go_enter Tryz.func33, Tryz.ntmps33
  go_wp2_with fail
  refine (l2Word_any _ _ xs _ h h64 hx).mono ?_
  rw [W1.out]
  rintro e w' ⟨rfl, rfl⟩
  go_wp2_with fail
  refine (l1In_any _ _ _ _ (by omega)).mono ?_
  rw [HD.out]
  rintro e w' ⟨rfl, rfl⟩
  go_wp2_with fail
  refine (l1Own_any _ _ xs _ h hk (by omega)).mono ?_
  rintro e w1 ⟨v1, rfl, hC, -⟩
  obtain ⟨⟨a3, c3, rfl, hi3, -, hk3⟩, hb3⟩ := coll_res hC
  have I3 := Lib.hid hi3
  have K3 := Lib.hid hk3
  have B3 := Lib.hid hb3
  have H1 := Lib.hid (h.out.on hb3)
  clear hC hi3 hk3 hb3
  have PS : Hid (Below w.heap.size w (w1.alloc (.cells #[] 3)) ∧ w1.heap.size ≤ (w1.alloc (.cells #[] 3)).heap.size) := Lib.hid ⟨B3.out.alloc B3.out.size _, by simp⟩
  have Q0 : Hid (Res w1.heap.size (w1.alloc (.cells #[] 3)) (.slice (some ⟨w1.heap.size, 0, none⟩) 0 0) []) := Lib.hid (coll_res (coll_start w1)).1
  have H2 := Lib.hid (H1.out.on ((Below.refl _ w1).alloc (Nat.le_refl _) (.cells #[] 3)))
  go_wp2_with fail
  refine (l2Inverse_any _ _ xs _ H2 L1 (by omega)).mono ?_
  rw [← HB.out]
  rintro e w2 ⟨_, rfl, ⟨a4, c4, rfl, hi4, ho4, hk4⟩, hb4⟩
  have K4 := Lib.hid hk4
  have HS : Hid (Powed bs a4 0 w (.slice (some ⟨w1.heap.size, 0, none⟩) 0 0) w2) := Lib.hid ⟨((Q0.out.on hb4).mono B3.out.size), hi4, PS.out.1.trans (hb4.mono PS.out.1.size)⟩
  clear hi4 ho4 hk4 hb4
  go_wp2
  go_loopw [7, 8] (fun v i wr => ∃ q : Nat, q ≤ k ∧ i = .int .i64 q ∧ Powed bs a4 q w v wr) (fun _ i _ => k - (intOf i).toNat)
  case atStart => exact ⟨0, Nat.zero_le _, rfl, HS.out⟩
  case round =>
    obtain ⟨q, hq, rfl, hrel⟩ := hrel
    have HR := Lib.hid hrel
    obtain ⟨⟨a5, c5, rfl, hi5, ho5, hk5⟩, hib, hbw⟩ := hrel
    have I5 := Lib.hid hi5
    have O5 := Lib.hid ho5
    have K5 := Lib.hid hk5
    have IB := Lib.hid hib
    have BW := Lib.hid hbw
    have hl5 := red_rep_le (q := q) m2 (by omega)
    have L5 := Lib.hid (red_rep_letters L2.out q)
    obtain ⟨ys, hys⟩ : ∃ ys, ys = Plain.red (rep bs q) := ⟨_, rfl⟩
    rw [← hys] at I5 O5 K5 hl5 L5 ⊢
    have HY := Lib.hid hys
    clear hi5 ho5 hk5 hib hbw hys
    go_wp2_with fail
    refine (l1Most_le _ _ _ (by omega) (by omega) (by omega)).mono ?_
    rintro e w' ⟨rfl, rfl⟩
    by_cases hlt : q < k
    · go_wp2_with fail
      refine (l2Join_any _ _ _ _ ys bs _ I5 K5 IB K4 L5 L2 (by omega)).mono ?_
      rintro e w6 ⟨v6, rfl, hr, hb⟩
      have HN := Lib.hid (powed_step HR.out (by rw [← HY.out]; exact hr) hb)
      clear hr hb
      go_wp2
      go_roundw
      case rel => exact ⟨q + 1, by omega, by go_num, HN.out⟩
      case measure => simp [intOf]; omega
    · obtain rfl : q = k := by omega
      go_wp2_with fail
      refine (l2Short_any _ _ ys _ I5 w.heap.size O5 K5 BW.out.size (by omega)).mono ?_
      rintro e w6 ⟨v6, rfl, hr, hb⟩
      have R := Lib.hid hr
      have B6 := Lib.hid (BW.out.trans (hb.mono BW.out.size))
      clear hr hb
      go_wp2
      go_ret2
      exact sb_eq (HE.out.1.trans (by rw [HY.out])) (HE.out.2.trans (by rw [HY.out])) ⟨_, rfl, R.out, B6.out⟩


theorem specPow_any (a : Option Addr) (cap : Nat) (xs : List Int) (n : Int) (w : World) (h : Hid (Ints w a xs)) (hk : Hid (Cap a xs.length cap)) (h64 : Hid (In64 xs)) (hx : xs.length ≤ 9223372036854775807) (hr : -9223372036854775808 ≤ n ∧ n ≤ 9223372036854775807) :
    Calls Tryz.prog 33 #[.slice a xs.length cap, .int .i64 n] w (SB (powOut xs n) (powOk xs n) w) := by
  by_cases hw : Plain.wordB xs = true
  · by_cases h8 : -8 ≤ n ∧ n ≤ 8
    · by_cases hneg : n < 0
      · obtain ⟨k, rfl⟩ : ∃ k : Nat, n = -(k : Int) := ⟨n.natAbs, by omega⟩
        exact specPow_neg a cap xs k w h hk h64 hx hw (by omega) (by omega)
      · obtain ⟨k, rfl⟩ : ∃ k : Nat, n = (k : Int) := ⟨n.natAbs, by omega⟩
        exact specPow_pos a cap xs k w h hk h64 hx hw (by omega)
    · have := specPow_no a cap xs n w h hk h64 hx hr (.inr h8)
      have he := pow_no (xs := xs) (n := n) (.inr h8)
      rw [he.1, he.2]
      exact this
  · have hw' : Plain.wordB xs = false := by simpa using hw
    have := specPow_no a cap xs n w h hk h64 hx hr (.inl hw')
    have he := pow_no (xs := xs) (n := n) (.inl hw')
    rw [he.1, he.2]
    exact this
end Go.Proofs.YtmcbaejgimopmaaGreat

/- Contracts: spec.DrawLeftLength, DrawBalancedLength, DrawCommutatorOf, DrawLeftWord, DrawWicksParts hand back numbers in bounds and lists of at most 100 numbers, in memory of their own. Condition: the code's bytes lie in memory. -/
namespace Go.Proofs.YtmcbaejgimopmaaGreat
open Go.ChangeShapes Go.WideShapes Go.ChangeAt Go.RowKit
set_option linter.unusedVariables false

/-- A number in bounds. -/
def IntDraw (W : World) (e : Ending) (W' : World) : Prop := ∃ n : Int, e = .returned (.int .i64 n) ∧ -1000 ≤ n ∧ n ≤ 1000 ∧ Below W.heap.size W W'
set_option maxRecDepth 100000 in
set_option maxHeartbeats 1000000 in
theorem drawLeftLen_any (a : Option Addr) (len cap : Nat) (W : World) (h : Hid (Code8 W a len)) :
    Calls Tryz.prog 16 #[.slice a len cap] W (IntDraw W) := by
  obtain ⟨W0, hW0⟩ : ∃ W0, W0 = W.alloc (.cells #[.slice a len cap, .int .i64 0, .int .u64 0] 48) := ⟨_, rfl⟩
  have hz : W0.heap.size = W.heap.size + 1 := by rw [hW0]; simp
  have HC : Hid (Calls Tryz.prog 34 #[.pointer (some ⟨W.heap.size, 0, none⟩), .slice (some ⟨W.heap.size + 1, 0, none⟩) 10 10] (W0.alloc (.cells #[.int .i64 1, .int .i64 2, .int .i64 3, .int .i64 4, .int .i64 5, .int .i64 6, .int .i64 10, .int .i64 40, .int .i64 41, .int .i64 0] 3)) (IntDraw W)) := Lib.hid (by
    have k := pickInt W.heap.size len cap 0 a [1, 2, 3, 4, 5, 6, 10, 40, 41, 0] W0 3 (Lib.hid (by rw [hW0]; exact Held.fresh cap h.out)) (by simp) (by omega) (by simp)
    simp only [intVals, List.map_cons, List.map_nil, List.length_cons, List.length_nil] at k
    rw [hz] at k
    refine Calls.mono k ?_
    rintro e W1 ⟨j, n, rfl, hn, hH, hg⟩
    have hmem : n ∈ [1, 2, 3, 4, 5, 6, 10, 40, 41, 0] := List.mem_of_getElem? hn
    rw [hW0] at hg
    exact ⟨n, rfl, by simp at hmem; omega, by simp at hmem; omega, below_of hg⟩)
  rw [hW0] at HC
  clear hW0 hz
  go_enter Tryz.func16, Tryz.ntmps16
  go_wp2_with fail
  refine HC.out.mono ?_
  rintro e W1 ⟨n, rfl, h1⟩
  have H1 := Lib.hid h1
  clear h1
  go_wp2_with fail
  go_ret
  exact ⟨n, rfl, H1.out⟩
set_option maxRecDepth 100000 in
set_option maxHeartbeats 1000000 in
theorem drawBalLen_any (a : Option Addr) (len cap : Nat) (W : World) (h : Hid (Code8 W a len)) :
    Calls Tryz.prog 19 #[.slice a len cap] W (IntDraw W) := by
  go_enter Tryz.func19, Tryz.ntmps19
  go_wp2_with fail
  refine (pick_any W.heap.size len cap 0 40 a _ (Lib.hid (Held.fresh cap h.out)) (by omega) (by omega)).mono ?_
  rintro e W1 ⟨k, rfl, hk, hH, hg⟩
  have HH := Lib.hid hH
  have HG := Lib.hid hg
  have hk2 : k ≤ 39 := by omega
  clear hH hg hk
  go_wp2_with fail
  refine (pickInt W.heap.size len cap _ a [0, 0, 0, 0, 0, 0, -40, 40] W1 _ HH (by simp) (by omega) (by simp)).mono ?_
  rintro e W2 ⟨j, n, rfl, hn, hH, hg⟩
  have hmem : n ∈ [0, 0, 0, 0, 0, 0, -40, 40] := List.mem_of_getElem? hn
  have hn1 : -40 ≤ n := by simp at hmem; omega
  have hn2 : n ≤ 40 := by simp at hmem; omega
  have HB := Lib.hid (below_of (HG.out.trans hg))
  clear hH hg hn hmem
  go_wp2_with fail
  go_ret
  exact ⟨_, rfl, by omega, by omega, HB.out⟩

theorem powOut_fine {xs : List Int} {n : Int} : In64 (powOut xs n) ∧ (powOut xs n).length ≤ 100 := by
  unfold powOut
  split
  · rename_i h
    have hw : Plain.wordB xs = true := by
      unfold powB at h
      rw [Bool.and_eq_true] at h
      exact h.1
    have hl := (Plain.wordB_iff.1 hw).2
    have hb : Plain.Letters (baseOf xs n) := by
      unfold baseOf
      split
      · exact hl.inv
      · exact hl
    refine ⟨?_, Nat.le_trans (short_le _) (by omega)⟩
    unfold short
    split
    · exact letters_in64 (red_rep_letters hb _)
    · intro j x hj
      simp at hj
  · exact ⟨fun j x hj => by simp at hj, by simp⟩
set_option maxRecDepth 100000 in
set_option maxHeartbeats 1000000 in
theorem drawComm_any (a : Option Addr) (len cap : Nat) (W : World) (h : Hid (Code8 W a len)) :
    Calls Tryz.prog 5 #[.slice a len cap] W (PairDraw W) := by
  go_enter Tryz.func5, Tryz.ntmps5
  go_wp2_with fail
  refine (word_any W.heap.size len cap 0 a _ (Lib.hid (Held.fresh cap h.out)) (by omega)).mono ?_
  intro e W1 hp
  obtain ⟨v, xs, rfl, h64, hl, hf⟩ := first_of hp
  have F1 := Lib.hid hf
  have H64 := Lib.hid h64
  clear hp hf h64
  obtain ⟨av, cv, rfl, hI, hO, hcp⟩ := F1.out.2.1
  clear hI hO hcp
  go_wp2_with fail
  refine (one_any W.heap.size len cap _ 6 a _ (Lib.hid F1.out.2.2) (by omega) (by omega)).mono ?_
  rintro e W2 ⟨b, rfl, hH, hg⟩
  have F2 := Lib.hid (F1.out.cur hH hg)
  clear hH hg F1
  cases b with
  | false =>
    go_wp2_with fail
    refine (word_any W.heap.size len cap _ a _ (Lib.hid F2.out.2.2) (by omega)).mono ?_
    rintro e W3 ⟨v2, ys, rfl, h64y, hly, hr, hH, hg⟩
    have HP := Lib.hid (Fst.pair (m' := 0) F2.out H64.out (by omega) h64y (by omega) hr hg)
    clear h64y hr hH hg
    go_wp2_with fail
    go_ret2
    exact HP.out
  | true =>
    go_wp2_with fail
    refine (pickInt W.heap.size len cap _ a [1, -1, 2] W2 _ (Lib.hid F2.out.2.2) (by simp) (by omega) (by simp)).mono ?_
    rintro e W3 ⟨j, n, rfl, hn, hH, hg⟩
    have hmem : n ∈ [1, -1, 2] := List.mem_of_getElem? hn
    have hn1 : -1 ≤ n := by simp at hmem; omega
    have hn2 : n ≤ 2 := by simp at hmem; omega
    have F3 := Lib.hid (F2.out.cur hH hg)
    clear hH hg hn hmem F2
    obtain ⟨av', cv', e', hI, hO, hcp⟩ := F3.out.2.1
    cases e'
    have HI := Lib.hid hI
    have HK := Lib.hid hcp
    clear hI hO hcp
    go_wp2_with fail
    refine (specPow_any av cv xs n _ HI HK H64 (by omega) (by omega)).mono ?_
    rintro e W4 ⟨v2, rfl, hr, hb⟩
    have HP := Lib.hid (Fst.pair (m' := 0) F3.out H64.out (by omega) (powOut_fine (xs := xs) (n := n)).1 powOut_fine.2 hr ⟨hb.os, hb.tape, hb.output, hb.size, fun j hj _ => hb.block j hj⟩)
    clear hr hb
    go_wp2_with fail
    go_ret2
    exact HP.out

end Go.Proofs.YtmcbaejgimopmaaGreat
