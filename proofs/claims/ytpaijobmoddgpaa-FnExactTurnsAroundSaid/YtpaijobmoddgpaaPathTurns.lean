/- Contracts: TurnsAround of both programs. Condition: texts that fit, a number of 64 bits. -/
import Derived.Test.YtpaijobmoddgpaaPathRead
import Derived.Test.YtpaijobmoddgpaaNailOf
namespace Go.Proofs.Ytpaijobmoddgpaa
open Go.ChangeShapes Go.WideShapes Go.ChangeAt Go.RowKit
set_option linter.unusedVariables false
set_option linter.unusedSimpArgs false

def turn1 (n x : Int) : Int := if x = n then 1 else if x = -n then -1 else 0
def turnN (n : Int) : List Int → Int
  | [] => 0
  | x :: xs => turn1 n x + turnN n xs
theorem turnN_snoc (n : Int) (xs : List Int) (x : Int) : turnN n (xs ++ [x]) = turnN n xs + turn1 n x := by
  induction xs with
  | nil => simp [turnN]
  | cons y ys ih => simp only [List.cons_append, turnN, ih]; omega
theorem turn1_bd (n x : Int) : -1 ≤ turn1 n x ∧ turn1 n x ≤ 1 := by
  unfold turn1
  split
  · omega
  · split <;> omega
theorem turnN_bd (n : Int) (xs : List Int) : -(xs.length : Int) ≤ turnN n xs ∧ turnN n xs ≤ xs.length := by
  induction xs with
  | nil => simp [turnN]
  | cons x xs ih =>
    have := turn1_bd n x
    simp only [turnN, List.length_cons]
    omega
def turnsV (l : List UInt8) (n : Int) : Int := if Plain.pathB l = true ∧ (1 ≤ n ∧ n ≤ 6) then turnN n (Plain.letsTo l l.length) else 0
def turnsB (l : List UInt8) (n : Int) : Bool := Plain.pathB l && decide (1 ≤ n ∧ n ≤ 6)
def TurnsPost (l : List UInt8) (n : Int) (w : World) (e : Ending) (w' : World) : Prop := Val (.tuple #[.int .i64 (turnsV l n), .bool (turnsB l n)]) w e w'
theorem turns_no {l : List UInt8} {n : Int} (h : Plain.pathB l = false ∨ ¬ (1 ≤ n ∧ n ≤ 6)) : turnsV l n = 0 ∧ turnsB l n = false := by
  unfold turnsV turnsB
  rcases h with h | h
  · rw [h]; simp
  · rw [if_neg (fun e => h e.2), decide_eq_false h]; simp
theorem turns_yes {l : List UInt8} {n : Int} (h : Plain.pathB l = true) (hn : 1 ≤ n ∧ n ≤ 6) : turnsV l n = turnN n (Plain.letsTo l l.length) ∧ turnsB l n = true := by
  unfold turnsV turnsB
  rw [if_pos ⟨h, hn⟩, h, decide_eq_true hn]; simp
set_option maxRecDepth 100000 in
set_option maxHeartbeats 3200000 in
theorem specTurns_any (s : ByteArray) (l : List UInt8) (hl0 : Hid (l = s.data.toList)) (n : Int) (w : World) (hs : s.size ≤ 9223372036854775807) (hn64 : -9223372036854775808 ≤ n ∧ n ≤ 9223372036854775807) : Calls Try.prog 52 #[.string s, .int .i64 n] w (Val (.tuple #[.int .i64 (turnsV l n), .bool (turnsB l n)]) w) := by
  cases hp : Plain.pathB l with
  | false =>
    have HP := Lib.hid hp
    obtain ⟨e1, e2⟩ := turns_no (n := n) (Or.inl hp)
    rw [e1, e2]
    clear hp e1 e2
    go_enter Try.func52, Try.ntmps52
    go_wp2_with fail
    refine (specIsPath_any s l hl0 _ hs).mono ?_
    rw [HP.out]
    rintro e w1 ⟨rfl, hb⟩
    have HB1 := Lib.hid hb
    clear hb
    go_wp2_with fail
    go_ret2
    exact ⟨rfl, HB1.out⟩
  | true =>
    have HP := Lib.hid hp
    by_cases hn : 1 ≤ n ∧ n ≤ 6
    · obtain ⟨e1, e2⟩ := turns_yes hp hn
      rw [e1, e2]
      have hln := (Plain.path_ok hp).1
      have hll := Plain.letsTo_le l l.length
      have hlt0 := Plain.letsTo_letters l l.length
      have HW : Hid (∀ W, Calls Try.prog 59 #[.string s] W (LettersPost (Plain.letsTo l l.length) W)) := Lib.hid (fun W => l10Word_any s l hl0 W hs HP)
      have HNL : Hid (∀ W, Calls Try.prog 84 #[.int .i64 n, .int .i64 1, .int .i64 6] W fun e w' => e = .returned (.bool true) ∧ W = w') := Lib.hid (fun W => by have := l1In_any n 1 6 W hn64; rw [decide_eq_true hn] at this; exact this)
      obtain ⟨hn1, hn2⟩ := hn
      generalize Plain.letsTo l l.length = zs at hll hlt0 HW ⊢
      have hzl : zs.length ≤ 400 := Nat.le_trans hll hln
      have HLT := Lib.hid hlt0
      clear hp e1 e2 hll hlt0
      go_enter Try.func52, Try.ntmps52
      go_wp2_with fail
      refine (specIsPath_any s l hl0 _ hs).mono ?_
      rw [HP.out]
      rintro e w1 ⟨rfl, hb⟩
      have HB1 := Lib.hid hb
      clear hb
      go_wp2_with fail
      refine (HNL.out _).mono ?_
      rintro e w' ⟨rfl, rfl⟩
      go_wp2_with fail
      refine (HW.out _).mono ?_
      rintro e w2 ⟨v, rfl, hC⟩
      have hC2 := coll_back hC HB1.out
      obtain ⟨⟨a, c, rfl, hi, -, -⟩, hb2⟩ := coll_res hC2
      have HI := Lib.hid hi
      have HB2 := Lib.hid hb2
      clear hC hC2 hi hb2
      go_wp2_with fail
      go_loop [6, 8] (fun t i => ∃ k : Nat, k ≤ zs.length ∧ i = .int .i64 k ∧ t = .int .i64 (turnN n (zs.take k))) (fun _ i => zs.length - (intOf i).toNat)
      case atStart => exact ⟨0, Nat.zero_le _, rfl, rfl⟩
      case round =>
        obtain ⟨k, hk, rfl, rfl⟩ := hrel
        have hbd := turnN_bd n (zs.take k)
        rw [List.length_take] at hbd
        have hbd1 : -400 ≤ turnN n (zs.take k) ∧ turnN n (zs.take k) ≤ 400 := by omega
        obtain ⟨ht1, ht2⟩ := hbd1
        clear hbd
        by_cases hlt : k < zs.length
        · obtain ⟨x, hx⟩ := at_some zs k hlt
          obtain ⟨b, o, rfl, hc⟩ := HI.out k x hx
          have HS : Hid (turnN n (zs.take (k + 1)) = turnN n (zs.take k) + turn1 n x) := Lib.hid (by rw [Plain.take_snoc hx, turnN_snoc])
          clear hx
          generalize turnN n (zs.take k) = T at HS ht1 ht2 ⊢
          by_cases h1 : x = n
          · have HS2 : Hid (turnN n (zs.take (k + 1)) = T + 1) := Lib.hid (by rw [HS.out, turn1, if_pos h1])
            subst h1
            have hne : (x == -x) = false := by simp; omega
            go_wp2_with fail
            go_round
            case rel => exact ⟨k + 1, by omega, by go_num, by rw [HS2.out]⟩
            case measure => simp [intOf]; omega
          · have hne : (x == n) = false := by simpa using h1
            by_cases h2 : x = -n
            · have HS2 : Hid (turnN n (zs.take (k + 1)) = T - 1) := Lib.hid (by rw [HS.out, turn1, if_neg h1, if_pos h2]; omega)
              subst h2
              go_wp2_with fail
              go_round
              case rel => exact ⟨k + 1, by omega, by go_num, by rw [HS2.out]⟩
              case measure => simp [intOf]; omega
            · have HS2 : Hid (turnN n (zs.take (k + 1)) = T) := Lib.hid (by rw [HS.out, turn1, if_neg h1, if_neg h2]; omega)
              have hne2 : (x == -n) = false := by simpa using h2
              go_wp2_with fail
              go_round
              case rel => exact ⟨k + 1, by omega, by go_num, by rw [HS2.out]⟩
              case measure => simp [intOf]; omega
        · obtain rfl : k = zs.length := by omega
          clear hlt
          go_wp2_with fail
          go_ret2
          exact ⟨rfl, HB2.out⟩
    · obtain ⟨e1, e2⟩ := turns_no (l := l) (Or.inr hn)
      rw [e1, e2]
      have HNL : Hid (∀ W, Calls Try.prog 84 #[.int .i64 n, .int .i64 1, .int .i64 6] W fun e w' => e = .returned (.bool false) ∧ W = w') := Lib.hid (fun W => by have := l1In_any n 1 6 W hn64; rw [decide_eq_false hn] at this; exact this)
      clear hp e1 e2
      go_enter Try.func52, Try.ntmps52
      go_wp2_with fail
      refine (specIsPath_any s l hl0 _ hs).mono ?_
      rw [HP.out]
      rintro e w1 ⟨rfl, hb⟩
      have HB1 := Lib.hid hb
      clear hb
      go_wp2_with fail
      refine (HNL.out _).mono ?_
      rintro e w' ⟨rfl, rfl⟩
      go_wp2_with fail
      go_ret2
      exact ⟨rfl, HB1.out⟩
set_option maxRecDepth 100000 in
set_option maxHeartbeats 3200000 in
theorem implTurns_any (s : ByteArray) (l : List UInt8) (hl0 : Hid (l = s.data.toList)) (n : Int) (w : World) (hs : s.size ≤ 9223372036854775807) : Calls Try.prog 53 #[.string s, .int .i64 n] w (Val (.tuple #[.int .i64 (turnsV l n), .bool (turnsB l n)]) w) := by
  cases hp : Plain.pathB l with
  | false =>
    have HP := Lib.hid hp
    obtain ⟨e1, e2⟩ := turns_no (n := n) (Or.inl hp)
    rw [e1, e2]
    clear hp e1 e2
    go_enter Try.func53, Try.ntmps53
    go_wp2_with fail
    refine (trailOf_any s l hl0 _ hs).mono ?_
    rintro e w1 ⟨v, rfl, hr, hb⟩
    rw [HP.out]
    have HB1 := Lib.hid hb
    clear hr hb
    go_wp2_with fail
    go_ret2
    exact ⟨rfl, HB1.out⟩
  | true =>
    have HP := Lib.hid hp
    by_cases hn : 1 ≤ n ∧ n ≤ 6
    · obtain ⟨e1, e2⟩ := turns_yes hp hn
      rw [e1, e2]
      have hln := (Plain.path_ok hp).1
      have hll := Plain.letsTo_le l l.length
      have hlt0 := Plain.letsTo_letters l l.length
      have HW : Hid (∀ g cap W, Hid (Pts W (some ⟨g, 0, none⟩) (Plain.pts l)) → Calls Try.prog 60 #[.slice (some ⟨g, 0, none⟩) (l.length + 1) cap] W (LettersPost (Plain.letsTo l l.length) W)) := Lib.hid (fun g cap W h => word10_any l g cap W HP h)
      have HNL : Hid (∀ W, Calls Try.prog 85 #[.int .i64 n] W fun e w' => e = .returned (.bool true) ∧ W = w') := Lib.hid (fun W => by have := isNail10_any n W; rw [decide_eq_true hn] at this; exact this)
      obtain ⟨hn1, hn2⟩ := hn
      generalize Plain.letsTo l l.length = zs at hll hlt0 HW ⊢
      have hzl : zs.length ≤ 400 := Nat.le_trans hll hln
      have HLT := Lib.hid hlt0
      clear hp e1 e2 hll hlt0
      go_enter Try.func53, Try.ntmps53
      go_wp2_with fail
      refine (trailOf_any s l hl0 _ hs).mono ?_
      rintro e w1 ⟨v, rfl, hr, hb⟩
      obtain ⟨g, cap, rfl, hg1, hg2, hpts, hcap, hcapm⟩ := trail_pts hr HP.out
      rw [HP.out]
      have HB1 := Lib.hid hb
      have HPT := Lib.hid hpts
      clear hr hb hpts hg1 hg2
      go_wp2_with fail
      refine (HNL.out _).mono ?_
      rintro e w' ⟨rfl, rfl⟩
      go_wp2_with fail
      refine (HW.out g cap _ HPT).mono ?_
      rintro e w2 ⟨v, rfl, hC⟩
      have hC2 := coll_back hC HB1.out
      obtain ⟨⟨a, c, rfl, hi, -, -⟩, hb2⟩ := coll_res hC2
      have HI := Lib.hid hi
      have HB2 := Lib.hid hb2
      clear hC hC2 hi hb2
      go_wp2_with fail
      go_loop [8, 26] (fun t i => ∃ k : Nat, k ≤ zs.length ∧ i = .int .i64 k ∧ t = .int .i64 (turnN n (zs.take k))) (fun _ i => zs.length - (intOf i).toNat)
      case atStart => exact ⟨0, Nat.zero_le _, rfl, rfl⟩
      case round =>
        obtain ⟨k, hk, rfl, rfl⟩ := hrel
        have hbd := turnN_bd n (zs.take k)
        rw [List.length_take] at hbd
        have hbd1 : -400 ≤ turnN n (zs.take k) ∧ turnN n (zs.take k) ≤ 400 := by omega
        obtain ⟨ht1, ht2⟩ := hbd1
        clear hbd
        by_cases hlt : k < zs.length
        · obtain ⟨x, hx⟩ := at_some zs k hlt
          obtain ⟨b, o, rfl, hc⟩ := HI.out k x hx
          have hx0 := HLT.out x (List.mem_of_getElem? hx)
          have HS : Hid (turnN n (zs.take (k + 1)) = turnN n (zs.take k) + turn1 n x) := Lib.hid (by rw [Plain.take_snoc hx, turnN_snoc])
          have HNO : Hid (∀ W, Calls Try.prog 86 #[.int .i64 x] W fun e w' => e = .returned (.int .i64 (Plain.nail x)) ∧ W = w') := Lib.hid (fun W => nailOf_left x W hx0.2)
          clear hx hx0
          generalize turnN n (zs.take k) = T at HS ht1 ht2 ⊢
          by_cases h1 : x = n
          · have HS2 : Hid (turnN n (zs.take (k + 1)) = T + 1) := Lib.hid (by rw [HS.out, turn1, if_pos h1])
            subst h1
            have HNN : Hid (Plain.nail x = x) := Lib.hid (if_pos (by omega))
            rw [HNN.out] at HNO
            have hq : x / x = 1 := Int.ediv_self (by omega)
            go_wp2_with fail
            refine (HNO.out _).mono ?_
            rintro e w' ⟨rfl, rfl⟩
            go_wp2_with fail
            go_round
            case rel => exact ⟨k + 1, by omega, by go_num, by rw [HS2.out]⟩
            case measure => simp [intOf]; omega
          · by_cases h2 : x = -n
            · have HS2 : Hid (turnN n (zs.take (k + 1)) = T + -1) := Lib.hid (by rw [HS.out, turn1, if_neg h1, if_pos h2])
              subst h2
              have HNN : Hid (Plain.nail (-n) = n) := Lib.hid (by unfold Plain.nail; rw [if_neg (by omega)]; omega)
              rw [HNN.out] at HNO
              have hq : (-n).tdiv n = -1 := by rw [Int.neg_tdiv, Int.tdiv_self (by omega)]
              go_wp2_with fail
              refine (HNO.out _).mono ?_
              rintro e w' ⟨rfl, rfl⟩
              go_wp2_with fail
              go_round
              case rel => exact ⟨k + 1, by omega, by go_num, by rw [HS2.out]⟩
              case measure => simp [intOf]; omega
            · have HS2 : Hid (turnN n (zs.take (k + 1)) = T) := Lib.hid (by rw [HS.out, turn1, if_neg h1, if_neg h2]; omega)
              have hne2 : (Plain.nail x == n) = false := by
                rw [beq_eq_false_iff_ne]
                unfold Plain.nail
                split <;> omega
              go_wp2_with fail
              refine (HNO.out _).mono ?_
              rintro e w' ⟨rfl, rfl⟩
              go_wp2_with fail
              go_round
              case rel => exact ⟨k + 1, by omega, by go_num, by rw [HS2.out]⟩
              case measure => simp [intOf]; omega
        · obtain rfl : k = zs.length := by omega
          clear hlt
          go_wp2_with fail
          go_ret2
          exact ⟨rfl, HB2.out⟩
    · obtain ⟨e1, e2⟩ := turns_no (l := l) (Or.inr hn)
      rw [e1, e2]
      have HNL : Hid (∀ W, Calls Try.prog 85 #[.int .i64 n] W fun e w' => e = .returned (.bool false) ∧ W = w') := Lib.hid (fun W => by have := isNail10_any n W; rw [decide_eq_false hn] at this; exact this)
      clear hp e1 e2
      go_enter Try.func53, Try.ntmps53
      go_wp2_with fail
      refine (trailOf_any s l hl0 _ hs).mono ?_
      rintro e w1 ⟨v, rfl, hr, hb⟩
      rw [HP.out]
      have HB1 := Lib.hid hb
      clear hr hb
      go_wp2_with fail
      refine (HNL.out _).mono ?_
      rintro e w' ⟨rfl, rfl⟩
      go_wp2_with fail
      go_ret2
      exact ⟨rfl, HB1.out⟩
end Go.Proofs.Ytpaijobmoddgpaa
