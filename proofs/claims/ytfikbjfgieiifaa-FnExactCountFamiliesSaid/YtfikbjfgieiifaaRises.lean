/- Contract: spec.l5Rises. Condition: tables of at most 16 bits. -/
import Derived.Test.YtfikbjfgieiifaaSetKit
namespace Go.Proofs.Ytfikbjfgieiifaa
open Go.ChangeShapes Go.WideShapes Go.ChangeAt Go.RowKit
set_option linter.unusedVariables false

/-- A table of bits keeps the rule at a set and a nail. -/
def pairB (t s i : Nat) : Bool := !(t.testBit s) || t.testBit (s ||| 2 ^ i)
def risesB (n t : Nat) : Bool := (List.range (2 ^ n)).all fun s => (List.range n).all fun i => pairB t s i
theorem rises_no {n t s i : Nat} (hs : s < 2 ^ n) (hi : i < n) (h : pairB t s i = false) : risesB n t = false := by
  cases hr : risesB n t with
  | false => rfl
  | true =>
    have h1 := List.all_eq_true.1 (List.all_eq_true.1 hr s (List.mem_range.2 hs)) i (List.mem_range.2 hi)
    rw [h] at h1
    cases h1
theorem rises_yes {n t : Nat} (h : ∀ s i, s < 2 ^ n → i < n → pairB t s i = true) : risesB n t = true :=
  List.all_eq_true.2 fun s hs => List.all_eq_true.2 fun i hi => h s i (List.mem_range.1 hs) (List.mem_range.1 hi)
theorem and_one_i64 (a : Nat) (ha : a < 65536) : bits .and .i64 (a : Int) 1 = ((a % 2 : Nat) : Int) := by
  show IntKind.i64.wrap ((BitVec.ofInt 64 (a : Int) &&& BitVec.ofInt 64 1).toNat : Int) = _
  rw [BitVec.toNat_and, ofInt_u64 a (by omega), show (BitVec.ofInt 64 1).toNat = 1 from rfl, Nat.and_one_is_mod]
  exact IntWalk.i64_in _ (by omega)
theorem bit16 (t k : Nat) (ht : t < 65536) : bits .and .i64 ((t : Int) / 2 ^ k) 1 = if t.testBit k = true then 1 else 0 := by
  have e : (t : Int) / 2 ^ k = ((t / 2 ^ k : Nat) : Int) := by simp
  rw [e, and_one_i64 _ (Nat.lt_of_le_of_lt (Nat.div_le_self _ _) ht), Nat.testBit_eq_decide_div_mod_eq]
  have : t / 2 ^ k % 2 = 0 ∨ t / 2 ^ k % 2 = 1 := by omega
  rcases this with h | h <;> rw [h] <;> simp
theorem wrap_pow {j : Nat} (h : j < 4) : wrap64 ((2 : Int) ^ j) = ((2 ^ j : Nat) : Int) := by
  have : j = 0 ∨ j = 1 ∨ j = 2 ∨ j = 3 := by omega
  rcases this with rfl | rfl | rfl | rfl <;> first | (simp [wrap64]; done) | (unfold wrap64; decide) | (unfold wrap64; omega)

set_option maxRecDepth 100000 in
set_option maxHeartbeats 800000 in
theorem l5Rises_any (t n : Nat) (w : World) (ht : t < 65536) (hn : n ≤ 4) :
    Calls Try.prog 37 #[.int .i64 (t : Int), .int .i64 (n : Int)] w (fun e w' => e = .returned (.bool (risesB n t)) ∧ w' = w) := by
  obtain ⟨N, hN⟩ : ∃ N, N = 2 ^ n := ⟨_, rfl⟩
  have hN16 : N ≤ 16 := by rw [hN]; exact Nat.le_trans (Nat.pow_le_pow_right (by decide) hn) (by decide)
  have hpow : (2 : Int) ^ n = (N : Int) := by rw [hN]; simp
  have HN := Lib.hid hN
  clear hN
  go_enter Try.func37, Try.ntmps37
  go_wp2_with fail
  go_loop [5] (fun i => ∃ k : Nat, k ≤ N ∧ i = .int .i64 k ∧ ∀ s i, s < k → i < n → pairB t s i = true) (fun i => N - (intOf i).toNat)
  case atStart => exact ⟨0, Nat.zero_le _, rfl, fun s i h => by omega⟩
  case round =>
    obtain ⟨k, hk, rfl, hrel⟩ := hrel
    have HA := Lib.hid hrel
    clear hrel
    by_cases hlt : k < N
    · have hi : (k : Int) < (N : Int) := by omega
      have hi0' : (0 : Int) ≤ (k : Int) := by omega
      go_wp2_with fail
      go_loop [6] (fun i => ∃ j : Nat, j ≤ n ∧ i = .int .i64 j ∧ ∀ i, i < j → pairB t k i = true) (fun i => n - (intOf i).toNat)
      case atStart => exact ⟨0, Nat.zero_le _, rfl, fun i h => by omega⟩
      case round =>
        obtain ⟨j, hj, rfl, hrel⟩ := hrel
        have HB := Lib.hid hrel
        clear hrel
        by_cases hlt2 : j < n
        · have hi2 : (j : Int) < (n : Int) := by omega
          have hi2' : (0 : Int) ≤ (j : Int) := by omega
          obtain ⟨P, hP⟩ : ∃ P, P = 2 ^ j := ⟨_, rfl⟩
          have hP8 : P ≤ 8 := by rw [hP]; exact Nat.le_trans (Nat.pow_le_pow_right (n := 2) (by decide) (show j ≤ 3 by omega)) (by decide)
          have hwp : wrap64 ((2 : Int) ^ j) = (P : Int) := by rw [hP]; exact wrap_pow (by omega)
          obtain ⟨Q, hQ⟩ : ∃ Q, Q = k ||| P := ⟨_, rfl⟩
          have hor : bits .or .i64 (k : Int) (P : Int) = (Q : Int) := by rw [hQ]; exact or_small k P (by omega) (by omega)
          have hQ0 : (0 : Int) ≤ (Q : Int) := by omega
          have hQ64 : Q < 64 := by rw [hQ]; exact Nat.or_lt_two_pow (n := 6) (by omega) (by omega)
          have hmin : min Q 64 = Q := by omega
          have hb1 := bit16 t k ht
          have hb2 := bit16 t Q ht
          have hpb : pairB t k j = (!(t.testBit k) || t.testBit Q) := by rw [hQ, hP]; rfl
          clear hP hQ
          cases h1 : t.testBit k with
          | false =>
            rw [h1] at hb1 hpb
            have HP : Hid (∀ i, i < j + 1 → pairB t k i = true) := Lib.hid (fun i hi => by
              by_cases e : i = j
              · subst e; rw [hpb]; rfl
              · exact HB.out i (by omega))
            simp only [Bool.false_eq_true, if_false] at hb1
            clear hpb h1 hb2
            go_wp2_with fail
            go_round
            case rel => exact ⟨j + 1, by omega, by go_num, HP.out⟩
            case measure => simp [intOf]; omega
          | true =>
            rw [h1] at hb1 hpb
            simp only [if_true] at hb1
            cases h2 : t.testBit Q with
            | true =>
              rw [h2] at hb2 hpb
              have HP : Hid (∀ i, i < j + 1 → pairB t k i = true) := Lib.hid (fun i hi => by
                by_cases e : i = j
                · subst e; rw [hpb]; rfl
                · exact HB.out i (by omega))
              simp only [if_true] at hb2
              clear hpb h1 h2
              go_wp2_with fail
              go_round
              case rel => exact ⟨j + 1, by omega, by go_num, HP.out⟩
              case measure => simp [intOf]; omega
            | false =>
              rw [h2] at hb2 hpb
              have HE : Hid (risesB n t = false) := Lib.hid (rises_no (by rw [← HN.out]; exact hlt) hlt2 (hpb.trans rfl))
              simp only [Bool.false_eq_true, if_false] at hb2
              clear hpb h1 h2
              go_wp2_with fail
              go_ret
              exact ⟨ret_bool HE.out.symm, rfl⟩
        · obtain rfl : j = n := by omega
          have HP : Hid (∀ s i, s < k + 1 → i < j → pairB t s i = true) := Lib.hid (fun s i' hs' hi' => by
            by_cases e : s = k
            · subst e; exact HB.out i' hi'
            · exact HA.out s i' (by omega) hi')
          clear HA HB
          go_wp2_with fail
          go_round
          case rel => exact ⟨k + 1, by omega, by go_num, HP.out⟩
          case measure => simp [intOf]; omega
    · obtain rfl : k = N := by omega
      have HE : Hid (risesB n t = true) := Lib.hid (rises_yes (fun s i hs hi => HA.out s i (by rw [HN.out]; exact hs) hi))
      clear HA
      go_wp2_with fail
      go_ret
      exact ⟨ret_bool HE.out.symm, rfl⟩

end Go.Proofs.Ytfikbjfgieiifaa
