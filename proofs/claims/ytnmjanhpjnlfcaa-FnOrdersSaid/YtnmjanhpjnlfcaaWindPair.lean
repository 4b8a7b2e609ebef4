/- Contracts: CoefficientOf, PairSum, AreaOf of both; spec.l8Pair. Conditions: numbers of 64 bits, lengths that fit. -/
import Derived.Test.YtnmjanhpjnlfcaaWindGet
namespace Go.Proofs.Ytnmjanhpjnlfcaa
open Go.ChangeShapes Go.WideShapes Go.ChangeAt Go.RowKit
set_option linter.unusedVariables false

theorem ret_ib8 {a b : Int} {c d : Bool} (h1 : a = b) (h2 : c = d) : Ending.returned (.tuple #[.int .i64 a, .bool c]) = .returned (.tuple #[.int .i64 b, .bool d]) := by rw [h1, h2]
/-- What CoefficientOf answers. -/
def coefB (xs ls : List Int) : Bool := Plain.wordB xs && Plain.listB ls
def coefW (xs ls : List Int) : Int := if coefB xs ls = true then Plain.cof xs (Plain.placeL ls) else 0
theorem coef_no {xs ls : List Int} (h : coefB xs ls = false) : coefW xs ls = 0 := if_neg (by rw [h]; simp)
theorem coef_yes {xs ls : List Int} (h : coefB xs ls = true) : coefW xs ls = Plain.cof xs (Plain.placeL ls) := if_pos h
theorem coef_small (xs ls : List Int) : -262144 ≤ coefW xs ls ∧ coefW xs ls ≤ 262144 := by
  cases h : coefB xs ls with
  | false => rw [coef_no h]; omega
  | true =>
    rw [coef_yes h]
    simp only [coefB, Bool.and_eq_true] at h
    exact Plain.small_cof (Plain.wordB_iff.1 h.1).1 _ (Plain.place_lt259 h.2)
theorem len3 {ls : List Int} (h : Plain.listB ls = true) : ls.length ≤ 3 := (Plain.listB_iff.1 h).1

set_option maxRecDepth 100000 in
set_option maxHeartbeats 800000 in
theorem implCoefficientOf_any (a b : Option Addr) (cap cap2 : Nat) (xs ls : List Int) (w : World) (h : Hid (Ints w a xs)) (h2 : Hid (Ints w b ls)) (h64 : Hid (In64 xs)) (h642 : Hid (In64 ls)) (hn : xs.length ≤ 1048576) (hn2 : ls.length ≤ 1048576) :
    Calls Try.prog 21 #[.slice a xs.length cap, .slice b ls.length cap2] w (Val (.tuple #[.int .i64 (coefW xs ls), .bool (coefB xs ls)]) w) := by
  cases hw : Plain.wordB xs with
  | false =>
    have hc : coefB xs ls = false := by simp [coefB, hw]
    have E1 := Lib.hid (coef_no hc)
    have E2 := Lib.hid hc
    have HW := Lib.hid hw
    clear hw hc
    go_enter Try.func21, Try.ntmps21
    go_wp2_with fail
    refine (isWord_any _ _ xs _ h h64 (by omega)).mono ?_
    rw [HW.out]
    rintro e w1 ⟨rfl, rfl⟩
    go_wp2_with fail
    go_ret2
    exact ⟨ret_ib8 E1.out.symm E2.out.symm, Below.refl _ _⟩
  | true =>
    cases hL : Plain.listB ls with
    | false =>
      have hc : coefB xs ls = false := by simp [coefB, hL]
      have E1 := Lib.hid (coef_no hc)
      have E2 := Lib.hid hc
      have HW := Lib.hid hw
      have HL := Lib.hid hL
      clear hw hc hL
      go_enter Try.func21, Try.ntmps21
      go_wp2_with fail
      refine (isWord_any _ _ xs _ h h64 (by omega)).mono ?_
      rw [HW.out]
      rintro e w1 ⟨rfl, rfl⟩
      go_wp2_with fail
      refine (isList_any _ _ ls _ h2 h642 (by omega)).mono ?_
      rw [HL.out]
      rintro e w2 ⟨rfl, rfl⟩
      go_wp2_with fail
      go_ret2
      exact ⟨ret_ib8 E1.out.symm E2.out.symm, Below.refl _ _⟩
    | true =>
      have hc : coefB xs ls = true := by simp [coefB, hw, hL]
      obtain ⟨C, hC⟩ : ∃ C, C = Plain.cutC (Plain.cntL (ls.length + 1)) (Plain.cof xs) := ⟨_, rfl⟩
      have hlt := Plain.place_lt259 hL
      have E1 : Hid (coefW xs ls = C (Plain.placeL ls)) := Lib.hid (by rw [hC, coef_yes hc, Plain.cutC_in (Plain.place_lt hL)])
      have E2 := Lib.hid hc
      have HW := Lib.hid hw
      have HL := Lib.hid hL
      have h3 := len3 hL
      have HLet := Lib.hid (Plain.wordB_iff.1 hw).2
      have h64l := (Plain.wordB_iff.1 hw).1
      have HCC := Lib.hid hC
      clear hw hc hL hC
      have HCall := Lib.hid (fun (w3 : World) (h3' : Hid (Ints w3 a xs)) => coefficients_any a cap ls.length xs w3 h3' HLet h64l h3)
      rw [← HCC.out] at HCall
      have HPl := Lib.hid (fun (w3 : World) (h3' : Hid (Ints w3 b ls)) => placeOf_any b cap2 ls w3 h3' HL h3)
      obtain ⟨P, hP⟩ : ∃ P, P = Plain.placeL ls := ⟨_, rfl⟩
      rw [← hP] at HPl E1 hlt
      clear hP HCC
      have hfc : ∀ w3 : World, Sem.run Try.prog (Instr.field 55 (.agg (coefs (ls.length : Int) C)) 1) w3 = .ok (.agg (c259 C)) w3 := field_coefs _ C
      have hix : ∀ w3 : World, Sem.run Try.prog (Instr.index 53 (.agg (c259 C)) (.int .i64 (P : Int))) w3 = .ok (.int .i64 (C P)) w3 := fun w3 => index_c259 C P w3 (by omega)
      go_enter Try.func21, Try.ntmps21
      go_wp2_with fail
      refine (isWord_any _ _ xs _ h h64 (by omega)).mono ?_
      rw [HW.out]
      rintro e w1 ⟨rfl, rfl⟩
      go_wp2_with fail
      refine (isList_any _ _ ls _ h2 h642 (by omega)).mono ?_
      rw [HL.out]
      rintro e w2 ⟨rfl, rfl⟩
      go_wp2_with fail
      refine (HCall.out _ h).mono ?_
      rintro e w3 ⟨rfl, hb⟩
      have B3 := Lib.hid hb
      have HI3 := Lib.hid (h2.out.on hb)
      clear hb
      go_wp2_with fail
      refine (HPl.out _ HI3).mono ?_
      rintro e w4 ⟨rfl, rfl⟩
      go_wp2_with fail
      go_ret2
      exact ⟨ret_ib8 E1.out.symm E2.out.symm, B3.out⟩

/-! two different nails -/
theorem ints_pair (w : World) (m n : Int) : Ints (w.alloc (.cells #[.int .i64 m, .int .i64 n] 3)) (some ⟨w.heap.size, 0, none⟩) [m, n] := fun j x hx => by
  refine ⟨_, _, rfl, ?_⟩
  rw [cell_of_row _ _ _ _ _ _ (heap_alloc_new w _)]
  match j, hx with
  | 0, hx => simp at hx; subst hx; rfl
  | 1, hx => simp at hx; subst hx; rfl
def pairB (xs : List Int) (m n : Int) : Bool := !(m == n) && coefB xs [m, n]
def pairW (xs : List Int) (m n : Int) : Int := if m = n then 0 else coefW xs [m, n]
theorem pair_same {xs : List Int} {m n : Int} (h : m = n) : pairW xs m n = 0 ∧ pairB xs m n = false := by simp [pairW, pairB, h]
theorem pair_other {xs : List Int} {m n : Int} (h : m ≠ n) : pairW xs m n = coefW xs [m, n] ∧ pairB xs m n = coefB xs [m, n] := by simp [pairW, pairB, h]
theorem pair_no {xs : List Int} {m n : Int} (h : pairB xs m n = false) : pairW xs m n = 0 := by
  unfold pairW
  split
  · rfl
  · rename_i hne
    exact coef_no (by simpa [pairB, hne] using h)
theorem pair_small (xs : List Int) (m n : Int) : -262144 ≤ pairW xs m n ∧ pairW xs m n ≤ 262144 := by
  unfold pairW
  split
  · omega
  · exact coef_small _ _
theorem pair_yes {xs : List Int} {m n : Int} (h : pairB xs m n = true) : m ≠ n ∧ Plain.wordB xs = true ∧ ∃ M N : Nat, M ≤ 5 ∧ N ≤ 5 ∧ m = (M : Int) + 1 ∧ n = (N : Int) + 1 ∧ pairW xs m n = Plain.cof xs (6 + (M * 6 + N) + 1) := by
  have hne : m ≠ n := fun e => by rw [(pair_same e).2] at h; cases h
  rw [(pair_other hne).2] at h
  have hv := coef_yes h
  simp only [coefB, Bool.and_eq_true] at h
  have hl := (Plain.listB_iff.1 h.2).2
  have h1 := hl m (by simp)
  have h2 := hl n (by simp)
  refine ⟨hne, h.1, (m - 1).toNat, (n - 1).toNat, by omega, by omega, by omega, by omega, ?_⟩
  rw [(pair_other hne).1, hv]
  congr 1
  simp [Plain.placeL]; omega
theorem pair_turn (xs : List Int) (m n : Int) : pairB xs n m = pairB xs m n := by
  simp only [pairB, coefB, Plain.listB, Plain.nails8, List.all_cons, List.all_nil, Bool.and_true, List.length_cons, List.length_nil]
  rw [Bool.and_comm (Plain.nail8 n), show (n == m) = (m == n) from BEq.comm]


end Go.Proofs.Ytnmjanhpjnlfcaa
