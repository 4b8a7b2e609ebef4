/- Contracts: CoefficientOf, PairSum, AreaOf of both; spec.l8Pair. Conditions: numbers of 64 bits, lengths that fit. -/
import Derived.Test.YticekahpmjjmkaaWindGet
namespace Go.Proofs.Yticekahpmjjmkaa
open Go.ChangeShapes Go.WideShapes Go.ChangeAt Go.RowKit
set_option linter.unusedVariables false

theorem ret_ib8 {a b : Int} {c d : Bool} (h1 : a = b) (h2 : c = d) : Ending.returned (.tuple #[.int .i64 a, .bool c]) = .returned (.tuple #[.int .i64 b, .bool d]) := by rw [h1, h2]
/-- What CoefficientOf answers. -/
def coefB (xs ls : List Int) : Bool := Plain.wordB xs && Plain.listB ls
def coefW (xs ls : List Int) : Int := if coefB xs ls = true then Plain.cof xs (Plain.placeL ls) else 0
theorem coef_no {xs ls : List Int} (h : coefB xs ls = false) : coefW xs ls = 0 := if_neg (by rw [h]; simp)
theorem coef_yes {xs ls : List Int} (h : coefB xs ls = true) : coefW xs ls = Plain.cof xs (Plain.placeL ls) := if_pos h
theorem coef_small (xs ls : List Int) : -262144 ≤ coefW xs ls ∧ coefW xs ls ≤ 262144 := by
  cases h : coefB xs ls with
  | false => rw [coef_no h]; omega
  | true =>
    rw [coef_yes h]
    simp only [coefB, Bool.and_eq_true] at h
    exact Plain.small_cof (Plain.wordB_iff.1 h.1).1 _ (Plain.place_lt259 h.2)
theorem len3 {ls : List Int} (h : Plain.listB ls = true) : ls.length ≤ 3 := (Plain.listB_iff.1 h).1

set_option maxRecDepth 100000 in
set_option maxHeartbeats 800000 in
theorem specCoefficientOf_any (a b : Option Addr) (cap cap2 : Nat) (xs ls : List Int) (w : World) (h : Hid (Ints w a xs)) (h2 : Hid (Ints w b ls)) (h64 : Hid (In64 xs)) (h642 : Hid (In64 ls)) (hn : xs.length ≤ 1048576) (hn2 : ls.length ≤ 1048576) :
    Calls Try.prog 17 #[.slice a xs.length cap, .slice b ls.length cap2] w (Val (.tuple #[.int .i64 (coefW xs ls), .bool (coefB xs ls)]) w) := by
  cases hw : Plain.wordB xs with
  | false =>
    have hc : coefB xs ls = false := by simp [coefB, hw]
    have E1 := Lib.hid (coef_no hc)
    have E2 := Lib.hid hc
    have HW := Lib.hid hw
    clear hw hc
    go_enter Try.func17, Try.ntmps17
    go_wp2_with fail
    refine (l2Word_any _ _ xs _ h h64 (by omega)).mono ?_
    rw [HW.out]
    rintro e w1 ⟨rfl, rfl⟩
    go_wp2_with fail
    go_ret2
    exact ⟨ret_ib8 E1.out.symm E2.out.symm, Below.refl _ _⟩
  | true =>
    cases hL : Plain.listB ls with
    | false =>
      have hc : coefB xs ls = false := by simp [coefB, hL]
      have E1 := Lib.hid (coef_no hc)
      have E2 := Lib.hid hc
      have HW := Lib.hid hw
      have HL := Lib.hid hL
      clear hw hc hL
      go_enter Try.func17, Try.ntmps17
      go_wp2_with fail
      refine (l2Word_any _ _ xs _ h h64 (by omega)).mono ?_
      rw [HW.out]
      rintro e w1 ⟨rfl, rfl⟩
      go_wp2_with fail
      refine (l8List_any _ _ ls _ h2 h642 (by omega)).mono ?_
      rw [HL.out]
      rintro e w2 ⟨rfl, rfl⟩
      go_wp2_with fail
      go_ret2
      exact ⟨ret_ib8 E1.out.symm E2.out.symm, Below.refl _ _⟩
    | true =>
      have hc : coefB xs ls = true := by simp [coefB, hw, hL]
      have E1 := Lib.hid (coef_yes hc)
      have E2 := Lib.hid hc
      have HW := Lib.hid hw
      have HL := Lib.hid hL
      have HLet := Lib.hid (Plain.wordB_iff.1 hw).2
      have h64l := (Plain.wordB_iff.1 hw).1
      have HC0 : Hid (Plain.cof xs 0 = 1) := Lib.hid (Plain.bd_cof _).1
      clear hw hc hL
      go_enter Try.func17, Try.ntmps17
      go_wp2_with fail
      refine (l2Word_any _ _ xs _ h h64 (by omega)).mono ?_
      rw [HW.out]
      rintro e w1 ⟨rfl, rfl⟩
      go_wp2_with fail
      refine (l8List_any _ _ ls _ h2 h642 (by omega)).mono ?_
      rw [HL.out]
      rintro e w2 ⟨rfl, rfl⟩
      go_wp2_with fail
      refine (l8Of_any _ _ xs _ h HLet h64l).mono ?_
      rintro e w3 ⟨rfl, hb⟩
      have B3 := Lib.hid hb
      have HI3 := Lib.hid (h2.out.on hb)
      clear hb
      go_wp2_with fail
      refine (l8Get_any _ _ ls (Plain.cof xs) _ HI3 HL HC0).mono ?_
      rintro e w4 ⟨rfl, hb⟩
      have B4 := Lib.hid (B3.out.trans (hb.mono B3.out.size))
      clear hb
      go_wp2_with fail
      go_ret2
      exact ⟨ret_ib8 E1.out.symm E2.out.symm, B4.out⟩
set_option maxRecDepth 100000 in
set_option maxHeartbeats 800000 in
theorem implCoefficientOf_any (a b : Option Addr) (cap cap2 : Nat) (xs ls : List Int) (w : World) (h : Hid (Ints w a xs)) (h2 : Hid (Ints w b ls)) (h64 : Hid (In64 xs)) (h642 : Hid (In64 ls)) (hn : xs.length ≤ 1048576) (hn2 : ls.length ≤ 1048576) :
    Calls Try.prog 18 #[.slice a xs.length cap, .slice b ls.length cap2] w (Val (.tuple #[.int .i64 (coefW xs ls), .bool (coefB xs ls)]) w) := by
  cases hw : Plain.wordB xs with
  | false =>
    have hc : coefB xs ls = false := by simp [coefB, hw]
    have E1 := Lib.hid (coef_no hc)
    have E2 := Lib.hid hc
    have HW := Lib.hid hw
    clear hw hc
    go_enter Try.func18, Try.ntmps18
    go_wp2_with fail
    refine (isWord_any _ _ xs _ h h64 (by omega)).mono ?_
    rw [HW.out]
    rintro e w1 ⟨rfl, rfl⟩
    go_wp2_with fail
    go_ret2
    exact ⟨ret_ib8 E1.out.symm E2.out.symm, Below.refl _ _⟩
  | true =>
    cases hL : Plain.listB ls with
    | false =>
      have hc : coefB xs ls = false := by simp [coefB, hL]
      have E1 := Lib.hid (coef_no hc)
      have E2 := Lib.hid hc
      have HW := Lib.hid hw
      have HL := Lib.hid hL
      clear hw hc hL
      go_enter Try.func18, Try.ntmps18
      go_wp2_with fail
      refine (isWord_any _ _ xs _ h h64 (by omega)).mono ?_
      rw [HW.out]
      rintro e w1 ⟨rfl, rfl⟩
      go_wp2_with fail
      refine (isList_any _ _ ls _ h2 h642 (by omega)).mono ?_
      rw [HL.out]
      rintro e w2 ⟨rfl, rfl⟩
      go_wp2_with fail
      go_ret2
      exact ⟨ret_ib8 E1.out.symm E2.out.symm, Below.refl _ _⟩
    | true =>
      have hc : coefB xs ls = true := by simp [coefB, hw, hL]
      obtain ⟨C, hC⟩ : ∃ C, C = Plain.cutC (Plain.cntL (ls.length + 1)) (Plain.cof xs) := ⟨_, rfl⟩
      have hlt := Plain.place_lt259 hL
      have E1 : Hid (coefW xs ls = C (Plain.placeL ls)) := Lib.hid (by rw [hC, coef_yes hc, Plain.cutC_in (Plain.place_lt hL)])
      have E2 := Lib.hid hc
      have HW := Lib.hid hw
      have HL := Lib.hid hL
      have h3 := len3 hL
      have HLet := Lib.hid (Plain.wordB_iff.1 hw).2
      have h64l := (Plain.wordB_iff.1 hw).1
      have HCC := Lib.hid hC
      clear hw hc hL hC
      have HCall := Lib.hid (fun (w3 : World) (h3' : Hid (Ints w3 a xs)) => coefficients_any a cap ls.length xs w3 h3' HLet h64l h3)
      rw [← HCC.out] at HCall
      have HPl := Lib.hid (fun (w3 : World) (h3' : Hid (Ints w3 b ls)) => placeOf_any b cap2 ls w3 h3' HL h3)
      obtain ⟨P, hP⟩ : ∃ P, P = Plain.placeL ls := ⟨_, rfl⟩
      rw [← hP] at HPl E1 hlt
      clear hP HCC
      have hfc : ∀ w3 : World, Sem.run Try.prog (Instr.field 57 (.agg (coefs (ls.length : Int) C)) 1) w3 = .ok (.agg (c259 C)) w3 := field_coefs _ C
      have hix : ∀ w3 : World, Sem.run Try.prog (Instr.index 55 (.agg (c259 C)) (.int .i64 (P : Int))) w3 = .ok (.int .i64 (C P)) w3 := fun w3 => index_c259 C P w3 (by omega)
      go_enter Try.func18, Try.ntmps18
      go_wp2_with fail
      refine (isWord_any _ _ xs _ h h64 (by omega)).mono ?_
      rw [HW.out]
      rintro e w1 ⟨rfl, rfl⟩
      go_wp2_with fail
      refine (isList_any _ _ ls _ h2 h642 (by omega)).mono ?_
      rw [HL.out]
      rintro e w2 ⟨rfl, rfl⟩
      go_wp2_with fail
      refine (HCall.out _ h).mono ?_
      rintro e w3 ⟨rfl, hb⟩
      have B3 := Lib.hid hb
      have HI3 := Lib.hid (h2.out.on hb)
      clear hb
      go_wp2_with fail
      refine (HPl.out _ HI3).mono ?_
      rintro e w4 ⟨rfl, rfl⟩
      go_wp2_with fail
      go_ret2
      exact ⟨ret_ib8 E1.out.symm E2.out.symm, B3.out⟩

/-! two different nails -/
theorem ints_pair (w : World) (m n : Int) : Ints (w.alloc (.cells #[.int .i64 m, .int .i64 n] 3)) (some ⟨w.heap.size, 0, none⟩) [m, n] := fun j x hx => by
  refine ⟨_, _, rfl, ?_⟩
  rw [cell_of_row _ _ _ _ _ _ (heap_alloc_new w _)]
  match j, hx with
  | 0, hx => simp at hx; subst hx; rfl
  | 1, hx => simp at hx; subst hx; rfl
def pairB (xs : List Int) (m n : Int) : Bool := !(m == n) && coefB xs [m, n]
def pairW (xs : List Int) (m n : Int) : Int := if m = n then 0 else coefW xs [m, n]
theorem pair_same {xs : List Int} {m n : Int} (h : m = n) : pairW xs m n = 0 ∧ pairB xs m n = false := by simp [pairW, pairB, h]
theorem pair_other {xs : List Int} {m n : Int} (h : m ≠ n) : pairW xs m n = coefW xs [m, n] ∧ pairB xs m n = coefB xs [m, n] := by simp [pairW, pairB, h]
theorem pair_no {xs : List Int} {m n : Int} (h : pairB xs m n = false) : pairW xs m n = 0 := by
  unfold pairW
  split
  · rfl
  · rename_i hne
    exact coef_no (by simpa [pairB, hne] using h)
theorem pair_small (xs : List Int) (m n : Int) : -262144 ≤ pairW xs m n ∧ pairW xs m n ≤ 262144 := by
  unfold pairW
  split
  · omega
  · exact coef_small _ _
theorem pair_yes {xs : List Int} {m n : Int} (h : pairB xs m n = true) : m ≠ n ∧ Plain.wordB xs = true ∧ ∃ M N : Nat, M ≤ 5 ∧ N ≤ 5 ∧ m = (M : Int) + 1 ∧ n = (N : Int) + 1 ∧ pairW xs m n = Plain.cof xs (6 + (M * 6 + N) + 1) := by
  have hne : m ≠ n := fun e => by rw [(pair_same e).2] at h; cases h
  rw [(pair_other hne).2] at h
  have hv := coef_yes h
  simp only [coefB, Bool.and_eq_true] at h
  have hl := (Plain.listB_iff.1 h.2).2
  have h1 := hl m (by simp)
  have h2 := hl n (by simp)
  refine ⟨hne, h.1, (m - 1).toNat, (n - 1).toNat, by omega, by omega, by omega, by omega, ?_⟩
  rw [(pair_other hne).1, hv]
  congr 1
  simp [Plain.placeL]; omega
theorem pair_turn (xs : List Int) (m n : Int) : pairB xs n m = pairB xs m n := by
  simp only [pairB, coefB, Plain.listB, Plain.nails8, List.all_cons, List.all_nil, Bool.and_true, List.length_cons, List.length_nil]
  rw [Bool.and_comm (Plain.nail8 n), show (n == m) = (m == n) from BEq.comm]
set_option maxHeartbeats 400000 in
theorem implPairSum_any (a : Option Addr) (cap : Nat) (xs : List Int) (m n : Int) (w : World) (h : Hid (Ints w a xs)) (h64 : Hid (In64 xs)) (hn : xs.length ≤ 1048576) (hm : -9223372036854775808 ≤ m ∧ m ≤ 9223372036854775807) (hn2 : -9223372036854775808 ≤ n ∧ n ≤ 9223372036854775807) :
    Calls Try.prog 20 #[.slice a xs.length cap, .int .i64 m, .int .i64 n] w (Val (.tuple #[.int .i64 (pairW xs m n), .bool (pairB xs m n)]) w) := by
  by_cases he : m = n
  · have E := Lib.hid (pair_same (xs := xs) he)
    subst he
    go_enter Try.func20, Try.ntmps20
    go_wp2_with fail
    go_ret2
    exact ⟨ret_ib8 E.out.1.symm E.out.2.symm, Below.refl _ _⟩
  · have E := Lib.hid (pair_other (xs := xs) he)
    have heb : (m == n) = false := by simp [he]
    have hb0 := (Below.refl w.heap.size w).alloc (Nat.le_refl _) (.cells #[.int .i64 m, .int .i64 n] 3)
    have HB := Lib.hid hb0
    have HI := Lib.hid (h.out.on hb0)
    have HL := Lib.hid (ints_pair w m n)
    have HL64 : Hid (In64 [m, n]) := Lib.hid (fun j x hx => by
      match j, hx with
      | 0, hx => simp at hx; omega
      | 1, hx => simp at hx; omega)
    have HC := Lib.hid (fun (W : World) (h1 : Hid (Ints W a xs)) (h2 : Hid (Ints W (some ⟨w.heap.size, 0, none⟩) [m, n])) => implCoefficientOf_any a (some ⟨w.heap.size, 0, none⟩) cap 2 xs [m, n] W h1 h2 h64 HL64 hn (by simp))
    clear he hb0
    go_enter Try.func20, Try.ntmps20
    go_wp2_with fail
    refine (HC.out _ HI HL).mono ?_
    rintro e w3 ⟨rfl, hb⟩
    have B3 := Lib.hid (HB.out.trans (hb.mono HB.out.size))
    clear hb
    go_wp2_with fail
    go_ret2
    exact ⟨ret_ib8 E.out.1.symm E.out.2.symm, B3.out⟩
set_option maxHeartbeats 400000 in
theorem l8Pair_any (a : Option Addr) (cap : Nat) (xs : List Int) (m n : Int) (w : World) (h : Hid (Ints w a xs)) (h64 : Hid (In64 xs)) (hn : xs.length ≤ 1048576) (hm : -9223372036854775808 ≤ m ∧ m ≤ 9223372036854775807) (hn2 : -9223372036854775808 ≤ n ∧ n ≤ 9223372036854775807) :
    Calls Try.prog 45 #[.slice a xs.length cap, .int .i64 m, .int .i64 n] w fun e w' => e = .returned (.bool (pairB xs m n)) ∧ w' = w := by
  have HQ : Hid (pairB xs m n = (Plain.wordB xs && decide (1 ≤ m ∧ m ≤ 6) && decide (1 ≤ n ∧ n ≤ 6) && !(m == n))) := Lib.hid (by
    simp only [pairB, coefB, Plain.listB, Plain.nails8, Plain.nail8, List.all_cons, List.all_nil, Bool.and_true, List.length_cons, List.length_nil]
    cases Plain.wordB xs <;> cases (m == n) <;> simp)
  cases hw : Plain.wordB xs with
  | false =>
    have HE : Hid (pairB xs m n = false) := Lib.hid (by rw [HQ.out, hw]; rfl)
    have HW := Lib.hid hw
    clear hw
    go_enter Try.func45, Try.ntmps45
    go_wp2_with fail
    refine (l2Word_any _ _ xs _ h h64 (by omega)).mono ?_
    rw [HW.out]
    rintro e w1 ⟨rfl, rfl⟩
    go_wp2_with fail
    go_ret
    exact ⟨ret_bool HE.out.symm, rfl⟩
  | true =>
    have HW := Lib.hid hw
    rw [hw] at HQ
    clear hw
    cases h1 : decide (1 ≤ m ∧ m ≤ 6) with
    | false =>
      have HE : Hid (pairB xs m n = false) := Lib.hid (by rw [HQ.out, h1]; rfl)
      have H1 := Lib.hid h1
      clear h1
      go_enter Try.func45, Try.ntmps45
      go_wp2_with fail
      refine (l2Word_any _ _ xs _ h h64 (by omega)).mono ?_
      rw [HW.out]
      rintro e w1 ⟨rfl, rfl⟩
      go_wp2_with fail
      refine (l1In_any m 1 6 _ hm).mono ?_
      rw [H1.out]
      rintro e w2 ⟨rfl, rfl⟩
      go_wp2_with fail
      go_ret
      exact ⟨ret_bool HE.out.symm, rfl⟩
    | true =>
      have H1 := Lib.hid h1
      rw [h1] at HQ
      clear h1
      cases h2 : decide (1 ≤ n ∧ n ≤ 6) with
      | false =>
        have HE : Hid (pairB xs m n = false) := Lib.hid (by rw [HQ.out, h2]; rfl)
        have H2 := Lib.hid h2
        clear h2
        go_enter Try.func45, Try.ntmps45
        go_wp2_with fail
        refine (l2Word_any _ _ xs _ h h64 (by omega)).mono ?_
        rw [HW.out]
        rintro e w1 ⟨rfl, rfl⟩
        go_wp2_with fail
        refine (l1In_any m 1 6 _ hm).mono ?_
        rw [H1.out]
        rintro e w2 ⟨rfl, rfl⟩
        go_wp2_with fail
        refine (l1In_any n 1 6 _ hn2).mono ?_
        rw [H2.out]
        rintro e w3 ⟨rfl, rfl⟩
        go_wp2_with fail
        go_ret
        exact ⟨ret_bool HE.out.symm, rfl⟩
      | true =>
        have H2 := Lib.hid h2
        rw [h2] at HQ
        clear h2
        have HE : Hid (pairB xs m n = (m != n)) := Lib.hid (by rw [HQ.out]; rfl)
        clear HQ
        go_enter Try.func45, Try.ntmps45
        go_wp2_with fail
        refine (l2Word_any _ _ xs _ h h64 (by omega)).mono ?_
        rw [HW.out]
        rintro e w1 ⟨rfl, rfl⟩
        go_wp2_with fail
        refine (l1In_any m 1 6 _ hm).mono ?_
        rw [H1.out]
        rintro e w2 ⟨rfl, rfl⟩
        go_wp2_with fail
        refine (l1In_any n 1 6 _ hn2).mono ?_
        rw [H2.out]
        rintro e w3 ⟨rfl, rfl⟩
        go_wp2_with fail
        go_ret
        exact ⟨ret_bool HE.out.symm, rfl⟩
set_option maxRecDepth 100000 in
set_option maxHeartbeats 800000 in
theorem specPairSum_any (a : Option Addr) (cap : Nat) (xs : List Int) (m n : Int) (w : World) (h : Hid (Ints w a xs)) (h64 : Hid (In64 xs)) (hn : xs.length ≤ 1048576) (hm : -9223372036854775808 ≤ m ∧ m ≤ 9223372036854775807) (hn2 : -9223372036854775808 ≤ n ∧ n ≤ 9223372036854775807) :
    Calls Try.prog 19 #[.slice a xs.length cap, .int .i64 m, .int .i64 n] w (Val (.tuple #[.int .i64 (pairW xs m n), .bool (pairB xs m n)]) w) := by
  cases hp : pairB xs m n with
  | false =>
    have HP := Lib.hid hp
    have HE := Lib.hid (pair_no hp)
    clear hp
    go_enter Try.func19, Try.ntmps19
    go_wp2_with fail
    refine (l8Pair_any _ _ xs m n _ h h64 hn hm hn2).mono ?_
    rw [HP.out]
    rintro e w1 ⟨rfl, rfl⟩
    go_wp2_with fail
    go_ret2
    exact ⟨ret_ib8 HE.out.symm rfl, Below.refl _ _⟩
  | true =>
    obtain ⟨-, hw, M, N, hM, hN, rfl, rfl, hv⟩ := pair_yes hp
    have HP := Lib.hid hp
    have HE := Lib.hid hv
    have HLet := Lib.hid (Plain.wordB_iff.1 hw).2
    have h64l := (Plain.wordB_iff.1 hw).1
    clear hp hw hv
    have hfc := field_sers (Plain.cof xs)
    have hM6 : (M : Int) < 6 := by omega
    have hN6 : (N : Int) < 6 := by omega
    have hwM : IntKind.i64.wrap (M : Int) = (M : Int) := Go.IntWalk.i64_in _ ⟨by omega, by omega⟩
    have hwN : IntKind.i64.wrap (N : Int) = (N : Int) := Go.IntWalk.i64_in _ ⟨by omega, by omega⟩
    have hr : ∀ w3 : World, Sem.run Try.prog (Instr.index 47 (.agg (arrN 36 fun i => .int .i64 (Plain.cof xs (6 + i + 1)))) (.int .i64 (M : Int))) w3 = .ok (.agg (arrN 6 fun i => .int .i64 (Plain.cof xs (6 + (M * 6 + i) + 1)))) w3 := fun w3 => index_rows _ M w3 hM6
    have hr2 : ∀ w3 : World, Sem.run Try.prog (Instr.index 46 (.agg (arrN 6 fun i => .int .i64 (Plain.cof xs (6 + (M * 6 + i) + 1)))) (.int .i64 (N : Int))) w3 = .ok (.int .i64 (Plain.cof xs (6 + (M * 6 + N) + 1))) w3 := fun w3 => index_row _ N w3 hN6
    go_enter Try.func19, Try.ntmps19
    go_wp2_with fail
    refine (l8Pair_any _ _ xs _ _ _ h h64 hn hm hn2).mono ?_
    rw [HP.out]
    rintro e w1 ⟨rfl, rfl⟩
    go_wp2_with fail
    refine (l8Of_any _ _ xs _ h HLet h64l).mono ?_
    rintro e w3 ⟨rfl, hb⟩
    have B3 := Lib.hid hb
    clear hb
    go_wp2_with fail
    go_ret2
    exact ⟨ret_ib8 HE.out.symm rfl, B3.out⟩
set_option maxHeartbeats 400000 in
theorem implAreaOf_any (a : Option Addr) (cap : Nat) (xs : List Int) (m n : Int) (w : World) (h : Hid (Ints w a xs)) (h64 : Hid (In64 xs)) (hn : xs.length ≤ 1048576) (hm : -9223372036854775808 ≤ m ∧ m ≤ 9223372036854775807) (hn2 : -9223372036854775808 ≤ n ∧ n ≤ 9223372036854775807) :
    Calls Try.prog 22 #[.slice a xs.length cap, .int .i64 m, .int .i64 n] w (Val (.tuple #[.int .i64 (pairW xs m n - pairW xs n m), .bool (pairB xs m n)]) w) := by
  have s1 := pair_small xs m n
  have s2 := pair_small xs n m
  have H1 := Lib.hid (fun (W : World) (h1 : Hid (Ints W a xs)) => implPairSum_any a cap xs m n W h1 h64 hn hm hn2)
  have H2 := Lib.hid (fun (W : World) (h1 : Hid (Ints W a xs)) => implPairSum_any a cap xs n m W h1 h64 hn hn2 hm)
  generalize pairW xs m n = x1 at s1 H1 ⊢
  generalize pairW xs n m = x2 at s2 H2 ⊢
  go_enter Try.func22, Try.ntmps22
  go_wp2_with fail
  refine (H1.out _ h).mono ?_
  rintro e w1 ⟨rfl, hb⟩
  have B1 := Lib.hid hb
  have HI := Lib.hid (h.out.on hb)
  clear hb
  go_wp2_with fail
  refine (H2.out _ HI).mono ?_
  rintro e w2 ⟨rfl, hb⟩
  have B2 := Lib.hid (B1.out.trans (hb.mono B1.out.size))
  clear hb
  go_wp2_with fail
  go_ret2
  exact ⟨rfl, B2.out⟩
set_option maxRecDepth 100000 in
set_option maxHeartbeats 800000 in
theorem specAreaOf_any (a : Option Addr) (cap : Nat) (xs : List Int) (m n : Int) (w : World) (h : Hid (Ints w a xs)) (h64 : Hid (In64 xs)) (hn : xs.length ≤ 1048576) (hm : -9223372036854775808 ≤ m ∧ m ≤ 9223372036854775807) (hn2 : -9223372036854775808 ≤ n ∧ n ≤ 9223372036854775807) :
    Calls Try.prog 21 #[.slice a xs.length cap, .int .i64 m, .int .i64 n] w (Val (.tuple #[.int .i64 (pairW xs m n - pairW xs n m), .bool (pairB xs m n)]) w) := by
  cases hp : pairB xs m n with
  | false =>
    have HP := Lib.hid hp
    have HE : Hid (pairW xs m n - pairW xs n m = 0) := Lib.hid (by rw [pair_no hp, pair_no (by rw [pair_turn]; exact hp)]; rfl)
    clear hp
    go_enter Try.func21, Try.ntmps21
    go_wp2_with fail
    refine (l8Pair_any _ _ xs m n _ h h64 hn hm hn2).mono ?_
    rw [HP.out]
    rintro e w1 ⟨rfl, rfl⟩
    go_wp2_with fail
    go_ret2
    exact ⟨ret_ib8 HE.out.symm rfl, Below.refl _ _⟩
  | true =>
    have hp2 : pairB xs n m = true := by rw [pair_turn]; exact hp
    obtain ⟨-, hw, M, N, hM, hN, rfl, rfl, hv⟩ := pair_yes hp
    obtain ⟨-, -, N', M', -, -, eN, eM, hv2⟩ := pair_yes hp2
    obtain rfl : N' = N := by omega
    obtain rfl : M' = M := by omega
    clear eN eM
    have HP := Lib.hid hp
    have HLet := Lib.hid (Plain.wordB_iff.1 hw).2
    have h64l := (Plain.wordB_iff.1 hw).1
    have hs := Plain.small_cof h64l
    have s1 := hs (6 + M' * 6 + N' + 1) (by omega)
    have s2 := hs (6 + N' * 6 + M' + 1) (by omega)
    have HE : Hid (pairW xs ((M' : Int) + 1) ((N' : Int) + 1) - pairW xs ((N' : Int) + 1) ((M' : Int) + 1) = Plain.cof xs (6 + M' * 6 + N' + 1) - Plain.cof xs (6 + N' * 6 + M' + 1)) := Lib.hid (by rw [hv, hv2, Nat.add_assoc 6 (M' * 6), Nat.add_assoc 6 (N' * 6)])
    have hM6 : (M' : Int) < 6 := by omega
    have hN6 : (N' : Int) < 6 := by omega
    have hwM : IntKind.i64.wrap (M' : Int) = (M' : Int) := Go.IntWalk.i64_in _ ⟨by omega, by omega⟩
    have hwN : IntKind.i64.wrap (N' : Int) = (N' : Int) := Go.IntWalk.i64_in _ ⟨by omega, by omega⟩
    clear hp hp2 hw hv hv2 hs
    go_enter Try.func21, Try.ntmps21
    go_wp2_with fail
    refine (l8Pair_any _ _ xs _ _ _ h h64 hn hm hn2).mono ?_
    rw [HP.out]
    rintro e w1 ⟨rfl, rfl⟩
    go_wp2_with fail
    refine (l8Of_any _ _ xs _ h HLet h64l).mono ?_
    rintro e w3 ⟨rfl, hb⟩
    have HS : Hid (SerAt ((w3.alloc (.cells Try.zeroCells50 50)).setRow w3.heap.size (sers (Plain.cof xs))) w3.heap.size (Plain.cof xs)) := Lib.hid (serAt_row (heap_alloc_new w3 _))
    have HB : Hid (Below w1.heap.size w1 ((w3.alloc (.cells Try.zeroCells50 50)).setRow w3.heap.size (sers (Plain.cof xs)))) := Lib.hid (below_setRow (hb.alloc hb.size _) hb.size _)
    clear hb
    go_wp2_with (refine wpList_store_row rfl 50 _ _ rfl w3.heap.size (sers (Plain.cof xs)) rfl rfl 50 (sers fun _ => 0) (by rw [sers_zero]; exact heap_alloc_new _ _) (infoSers _) (by rw [sers_size, sers_size]) (sers_one _) ?_)
    generalize ((w3.alloc (.cells Try.zeroCells50 50)).setRow w3.heap.size (sers (Plain.cof xs))) = W at HS HB ⊢
    have d1 : W.drew.cell? ⟨w3.heap.size, 6 + M' * 6 + N', none⟩ = _ := HS.out.cell (k := 6 + M' * 6 + N') (by omega)
    have d2 : W.drew.cell? ⟨w3.heap.size, 6 + N' * 6 + M', none⟩ = _ := HS.out.cell (k := 6 + N' * 6 + M') (by omega)
    have HB2 : Hid (Below w1.heap.size w1 W.drew) := Lib.hid HB.out.drew
    clear HS HB
    refine wp_region_still_lit (by kernel_rfl) (by kernel_rfl) ?_
    change wpStill _ _ (World.drew _) (fun a' => Exit.then _ _ _ a' (World.drew _)) _ _
    generalize (World.drew _) = V at d1 d2 HB2 ⊢
    repeat still_step
    refine wpStill_nil ?_
    go_wp2_with fail
    go_ret2
    exact ⟨ret_ib8 (by rw [Go.IntWalk.i64_in _ ⟨by omega, by omega⟩]; exact HE.out.symm) rfl, HB2.out⟩

theorem bothCoefficientOf (xs : List Int) (h64 : Hid (In64 xs)) (hn : xs.length ≤ 1048576) (ls : List Int) (h642 : Hid (In64 ls)) (hn2 : ls.length ≤ 1048576) : ∃ (m : Int) (c : Bool),
    (∀ a cap a2 cap2 w, Hid (Ints w a xs) → Hid (Ints w a2 ls) → Calls Try.prog 17 #[.slice a xs.length cap, .slice a2 ls.length cap2] w (Val (.tuple #[.int .i64 m, .bool c]) w)) ∧
    (∀ a cap a2 cap2 w, Hid (Ints w a xs) → Hid (Ints w a2 ls) → Calls Try.prog 18 #[.slice a xs.length cap, .slice a2 ls.length cap2] w (Val (.tuple #[.int .i64 m, .bool c]) w)) :=
  ⟨_, _, fun a cap a2 cap2 w h h2 => specCoefficientOf_any a a2 cap cap2 xs ls w h h2 h64 h642 hn hn2, fun a cap a2 cap2 w h h2 => implCoefficientOf_any a a2 cap cap2 xs ls w h h2 h64 h642 hn hn2⟩
theorem bothPairSum (xs : List Int) (h64 : Hid (In64 xs)) (hn : xs.length ≤ 1048576) (m : Int) (m1 : -9223372036854775808 ≤ m) (m2 : m ≤ 9223372036854775807) (n : Int) (n1 : -9223372036854775808 ≤ n) (n2 : n ≤ 9223372036854775807) : ∃ (v : Int) (c : Bool),
    (∀ a cap w, Hid (Ints w a xs) → Calls Try.prog 19 #[.slice a xs.length cap, .int .i64 m, .int .i64 n] w (Val (.tuple #[.int .i64 v, .bool c]) w)) ∧
    (∀ a cap w, Hid (Ints w a xs) → Calls Try.prog 20 #[.slice a xs.length cap, .int .i64 m, .int .i64 n] w (Val (.tuple #[.int .i64 v, .bool c]) w)) :=
  ⟨_, _, fun a cap w h => specPairSum_any a cap xs m n w h h64 hn ⟨m1, m2⟩ ⟨n1, n2⟩, fun a cap w h => implPairSum_any a cap xs m n w h h64 hn ⟨m1, m2⟩ ⟨n1, n2⟩⟩
theorem bothAreaOf (xs : List Int) (h64 : Hid (In64 xs)) (hn : xs.length ≤ 1048576) (m : Int) (m1 : -9223372036854775808 ≤ m) (m2 : m ≤ 9223372036854775807) (n : Int) (n1 : -9223372036854775808 ≤ n) (n2 : n ≤ 9223372036854775807) : ∃ (v : Int) (c : Bool),
    (∀ a cap w, Hid (Ints w a xs) → Calls Try.prog 21 #[.slice a xs.length cap, .int .i64 m, .int .i64 n] w (Val (.tuple #[.int .i64 v, .bool c]) w)) ∧
    (∀ a cap w, Hid (Ints w a xs) → Calls Try.prog 22 #[.slice a xs.length cap, .int .i64 m, .int .i64 n] w (Val (.tuple #[.int .i64 v, .bool c]) w)) :=
  ⟨_, _, fun a cap w h => specAreaOf_any a cap xs m n w h h64 hn ⟨m1, m2⟩ ⟨n1, n2⟩, fun a cap w h => implAreaOf_any a cap xs m n w h h64 hn ⟨m1, m2⟩ ⟨n1, n2⟩⟩

end Go.Proofs.Yticekahpmjjmkaa
