/- Contracts: spec.DrawTurnWord, spec.DrawConjugateWord and spec.DrawAreConjugate hand back lists of at most 100 numbers, in memory of their own. Condition: the code's bytes lie in memory. -/
import Derived.Test.YtoikehpnpealpaaDrawLess
import Derived.Test.YtoikehpnpealpaaSnd
import Derived.Test.YtoikehpnpealpaaMostWalks
import Derived.Test.YtoikehpnpealpaaJoinWWalks
namespace Go.Proofs.Ytoikehpnpealpaa
open Go.ChangeShapes Go.WideShapes Go.ChangeAt Go.RowKit
set_option linter.unusedVariables false

theorem l1Least_64 (n : Nat) (w : World) (h : n ≤ 1000) : Calls Try.prog 54 #[.int .i64 (n : Int), .int .i64 64] w fun e w' => ∃ z : Nat, e = .returned (.int .i64 (z : Int)) ∧ z ≤ 64 ∧ (n = 0 → z = 0) ∧ (0 < n → 0 < z) ∧ z ≤ n ∧ w = w' := by
  by_cases he : n < 64
  · have h1 : (n : Int) < 64 := by omega
    go_enter Try.func54, Try.ntmps54
    go_wp2
    go_ret
    exact ⟨n, rfl, by omega, by omega, by omega, by omega, rfl⟩
  · have h1 : ¬ (n : Int) < 64 := by omega
    go_enter Try.func54, Try.ntmps54
    go_wp2
    go_ret
    exact ⟨64, rfl, by omega, by omega, by omega, by omega, rfl⟩
theorem l1Most_1 (z : Nat) (w : World) (h : z ≤ 64) : Calls Try.prog 53 #[.int .i64 1, .int .i64 (z : Int)] w fun e w' => ∃ m : Nat, e = .returned (.int .i64 (m : Int)) ∧ 1 ≤ m ∧ m ≤ 64 ∧ w = w' := by
  by_cases he : z = 0
  · subst he
    refine (l1Most_ge 1 ((0 : Nat) : Int) w (by omega) (by omega) (by omega)).mono ?_
    rintro e w' ⟨rfl, rfl⟩
    exact ⟨1, rfl, by omega, by omega, rfl⟩
  · by_cases h1 : z = 1
    · subst h1
      refine (l1Most_ge 1 ((1 : Nat) : Int) w (by omega) (by omega) (by omega)).mono ?_
      rintro e w' ⟨rfl, rfl⟩
      exact ⟨1, rfl, by omega, by omega, rfl⟩
    · refine (l1Most_le 1 (z : Int) w (by omega) (by omega) (by omega)).mono ?_
      rintro e w' ⟨rfl, rfl⟩
      exact ⟨z, rfl, by omega, by omega, rfl⟩

theorem Fst.num {W w : World} {o : Obj} {a : Option Addr} {len cap m : Nat} {v : Value} {xs : List Int} {n : Int} (h : Fst W o a len cap m v xs w) (h64 : In64 xs) (hl : xs.length ≤ 100) (h0 : -1000 ≤ n) (h1 : n ≤ 1000) : NumDraw W (.returned (.tuple #[v, .int .i64 n])) w :=
  ⟨v, xs, n, rfl, h64, hl, h0, h1, h.2.1.mono (alloc_le W o), below_of h.1⟩

set_option maxRecDepth 100000 in
set_option maxHeartbeats 1000000 in
theorem drawTurn_any (a : Option Addr) (len cap : Nat) (W : World) (h : Hid (Code8 W a len)) :
    Calls Try.prog 17 #[.slice a len cap] W (NumDraw W) := by
  go_enter Try.func17, Try.ntmps17
  go_wp2_with fail
  refine (word_any W.heap.size len cap 0 a _ (Lib.hid (Held.fresh cap h.out)) (by omega)).mono ?_
  intro e W1 hp
  obtain ⟨v, xs, rfl, h64, hl, hf⟩ := first_of hp
  have F1 := Lib.hid hf
  have H64 := Lib.hid h64
  clear hp hf h64
  obtain ⟨av, cv, rfl, hI, hO, hcp⟩ := F1.out.2.1
  clear hI hO hcp
  go_wp2_with fail
  refine (l1Least_64 xs.length _ (by omega)).mono ?_
  rintro e w' ⟨z, rfl, hz, -, -, -, rfl⟩
  go_wp2_with fail
  refine (l1Most_1 z _ hz).mono ?_
  rintro e w' ⟨n, rfl, hn1, hn2, rfl⟩
  go_wp2_with fail
  refine (pick_any W.heap.size len cap _ n a _ (Lib.hid F1.out.2.2) (by omega) (by omega)).mono ?_
  rintro e W2 ⟨k, rfl, hk, hH, hg⟩
  have F2 := Lib.hid (F1.out.cur hH hg)
  have hk1 : k ≤ 64 := by omega
  clear hH hg F1 hk
  go_wp2_with fail
  refine (pick_any W.heap.size len cap _ 12 a _ (Lib.hid F2.out.2.2) (by omega) (by omega)).mono ?_
  rintro e W3 ⟨k2, rfl, hk, hH, hg⟩
  have F3 := Lib.hid (F2.out.cur hH hg)
  have hk2 : k2 ≤ 11 := by omega
  clear hH hg F2 hk
  go_wp2_with fail
  refine (pick_any W.heap.size len cap _ 24 a _ (Lib.hid F3.out.2.2) (by omega) (by omega)).mono ?_
  rintro e W4 ⟨k3, rfl, hk, hH, hg⟩
  have F4 := Lib.hid (F3.out.cur hH hg)
  have hk3 : k3 ≤ 23 := by omega
  clear hH hg F3 hk
  go_wp2
  go_ret2
  exact F4.out.num H64.out (by omega) (by omega) (by omega)

set_option maxHeartbeats 400000 in
theorem drawConjW_any (a : Option Addr) (len cap : Nat) (W : World) (h : Hid (Code8 W a len)) :
    Calls Try.prog 14 #[.slice a len cap] W (PairDraw W) := by
  go_enter Try.func14, Try.ntmps14
  go_wp2_with fail
  refine (drawJoinW_any a len cap _ h).mono ?_
  rintro e W1 ⟨v1, v2, xs, ys, rfl, hp⟩
  have HP : Hid (PairDraw W (.returned (.tuple #[v1, v2])) W1) := Lib.hid ⟨v1, v2, xs, ys, rfl, hp⟩
  clear hp
  go_wp2
  go_ret2
  exact HP.out

/-- Where the words are drawn apart. -/
theorem are_last (a : Option Addr) (len cap m : Nat) (W W2 : World) (o : Obj) (av : Option Addr) (cv : Nat) (xs : List Int) (F2 : Hid (Fst W o a len cap m (.slice av xs.length cv) xs W2)) (H64 : Hid (In64 xs)) (hl : xs.length ≤ 66) (hm : m ≤ 800000) :
    Calls Try.prog 51 #[.pointer (some ⟨W.heap.size, 0, none⟩)] W2 fun e W3 => ∃ v2, e = .returned v2 ∧ PairDraw W (.returned (.tuple #[.slice av xs.length cv, v2])) W3 := by
  refine (word_any W.heap.size len cap _ a _ (Lib.hid F2.out.2.2) hm).mono ?_
  rintro e W3 ⟨v2, ys, rfl, h64', hl', hres, hH, hg⟩
  exact ⟨v2, rfl, F2.out.pair (m' := 0) H64.out (by omega) h64' (by omega) hres hg⟩

set_option maxRecDepth 100000 in
set_option maxHeartbeats 2000000 in
theorem drawAre_any (a : Option Addr) (len cap : Nat) (W : World) (h : Hid (Code8 W a len)) :
    Calls Try.prog 20 #[.slice a len cap] W (PairDraw W) := by
  go_enter Try.func20, Try.ntmps20
  go_wp2_with fail
  refine (word_any W.heap.size len cap 0 a _ (Lib.hid (Held.fresh cap h.out)) (by omega)).mono ?_
  intro e W2 hp
  obtain ⟨v, xs, rfl, h64, hl, hf⟩ := first_of hp
  have F2 := Lib.hid hf
  have H64 := Lib.hid h64
  clear hp hf h64
  obtain ⟨av, cv, rfl, hI, hO, hcp⟩ := F2.out.2.1
  have HI2 := Lib.hid hI
  have HC2 := Lib.hid hcp
  clear hI hO hcp
  cases hw : Plain.wordB xs with
  | false =>
    have HW := Lib.hid hw
    clear hw
    go_wp2_with fail
    refine (l2Word_any _ _ xs _ HI2 H64 (by omega)).mono ?_
    rw [HW.out]
    rintro e w' ⟨rfl, rfl⟩
    go_wp2_with fail
    refine (are_last a len cap _ W _ _ av cv xs F2 H64 hl (by omega)).mono ?_
    rintro e W3 ⟨v2, rfl, hp⟩
    have HP := Lib.hid hp
    clear hp
    go_wp2
    go_ret2
    exact HP.out
  | true =>
    have HL := Lib.hid (Plain.wordB_iff.1 hw).2
    have hxl := (Plain.wordB_iff.1 hw).1
    have HW := Lib.hid hw
    clear hw
    by_cases hx0 : xs = []
    · subst hx0
      go_wp2_with fail
      refine (l2Word_any _ _ [] _ HI2 H64 (by simp)).mono ?_
      rw [HW.out]
      rintro e w' ⟨rfl, rfl⟩
      go_wp2_with fail
      refine (are_last a len cap _ W _ _ av cv [] F2 H64 hl (by omega)).mono ?_
      rintro e W3 ⟨v2, rfl, hp⟩
      have HP := Lib.hid hp
      clear hp
      go_wp2
      go_ret2
      exact HP.out
    · have hpos : 0 < xs.length := List.length_pos_iff.2 hx0
      have hposi : (0 : Int) < (xs.length : Int) := by omega
      clear hx0
      go_wp2_with fail
      refine (l2Word_any _ _ xs _ HI2 H64 (by omega)).mono ?_
      rw [HW.out]
      rintro e w' ⟨rfl, rfl⟩
      go_wp2_with fail
      refine (one_any W.heap.size len cap _ 3 a _ (Lib.hid F2.out.2.2) (by omega) (by omega)).mono ?_
      rintro e W3 ⟨b3, rfl, hH, hg⟩
      have F3 := Lib.hid (F2.out.cur hH hg)
      clear hH hg F2 HI2 HC2
      cases b3 with
      | true =>
        go_wp2_with fail
        refine (are_last a len cap _ W _ _ av cv xs F3 H64 hl (by omega)).mono ?_
        rintro e W4 ⟨v2, rfl, hp⟩
        have HP := Lib.hid hp
        clear hp
        go_wp2
        go_ret2
        exact HP.out
      | false =>
        go_wp2_with fail
        refine (letter_any W.heap.size len cap _ a _ (Lib.hid F3.out.2.2) (by omega)).mono ?_
        rintro e W4 ⟨x, rfl, hx0, hx1, hx2, hH, hg⟩
        have F4 := Lib.hid (F3.out.cur hH hg)
        clear hH hg F3
        go_wp2_with fail
        refine (letter_any W.heap.size len cap _ a _ (Lib.hid F4.out.2.2) (by omega)).mono ?_
        rintro e W5 ⟨y, rfl, hy0, hy1, hy2, hH, hg⟩
        have F5 := Lib.hid (F4.out.cur hH hg)
        clear hH hg F4
        have HG : Hid (Plain.Letters [x, y]) := Lib.hid (fun z hz => by simp at hz; omega)
        have HI : Hid (Ints (W5.alloc (.cells (intVals [x, y]).toArray 3)) (some ⟨W5.heap.size, 0, none⟩) [x, y]) := Lib.hid (Ints.made W5 [x, y] _)
        have FA := Lib.hid (F5.out.made (.cells (intVals [x, y]).toArray 3))
        have HGA := Lib.hid (World.grownBy_alloc W5 (.cells (intVals [x, y]).toArray 3) (some W.heap.size))
        have HSZ := Lib.hid (alloc_lt W5 (.cells (intVals [x, y]).toArray 3))
        generalize hWA : W5.alloc (.cells (intVals [x, y]).toArray 3) = WA at HI FA HGA HSZ
        have hWA2 : W5.alloc (.cells #[Value.int .i64 x, Value.int .i64 y] 3) = WA := hWA
        have HWA := Lib.hid hWA2
        clear hWA hWA2
        go_wp2_with fail
        rw [HWA.out]
        refine (pick_any W.heap.size len cap _ xs.length a _ (Lib.hid FA.out.2.2) (by omega) (by omega)).mono ?_
        rintro e W6 ⟨k, rfl, hk, hH, hg⟩
        have F6 := Lib.hid (FA.out.cur hH hg)
        have hk1 : k ≤ xs.length - 1 := by omega
        have HG6 := Lib.hid (HGA.out.trans hg)
        have HI6 : Hid (Ints W6 (some ⟨W5.heap.size, 0, none⟩) [x, y]) := Lib.hid (HI.out.off hg (fun b o e _ => by
          simp only [Option.some.injEq, Addr.mk.injEq, and_true] at e
          have := F5.out.2.2.lt
          omega))
        clear hH hg FA HGA HI hk HWA
        obtain ⟨av', cv', e, hI, hO, hC⟩ := F6.out.2.1
        cases e
        have HIx := Lib.hid hI
        have HCx := Lib.hid hC
        clear hI hO hC
        go_wp2_with fail
        refine (l2Turn_any av cv xs k _ HIx HCx hk1 (by omega)).mono ?_
        rintro e W7 ⟨v7, rfl, hres, hb⟩
        have F7 := Lib.hid (F6.out.later hb)
        have HG7 := Lib.hid (HG6.out.trans (⟨hb.os, hb.tape, hb.output, hb.size, fun j hj _ => hb.block j hj⟩ : W6.grownBy W7 (some W.heap.size)))
        have HI7 := Lib.hid (HI6.out.on hb)
        obtain ⟨at', ct, rfl, hI, hO, hC⟩ := hres
        have HIt := Lib.hid hI
        have HCt := Lib.hid hC
        have hlt := turn_length xs k
        have HLt := Lib.hid (turn_letters HL.out k)
        generalize turn xs k = ts at HIt HCt hlt HLt ⊢
        have hlt2 : ts.length ≤ 64 := by omega
        clear hb hI hO hC hlt F6 HG6 HI6 HIx HCx
        go_wp2_with fail
        refine (l2Conj_any (some ⟨W5.heap.size, 0, none⟩) at' 2 ct [x, y] ts _ HI7 (Lib.hid (cap_copy _ (Nat.le_of_ble_eq_true rfl))) HIt HCt HG HLt (by simp) (by omega)).mono ?_
        rintro e W8 ⟨v8, rfl, hres, hb⟩
        have hyl : (Plain.red ([x, y] ++ (ts ++ Plain.inv [x, y]))).length ≤ 68 := Nat.le_trans (Plain.red_length _) (by simp [Plain.inv]; omega)
        have HLy : Hid (Plain.Letters (Plain.red ([x, y] ++ (ts ++ Plain.inv [x, y])))) := Lib.hid (HG.out.append (HLt.out.append HG.out.inv)).red
        generalize Plain.red ([x, y] ++ (ts ++ Plain.inv [x, y])) = ys at hyl HLy hres
        have S8 : Hid (Snd W5 W.heap.size a len cap _ v8 ys W8) := Lib.hid ⟨HG7.out.trans (⟨hb.os, hb.tape, hb.output, hb.size, fun j hj _ => hb.block j hj⟩ : W7.grownBy W8 (some W.heap.size)), F7.out.2.2.kept hb, hres.mono HG7.out.size, F5.out.2.2.lt, F5.out.2.2.2⟩
        clear hb hres F7 HG7 HI7 HIt HCt HLt HSZ HG
        have H64y := Lib.hid (letters_in64 HLy.out)
        obtain ⟨ay, cy, rfl, -⟩ := S8.out.2.2.1
        go_wp2_with fail
        refine (one_any W.heap.size len cap _ 3 a _ (Lib.hid S8.out.2.1) (by omega) (by omega)).mono ?_
        rintro e W9 ⟨b9, rfl, hH, hg⟩
        have S9 := Lib.hid (S8.out.cur hH hg)
        clear hH hg S8
        cases b9 with
        | false =>
          have HP := Lib.hid (F5.out.snd H64.out (by omega) H64y.out (by omega) S9.out)
          go_wp2
          go_ret2
          exact HP.out
        | true =>
          by_cases hy0 : ys = []
          · subst hy0
            have HP := Lib.hid (F5.out.snd H64.out (by omega) H64y.out (by simp) S9.out)
            go_wp2
            go_ret2
            exact HP.out
          · have hypos : 0 < ys.length := List.length_pos_iff.2 hy0
            have hyposi : (0 : Int) < (ys.length : Int) := by omega
            clear hy0
            go_wp2_with fail
            refine (pick_any W.heap.size len cap _ ys.length a _ (Lib.hid S9.out.2.1) (by omega) (by omega)).mono ?_
            rintro e W10 ⟨j, rfl, hj, hH, hg⟩
            have S10 := Lib.hid (S9.out.cur hH hg)
            have hj1 : j < ys.length := by omega
            clear hH hg S9 hj
            go_wp2_with fail
            refine (letter_any W.heap.size len cap _ a _ (Lib.hid S10.out.2.1) (by omega)).mono ?_
            rintro e W11 ⟨z, rfl, hz0, hz1, hz2, hH, hg⟩
            have S11 := Lib.hid (S10.out.cur hH hg)
            clear hH hg S10
            obtain ⟨y0, hy0⟩ := at_some ys j hj1
            obtain ⟨a', c', e, hI, hO, -⟩ := S11.out.2.2.1
            cases e
            obtain ⟨b, o, rfl, hc⟩ := hI j y0 hy0
            have hf : W11.frozen? ⟨b, o + j, none⟩ = false := by
              rcases hO with h0 | ⟨b', o', e', -, -, hf⟩
              · omega
              · cases e'
                exact hf _
            have S12 := Lib.hid (S11.out.stored (k := j) (x := z) hj1)
            have HP := Lib.hid (F5.out.snd H64.out (by omega) (in64_set H64y.out (x := z) (k := j) (by omega) (by omega)) (by simp; omega) S12.out)
            have hj2 : (j : Int) < (ys.length : Int) := by omega
            have hj0 : (0 : Int) ≤ (j : Int) := by omega
            clear S11 S12 hI hO hy0
            go_wp2
            go_ret2
            exact HP.out

end Go.Proofs.Ytoikehpnpealpaa
