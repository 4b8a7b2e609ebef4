/- Contracts: spec.DrawWindingsOf, DrawOrderOf, DrawSameToOrder hand back lists of at most 100 numbers, in memory of their own, and a number in bounds. Condition: the code's bytes lie in memory. -/
import Derived.Test.YtnmjanhpjnlfcaaDrawLoop
namespace Go.Proofs.Ytnmjanhpjnlfcaa
open Go.ChangeShapes Go.WideShapes Go.ChangeAt Go.RowKit
set_option linter.unusedVariables false

theorem drawWindingsOf_any (a : Option Addr) (len cap : Nat) (W : World) (h : Hid (Code8 W a len)) :
    Calls Try.prog 22 #[.slice a len cap] W (OneDraw W) := by
  go_enter Try.func22, Try.ntmps22
  go_wp2_with fail
  refine (loop_any W.heap.size len cap 0 a _ (Lib.hid (Held.fresh cap h.out)) (by omega)).mono ?_
  rintro e W1 ⟨v, xs, rfl, h64, hl, hS⟩
  have H1 := Lib.hid (hS.one h64 hl)
  clear hS h64
  go_wp2
  go_ret
  exact H1.out
theorem drawOrderOf_any (a : Option Addr) (len cap : Nat) (W : World) (h : Hid (Code8 W a len)) :
    Calls Try.prog 5 #[.slice a len cap] W (OneDraw W) := by
  go_enter Try.func5, Try.ntmps5
  go_wp2_with fail
  refine (drawWindingsOf_any a len cap W h).mono ?_
  rintro e W1 ⟨v, xs, rfl, h1⟩
  have H1 := Lib.hid h1
  clear h1
  go_wp2
  go_ret
  exact ⟨_, _, rfl, H1.out⟩
/-- Two lists and a number. -/
def PairNum (W : World) (e : Ending) (W' : World) : Prop := ∃ v1 v2 us vs n, e = .returned (.tuple #[v1, v2, .int .i64 n]) ∧ In64 us ∧ us.length ≤ 100 ∧ In64 vs ∧ vs.length ≤ 100 ∧ -1 ≤ n ∧ n ≤ 4 ∧ Res W.heap.size W' v1 us ∧ Res W.heap.size W' v2 vs ∧ Below W.heap.size W W'
set_option maxRecDepth 100000 in
set_option maxHeartbeats 4000000 in
theorem drawSameTo_any (a : Option Addr) (len cap : Nat) (W : World) (h : Hid (Code8 W a len)) :
    Calls Try.prog 14 #[.slice a len cap] W (PairNum W) := by
  obtain ⟨W0, hW0⟩ : ∃ W0, W0 = W.alloc (.cells #[.slice a len cap, .int .i64 0, .int .u64 0] 64) := ⟨_, rfl⟩
  have hz : W0.heap.size = W.heap.size + 1 := by rw [hW0]; simp
  have HC : Hid (Calls Try.prog 33 #[.pointer (some ⟨W.heap.size, 0, none⟩), .slice (some ⟨W.heap.size + 1, 0, none⟩) 6 6] (W0.alloc (.cells #[.int .i64 1, .int .i64 2, .int .i64 3, .int .i64 0, .int .i64 4, .int .i64 (-1)] 3)) (fun e W1 => ∃ n : Int, e = .returned (.int .i64 n) ∧ -1 ≤ n ∧ n ≤ 4 ∧ Held W1 W.heap.size a len cap 2 ∧ W0.grownBy W1 (some W.heap.size))) := Lib.hid (by
    have k := pickInt W.heap.size len cap 0 a [1, 2, 3, 0, 4, -1] W0 3 (Lib.hid (by rw [hW0]; exact Held.fresh cap h.out)) (by simp) (by omega) (by simp)
    simp only [intVals, List.map_cons, List.map_nil, List.length_cons, List.length_nil] at k
    rw [hz] at k
    refine Calls.mono k ?_
    rintro e W1 ⟨j, n, rfl, hn, hH, hg⟩
    have hmem : n ∈ [1, 2, 3, 0, 4, -1] := List.mem_of_getElem? hn
    exact ⟨n, rfl, by simp at hmem; omega, by simp at hmem; omega, hH, hg⟩)
  rw [hW0] at HC
  clear hW0 hz
  go_enter Try.func14, Try.ntmps14
  go_wp2_with fail
  refine HC.out.mono ?_
  rintro e W1 ⟨n, rfl, hn0, hn1, hH, hg⟩
  have HH := Lib.hid hH
  have HG := Lib.hid hg
  have HY := Lib.hid (Held.fresh cap h.out).2
  clear hH hg HC
  go_wp2_with fail
  refine (loop_any W.heap.size len cap _ a _ HH (by omega)).mono ?_
  rintro e W2 ⟨vu, us, rfl, h64, hul, hS⟩
  have S2 : Hid (Snd (W.alloc (.cells #[.slice a len cap, .int .i64 0, .int .u64 0] 64)) W.heap.size a len cap _ vu us W2) := Lib.hid ⟨HG.out.trans hS.1, hS.2.1, hS.2.2.1.mono HG.out.size, alloc_lt W _, HY.out⟩
  have U64 := Lib.hid h64
  clear h64 hS HH HG
  obtain ⟨au, cu, rfl, -, -, hcu⟩ := S2.out.2.2.1
  have KU := Lib.hid hcu
  clear hcu
  cases hw : Plain.wordB us with
  | false =>
    have HW := Lib.hid hw
    clear hw
    go_wp2_with fail
    refine (l2Word_any _ _ us _ (Lib.hid S2.out.2.2.1.ints) U64 (by omega)).mono ?_
    rw [HW.out]
    rintro e w' ⟨rfl, rfl⟩
    go_wp2_with fail
    refine (loop_any W.heap.size len cap _ a _ (Lib.hid S2.out.2.1) (by omega)).mono ?_
    rintro e W30 ⟨vv, vs, rfl, h64, hvl, hS⟩
    have S30 := Lib.hid (S2.out.cur hS.2.1 hS.1)
    have R30 := Lib.hid (hS.2.2.1.mono S2.out.1.size)
    have V64 := Lib.hid h64
    clear h64 hS S2
    go_wp2
    go_ret3
    exact ⟨_, _, us, vs, n, rfl, U64.out, by omega, V64.out, by omega, by omega, by omega, S30.out.2.2.1.mono (alloc_le W _), R30.out.mono (alloc_le W _), below_of S30.out.1⟩
  | true =>
    have LU := Lib.hid (Plain.wordB_iff.1 hw).2
    have HW := Lib.hid hw
    clear hw
    go_wp2_with fail
    refine (l2Word_any _ _ us _ (Lib.hid S2.out.2.2.1.ints) U64 (by omega)).mono ?_
    rw [HW.out]
    rintro e w' ⟨rfl, rfl⟩
    go_wp2_with fail
    refine (one_any W.heap.size len cap _ 3 a _ (Lib.hid S2.out.2.1) (by omega) (by omega)).mono ?_
    rintro e W3 ⟨b3, rfl, hH, hg⟩
    have S3 := Lib.hid (S2.out.cur hH hg)
    clear hH hg S2
    cases b3 with
    | true =>
      go_wp2_with fail
      refine (loop_any W.heap.size len cap _ a _ (Lib.hid S3.out.2.1) (by omega)).mono ?_
      rintro e W30 ⟨vv, vs, rfl, h64, hvl, hS⟩
      have S30 := Lib.hid (S3.out.cur hS.2.1 hS.1)
      have R30 := Lib.hid (hS.2.2.1.mono S3.out.1.size)
      have V64 := Lib.hid h64
      clear h64 hS S3
      go_wp2
      go_ret3
      exact ⟨_, _, us, vs, n, rfl, U64.out, by omega, V64.out, by omega, by omega, by omega, S30.out.2.2.1.mono (alloc_le W _), R30.out.mono (alloc_le W _), below_of S30.out.1⟩
    | false =>
      go_wp2_with fail
      refine (letter_any W.heap.size len cap _ a _ (Lib.hid S3.out.2.1) (by omega)).mono ?_
      rintro e W4 ⟨x, rfl, hx0, hx1, hx2, hH, hg⟩
      have S4 := Lib.hid ((S3.out.cur hH hg).later ((Below.refl _ W4).alloc (Nat.le_refl _) (.cells #[.int .i64 x] 3)))
      have LX : Hid (Plain.Letters [x]) := Lib.hid (fun z hz => by simp at hz; omega)
      have X4 := Lib.hid (Ints.made W4 [x] 3)
      have hB4 : W.heap.size < W4.heap.size := (S3.out.cur hH hg).2.1.lt
      clear hH hg S3
      go_wp2_with fail
      refine (letter_any W.heap.size len cap _ a _ (Lib.hid S4.out.2.1) (by omega)).mono ?_
      rintro e W5 ⟨y, rfl, hy0, hy1, hy2, hH, hg⟩
      have hX : Ints W5 (some ⟨W4.heap.size, 0, none⟩) [x] := fun j z hz => by
        obtain ⟨b, o, e, hc⟩ := X4.out j z hz
        cases e
        exact ⟨_, _, rfl, hg.cell hc (by simp; omega)⟩
      have S5 := Lib.hid ((S4.out.cur hH hg).later ((Below.refl _ W5).alloc (Nat.le_refl _) (.cells #[.int .i64 y] 3)))
      have LY : Hid (Plain.Letters [y]) := Lib.hid (fun z hz => by simp at hz; omega)
      have X5 := Lib.hid (hX.on ((Below.refl _ W5).alloc (Nat.le_refl _) (.cells #[.int .i64 y] 3)))
      have Y5 := Lib.hid (Ints.made W5 [y] 3)
      clear hH hg S4 X4 hX
      go_wp2_with fail
      refine (l4Comm_at (some ⟨W4.heap.size, 0, none⟩) (some ⟨W5.heap.size, 0, none⟩) 1 1 1 1 [x] [y] _ rfl rfl X5 (Lib.hid (cap_copy _ (Nat.le_of_ble_eq_true rfl))) Y5 (Lib.hid (cap_copy _ (Nat.le_of_ble_eq_true rfl))) LX LY (by omega) (by omega)).mono ?_
      rintro e W6 ⟨vc, rfl, hrc, hbc⟩
      have S6 := Lib.hid (S5.out.later hbc)
      have C6 := Lib.hid (S5.out.next hrc hbc)
      have LC := Lib.hid (LX.out.comm LY.out)
      have hcl : (Plain.comm [x] [y]).length ≤ 4 := Nat.le_trans (Plain.red_length _) (by simp [Plain.inv])
      clear hrc hbc S5 X5 Y5 LX LY
      generalize Plain.comm [x] [y] = cs at C6 LC hcl
      obtain ⟨ac, cc, rfl, -, -, hcc⟩ := C6.out.2.2.1
      have KC := Lib.hid hcc
      clear hcc
      go_wp2_with fail
      refine (l2Join_any au ac cu cc us cs _ (Lib.hid S6.out.2.2.1.ints) KU (Lib.hid C6.out.2.2.1.ints) KC LU LC (by omega)).mono ?_
      rintro e W7 ⟨vd, rfl, hrd, hbd⟩
      have S7 := Lib.hid (S6.out.later hbd)
      have D7 := Lib.hid (S6.out.next hrd hbd)
      have LD := Lib.hid (letters_in64 (LU.out.append LC.out).red)
      clear hrd hbd S6 C6 KC LC
      generalize Plain.red (us ++ cs) = ds at D7 LD
      obtain ⟨ad, cd, rfl, -, -, -⟩ := D7.out.2.2.1
      by_cases hd : ds.length ≤ 64
      · have hdi : (ds.length : Int) ≤ 64 := by omega
        go_wp2
        go_ret3
        exact ⟨_, _, us, ds, n, rfl, U64.out, by omega, LD.out, by omega, by omega, by omega, S7.out.2.2.1.mono (alloc_le W _), D7.out.2.2.1.mono (alloc_le W _), below_of S7.out.1⟩
      · have hdi : ¬ (ds.length : Int) ≤ 64 := by omega
        go_wp2_with fail
        refine (loop_any W.heap.size len cap _ a _ (Lib.hid S7.out.2.1) (by omega)).mono ?_
        rintro e W30 ⟨vv, vs, rfl, h64, hvl, hS⟩
        have S30 := Lib.hid (S7.out.cur hS.2.1 hS.1)
        have R30 := Lib.hid (hS.2.2.1.mono S7.out.1.size)
        have V64 := Lib.hid h64
        clear h64 hS S7
        go_wp2
        go_ret3
        exact ⟨_, _, us, vs, n, rfl, U64.out, by omega, V64.out, by omega, by omega, by omega, S30.out.2.2.1.mono (alloc_le W _), R30.out.mono (alloc_le W _), below_of S30.out.1⟩

end Go.Proofs.Ytnmjanhpjnlfcaa
