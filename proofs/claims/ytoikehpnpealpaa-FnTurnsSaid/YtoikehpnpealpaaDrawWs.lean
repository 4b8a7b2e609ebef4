/- Contracts: the draws of stage 2's laws hand back lists of at most 100 numbers, in memory of their own. Condition: the code's bytes lie in memory. -/
import Derived.Test.YtoikehpnpealpaaInvC
import Derived.Test.YtoikehpnpealpaaDrawWord
import Derived.Test.YtoikehpnpealpaaTurnWalks
import Derived.Test.YtoikehpnpealpaaWordWalks
namespace Go.Proofs.Ytoikehpnpealpaa
open Go.ChangeShapes Go.WideShapes Go.ChangeAt Go.RowKit
set_option linter.unusedVariables false

/-- A list beside a cursor's turn. -/
theorem Res.side {N B : Nat} {w w1 : World} {v : Value} {xs : List Int} (h : Res N w v xs) (hB : B < N) (hg : w.grownBy w1 (some B)) : Res N w1 v xs := by
  obtain ⟨a, c, rfl, hI, hO, hC⟩ := h
  rcases hO with h0 | ⟨b, o, rfl, hb0, hb1, hf⟩
  · obtain rfl := List.eq_nil_of_length_eq_zero h0
    exact ⟨a, c, rfl, Ints.nil _ _, .inl rfl, hC⟩
  · have hbl := hg.block b hb1 (fun e => by injection e with e; omega)
    refine ⟨_, c, rfl, fun j x hx => ?_, .inr ⟨b, o, rfl, hb0, Nat.lt_of_lt_of_le hb1 hg.size, fun j => ?_⟩, hC⟩
    · obtain ⟨b', o', e, hc⟩ := hI j x hx
      cases e
      exact ⟨b, o, rfl, by rw [← hc]; simp [World.cell?, hbl]⟩
    · rw [← hf j]
      simp [World.frozen?, hbl]
theorem res_made (W : World) (zs : List Int) (h : zs.length ≤ 1048576) : Res W.heap.size (W.alloc (.cells (intVals zs).toArray 3)) (.slice (some ⟨W.heap.size, 0, none⟩) zs.length zs.length) zs :=
  ⟨_, _, rfl, Ints.made W zs _, .inr ⟨W.heap.size, 0, rfl, Nat.le_refl _, by simp, fun j => by
    have e : (W.alloc (.cells (intVals zs).toArray 3)).heap[W.heap.size]? = some (.cells (intVals zs).toArray 3 (0, 0)) := by show (W.heap.push _)[W.heap.size]? = _; simp
    unfold World.frozen?
    rw [e]
    simp⟩, cap_copy _ h⟩

/-- One list drawn. -/
def OneDraw (W : World) (e : Ending) (W' : World) : Prop := ∃ v xs, e = .returned v ∧ In64 xs ∧ xs.length ≤ 100 ∧ Res W.heap.size W' v xs ∧ Below W.heap.size W W'
/-- A list and a number. -/
def NumDraw (W : World) (e : Ending) (W' : World) : Prop := ∃ v xs n, e = .returned (.tuple #[v, .int .i64 n]) ∧ In64 xs ∧ xs.length ≤ 100 ∧ -1000 ≤ n ∧ n ≤ 1000 ∧ Res W.heap.size W' v xs ∧ Below W.heap.size W W'
/-- Two lists. -/
def PairDraw (W : World) (e : Ending) (W' : World) : Prop := ∃ v1 v2 xs ys, e = .returned (.tuple #[v1, v2]) ∧ In64 xs ∧ xs.length ≤ 100 ∧ In64 ys ∧ ys.length ≤ 100 ∧ Res W.heap.size W' v1 xs ∧ Res W.heap.size W' v2 ys ∧ Below W.heap.size W W'
theorem alloc_le (W : World) (o : Obj) : W.heap.size ≤ (W.alloc o).heap.size := by simp
theorem alloc_lt (W : World) (o : Obj) : W.heap.size < (W.alloc o).heap.size := by simp


theorem word_one {W W' : World} {len cap m : Nat} {a : Option Addr} {e : Ending} {o : Obj} (h : WordPost W.heap.size a len cap m (W.alloc o) e W') : OneDraw W e W' := by
  obtain ⟨v, xs, rfl, h64, hl, hres, -, hg⟩ := h
  exact ⟨v, xs, rfl, h64, by omega, hres.mono (alloc_le W o), below_of hg⟩
theorem word_one' {W w W' : World} {len cap m : Nat} {a : Option Addr} {e : Ending} {o : Obj} (hg0 : (W.alloc o).grownBy w (some W.heap.size)) (h : WordPost W.heap.size a len cap m w e W') : OneDraw W e W' := by
  obtain ⟨v, xs, rfl, h64, hl, hres, -, hg⟩ := h
  exact ⟨v, xs, rfl, h64, by omega, hres.mono (Nat.le_trans (alloc_le W o) hg0.size), below_of (hg0.trans hg)⟩

set_option maxHeartbeats 400000 in
theorem drawIsWord_any (a : Option Addr) (len cap : Nat) (W : World) (h : Hid (Code8 W a len)) :
    Calls Try.prog 39 #[.slice a len cap] W (OneDraw W) := by
  go_enter Try.func39, Try.ntmps39
  go_wp2_with fail
  refine (word_any W.heap.size len cap 0 a _ (Lib.hid (Held.fresh cap h.out)) (by omega)).mono ?_
  intro e W1 hp
  obtain ⟨v, xs, rfl, h1⟩ := word_one hp
  have H1 := Lib.hid h1
  clear h1 hp
  go_wp2
  go_ret
  exact ⟨_, _, rfl, H1.out⟩


theorem drawCoreOf_any (a : Option Addr) (len cap : Nat) (W : World) (h : Hid (Code8 W a len)) :
    Calls Try.prog 7 #[.slice a len cap] W (OneDraw W) := by
  go_enter Try.func7, Try.ntmps7
  go_wp2_with fail
  refine (drawIsWord_any a len cap W h).mono ?_
  rintro e W1 ⟨v, xs, rfl, h1⟩
  have H1 := Lib.hid h1
  clear h1
  go_wp2
  go_ret
  exact ⟨_, _, rfl, H1.out⟩


/-- Where the first list of a pair lies, and the cursor. -/
def Fst (W : World) (o : Obj) (a : Option Addr) (len cap m : Nat) (v : Value) (xs : List Int) (wr : World) : Prop :=
  (W.alloc o).grownBy wr (some W.heap.size) ∧ Res (W.alloc o).heap.size wr v xs ∧ Held wr W.heap.size a len cap m
theorem Fst.cur {W wr w1 : World} {o : Obj} {a : Option Addr} {len cap m m' : Nat} {v : Value} {xs : List Int} (h : Fst W o a len cap m v xs wr) (hH : Held w1 W.heap.size a len cap m') (hg : wr.grownBy w1 (some W.heap.size)) : Fst W o a len cap m' v xs w1 :=
  ⟨h.1.trans hg, h.2.1.side (alloc_lt W o) hg, hH⟩
theorem Fst.later {W wr w1 : World} {o : Obj} {a : Option Addr} {len cap m : Nat} {v : Value} {xs : List Int} (h : Fst W o a len cap m v xs wr) (hb : Below wr.heap.size wr w1) : Fst W o a len cap m v xs w1 :=
  ⟨h.1.trans ⟨hb.os, hb.tape, hb.output, hb.size, fun j hj _ => hb.block j hj⟩, h.2.1.on hb, h.2.2.kept hb⟩
theorem Fst.pair {W w w1 : World} {o : Obj} {a : Option Addr} {len cap m m' : Nat} {v v2 : Value} {xs ys : List Int} (h : Fst W o a len cap m v xs w) (h64 : In64 xs) (hl : xs.length ≤ 100)
    (h64' : In64 ys) (hl' : ys.length ≤ 100) (hr : Res w.heap.size w1 v2 ys) (hg : w.grownBy w1 (some W.heap.size)) : PairDraw W (.returned (.tuple #[v, v2])) w1 := by
  obtain ⟨h1, h2, h3⟩ := h
  exact ⟨v, v2, xs, ys, rfl, h64, hl, h64', hl', (h2.side (alloc_lt W o) hg).mono (alloc_le W o), hr.mono (Nat.le_trans (alloc_le W o) h1.size), below_of (h1.trans hg)⟩
theorem first_of {W w : World} {o : Obj} {len cap : Nat} {a : Option Addr} {e : Ending} (h : WordPost W.heap.size a len cap 0 (W.alloc o) e w) : ∃ v xs, e = .returned v ∧ In64 xs ∧ xs.length ≤ 66 ∧ Fst W o a len cap 2000 v xs w := by
  obtain ⟨v, xs, rfl, h64, hl, hres, hH, hg⟩ := h
  exact ⟨v, xs, rfl, h64, hl, hg, hres, by simpa using hH⟩

theorem Fst.draw {W w w1 : World} {o : Obj} {a : Option Addr} {len cap m : Nat} {v v1 : Value} {xs L : List Int} (h : Fst W o a len cap m v xs w) (hc : Coll L w.heap.size w v1 w1) : Draw L W.heap.size a len cap m w v1 w1 :=
  ⟨hc.1, ⟨hc.2.1.os, hc.2.1.tape, hc.2.1.output, hc.2.1.size, fun j hj _ => hc.2.1.block j hj⟩, h.2.2.lt, h.2.2.kept hc.2.1, h.2.2.2⟩
theorem inv_small (xs : List Int) (h : xs.length ≤ 66) : (Plain.inv xs).length ≤ 66 := by simpa [Plain.inv] using h
set_option maxRecDepth 100000 in
set_option maxHeartbeats 1000000 in
theorem drawJoinW_any (a : Option Addr) (len cap : Nat) (W : World) (h : Hid (Code8 W a len)) :
    Calls Try.prog 46 #[.slice a len cap] W (PairDraw W) := by
  obtain ⟨i0, hi0, hz0, hz1, hz2⟩ := info_parts infoInt
  go_enter Try.func46, Try.ntmps46
  go_wp2_with fail
  refine (word_any W.heap.size len cap 0 a _ (Lib.hid (Held.fresh cap h.out)) (by omega)).mono ?_
  intro e W1 hp
  obtain ⟨v, xs, rfl, h64, hl, hf⟩ := first_of hp
  have F1 := Lib.hid hf
  have H64 := Lib.hid h64
  clear hp hf h64
  obtain ⟨av, cv, rfl, hI, hO, hcp⟩ := F1.out.2.1
  clear hI hO hcp
  go_wp2_with fail
  refine (one_any W.heap.size len cap _ 4 a _ (Lib.hid F1.out.2.2) (by omega) (by omega)).mono ?_
  rintro e W2 ⟨b, rfl, hH, hg⟩
  have F2 := Lib.hid (F1.out.cur hH hg)
  clear hH hg F1
  have HI2 : Hid (Ints W2 av xs) := Lib.hid (by
    obtain ⟨av', cv', e, hI, -⟩ := F2.out.2.1
    cases e
    exact hI)
  have HC2 : Hid (Cap av xs.length cv) := Lib.hid (by
    obtain ⟨av', cv', e, hI, hO, hC⟩ := F2.out.2.1
    cases e
    exact hC)
  cases b
  · go_wp2_with fail
    refine (word_any W.heap.size len cap _ a _ (Lib.hid F2.out.2.2) (by omega)).mono ?_
    rintro e W3 ⟨v2, ys, rfl, h64', hl', hres, hH, hg⟩
    have HP := Lib.hid (F2.out.pair (m' := 0) H64.out (by omega) h64' (by omega) hres hg)
    clear h64' hl' hres hH hg
    go_wp2
    go_ret2
    exact HP.out
  · cases hw : Plain.wordB xs with
    | false =>
      have HW := Lib.hid hw
      clear hw
      go_wp2_with fail
      refine (l2Word_any _ _ xs _ HI2 H64 (by omega)).mono ?_
      rw [HW.out]
      rintro e w' ⟨rfl, rfl⟩
      go_wp2_with fail
      refine (word_any W.heap.size len cap _ a _ (Lib.hid F2.out.2.2) (by omega)).mono ?_
      rintro e W3 ⟨v2, ys, rfl, h64', hl', hres, hH, hg⟩
      have HP := Lib.hid (F2.out.pair (m' := 0) H64.out (by omega) h64' (by omega) hres hg)
      clear h64' hl' hres hH hg
      go_wp2
      go_ret2
      exact HP.out
    | true =>
      have HL := Lib.hid (Plain.wordB_iff.1 hw).2
      have HW := Lib.hid hw
      clear hw
      go_wp2_with fail
      refine (l2Word_any _ _ xs _ HI2 H64 (by omega)).mono ?_
      rw [HW.out]
      rintro e w' ⟨rfl, rfl⟩
      by_cases hx0 : xs = []
      · subst hx0
        go_wp2_with fail
        all_goals
          refine (l2InverseC_at _ _ 0 [] _ rfl (Lib.hid (Ints.nil _ _)) (Lib.hid (fun z hz => by simp at hz)) (by omega)).mono ?_
          rintro e W3 ⟨v3, rfl, hcol⟩
          have D3 := Lib.hid (F2.out.draw hcol)
          clear hcol
          obtain ⟨L3, hL3⟩ : ∃ L3, L3 = Plain.inv ([]) := ⟨_, rfl⟩
          have hl3 : L3.length ≤ 66 := by subst hL3; exact inv_small _ (by simp)
          have HL3 : Hid (Plain.Letters L3) := Lib.hid (by rw [hL3]; exact inv_letters (fun z hz => by simp at hz))
          rw [← hL3] at D3
          clear hL3
          go_wp2_with fail
          refine (letter_any W.heap.size len cap _ a _ (Lib.hid D3.out.2.2.2.1) (by omega)).mono ?_
          rintro e W4 ⟨x, rfl, hx0, hx1, hx2, hH, hg⟩
          have D4 := Lib.hid (D3.out.cur hH hg)
          clear hH hg D3
          go_wp2_with (at_builtin; refine wpList_append_own _ rfl _ _ 24 rfl W2.heap.size 3 i0 (.int .i64 0) 1 8 Try.underlying24 hi0 hz0 hz1 hz2 rfl (by decide) _ _ _ rfl (D4.out.1.alloc _) ⟨_, 0, none⟩ 1 1 [.int .i64 x] rfl rfl ?c1 ?c2 ?c3 ?c4 ?c5 ?_)
          case c1 => exact cell_one_new _ _ _
          case c2 => simp [Value.oneCell']
          case c3 => unfold maxLen; omega
          case c4 => omega
          case c5 => exact Nat.le_trans D4.out.2.1.size (by simp)
          intro v' w1 hown' hgrow _
          have D5 := Lib.hid (D4.out.push (x := x) hown' hgrow)
          clear hown' hgrow
          have HP := Lib.hid (F2.out.pair (m' := 0) H64.out (by omega) (letters_in64 (HL3.out.push hx0 hx1 hx2)) (by simp; omega) D5.out.res D5.out.2.1)
          go_wp2
          go_ret2
          exact HP.out
      · have hpos : 0 < xs.length := List.length_pos_iff.2 hx0
        obtain ⟨b, o, rfl, -⟩ := HI2.out 0 xs[0] (by simp [hpos])
        have hcv := HC2.out.1
        have hcv2 := HC2.out.2.1
        have hne : ¬ cv = xs.length / 2 := by omega
        have I1 := Lib.hid (HI2.out.from (xs.length / 2))
        have hll := Lib.hid (show (xs.drop (xs.length / 2)).length = xs.length - xs.length / 2 by simp)
        have hkl := Lib.hid (show (xs.drop (xs.length / 2)).length ≤ 66 by simp; omega)
        have HLd := Lib.hid (drop_letters HL.out (xs.length / 2))
        clear hpos hx0
        go_wp2_with fail
        refine (l2InverseC_at (some ⟨b, o + xs.length / 2, none⟩) _ _ (xs.drop (xs.length / 2)) _ hll.out I1 HLd (by omega)).mono ?_
        rintro e W3 ⟨v3, rfl, hcol⟩
        have D3 := Lib.hid (F2.out.draw hcol)
        clear hcol
        obtain ⟨L3, hL3⟩ : ∃ L3, L3 = Plain.inv (xs.drop (xs.length / 2)) := ⟨_, rfl⟩
        have hl3 : L3.length ≤ 66 := by subst hL3; exact inv_small _ hkl.out
        have HL3 : Hid (Plain.Letters L3) := Lib.hid (by rw [hL3]; exact inv_letters HLd.out)
        rw [← hL3] at D3
        clear hL3
        go_wp2_with fail
        refine (letter_any W.heap.size len cap _ a _ (Lib.hid D3.out.2.2.2.1) (by omega)).mono ?_
        rintro e W4 ⟨x, rfl, hx0, hx1, hx2, hH, hg⟩
        have D4 := Lib.hid (D3.out.cur hH hg)
        clear hH hg D3
        go_wp2_with (at_builtin; refine wpList_append_own _ rfl _ _ 24 rfl W2.heap.size 3 i0 (.int .i64 0) 1 8 Try.underlying24 hi0 hz0 hz1 hz2 rfl (by decide) _ _ _ rfl (D4.out.1.alloc _) ⟨_, 0, none⟩ 1 1 [.int .i64 x] rfl rfl ?c1 ?c2 ?c3 ?c4 ?c5 ?_)
        case c1 => exact cell_one_new _ _ _
        case c2 => simp [Value.oneCell']
        case c3 => unfold maxLen; omega
        case c4 => omega
        case c5 => exact Nat.le_trans D4.out.2.1.size (by simp)
        intro v' w1 hown' hgrow _
        have D5 := Lib.hid (D4.out.push (x := x) hown' hgrow)
        clear hown' hgrow
        have HP := Lib.hid (F2.out.pair (m' := 0) H64.out (by omega) (letters_in64 (HL3.out.push hx0 hx1 hx2)) (by simp; omega) D5.out.res D5.out.2.1)
        go_wp2
        go_ret2
        exact HP.out

end Go.Proofs.Ytoikehpnpealpaa
