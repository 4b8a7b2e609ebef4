/- Contract: spec.l2Inverse returns a row of its own that holds the inverse. Conditions: letters, a length that fits. -/
import Derived.Test.YtnmjanhpjnlfcaaDrawWord
import Derived.Test.YtnmjanhpjnlfcaaInvWalks
import Derived.Test.YtnmjanhpjnlfcaaTurnWalks
import Derived.Test.YtnmjanhpjnlfcaaWordWalks
namespace Go.Proofs.Ytnmjanhpjnlfcaa
open Go.ChangeShapes Go.WideShapes Go.ChangeAt Go.RowKit
set_option linter.unusedVariables false

set_option maxRecDepth 100000 in
set_option maxHeartbeats 800000 in
theorem l2InverseC_any (a : Option Addr) (cap : Nat) (xs : List Int) (w : World) (h : Hid (Ints w a xs)) (hl : Hid (Plain.Letters xs)) (hn : xs.length ≤ 1048576) :
    Calls Try.prog 57 #[.slice a xs.length cap] w fun e w' => ∃ v, e = .returned v ∧ Coll (Plain.inv xs) w.heap.size w v w' := by
  obtain ⟨i0, hi0, hz0, hz1, hz2⟩ := info_parts infoInt
  go_enter Try.func57, Try.ntmps57
  go_wp2
  go_loopw [3, 4] (fun v i wr => ∃ z : Int, -1 ≤ z ∧ z < (xs.length : Int) ∧ i = .int .i64 z ∧ Coll (invTo xs (z + 1).toNat) w.heap.size w v wr) (fun _ i _ => (intOf i + 1).toNat)
  case atStart => exact ⟨(xs.length : Int) - 1, by omega, by omega, rfl, by rw [show ((xs.length : Int) - 1 + 1).toNat = xs.length by omega, invTo_end]; exact coll_start w⟩
  case round =>
    obtain ⟨z, hz1', hz2', rfl, hrel⟩ := hrel
    by_cases hneg : 0 ≤ z
    · obtain ⟨m, rfl⟩ := Int.eq_ofNat_of_zero_le hneg
      have hm : m < xs.length := by omega
      obtain ⟨x, hx⟩ := at_some xs m hm
      obtain ⟨b, o, rfl, hc0⟩ := h.out m x hx
      obtain ⟨hx0, hx1, hx2⟩ := hl.out.at hx
      rw [show ((m : Int) + 1).toNat = m + 1 by omega] at hrel
      have HS := Lib.hid (invTo_step hx)
      have hc : wr.cell? ⟨b, o + m, none⟩ = some (.int .i64 x) := cell_later hrel.2.1 hc0
      have hll := invTo_length xs (m + 1)
      generalize invTo xs (m + 1) = L at HS hrel hll
      have HK := Lib.hid hrel
      have HO := Lib.hid hrel.1
      have HB := Lib.hid hrel.2.2
      clear hrel hc0 hx
      go_wp2_with (at_builtin; refine wpList_append_own _ rfl _ _ 24 rfl w.heap.size 3 i0 (.int .i64 0) 1 8 Try.underlying24 hi0 hz0 hz1 hz2 rfl (by decide) _ _ _ rfl (HO.out.alloc _) ⟨wr.heap.size, 0, none⟩ 1 1 [.int .i64 (-x)] rfl rfl ?c1 ?c2 ?c3 ?c4 ?c5 ?_)
      case c1 => exact cell_one_new _ _ _
      case c2 => simp [Value.oneCell']
      case c3 => unfold maxLen; omega
      case c4 => omega
      case c5 => exact Nat.le_trans HB.out (by simp)
      intro v' w1 hown' hgrow _
      have hR := Lib.hid (coll_push (x := -x) HK.out hown' hgrow)
      clear hown' hgrow
      go_wp2
      go_roundw
      case rel => exact ⟨(m : Int) - 1, by omega, by omega, rfl, by rw [show ((m : Int) - 1 + 1).toNat = m by omega, HS.out]; exact hR.out⟩
      case measure => simp [intOf]; try omega
    · obtain rfl : z = -1 := by omega
      rw [show ((-1 : Int) + 1).toNat = 0 from rfl, invTo_zero] at hrel
      have hR := Lib.hid hrel
      clear hrel
      go_wp2
      go_ret
      exact ⟨_, rfl, hR.out⟩

theorem l2InverseC_at (a : Option Addr) (cap n : Nat) (xs : List Int) (w : World) (hl : xs.length = n) (h : Hid (Ints w a xs)) (hL : Hid (Plain.Letters xs)) (hn : n ≤ 1048576) :
    Calls Try.prog 57 #[.slice a n cap] w fun e w' => ∃ v, e = .returned v ∧ Coll (Plain.inv xs) w.heap.size w v w' := by
  subst hl
  exact l2InverseC_any a cap xs w h hL hn
theorem drop_letters {xs : List Int} (h : Plain.Letters xs) (k : Nat) : Plain.Letters (xs.drop k) := h.sub fun x hx => List.mem_of_mem_drop hx
theorem inv_letters {xs : List Int} (h : Plain.Letters xs) : Plain.Letters (Plain.inv xs) := fun x hx => by
  simp [Plain.inv] at hx
  have := h (-x) (by first | exact hx | (obtain ⟨y, hy, rfl⟩ := hx; simpa using hy))
  omega

end Go.Proofs.Ytnmjanhpjnlfcaa

/- Contracts: the draws of stage 2's laws hand back lists of at most 100 numbers, in memory of their own. Condition: the code's bytes lie in memory. -/
namespace Go.Proofs.Ytnmjanhpjnlfcaa
open Go.ChangeShapes Go.WideShapes Go.ChangeAt Go.RowKit
set_option linter.unusedVariables false

/-- A list beside a cursor's turn. -/
theorem Res.side {N B : Nat} {w w1 : World} {v : Value} {xs : List Int} (h : Res N w v xs) (hB : B < N) (hg : w.grownBy w1 (some B)) : Res N w1 v xs := by
  obtain ⟨a, c, rfl, hI, hO, hC⟩ := h
  rcases hO with h0 | ⟨b, o, rfl, hb0, hb1, hf⟩
  · obtain rfl := List.eq_nil_of_length_eq_zero h0
    exact ⟨a, c, rfl, Ints.nil _ _, .inl rfl, hC⟩
  · have hbl := hg.block b hb1 (fun e => by injection e with e; omega)
    refine ⟨_, c, rfl, fun j x hx => ?_, .inr ⟨b, o, rfl, hb0, Nat.lt_of_lt_of_le hb1 hg.size, fun j => ?_⟩, hC⟩
    · obtain ⟨b', o', e, hc⟩ := hI j x hx
      cases e
      exact ⟨b, o, rfl, by rw [← hc]; simp [World.cell?, hbl]⟩
    · rw [← hf j]
      simp [World.frozen?, hbl]
theorem res_made (W : World) (zs : List Int) (h : zs.length ≤ 1048576) : Res W.heap.size (W.alloc (.cells (intVals zs).toArray 3)) (.slice (some ⟨W.heap.size, 0, none⟩) zs.length zs.length) zs :=
  ⟨_, _, rfl, Ints.made W zs _, .inr ⟨W.heap.size, 0, rfl, Nat.le_refl _, by simp, fun j => by
    have e : (W.alloc (.cells (intVals zs).toArray 3)).heap[W.heap.size]? = some (.cells (intVals zs).toArray 3 (0, 0)) := by show (W.heap.push _)[W.heap.size]? = _; simp
    unfold World.frozen?
    rw [e]
    simp⟩, cap_copy _ h⟩

/-- One list drawn. -/
def OneDraw (W : World) (e : Ending) (W' : World) : Prop := ∃ v xs, e = .returned v ∧ In64 xs ∧ xs.length ≤ 100 ∧ Res W.heap.size W' v xs ∧ Below W.heap.size W W'
/-- A list and a number. -/
def NumDraw (W : World) (e : Ending) (W' : World) : Prop := ∃ v xs n, e = .returned (.tuple #[v, .int .i64 n]) ∧ In64 xs ∧ xs.length ≤ 100 ∧ -1000 ≤ n ∧ n ≤ 1000 ∧ Res W.heap.size W' v xs ∧ Below W.heap.size W W'
/-- Two lists. -/
def PairDraw (W : World) (e : Ending) (W' : World) : Prop := ∃ v1 v2 xs ys, e = .returned (.tuple #[v1, v2]) ∧ In64 xs ∧ xs.length ≤ 100 ∧ In64 ys ∧ ys.length ≤ 100 ∧ Res W.heap.size W' v1 xs ∧ Res W.heap.size W' v2 ys ∧ Below W.heap.size W W'
theorem alloc_le (W : World) (o : Obj) : W.heap.size ≤ (W.alloc o).heap.size := by simp
theorem alloc_lt (W : World) (o : Obj) : W.heap.size < (W.alloc o).heap.size := by simp

set_option maxHeartbeats 800000 in
theorem curReduced_any (B len cap m : Nat) (a : Option Addr) (w : World) (h : Hid (Held w B a len cap m)) (hm : m ≤ 800000) :
    Calls Try.prog 55 #[.pointer (some ⟨B, 0, none⟩)] w (WordPost B a len cap m w) := by
  go_enter Try.func55, Try.ntmps55
  go_wp2_with fail
  refine (word_any B len cap m a _ h hm).mono ?_
  rintro e W1 ⟨v, xs, rfl, h64, hl, hres, hH, hg⟩
  obtain ⟨av, cv, rfl, hI, hO, hcp⟩ := hres
  have H64 := Lib.hid h64
  have HH := Lib.hid hH
  have HG := Lib.hid hg
  have HI := Lib.hid hI
  clear h64 hH hg hI hO hcp
  cases hw : Plain.wordB xs with
  | false =>
    have HW := Lib.hid hw
    clear hw
    go_wp2_with fail
    refine (l2Word_any _ _ xs _ HI H64 (by omega)).mono ?_
    rw [HW.out]
    rintro e w' ⟨rfl, rfl⟩
    go_wp2
    go_ret
    exact ⟨_, [1, 2, -1], rfl, letters_in64 (fun z hz => by simp at hz; omega), by simp, (res_made W1 [1, 2, -1] (by simp)).mono HG.out.size, HH.out.alloc _, HG.out.trans (World.grownBy_alloc W1 _ _)⟩
  | true =>
    have HL := Lib.hid (Plain.wordB_iff.1 hw).2
    have HW := Lib.hid hw
    clear hw
    go_wp2_with fail
    refine (l2Word_any _ _ xs _ HI H64 (by omega)).mono ?_
    rw [HW.out]
    rintro e w' ⟨rfl, rfl⟩
    go_wp2_with fail
    refine (l2Reduce_any av cv xs _ HI HL (by omega)).mono ?_
    rintro e W2 ⟨v2, rfl, hres, hb⟩
    have HR := Lib.hid hres
    have HB := Lib.hid hb
    clear hres hb
    go_wp2
    go_ret
    exact ⟨_, _, rfl, letters_in64 HL.out.red, Nat.le_trans (Plain.red_length xs) hl, HR.out.mono HG.out.size, HH.out.kept HB.out, HG.out.trans ⟨HB.out.os, HB.out.tape, HB.out.output, HB.out.size, fun j hj _ => HB.out.block j hj⟩⟩

theorem word_one {W W' : World} {len cap m : Nat} {a : Option Addr} {e : Ending} {o : Obj} (h : WordPost W.heap.size a len cap m (W.alloc o) e W') : OneDraw W e W' := by
  obtain ⟨v, xs, rfl, h64, hl, hres, -, hg⟩ := h
  exact ⟨v, xs, rfl, h64, by omega, hres.mono (alloc_le W o), below_of hg⟩
theorem word_one' {W w W' : World} {len cap m : Nat} {a : Option Addr} {e : Ending} {o : Obj} (hg0 : (W.alloc o).grownBy w (some W.heap.size)) (h : WordPost W.heap.size a len cap m w e W') : OneDraw W e W' := by
  obtain ⟨v, xs, rfl, h64, hl, hres, -, hg⟩ := h
  exact ⟨v, xs, rfl, h64, by omega, hres.mono (Nat.le_trans (alloc_le W o) hg0.size), below_of (hg0.trans hg)⟩





/-- Where the first list of a pair lies, and the cursor. -/
def Fst (W : World) (o : Obj) (a : Option Addr) (len cap m : Nat) (v : Value) (xs : List Int) (wr : World) : Prop :=
  (W.alloc o).grownBy wr (some W.heap.size) ∧ Res (W.alloc o).heap.size wr v xs ∧ Held wr W.heap.size a len cap m
theorem Fst.cur {W wr w1 : World} {o : Obj} {a : Option Addr} {len cap m m' : Nat} {v : Value} {xs : List Int} (h : Fst W o a len cap m v xs wr) (hH : Held w1 W.heap.size a len cap m') (hg : wr.grownBy w1 (some W.heap.size)) : Fst W o a len cap m' v xs w1 :=
  ⟨h.1.trans hg, h.2.1.side (alloc_lt W o) hg, hH⟩
theorem Fst.later {W wr w1 : World} {o : Obj} {a : Option Addr} {len cap m : Nat} {v : Value} {xs : List Int} (h : Fst W o a len cap m v xs wr) (hb : Below wr.heap.size wr w1) : Fst W o a len cap m v xs w1 :=
  ⟨h.1.trans ⟨hb.os, hb.tape, hb.output, hb.size, fun j hj _ => hb.block j hj⟩, h.2.1.on hb, h.2.2.kept hb⟩
theorem Fst.pair {W w w1 : World} {o : Obj} {a : Option Addr} {len cap m m' : Nat} {v v2 : Value} {xs ys : List Int} (h : Fst W o a len cap m v xs w) (h64 : In64 xs) (hl : xs.length ≤ 100)
    (h64' : In64 ys) (hl' : ys.length ≤ 100) (hr : Res w.heap.size w1 v2 ys) (hg : w.grownBy w1 (some W.heap.size)) : PairDraw W (.returned (.tuple #[v, v2])) w1 := by
  obtain ⟨h1, h2, h3⟩ := h
  exact ⟨v, v2, xs, ys, rfl, h64, hl, h64', hl', (h2.side (alloc_lt W o) hg).mono (alloc_le W o), hr.mono (Nat.le_trans (alloc_le W o) h1.size), below_of (h1.trans hg)⟩
theorem first_of {W w : World} {o : Obj} {len cap : Nat} {a : Option Addr} {e : Ending} (h : WordPost W.heap.size a len cap 0 (W.alloc o) e w) : ∃ v xs, e = .returned v ∧ In64 xs ∧ xs.length ≤ 66 ∧ Fst W o a len cap 2000 v xs w := by
  obtain ⟨v, xs, rfl, h64, hl, hres, hH, hg⟩ := h
  exact ⟨v, xs, rfl, h64, hl, hg, hres, by simpa using hH⟩


end Go.Proofs.Ytnmjanhpjnlfcaa
