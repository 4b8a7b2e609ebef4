/- A list beside the cursor that is stored into, and how it stays a result. Plain facts. -/
import Derived.Test.YtnmjanhpjnlfcaaBdCommSpec
import Derived.Test.YtnmjanhpjnlfcaaBdDrawNails
import Derived.Test.YtnmjanhpjnlfcaaBdJoinWWalks
import Derived.Test.YtnmjanhpjnlfcaaTurnWalks
namespace Go.Proofs.Ytnmjanhpjnlfcaa
open Go.ChangeShapes Go.WideShapes Go.ChangeAt Go.RowKit
set_option linter.unusedVariables false

/-- The second list of a pair, beside the cursor. -/
def Snd (w : World) (B : Nat) (a : Option Addr) (len cap m : Nat) (v : Value) (ys : List Int) (wr : World) : Prop :=
  w.grownBy wr (some B) ∧ Held wr B a len cap m ∧ Res w.heap.size wr v ys ∧ B < w.heap.size ∧ Bytes w B a len
theorem Snd.cur {w wr w1 : World} {B len cap m m' : Nat} {a : Option Addr} {v : Value} {ys : List Int} (h : Snd w B a len cap m v ys wr) (hH : Held w1 B a len cap m') (hg : wr.grownBy w1 (some B)) : Snd w B a len cap m' v ys w1 :=
  ⟨h.1.trans hg, hH, h.2.2.1.side h.2.2.2.1 hg, h.2.2.2⟩
theorem Snd.stored {w wr : World} {B len cap m b o n c k : Nat} {a : Option Addr} {x : Int} {ys : List Int} (h : Snd w B a len cap m (.slice (some ⟨b, o, none⟩) n c) ys wr) (hk : k < ys.length) :
    Snd w B a len cap m (.slice (some ⟨b, o, none⟩) n c) (ys.set k x) (wr.setCell ⟨b, o + k, none⟩ (.int .i64 x)) := by
  obtain ⟨hg, hH, hR, hB, hy⟩ := h
  obtain ⟨a', c', e, hI, hO, hC⟩ := hR
  rcases hO with h0 | ⟨b', o', e', hb0, hb1, hf⟩
  · omega
  · cases e
    cases e'
    have hs := cur_set wr b (o + k) (.int .i64 x)
    have hr : ∀ j, some b = some j → w.heap.size ≤ j := fun j e => by cases e; exact hb0
    have hw1 := Draw.grown_over hg hs hr
    refine ⟨hw1, hH.aside hy hw1 hB hs hr, ⟨_, _, by rw [List.length_set], fun j y hj => ?_, .inr ⟨b, o, rfl, hb0, by simpa [World.setCell] using hb1, fun j => ?_⟩, by rw [List.length_set]; exact hC⟩, hB, hy⟩
    · refine ⟨b, o, rfl, ?_⟩
      rw [List.getElem?_set] at hj
      by_cases hjk : k = j
      · subst hjk
        rw [if_pos rfl, if_pos hk] at hj
        cases hj
        obtain ⟨y0, hy0⟩ := at_some ys k hk
        obtain ⟨b2, o2, e2, hc⟩ := hI k y0 hy0
        cases e2
        exact World.cell?_setCell_same _ _ _ hc
      · rw [if_neg hjk] at hj
        obtain ⟨b2, o2, e2, hc⟩ := hI j y hj
        cases e2
        rw [World.cell?_setCell_other _ _ _ _ (by intro hh; simp only [Addr.mk.injEq] at hh; omega)]
        exact hc
    · rw [World.frozen?_setCell]
      exact hf j
theorem Fst.snd {W w wr : World} {o : Obj} {a : Option Addr} {len cap m m' : Nat} {v v2 : Value} {xs ys : List Int} (h : Fst W o a len cap m v xs w) (h64 : In64 xs) (hl : xs.length ≤ 100)
    (h64' : In64 ys) (hl' : ys.length ≤ 100) (hs : Snd w W.heap.size a len cap m' v2 ys wr) : PairDraw W (.returned (.tuple #[v, v2])) wr :=
  h.pair (m' := 0) h64 hl h64' hl' hs.2.2.1 hs.1
theorem turn_letters {xs : List Int} (h : Plain.Letters xs) (k : Nat) : Plain.Letters (turn xs k) := fun x hx => by
  refine h x ?_
  rcases List.mem_append.1 hx with hx | hx
  · exact List.mem_of_mem_drop hx
  · exact List.mem_of_mem_take hx
/-- Beside the cursor a pair of letters and the first list. -/
theorem Fst.made {W w : World} {o : Obj} {a : Option Addr} {len cap m : Nat} {v : Value} {xs : List Int} (h : Fst W o a len cap m v xs w) (o' : Obj) : Fst W o a len cap m v xs (w.alloc o') :=
  h.later ((Below.refl _ w).alloc (Nat.le_refl _) o')
theorem snd_of {w wr : World} {B len cap m : Nat} {a : Option Addr} {v : Value} {ys : List Int} (hg : w.grownBy wr (some B)) (hH : Held wr B a len cap m) (hR : Res w.heap.size wr v ys) (hB : Held w B a len cap 0 ∨ (B < w.heap.size ∧ Bytes w B a len)) : Snd w B a len cap m v ys wr := by
  rcases hB with hB | hB
  · exact ⟨hg, hH, hR, hB.lt, hB.2⟩
  · exact ⟨hg, hH, hR, hB⟩

end Go.Proofs.Ytnmjanhpjnlfcaa

/- Contracts: spec.DrawLeftWord and spec.DrawWicksParts hand back a list of at most 100 numbers, in memory of its own. Condition: the code's bytes lie in memory. -/
namespace Go.Proofs.Ytnmjanhpjnlfcaa
open Go.ChangeShapes Go.WideShapes Go.ChangeAt Go.RowKit
set_option linter.unusedVariables false


/-- Behind a drawing of a reduced word. -/
def RedWord (B : Nat) (a : Option Addr) (len cap m : Nat) (w : World) (e : Ending) (w' : World) : Prop :=
  ∃ v xs, e = .returned v ∧ Plain.Letters xs ∧ xs.length ≤ 66 ∧ Res w.heap.size w' v xs ∧ Held w' B a len cap (m + 2000) ∧ w.grownBy w' (some B)

set_option maxHeartbeats 800000 in
theorem curRed_any (B len cap m : Nat) (a : Option Addr) (w : World) (h : Hid (Held w B a len cap m)) (hm : m ≤ 800000) :
    Calls Try.prog 55 #[.pointer (some ⟨B, 0, none⟩)] w (RedWord B a len cap m w) := by
  go_enter Try.func55, Try.ntmps55
  go_wp2_with fail
  refine (word_any B len cap m a _ h hm).mono ?_
  rintro e W1 ⟨v, xs, rfl, h64, hl, hres, hH, hg⟩
  obtain ⟨av, cv, rfl, hI, hO, hcp⟩ := hres
  have H64 := Lib.hid h64
  have HH := Lib.hid hH
  have HG := Lib.hid hg
  have HI := Lib.hid hI
  clear h64 hH hg hI hO hcp
  cases hw : Plain.wordB xs with
  | false =>
    have HW := Lib.hid hw
    clear hw
    go_wp2_with fail
    refine (l2Word_any _ _ xs _ HI H64 (by omega)).mono ?_
    rw [HW.out]
    rintro e w' ⟨rfl, rfl⟩
    go_wp2
    go_ret
    exact ⟨_, [1, 2, -1], rfl, (fun z hz => by simp at hz; omega), by simp, (res_made W1 [1, 2, -1] (by simp)).mono HG.out.size, HH.out.alloc _, HG.out.trans (World.grownBy_alloc W1 _ _)⟩
  | true =>
    have HL := Lib.hid (Plain.wordB_iff.1 hw).2
    have HW := Lib.hid hw
    clear hw
    go_wp2_with fail
    refine (l2Word_any _ _ xs _ HI H64 (by omega)).mono ?_
    rw [HW.out]
    rintro e w' ⟨rfl, rfl⟩
    go_wp2_with fail
    refine (l2Reduce_any av cv xs _ HI HL (by omega)).mono ?_
    rintro e W2 ⟨v2, rfl, hres, hb⟩
    have HR := Lib.hid hres
    have HB := Lib.hid hb
    clear hres hb
    go_wp2
    go_ret
    exact ⟨_, _, rfl, HL.out.red, Nat.le_trans (Plain.red_length xs) hl, HR.out.mono HG.out.size, HH.out.kept HB.out, HG.out.trans ⟨HB.out.os, HB.out.tape, HB.out.output, HB.out.size, fun j hj _ => HB.out.block j hj⟩⟩

theorem l1Least_4 (n : Nat) (w : World) (h : n ≤ 1000) : Calls Try.prog 56 #[.int .i64 (n : Int), .int .i64 4] w fun e w' => ∃ z : Nat, e = .returned (.int .i64 (z : Int)) ∧ z ≤ 4 ∧ z ≤ n ∧ w = w' := by
  by_cases he : n < 4
  · have h1 : (n : Int) < 4 := by omega
    go_enter Try.func56, Try.ntmps56
    go_wp2
    go_ret
    exact ⟨n, rfl, by omega, by omega, rfl⟩
  · have h1 : ¬ (n : Int) < 4 := by omega
    go_enter Try.func56, Try.ntmps56
    go_wp2
    go_ret
    exact ⟨4, rfl, by omega, by omega, rfl⟩

theorem l4Comm_at (a1 a2 : Option Addr) (c1 c2 n1 n2 : Nat) (xs ys : List Int) (w : World) (e1 : xs.length = n1) (e2 : ys.length = n2) (h1 : Hid (Ints w a1 xs)) (k1 : Hid (Cap a1 n1 c1)) (h2 : Hid (Ints w a2 ys)) (k2 : Hid (Cap a2 n2 c2))
    (l1 : Hid (Plain.Letters xs)) (l2 : Hid (Plain.Letters ys)) (hx : n1 ≤ 100000) (hy : n2 ≤ 100000) :
    Calls Try.prog 37 #[.slice a1 n1 c1, .slice a2 n2 c2] w (ListPost (Plain.comm xs ys) w) := by
  subst e1 e2
  exact l4Commutator_any a1 a2 c1 c2 xs ys w h1 k1 h2 k2 l1 l2 hx hy

theorem Res.ints {B n c : Nat} {w : World} {a : Option Addr} {xs : List Int} (h : Res B w (.slice a n c) xs) : Ints w a xs := by
  obtain ⟨a', c', e, hI, -⟩ := h
  cases e
  exact hI
theorem Fst.drew {W wr : World} {o : Obj} {a : Option Addr} {len cap m : Nat} {v : Value} {xs : List Int} (h : Fst W o a len cap m v xs wr) : Fst W o a len cap m v xs wr.drew :=
  h.later (Below.refl _ wr).drew
theorem Fst.sndOf {W wr w1 : World} {o : Obj} {a : Option Addr} {len cap m : Nat} {v v2 : Value} {xs ys : List Int} (h : Fst W o a len cap m v xs wr) (hy : Bytes (W.alloc o) W.heap.size a len) (hr : Res wr.heap.size w1 v2 ys) (hb : Below wr.heap.size wr w1) : Snd (W.alloc o) W.heap.size a len cap m v2 ys w1 :=
  ⟨(h.later hb).1, (h.later hb).2.2, hr.mono h.1.size, alloc_lt W o, hy⟩
theorem Snd.one {W wr : World} {o : Obj} {a : Option Addr} {len cap m : Nat} {v : Value} {ys : List Int} (h : Snd (W.alloc o) W.heap.size a len cap m v ys wr) (h64 : In64 ys) (hl : ys.length ≤ 100) : OneDraw W (.returned v) wr :=
  ⟨v, ys, rfl, h64, hl, h.2.2.1.mono (alloc_le W o), below_of h.1⟩
theorem wick_len {us vs : List Int} {zu zv : Nat} (h1 : zu ≤ 4) (h2 : zv ≤ 4) : (Plain.comm (us.take zu) (vs.take zv)).length ≤ 16 := by
  have h3 : (us.take zu).length ≤ 4 := by simp; omega
  have h4 : (vs.take zv).length ≤ 4 := by simp; omega
  refine Nat.le_trans (Plain.red_length _) ?_
  rw [List.length_append, List.length_append, List.length_append, Plain.inv_length, Plain.inv_length]
  omega
theorem wick_fine {cs : List Int} {x : Int} (hx : Plain.Letters [x]) (hc : Plain.Letters cs) (hl : cs.length ≤ 16) : In64 (Plain.red ([x] ++ (cs ++ Plain.inv [x]))) ∧ (Plain.red ([x] ++ (cs ++ Plain.inv [x]))).length ≤ 18 := by
  refine ⟨letters_in64 (hx.append (hc.append hx.inv)).red, Nat.le_trans (Plain.red_length _) ?_⟩
  rw [List.length_append, List.length_append, Plain.inv_length]
  simp
  omega
theorem letters_take {xs : List Int} (h : Plain.Letters xs) (k : Nat) : Plain.Letters (xs.take k) := h.sub fun x hx => List.mem_of_mem_take hx


end Go.Proofs.Ytnmjanhpjnlfcaa
