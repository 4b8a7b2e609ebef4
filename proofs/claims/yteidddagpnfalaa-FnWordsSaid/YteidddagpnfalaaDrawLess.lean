/- Contract: spec.DrawLessWord hands back two lists of at most 100 numbers, in memory of their own. Condition: the code's bytes lie in memory. -/
import Derived.Test.YteidddagpnfalaaDrawWs
namespace Go.Proofs.Yteidddagpnfalaa
open Go.ChangeShapes Go.WideShapes Go.ChangeAt Go.RowKit
set_option linter.unusedVariables false

theorem Draw.stored {L : List Int} {B len cap m : Nat} {a : Option Addr} {w wr : World} {b o n c k : Nat} {x : Int} (h : Draw L B a len cap m w (.slice (some ⟨b, o, none⟩) n c) wr) :
    Draw (L.set k x) B a len cap m w (.slice (some ⟨b, o, none⟩) n c) (wr.setCell ⟨b, o + k, none⟩ (.int .i64 x)) := by
  obtain ⟨ho, hw, hB, hH, hy⟩ := h
  have h2 := ho.2
  rcases h2 with ⟨e, -⟩ | ⟨g, cap', cur, e, -⟩
  · simp at e
  · simp only [Value.slice.injEq, Option.some.injEq, Addr.mk.injEq, and_true] at e
    obtain ⟨⟨rfl, rfl⟩, rfl, rfl⟩ := e
    obtain ⟨hs, hg⟩ := World.ownsRow.stored ho k (.int .i64 x)
    rw [nums_set] at hs
    rw [Nat.zero_add]
    have hr : ∀ j, some b = some j → w.heap.size ≤ j := fun j e => by cases e; exact (ho.lt b rfl).1
    have hw1 := Draw.grown_over hw hg hr
    exact ⟨by simpa using hs, hw1, hB, hH.aside hy hw1 hB hg hr, hy⟩

theorem in64_set {L : List Int} {k : Nat} {x : Int} (h : In64 L) (h0 : -9223372036854775808 ≤ x) (h1 : x ≤ 9223372036854775807) : In64 (L.set k x) := by
  intro j y hy
  rw [List.getElem?_set] at hy
  split at hy
  · split at hy
    · cases hy; exact ⟨h0, h1⟩
    · cases hy
  · exact h j y hy

set_option maxRecDepth 100000 in
set_option maxHeartbeats 1000000 in
theorem drawLess_any (a : Option Addr) (len cap : Nat) (W : World) (h : Hid (Code8 W a len)) :
    Calls Try.prog 51 #[.slice a len cap] W (PairDraw W) := by
  go_enter Try.func51, Try.ntmps51
  go_wp2_with fail
  refine (word_any W.heap.size len cap 0 a _ (Lib.hid (Held.fresh cap h.out)) (by omega)).mono ?_
  intro e W1 hp
  obtain ⟨v, xs, rfl, h64, hl, hf⟩ := first_of hp
  have F1 := Lib.hid hf
  have H64 := Lib.hid h64
  clear hp hf h64
  obtain ⟨av, cv, rfl, hI, hO, hcp⟩ := F1.out.2.1
  have HI1 := Lib.hid hI
  have HC1 := Lib.hid hcp
  clear hI hO hcp
  go_wp2_with fail
  refine (l1Own_any av cv xs _ HI1 HC1 (by omega)).mono ?_
  rintro e W2 ⟨v1, rfl, hcol, -⟩
  have D2 := Lib.hid (F1.out.draw hcol)
  clear hcol
  go_wp2_with fail
  refine (one_any W.heap.size len cap _ 3 a _ (Lib.hid D2.out.2.2.2.1) (by omega) (by omega)).mono ?_
  rintro e W3 ⟨b, rfl, hH, hg⟩
  have D3 := Lib.hid (D2.out.cur hH hg)
  clear hH hg D2
  cases b
  · by_cases hx : xs = []
    · subst hx
      obtain ⟨a1, c1, rfl, -⟩ := D3.out.res
      have HP := Lib.hid (F1.out.pair (m' := 0) H64.out (by omega) H64.out (by omega) D3.out.res D3.out.2.1)
      go_wp2
      go_ret2
      exact HP.out
    · have hpos : 0 < xs.length := List.length_pos_iff.2 hx
      obtain ⟨a1, c1, rfl, hI, -⟩ := D3.out.res
      obtain ⟨b, o, rfl, -⟩ := hI 0 xs[0] (by simp [hpos])
      have hposi : (0 : Int) < (xs.length : Int) := by omega
      clear hI hx
      go_wp2_with fail
      refine (one_any W.heap.size len cap _ 4 a _ (Lib.hid D3.out.2.2.2.1) (by omega) (by omega)).mono ?_
      rintro e W4 ⟨b4, rfl, hH, hg⟩
      have D4 := Lib.hid (D3.out.cur hH hg)
      clear hH hg D3
      cases b4
      · go_wp2_with fail
        refine (pick_any W.heap.size len cap _ xs.length a _ (Lib.hid D4.out.2.2.2.1) (by omega) (by omega)).mono ?_
        rintro e W5 ⟨k, rfl, hk, hH, hg⟩
        have D5 := Lib.hid (D4.out.cur hH hg)
        have hk1 : k < xs.length := by omega
        clear hH hg D4 hk
        go_wp2_with fail
        refine (letter_any W.heap.size len cap _ a _ (Lib.hid D5.out.2.2.2.1) (by omega)).mono ?_
        rintro e W6 ⟨x, rfl, hx0, hx1, hx2, hH, hg⟩
        have D6 := Lib.hid (D5.out.cur hH hg)
        clear hH hg D5
        obtain ⟨y, hy⟩ := at_some xs k hk1
        have hc : W6.cell? ⟨b, o + k, none⟩ = some (.int .i64 y) := by
          obtain ⟨a', c', e, hI, -⟩ := D6.out.res
          obtain ⟨b', o', e', hc⟩ := hI k y hy
          cases e
          cases e'
          exact hc
        have hf : W6.frozen? ⟨b, o + k, none⟩ = false := by
          obtain ⟨a', c', e, hI, hO, -⟩ := D6.out.res
          rcases hO with h0 | ⟨b', o', e', -, -, hf⟩
          · omega
          · cases e
            cases e'
            exact hf _
        have D7 := Lib.hid (D6.out.stored (k := k) (x := x))
        have HP := Lib.hid (F1.out.pair (m' := 0) H64.out (by omega) (ys := xs.set k x) (in64_set H64.out (by omega) (by omega)) (by simp; omega) D7.out.res D7.out.2.1)
        have hk2 : (k : Int) < (xs.length : Int) := by omega
        have hk0 : (0 : Int) ≤ (k : Int) := by omega
        clear D7 hy
        go_wp2
        go_ret2
        exact HP.out
      · have HP := Lib.hid (F1.out.pair (m' := 0) H64.out (by omega) H64.out (by omega) D4.out.res D4.out.2.1)
        go_wp2
        go_ret2
        exact HP.out
  · go_wp2_with fail
    refine (word_any W.heap.size len cap _ a _ (Lib.hid D3.out.2.2.2.1) (by omega)).mono ?_
    rintro e W4 ⟨v2, ys, rfl, h64', hl', hres, hH, hg⟩
    have HP := Lib.hid (F1.out.pair (m' := 0) H64.out (by omega) h64' (by omega) (hres.mono D3.out.2.1.size) (D3.out.2.1.trans hg))
    clear h64' hl' hres hH hg
    go_wp2
    go_ret2
    exact HP.out

end Go.Proofs.Yteidddagpnfalaa
