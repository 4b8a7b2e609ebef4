/- Contract: spec.DrawLessWord hands back two lists of at most 100 numbers, in memory of their own. Condition: the code's bytes lie in memory. -/
import Derived.Test.YtmcbaejgimopmaaGreatBdDrawWs
import Derived.Test.YtmcbaejgimopmaaGreatTurnWalks
namespace Go.Proofs.YtmcbaejgimopmaaGreat
open Go.ChangeShapes Go.WideShapes Go.ChangeAt Go.RowKit
set_option linter.unusedVariables false

theorem Draw.stored {L : List Int} {B len cap m : Nat} {a : Option Addr} {w wr : World} {b o n c k : Nat} {x : Int} (h : Draw L B a len cap m w (.slice (some ⟨b, o, none⟩) n c) wr) :
    Draw (L.set k x) B a len cap m w (.slice (some ⟨b, o, none⟩) n c) (wr.setCell ⟨b, o + k, none⟩ (.int .i64 x)) := by
  obtain ⟨ho, hw, hB, hH, hy⟩ := h
  have h2 := ho.2
  rcases h2 with ⟨e, -⟩ | ⟨g, cap', cur, e, -⟩
  · simp at e
  · simp only [Value.slice.injEq, Option.some.injEq, Addr.mk.injEq, and_true] at e
    obtain ⟨⟨rfl, rfl⟩, rfl, rfl⟩ := e
    obtain ⟨hs, hg⟩ := World.ownsRow.stored ho k (.int .i64 x)
    rw [nums_set] at hs
    rw [Nat.zero_add]
    have hr : ∀ j, some b = some j → w.heap.size ≤ j := fun j e => by cases e; exact (ho.lt b rfl).1
    have hw1 := Draw.grown_over hw hg hr
    exact ⟨by simpa using hs, hw1, hB, hH.aside hy hw1 hB hg hr, hy⟩

theorem in64_set {L : List Int} {k : Nat} {x : Int} (h : In64 L) (h0 : -9223372036854775808 ≤ x) (h1 : x ≤ 9223372036854775807) : In64 (L.set k x) := by
  intro j y hy
  rw [List.getElem?_set] at hy
  split at hy
  · split at hy
    · cases hy; exact ⟨h0, h1⟩
    · cases hy
  · exact h j y hy


end Go.Proofs.YtmcbaejgimopmaaGreat

/- A list beside the cursor that is stored into, and how it stays a result. Plain facts. -/
namespace Go.Proofs.YtmcbaejgimopmaaGreat
open Go.ChangeShapes Go.WideShapes Go.ChangeAt Go.RowKit
set_option linter.unusedVariables false

/-- The second list of a pair, beside the cursor. -/
def Snd (w : World) (B : Nat) (a : Option Addr) (len cap m : Nat) (v : Value) (ys : List Int) (wr : World) : Prop :=
  w.grownBy wr (some B) ∧ Held wr B a len cap m ∧ Res w.heap.size wr v ys ∧ B < w.heap.size ∧ Bytes w B a len
theorem Snd.cur {w wr w1 : World} {B len cap m m' : Nat} {a : Option Addr} {v : Value} {ys : List Int} (h : Snd w B a len cap m v ys wr) (hH : Held w1 B a len cap m') (hg : wr.grownBy w1 (some B)) : Snd w B a len cap m' v ys w1 :=
  ⟨h.1.trans hg, hH, h.2.2.1.side h.2.2.2.1 hg, h.2.2.2⟩
theorem Snd.stored {w wr : World} {B len cap m b o n c k : Nat} {a : Option Addr} {x : Int} {ys : List Int} (h : Snd w B a len cap m (.slice (some ⟨b, o, none⟩) n c) ys wr) (hk : k < ys.length) :
    Snd w B a len cap m (.slice (some ⟨b, o, none⟩) n c) (ys.set k x) (wr.setCell ⟨b, o + k, none⟩ (.int .i64 x)) := by
  obtain ⟨hg, hH, hR, hB, hy⟩ := h
  obtain ⟨a', c', e, hI, hO, hC⟩ := hR
  rcases hO with h0 | ⟨b', o', e', hb0, hb1, hf⟩
  · omega
  · cases e
    cases e'
    have hs := cur_set wr b (o + k) (.int .i64 x)
    have hr : ∀ j, some b = some j → w.heap.size ≤ j := fun j e => by cases e; exact hb0
    have hw1 := Draw.grown_over hg hs hr
    refine ⟨hw1, hH.aside hy hw1 hB hs hr, ⟨_, _, by rw [List.length_set], fun j y hj => ?_, .inr ⟨b, o, rfl, hb0, by simpa [World.setCell] using hb1, fun j => ?_⟩, by rw [List.length_set]; exact hC⟩, hB, hy⟩
    · refine ⟨b, o, rfl, ?_⟩
      rw [List.getElem?_set] at hj
      by_cases hjk : k = j
      · subst hjk
        rw [if_pos rfl, if_pos hk] at hj
        cases hj
        obtain ⟨y0, hy0⟩ := at_some ys k hk
        obtain ⟨b2, o2, e2, hc⟩ := hI k y0 hy0
        cases e2
        exact World.cell?_setCell_same _ _ _ hc
      · rw [if_neg hjk] at hj
        obtain ⟨b2, o2, e2, hc⟩ := hI j y hj
        cases e2
        rw [World.cell?_setCell_other _ _ _ _ (by intro hh; simp only [Addr.mk.injEq] at hh; omega)]
        exact hc
    · rw [World.frozen?_setCell]
      exact hf j
theorem Fst.snd {W w wr : World} {o : Obj} {a : Option Addr} {len cap m m' : Nat} {v v2 : Value} {xs ys : List Int} (h : Fst W o a len cap m v xs w) (h64 : In64 xs) (hl : xs.length ≤ 100)
    (h64' : In64 ys) (hl' : ys.length ≤ 100) (hs : Snd w W.heap.size a len cap m' v2 ys wr) : PairDraw W (.returned (.tuple #[v, v2])) wr :=
  h.pair (m' := 0) h64 hl h64' hl' hs.2.2.1 hs.1
theorem turn_letters {xs : List Int} (h : Plain.Letters xs) (k : Nat) : Plain.Letters (turn xs k) := fun x hx => by
  refine h x ?_
  rcases List.mem_append.1 hx with hx | hx
  · exact List.mem_of_mem_drop hx
  · exact List.mem_of_mem_take hx
/-- Beside the cursor a pair of letters and the first list. -/
theorem Fst.made {W w : World} {o : Obj} {a : Option Addr} {len cap m : Nat} {v : Value} {xs : List Int} (h : Fst W o a len cap m v xs w) (o' : Obj) : Fst W o a len cap m v xs (w.alloc o') :=
  h.later ((Below.refl _ w).alloc (Nat.le_refl _) o')
theorem snd_of {w wr : World} {B len cap m : Nat} {a : Option Addr} {v : Value} {ys : List Int} (hg : w.grownBy wr (some B)) (hH : Held wr B a len cap m) (hR : Res w.heap.size wr v ys) (hB : Held w B a len cap 0 ∨ (B < w.heap.size ∧ Bytes w B a len)) : Snd w B a len cap m v ys wr := by
  rcases hB with hB | hB
  · exact ⟨hg, hH, hR, hB.lt, hB.2⟩
  · exact ⟨hg, hH, hR, hB⟩

end Go.Proofs.YtmcbaejgimopmaaGreat
