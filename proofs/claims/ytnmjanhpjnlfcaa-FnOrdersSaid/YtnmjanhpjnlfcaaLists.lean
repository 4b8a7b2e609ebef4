/- Lists of lists of numbers in memory: rows that are appended to, and what lies in them. No condition. -/
import Derived.Test.YtnmjanhpjnlfcaaConcatWalks
namespace Go.Proofs.Ytnmjanhpjnlfcaa
open Go.ChangeShapes Go.WideShapes Go.ChangeAt Go.RowKit
set_option linter.unusedVariables false

/-- A list lies in a block of numbers, if it has any. -/
def Lies (w : World) (a : Option Addr) (xs : List Int) : Prop := xs = [] ∨ ∃ b o cs x, a = some ⟨b, o, none⟩ ∧ w.heap[b]? = some (.cells cs 3 x)
/-- One list among others: its numbers, its room, its block from B on. -/
def FacOk (B : Nat) (w : World) (f : Fac) : Prop := Ints w f.1 f.2.2 ∧ Cap f.1 f.2.2.length f.2.1 ∧ Lies w f.1 f.2.2 ∧ Own B w f.1 f.2.2.length
theorem Lies.on {w w' : World} {a : Option Addr} {xs : List Int} (h : Lies w a xs) (hb : Below w.heap.size w w') : Lies w' a xs := by
  rcases h with h | ⟨b, o, cs, x, e, hc⟩
  · exact .inl h
  · exact .inr ⟨b, o, cs, x, e, (hb.block b (Array.getElem?_eq_some_iff.1 hc).1).trans hc⟩
theorem FacOk.on {B : Nat} {w w' : World} {f : Fac} (h : FacOk B w f) (hb : Below w.heap.size w w') : FacOk B w' f := ⟨h.1.on hb, h.2.1, h.2.2.1.on hb, h.2.2.2.on hb⟩
theorem FacOk.mono {B B' : Nat} {w : World} {f : Fac} (h : FacOk B w f) (hB : B' ≤ B) : FacOk B' w f := ⟨h.1, h.2.1, h.2.2.1, h.2.2.2.mono hB⟩
theorem FacOk.off {B : Nat} {w w' : World} {f : Fac} {T : TypeId} {base : Nat} {v : Value} {n : Nat} {vs : List Value} (hT : T ≠ 3) (h : FacOk B w f) (ho : w.ownsRow base T 1 v n vs) (hg : w.grownBy w' v.ownBlock) : FacOk B w' f := by
  obtain ⟨h1, h2, h3, h4⟩ := h
  rcases h3 with h3 | ⟨b, o, cs, x, e, hc⟩
  · refine ⟨by rw [h3]; exact Ints.nil _ _, h2, .inl h3, .inl (by rw [h3]; rfl)⟩
  · have hne : some b ≠ v.ownBlock := by
      rcases ho.2 with ⟨rfl, _⟩ | ⟨g, cap, cur, rfl, hg1, hg2, _⟩
      · simp [Value.ownBlock]
      · intro he
        simp only [Value.ownBlock, Option.some.injEq] at he
        subst he
        rw [hc] at hg2
        simp only [Option.some.injEq, Obj.cells.injEq] at hg2
        exact hT hg2.2.1.symm
    have hblk := hg.block b (Array.getElem?_eq_some_iff.1 hc).1 hne
    refine ⟨fun j y hy => ?_, h2, .inr ⟨b, o, cs, x, e, hblk.trans hc⟩, ?_⟩
    · obtain ⟨b', o', e', hcy⟩ := h1 j y hy
      rw [e] at e'; cases e'
      exact ⟨b, o, e, hg.cell hcy hne⟩
    · rcases h4 with h4 | ⟨b', o', e', k1, k2, k3⟩
      · exact .inl h4
      · rw [e] at e'; cases e'
        exact .inr ⟨b, o, e, k1, Nat.lt_of_lt_of_le k2 hg.size, fun j => (World.frozen?_of_block (a := ⟨b, j, none⟩) hblk).trans (k3 j)⟩
theorem facOk_coll {L : List Int} {B : Nat} {w wr : World} {v : Value} (h : Coll L B w v wr) : ∃ a c, v = .slice a L.length c ∧ FacOk B wr (a, c, L) := by
  obtain ⟨⟨a, c, rfl, hi, ho, hk⟩, hb⟩ := coll_res h
  refine ⟨a, c, rfl, hi, hk, ?_, ho⟩
  rcases h.1.2 with ⟨e, e2⟩ | ⟨g, cap, cur, e, _, hc, _⟩
  · exact .inl (List.eq_nil_of_length_eq_zero e2)
  · exact .inr ⟨g, 0, cur, (0, 0), by cases e; rfl, hc⟩
/-- A slice literal of numbers, laid at once. -/
theorem facOk_lit (w : World) (xs : List Int) (hn : xs.length ≤ 1048576) : FacOk w.heap.size (w.alloc (.cells (nums xs).toArray 3)) (some ⟨w.heap.size, 0, none⟩, xs.length, xs) := by
  have hh : (w.alloc (.cells (nums xs).toArray 3)).heap[w.heap.size]? = some (.cells (nums xs).toArray 3 (0, 0)) := heap_alloc_new w _
  refine ⟨fun j x hx => ⟨_, _, rfl, ?_⟩, cap_copy _ hn, .inr ⟨_, _, _, _, rfl, hh⟩, .inr ⟨_, _, rfl, Nat.le_refl _, by simp, fun j => frozen_of_row _ _ j _ _ hh⟩⟩
  rw [cell_of_row _ _ _ _ _ _ hh]
  simp [nums_at hx]

def rowOf (fs : List Fac) : List Value := fs.map facVal
theorem rowOf_length (fs : List Fac) : (rowOf fs).length = fs.length := by simp [rowOf]
theorem rowOf_one (fs : List Fac) : ∀ u ∈ rowOf fs, u.oneCell' = true := fun u hu => by
  obtain ⟨f, _, rfl⟩ := List.mem_map.1 hu
  rfl
/-- A list of lists that is appended to. -/
def CollF (T : TypeId) (fs : List Fac) (B : Nat) (w : World) (v : Value) (wr : World) : Prop :=
  wr.ownsRow B T 1 v fs.length (rowOf fs) ∧ (∀ f ∈ fs, FacOk B wr f) ∧ Below B w wr ∧ B ≤ wr.heap.size
theorem collF_start (T : TypeId) (w : World) : CollF T [] w.heap.size w (.slice (some ⟨w.heap.size, 0, none⟩) 0 0) (w.alloc (.cells #[] T)) :=
  ⟨World.ownsRow_made w #[] 0 (Nat.le_refl _) (Nat.zero_le _) rfl, fun f h => by simp at h, (Below.refl _ w).alloc (Nat.le_refl _) _, by simp⟩
theorem CollF.later {T : TypeId} {fs : List Fac} {B : Nat} {w wr w1 : World} {v : Value} (h : CollF T fs B w v wr) (hb : Below wr.heap.size wr w1) : CollF T fs B w v w1 :=
  ⟨h.1.kept (row := none) ⟨hb.os, hb.tape, hb.output, hb.size, fun j hj _ => hb.block j hj⟩ (by cases hv : v.ownBlock with | none => exact .inl rfl | some g => exact .inr (by simp)), fun f hf => (h.2.1 f hf).on hb, h.2.2.1.trans (hb.mono h.2.2.2), by have := hb.size; have := h.2.2.2; omega⟩
theorem CollF.drewN {T : TypeId} {fs : List Fac} {B : Nat} {w wr : World} {v : Value} (h : CollF T fs B w v wr) (n : Nat) : CollF T fs B w v (wr.drewN n) := ⟨h.1, h.2.1, below_drewN h.2.2.1 n, h.2.2.2⟩
theorem collF_push {T : TypeId} (hT : T ≠ 3) {f : Fac} {fs : List Fac} {B : Nat} {w wr w1 : World} {v v' : Value} {o : Obj} (h : CollF T fs B w v wr) (hf : FacOk B wr f)
    (hown : w1.ownsRow B T 1 v' (fs.length + 1) (rowOf fs ++ [facVal f])) (hgrow : (wr.alloc o).grownBy w1 v.ownBlock) : CollF T (fs ++ [f]) B w v' w1 := by
  obtain ⟨ho, hk, hb, hB⟩ := h
  have hba : Below wr.heap.size wr (wr.alloc o) := (Below.refl _ wr).alloc (Nat.le_refl _) o
  have hoa : (wr.alloc o).ownsRow B T 1 v fs.length (rowOf fs) := ho.alloc o
  refine ⟨by simpa [rowOf] using hown, fun g hg => ?_, (hb.alloc hB o).grown hgrow (by simp; omega) (fun j hj => (ho.lt j hj).1), by have := hgrow.size; simp at this; omega⟩
  rcases List.mem_append.1 hg with hg | hg
  · exact ((hk g hg).on hba).off hT hoa hgrow
  · obtain rfl := List.mem_singleton.1 hg
    exact (hf.on hba).off hT hoa hgrow
theorem collF_more {T : TypeId} (hT : T ≠ 3) {fs gs : List Fac} {B m : Nat} {w wr w1 : World} {v v' : Value} (h : CollF T fs B w v wr) (hf : ∀ f ∈ gs, FacOk B wr f) (hm : gs.length = m)
    (hown : w1.ownsRow B T 1 v' (fs.length + m) (rowOf fs ++ rowOf gs)) (hgrow : wr.grownBy w1 v.ownBlock) : CollF T (fs ++ gs) B w v' w1 := by
  obtain ⟨ho, hk, hb, hB⟩ := h
  subst hm
  refine ⟨by simpa [rowOf] using hown, fun g hg => ?_, hb.grown hgrow hB (fun j hj => (ho.lt j hj).1), by have := hgrow.size; omega⟩
  rcases List.mem_append.1 hg with hg | hg
  · exact (hk g hg).off hT ho hgrow
  · exact (hf g hg).off hT ho hgrow
/-- What a row of lists gives: where it lies, and its lists. -/
theorem collF_facs {T : TypeId} {fs : List Fac} {B : Nat} {w wr : World} {v : Value} (h : CollF T fs B w v wr) : ∃ a c, v = .slice a fs.length c ∧ Facs wr a fs ∧ Cap a fs.length c ∧ (∀ b o, a = some ⟨b, o, none⟩ → B ≤ b ∧ o = 0) ∧ (∀ j : Nat, fs[j]?.isSome = true → ∃ b, a = some ⟨b, 0, none⟩) := by
  obtain ⟨ho, hk, hb, hB⟩ := h
  have h0 := ho
  rcases ho.2 with ⟨rfl, hn⟩ | ⟨g, cap, cur, rfl, hg, hc, hn, hm, hz, ht⟩
  · have e : fs = [] := List.eq_nil_of_length_eq_zero hn
    subst e
    exact ⟨none, 0, rfl, fun j f hf => by simp at hf, ⟨Nat.le_refl _, by omega, fun _ => rfl, fun x h => by cases h⟩, ⟨fun b o h => (by cases h), fun j h => (by simp at h)⟩⟩
  · refine ⟨_, cap, rfl, fun j f hf => ⟨⟨g, 0, rfl, ?_⟩, (hk f (List.mem_of_getElem? hf)).1, (hk f (List.mem_of_getElem? hf)).2.1⟩, ⟨hn, by unfold maxLen at hm; omega, fun h => (by cases h), fun x h => ⟨g, 0, by cases h; rfl⟩⟩, ⟨fun b o h => (by cases h; exact ⟨hg, rfl⟩), fun j h => ⟨g, rfl⟩⟩⟩
    have hj := at_lt hf
    rw [Nat.zero_add, World.ownsRow.cellAt h0 j (by omega)]
    simp [rowOf, hf, facVal]

end Go.Proofs.Ytnmjanhpjnlfcaa
