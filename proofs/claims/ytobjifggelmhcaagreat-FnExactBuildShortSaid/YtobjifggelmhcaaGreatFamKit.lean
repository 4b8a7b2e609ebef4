/- Contracts of the laws' helpers at Families: laws.szFamily, toFamily, eqFamily, markFamily, heldFamily. Conditions: lengths that fit. -/
import Derived.Test.YtobjifggelmhcaaGreatLawKit
import Derived.Test.YtobjifggelmhcaaGreatEdgeKit
namespace Go.Proofs.YtobjifggelmhcaaGreat
open Go.ChangeShapes Go.WideShapes Go.ChangeAt Go.RowKit
set_option linter.unusedVariables false

/-- A Family that came back: its Sets, in memory of its own. -/
def FamPost (out : List Int) (w : World) (e : Ending) (w' : World) : Prop :=
  ∃ a c, e = .returned (.agg #[.slice a out.length c]) ∧ Ints w' a out ∧ Own w.heap.size w' a out.length ∧ Cap a out.length c ∧ Below w.heap.size w w'
/-- The same beside a report. -/
def FB (out : List Int) (ok : Bool) (w : World) (e : Ending) (w' : World) : Prop :=
  ∃ a c, e = .returned (.tuple #[.agg #[.slice a out.length c], .bool ok]) ∧ Ints w' a out ∧ Own w.heap.size w' a out.length ∧ Cap a out.length c ∧ Below w.heap.size w w'
/-- A variable of the type Family in a block of its own. -/
def FamAt (w : World) (G : Nat) (u : Value) : Prop := w.heap[G]? = some (.cells #[u] 28 (0, 0))
theorem FamAt.lt {w : World} {G : Nat} {u : Value} (h : FamAt w G u) : G < w.heap.size := (Array.getElem?_eq_some_iff.1 h).1
theorem FamAt.on {w w' : World} {G : Nat} {u : Value} (h : FamAt w G u) (hb : Below w.heap.size w w') : FamAt w' G u := (hb.block G h.lt).trans h
theorem FamAt.cell {w : World} {G : Nat} {u : Value} (h : FamAt w G u) : w.cell? ⟨G, 0, none⟩ = some u := by rw [cell_of_row w G 0 _ _ _ h]; rfl
theorem FamAt.free {w : World} {G : Nat} {u : Value} (h : FamAt w G u) : w.frozen? ⟨G, 0, none⟩ = false := frozen_of_row w G 0 _ _ h
theorem FamAt.set {w : World} {G : Nat} {u : Value} (h : FamAt w G u) (v : Value) : FamAt (w.setCell ⟨G, 0, none⟩ v) G v := heap_setCell_same w G 0 _ _ _ h
theorem FamAt.off {w : World} {G H i : Nat} {u v : Value} (h : FamAt w G u) (hne : G ≠ H) : FamAt (w.setCell ⟨H, i, none⟩ v) G u := (heap_setCell_other w ⟨H, i, none⟩ G v hne).trans h
theorem famAt_new (w : World) (u : Value) : FamAt (w.alloc (.cells #[u] 28)) w.heap.size u := heap_alloc_new w _
theorem FamAt.alloc {w : World} {G : Nat} {u : Value} (h : FamAt w G u) (o : Obj) : FamAt (w.alloc o) G u := (Below.heap_alloc w o G h.lt).trans h
theorem infoFam : (Tryz.prog.info? 28).map (·.size) = some 1 := by kernel_rfl
theorem fam_load {w : World} {G : Nat} {u : Value} (h : FamAt w G u) : (loadVar 28 ⟨G, 0, none⟩).run Tryz.prog w = .ok (.agg #[u]) w :=
  run_loadVar_row w G 28 28 _ (0, 0) _ h Tryz.underlying28 rfl infoFam
theorem results_fam {fn : Func} {p : Tmp} (h : fn.results = #[.cell p 28]) (tmps : Array Value) (w : World) (g : Nat) (u : Value) (hp : tmps.getD p undef = .pointer (some ⟨g, 0, none⟩)) (hg : FamAt w g u) :
    (results fn tmps).run Tryz.prog w = .ok (.agg #[u]) w :=
  results_cell_row h tmps w g 28 _ (0, 0) _ hp hg Tryz.underlying28 rfl infoFam
theorem Ints.set {w : World} {a : Option Addr} {xs : List Int} {G i : Nat} {v : Value} (h : Ints w a xs) (hne : ∀ b o, a = some ⟨b, o, none⟩ → xs ≠ [] → b ≠ G) : Ints (w.setCell ⟨G, i, none⟩ v) a xs := h.off (grown_set w G i v) hne
theorem Own.set {B : Nat} {w : World} {a : Option Addr} {n G i : Nat} {v : Value} (h : Own B w a n) : Own B (w.setCell ⟨G, i, none⟩ v) a n := by
  rcases h with h | ⟨b, o, e, h1, h2, h3⟩
  · exact .inl h
  · refine .inr ⟨b, o, e, h1, by simpa using h2, fun j => ?_⟩
    by_cases hg : b = G
    · subst hg; rw [frozen_set, h3]
    · rw [← h3 j]; exact World.frozen?_of_block (w := w) (a := ⟨b, j, none⟩) (heap_setCell_other w ⟨G, i, none⟩ b v hg)
/-- Sets in memory from B on, behind a store below B. -/
theorem set_low {B G i : Nat} {w : World} {a : Option Addr} {xs : List Int} {v : Value} (hi : Ints w a xs) (ho : Own B w a xs.length) (hG : G < B) : Ints (w.setCell ⟨G, i, none⟩ v) a xs ∧ Own B (w.setCell ⟨G, i, none⟩ v) a xs.length :=
  ⟨hi.set fun b o e hx => by
    rcases ho with h | ⟨b', o', e', h1, -, -⟩
    · exact absurd (List.eq_nil_of_length_eq_zero h) hx
    · rw [e] at e'; simp only [Option.some.injEq, Addr.mk.injEq, and_true] at e'; omega, ho.set⟩
theorem fb_of {out out' : List Int} {ok ok' : Bool} {w w' : World} {e : Ending} (h1 : out = out') (h2 : ok = ok') (h : FB out ok w e w') : FB out' ok' w e w' := by subst h1; subst h2; exact h

theorem sz_any (a : Option Addr) (n cap : Nat) (left : Nat) (w : World) (hn : n ≤ 9223372036854775807) (hl : left ≤ 1048576) :
    Calls Tryz.prog 5 #[.agg #[.slice a n cap], .int .i64 (left : Int)] w fun e w' => e = .returned (.int .i64 (if n ≤ left then ((left - n : Nat) : Int) else -1)) ∧ Below w.heap.size w w' := by
  by_cases h : n ≤ left
  · have hE : Hid ((if n ≤ left then ((left - n : Nat) : Int) else -1) = (left : Int) - (n : Int)) := Lib.hid (by rw [if_pos h]; omega)
    rw [hE.out]
    have h1 : ¬ ((left : Int) - (n : Int) < 0) := by omega
    have hb := (Below.refl w.heap.size w).alloc (Nat.le_refl _) (.cells #[.slice a n cap] 24)
    go_enter Tryz.func5, Tryz.ntmps5
    go_wp2
    go_ret
    exact ⟨rfl, hb⟩
  · have hE : Hid ((if n ≤ left then ((left - n : Nat) : Int) else -1) = -1) := Lib.hid (by rw [if_neg h])
    rw [hE.out]
    have h1 : (left : Int) - (n : Int) < 0 := by omega
    have hb := (Below.refl w.heap.size w).alloc (Nat.le_refl _) (.cells #[.slice a n cap] 24)
    go_enter Tryz.func5, Tryz.ntmps5
    go_wp2
    go_ret
    exact ⟨rfl, hb⟩
theorem toFam_any (a : Option Addr) (cap : Nat) (xs : List Int) (w : World) (h : Hid (Ints w a xs)) (hn : xs.length ≤ 1048576) :
    Calls Tryz.prog 7 #[.agg #[.slice a xs.length cap]] w (FamPost xs w) := by
  have hb0 := (((Below.refl w.heap.size w).alloc (Nat.le_refl _) (.cells #[.slice a xs.length cap] 24)).alloc (by simp) (.cells #[.slice none 0 0] 28)).alloc (by simp; omega) (.cells #[.slice none 0 0] 28)
  have hs : (((w.alloc (.cells #[.slice a xs.length cap] 24)).alloc (.cells #[.slice none 0 0] 28)).alloc (.cells #[.slice none 0 0] 28)).heap.size = w.heap.size + 3 := by simp
  have f1 : FamAt (((w.alloc (.cells #[.slice a xs.length cap] 24)).alloc (.cells #[.slice none 0 0] 28)).alloc (.cells #[.slice none 0 0] 28)) (w.heap.size + 1 + 1) (.slice none 0 0) := by
    have := famAt_new ((w.alloc (.cells #[.slice a xs.length cap] 24)).alloc (.cells #[.slice none 0 0] 28)) (.slice none 0 0)
    simpa using this
  have f2 : FamAt (((w.alloc (.cells #[.slice a xs.length cap] 24)).alloc (.cells #[.slice none 0 0] 28)).alloc (.cells #[.slice none 0 0] 28)) (w.heap.size + 1) (.slice none 0 0) := by
    have := famAt_new (w.alloc (.cells #[.slice a xs.length cap] 24)) (.slice none 0 0)
    exact FamAt.alloc (by simpa using this) _
  have H0 := Lib.hid (And.intro hb0 (And.intro hs (And.intro f1 f2)))
  clear hb0 hs f1 f2
  go_enter Tryz.func7, Tryz.ntmps7
  go_wp2_with fail
  obtain ⟨W, hW⟩ : ∃ W, W = (((w.alloc (.cells #[.slice a xs.length cap] 24)).alloc (.cells #[.slice none 0 0] 28)).alloc (.cells #[.slice none 0 0] 28)) := ⟨_, rfl⟩
  rw [← hW] at H0 ⊢
  clear hW
  refine (to_any _ _ xs _ (Lib.hid (h.out.on H0.out.1)) hn).mono ?_
  rintro e w1 hcp
  unfold CopyPost at hcp
  rw [H0.out.2.1] at hcp
  obtain ⟨rfl, hi, ho, hb1⟩ := hcp
  have hb : Below W.heap.size W w1 := by rw [H0.out.2.1]; exact hb1
  clear hb1
  have hc := (H0.out.2.2.1.on hb).cell
  have hf := (H0.out.2.2.1.on hb).free
  have g1 := (H0.out.2.2.1.on hb).set (.slice (some ⟨w.heap.size + 3, 0, none⟩) xs.length xs.length)
  have g2 := (H0.out.2.2.2.on hb).off (H := w.heap.size + 1 + 1) (i := 0) (v := .slice (some ⟨w.heap.size + 3, 0, none⟩) xs.length xs.length) (by omega)
  have s1 := set_low (G := w.heap.size + 1 + 1) (i := 0) (v := .slice (some ⟨w.heap.size + 3, 0, none⟩) xs.length xs.length) hi ho (by omega)
  have s2 := set_low (G := w.heap.size + 1) (i := 0) (v := .slice (some ⟨w.heap.size + 3, 0, none⟩) xs.length xs.length) s1.1 s1.2 (by omega)
  have g3 := g2.set (.slice (some ⟨w.heap.size + 3, 0, none⟩) xs.length xs.length)
  have hc1 := g1.cell
  have hc2 := g2.cell
  have hf2 := g2.free
  have hB := ((H0.out.1.trans (hb.mono (by rw [H0.out.2.1]; omega))).setCell (p := ⟨w.heap.size + 1 + 1, 0, none⟩) (by simp; omega) (.slice (some ⟨w.heap.size + 3, 0, none⟩) xs.length xs.length)).setCell (p := ⟨w.heap.size + 1, 0, none⟩) (by simp) (.slice (some ⟨w.heap.size + 3, 0, none⟩) xs.length xs.length)
  have HE := Lib.hid (And.intro g3 (And.intro s2 hB))
  clear g1 g2 g3 s1 s2 hB hb hi ho
  go_wp2_with fail
  refine bodyPost_ret (results_fam rfl _ _ (w.heap.size + 1) _ rfl HE.out.1) rfl ⟨_, _, rfl, HE.out.2.1.1, HE.out.2.1.2.mono (by omega), cap_copy _ hn, HE.out.2.2⟩
theorem eqFam_same (a b : Option Addr) (ca cb : Nat) (xs : List Int) (w : World) (ha : Hid (Ints w a xs)) (hb : Hid (Ints w b xs)) (hn : xs.length ≤ 9223372036854775807) :
    Calls Tryz.prog 10 #[.agg #[.slice a xs.length ca], .agg #[.slice b xs.length cb]] w fun e w' => e = .returned (.bool true) ∧ Below w.heap.size w w' := by
  have hb0 := ((Below.refl w.heap.size w).alloc (Nat.le_refl _) (.cells #[.slice a xs.length ca] 28)).alloc (by simp) (.cells #[.slice b xs.length cb] 28)
  have H0 := Lib.hid hb0
  clear hb0
  go_enter Tryz.func10, Tryz.ntmps10
  go_wp2_with fail
  refine (eq_same _ _ _ _ xs _ (Lib.hid (ha.out.on H0.out)) (Lib.hid (hb.out.on H0.out)) hn).mono ?_
  rintro e w1 ⟨rfl, hb1⟩
  have H1 := Lib.hid (H0.out.trans (hb1.mono (by simp; omega)))
  clear hb1
  go_wp2_with fail
  go_ret
  exact ⟨rfl, H1.out⟩
theorem markFam_any (B : Nat) (a : Option Addr) (cap k : Nat) (xs : List Int) (w : World) (h : Hid (Ints w a xs)) (ho : Hid (Own B w a xs.length)) (hn : k + xs.length ≤ 9223372036854775807) :
    Calls Tryz.prog 11 #[.agg #[.slice a xs.length cap], .int .i64 (k : Int)] w (MarkPost a k xs w) := by
  have hb0 := (Below.refl w.heap.size w).alloc (Nat.le_refl _) (.cells #[.slice a xs.length cap] 28)
  have H0 := Lib.hid hb0
  have hg0 : w.grownBy (w.alloc (.cells #[.slice a xs.length cap] 28)) none := ⟨rfl, rfl, rfl, by simp, fun k hk _ => Below.heap_alloc _ _ k hk⟩
  have HG := Lib.hid hg0
  clear hb0 hg0
  go_enter Tryz.func11, Tryz.ntmps11
  go_wp2_with fail
  refine (mark_any B _ _ k xs _ (Lib.hid (h.out.on H0.out)) (Lib.hid (ho.out.on H0.out)) hn).mono ?_
  rintro e w1 ⟨rfl, hm, hg⟩
  have HM := Lib.hid (And.intro hm hg)
  clear hm hg
  go_wp2_with fail
  go_ret
  refine ⟨rfl, HM.out.1, ?_⟩
  rcases HM.out.2 with ⟨h0, hb⟩ | ⟨h0, b, o, e, hg⟩
  · exact .inl ⟨h0, H0.out.trans (hb.mono (by simp))⟩
  · exact .inr ⟨h0, b, o, e, ⟨hg.os.trans HG.out.os, hg.tape.trans HG.out.tape, hg.output.trans HG.out.output, Nat.le_trans HG.out.size hg.size, fun k hk hne => (hg.block k (Nat.lt_of_lt_of_le hk HG.out.size) hne).trans (HG.out.block k hk (by simp))⟩⟩

end Go.Proofs.YtobjifggelmhcaaGreat
