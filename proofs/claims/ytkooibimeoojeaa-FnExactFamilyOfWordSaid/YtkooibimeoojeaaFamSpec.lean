/- Contracts: spec.l5Part, l5Has, l5Members, l5Made, l5Family, IsFamily, HasMember. Conditions: sets from 0 to 63, lengths that fit. -/
import Derived.Test.YtkooibimeoojeaaFamKit
import Derived.Test.YtkooibimeoojeaaFamMath
namespace Go.Proofs.Ytkooibimeoojeaa
open Go.ChangeShapes Go.WideShapes Go.ChangeAt Go.RowKit
set_option linter.unusedVariables false


/-- A table in making behind block B, the result's in front of it, a Family's variable below. -/
def Mem64 (w wr : World) (t u : Nat → Bool) (v : Value) : Prop := Tab wr (w.heap.size + 1 + 1) t ∧ Tab wr (w.heap.size + 1) u ∧ FamAt wr w.heap.size v ∧ Below w.heap.size w wr
theorem Mem64.later {w wr w1 : World} {t u : Nat → Bool} {v : Value} (h : Mem64 w wr t u v) (hb : Below wr.heap.size wr w1) : Mem64 w w1 t u v := ⟨h.1.on hb, h.2.1.on hb, h.2.2.1.on hb, h.2.2.2.trans (hb.mono h.2.2.2.size)⟩
theorem Mem64.set {w wr : World} {t u : Nat → Bool} {v : Value} {k : Nat} (h : Mem64 w wr (upTo t k) u v) (hk : k < 64) : Mem64 w (wr.setCell ⟨w.heap.size + 1 + 1, k, none⟩ (.bool (t k))) (upTo t (k + 1)) u v :=
  ⟨h.1.set hk, h.2.1.off (by omega), h.2.2.1.off (by omega), h.2.2.2.setCell (p := ⟨w.heap.size + 1 + 1, k, none⟩) (by simp; omega) _⟩
theorem mem64_start (w : World) (v : Value) : Mem64 w (((w.alloc (.cells #[v] 44)).alloc (.cells (bools fun _ => false) 23)).alloc (.cells (bools fun _ => false) 23)) (fun _ => false) (fun _ => false) v := by
  have hsz : (w.alloc (.cells #[v] 44)).heap.size = w.heap.size + 1 := by simp
  have h1 : Tab (((w.alloc (.cells #[v] 44)).alloc (.cells (bools fun _ => false) 23)).alloc (.cells (bools fun _ => false) 23)) ((w.alloc (.cells #[v] 44)).heap.size + 1) (fun _ => false) := heap_alloc2_new _ _ _
  have h2 : Tab (((w.alloc (.cells #[v] 44)).alloc (.cells (bools fun _ => false) 23)).alloc (.cells (bools fun _ => false) 23)) ((w.alloc (.cells #[v] 44)).heap.size) (fun _ => false) := heap_alloc2_old _ _ _
  rw [hsz] at h1 h2
  exact ⟨h1, h2, ((famAt_new w v).alloc _).alloc _, (((Below.refl _ w).alloc (Nat.le_refl _) _).alloc (by simp) _).alloc (by simp; omega) _⟩

theorem Mem64.row {w wr : World} {t u t' : Nat → Bool} {v : Value} (h : Mem64 w wr t u v) : Mem64 w (wr.setRow (w.heap.size + 1 + 1) (bools t')) t' u v :=
  ⟨tab_row h.1, h.2.1.other (by omega), (setRow_other wr (w.heap.size + 1 + 1) w.heap.size _ (by omega)).trans h.2.2.1, below_setRow h.2.2.2 (by omega) _⟩
set_option maxRecDepth 100000 in
set_option maxHeartbeats 800000 in
theorem l5Made_any (t : Nat → Bool) (w : World) : Calls Try.prog 64 #[.agg (bools t)] w (FamPost (Plain.edges t true) w) := by
  have hsz : (w.alloc (.cells (bools t) 23)).heap.size = w.heap.size + 1 := by simp
  have hf := famAt_new (w.alloc (.cells (bools t) 23)) (.slice none 0 0)
  rw [hsz] at hf
  have hs2 : ((w.alloc (.cells (bools t) 23)).alloc (.cells #[.slice none 0 0] 44)).heap.size = w.heap.size + 2 := by simp
  have hT : Tab ((w.alloc (.cells (bools t) 23)).alloc (.cells #[.slice none 0 0] 44)) w.heap.size t := heap_alloc2_old _ _ _
  have hb0 := ((Below.refl w.heap.size w).alloc (Nat.le_refl _) (.cells (bools t) 23)).alloc (by simp) (.cells #[.slice none 0 0] 44)
  have H0 := Lib.hid (And.intro hb0 (And.intro hs2 (And.intro hf hT)))
  have hle := Plain.edges_le t true
  obtain ⟨L, hL⟩ : ∃ L, L = Plain.edges t true := ⟨_, rfl⟩
  rw [← hL] at hle ⊢
  have HL := Lib.hid hL
  clear hsz hf hs2 hT hb0 hL
  go_enter Try.func64, Try.ntmps64
  go_wp2_with (refine wpList_load_row rfl 23 _ rfl w.heap.size rfl 23 (bools t) (0, 0) _ H0.out.2.2.2 Try.underlying23 rfl info64 ?_)
  obtain ⟨W, hW⟩ : ∃ W, W = (w.alloc (.cells (bools t) 23)).alloc (.cells #[.slice none 0 0] 44) := ⟨_, rfl⟩
  rw [← hW] at H0 ⊢
  clear hW
  refine (l3Edges_any t true _).mono ?_
  rw [← HL.out]
  rintro e w1 ⟨v, rfl, ⟨a, c, rfl, hi, ho, hcp⟩, hb⟩
  rw [H0.out.2.1] at ho
  have hc := (H0.out.2.2.1.on hb).cell
  have hfz := (H0.out.2.2.1.on hb).free
  have g1 := (H0.out.2.2.1.on hb).set (.slice a L.length c)
  have s1 := set_low (G := w.heap.size + 1) (i := 0) (v := .slice a L.length c) hi ho (by omega)
  have hB := (H0.out.1.trans (hb.mono (by rw [H0.out.2.1]; omega))).setCell (p := ⟨w.heap.size + 1, 0, none⟩) (by simp) (.slice a L.length c)
  have HE := Lib.hid (And.intro g1 (And.intro s1 (And.intro hB hcp)))
  clear g1 s1 hB hb hi ho hcp
  go_wp2_with fail
  refine bodyPost_ret (results_fam rfl _ _ (w.heap.size + 1) _ rfl HE.out.1) rfl ⟨_, _, rfl, HE.out.2.1.1, HE.out.2.1.2.mono (by omega), HE.out.2.2.2, HE.out.2.2.1⟩

end Go.Proofs.Ytkooibimeoojeaa
