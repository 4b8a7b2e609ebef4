/- Six numbers that came in, opened; contract: laws.toIntA6. No condition. -/
import Derived.Test.YtfikbjfgieiifaaSix
namespace Go.Proofs.Ytfikbjfgieiifaa
open Go.ChangeShapes Go.WideShapes Go.ChangeAt Go.RowKit
set_option linter.unusedVariables false

theorem six_cells6 : Try.prog.cellsOf 33 = 6 := by kernel_rfl
theorem int_cell1 : Try.prog.cellsOf 3 = 1 := by kernel_rfl
theorem open_six {H : Type} {enc : TypeId × Value → H} {w : World} {base : Nat} {r : Reach} {spare : Nat → Bool} {held : Bool} {v : Value} {d : DataW H} {ps : List MemPlace} {b0 : Nat} (hv : Value.okWide Try.prog w r base 33 v) (h : DataW.Trod enc Try.prog w b0 spare held 33 v d ps) :
    ∃ u : Nat → Int, v = .agg (six u) ∧ ∀ i, i < 6 → (Lit.int .i64 (u i)).wf = true := by
  simp only [Value.okWide, Try.underlying33] at hv
  obtain ⟨cs, rfl, hsz, -⟩ := hv
  rw [six_cells6] at hsz
  obtain ⟨fuel, hf⟩ := h
  obtain ⟨xs, m, -, -, -, hxs, hel⟩ := DataW.trod_array Try.underlying33 hf
  have hone : ∀ i, i < 6 → ∃ n, cs[i]? = some (.int .i64 n) ∧ (Lit.int .i64 n).wf = true := fun i hi => by
    have h1 := hel i hi
    rw [int_cell1, Nat.mul_one] at h1
    rcases hx : xs[i]? with _ | x
    · rw [List.getElem?_eq_none_iff] at hx; omega
    · rw [hx] at h1
      obtain ⟨n, hn, -, hw⟩ := DataW.trod_int Try.underlying3 h1
      refine ⟨n, ?_, hw⟩
      have h2 : ((cs.toList.drop i).take 1)[0]? = some (.int .i64 n) := by
        have : (Value.agg cs).cells.toList = cs.toList := by simp [Value.cells]
        rw [this] at hn
        rw [hn]; rfl
      rw [List.getElem?_take_of_lt (by omega), List.getElem?_drop] at h2
      simpa using h2
  obtain ⟨n0, c0, w0⟩ := hone 0 (by omega)
  obtain ⟨n1, c1, w1⟩ := hone 1 (by omega)
  obtain ⟨n2, c2, w2⟩ := hone 2 (by omega)
  obtain ⟨n3, c3, w3⟩ := hone 3 (by omega)
  obtain ⟨n4, c4, w4⟩ := hone 4 (by omega)
  obtain ⟨n5, c5, w5⟩ := hone 5 (by omega)
  refine ⟨fun i => match i with | 0 => n0 | 1 => n1 | 2 => n2 | 3 => n3 | 4 => n4 | _ => n5, ?_, fun i hi => ?_⟩
  · congr 1
    apply Array.ext'
    apply List.ext_getElem?
    intro i
    by_cases hi : i < 6
    · have : i = 0 ∨ i = 1 ∨ i = 2 ∨ i = 3 ∨ i = 4 ∨ i = 5 := by omega
      rcases this with rfl | rfl | rfl | rfl | rfl | rfl
      · simpa [six] using c0
      · simpa [six] using c1
      · simpa [six] using c2
      · simpa [six] using c3
      · simpa [six] using c4
      · simpa [six] using c5
    · rw [List.getElem?_eq_none (by simp; omega), List.getElem?_eq_none (by simp [six]; omega)]
  · have : i = 0 ∨ i = 1 ∨ i = 2 ∨ i = 3 ∨ i = 4 ∨ i = 5 := by omega
    rcases this with rfl | rfl | rfl | rfl | rfl | rfl <;> assumption
theorem six_three (w : World) (v : Nat → Int) : At6 (((w.alloc (.cells (six v) 33)).alloc (.cells (six fun _ => 0) 33)).alloc (.cells (six fun _ => 0) 33)) w.heap.size v ∧ At6 (((w.alloc (.cells (six v) 33)).alloc (.cells (six fun _ => 0) 33)).alloc (.cells (six fun _ => 0) 33)) (w.heap.size + 1) (fun _ => 0) ∧
    At6 (((w.alloc (.cells (six v) 33)).alloc (.cells (six fun _ => 0) 33)).alloc (.cells (six fun _ => 0) 33)) (w.heap.size + 1 + 1) (fun _ => 0) ∧ Below w.heap.size w (((w.alloc (.cells (six v) 33)).alloc (.cells (six fun _ => 0) 33)).alloc (.cells (six fun _ => 0) 33)) := by
  have h1 : At6 ((w.alloc (.cells (six v) 33)).alloc (.cells (six fun _ => 0) 33)) w.heap.size v := heap_alloc2_old w _ _
  have h2 : At6 ((w.alloc (.cells (six v) 33)).alloc (.cells (six fun _ => 0) 33)) (w.heap.size + 1) (fun _ => 0) := heap_alloc2_new w _ _
  have h3 := at6_new ((w.alloc (.cells (six v) 33)).alloc (.cells (six fun _ => 0) 33)) (fun _ => 0)
  rw [show ((w.alloc (.cells (six v) 33)).alloc (.cells (six fun _ => 0) 33)).heap.size = w.heap.size + 1 + 1 by simp] at h3
  exact ⟨(Below.heap_alloc _ _ _ h1.lt).trans h1, (Below.heap_alloc _ _ _ h2.lt).trans h2, h3, (((Below.refl _ _).alloc (Nat.le_refl _) _).alloc (by simp) _).alloc (by simp; omega) _⟩
theorem At6.past {w w' : World} {G k : Nat} {v : Nat → Int} {a : Option Addr} {ys : List Int} {e : Ending} (h : At6 w G v) (hm : MarkPost a k ys w e w') (hne : ∀ b o, ys.length ≠ 0 → a = some ⟨b, o, none⟩ → b ≠ G) : At6 w' G v := by
  obtain ⟨_, _, ⟨_, hb⟩ | ⟨h0, b, o, e2, hg⟩⟩ := hm
  · exact h.on hb
  · exact (hg.block G h.lt (by simpa using fun e3 : G = b => hne b o h0 e2 e3.symm)).trans h
set_option maxHeartbeats 800000 in
theorem toA6_any (v : Nat → Int) (w : World) : Calls Try.prog 17 #[.agg (six v)] w (Val (.agg (six v)) w) := by
  have H0 := Lib.hid (six_three w v)
  go_enter Try.func17, Try.ntmps17
  go_wp2_with fail
  try rw [← six_zero]
  obtain ⟨W, hW⟩ : ∃ W, W = (((w.alloc (.cells (six v) 33)).alloc (.cells (six fun _ => 0) 33)).alloc (.cells (six fun _ => 0) 33)) := ⟨_, rfl⟩
  rw [← hW] at H0 ⊢
  clear hW
  go_loopw [4] (fun i wr => ∃ k : Nat, k ≤ 6 ∧ i = .int .i64 k ∧ At6 wr w.heap.size v ∧ At6 wr (w.heap.size + 1) (fun _ => 0) ∧ At6 wr (w.heap.size + 1 + 1) (upTo6 v k) ∧ Below w.heap.size w wr) (fun i _ => 6 - (intOf i).toNat)
  case atStart => exact ⟨0, Nat.zero_le _, rfl, H0.out.1, H0.out.2.1, H0.out.2.2.1.cong (fun i hi => by simp [upTo6]), H0.out.2.2.2⟩
  case round =>
    clear H0
    obtain ⟨k, hk, rfl, h1, h2, h3, h4⟩ := hrel
    by_cases hlt : k < 6
    · have HK := Lib.hid (And.intro h1 (And.intro h2 (And.intro (((h3.set (v k) hlt).cong (u := upTo6 v (k + 1)) (fun j hj => by
        by_cases e : j = k
        · subst e; simp [upTo6]
        · by_cases e2 : j < k
          · simp [upTo6, e, e2, show j < k + 1 by omega]
          · simp [upTo6, e, e2, show ¬ j < k + 1 by omega]))) (h4.setCell (p := ⟨w.heap.size + 1 + 1, k, none⟩) (by simp; omega) (.int .i64 (v k))))))
      have q1 := h1.cell hlt
      have q3 := h3.cell hlt
      have f3 := h3.free k
      have HO := Lib.hid (And.intro (h1.off (H := w.heap.size + 1 + 1) (i := k) (x := .int .i64 (v k)) (by omega)) (h2.off (H := w.heap.size + 1 + 1) (i := k) (x := .int .i64 (v k)) (by omega)))
      have hi : (k : Int) < 6 := by omega
      have hi0 : (0 : Int) ≤ (k : Int) := by omega
      clear h1 h2 h3 h4
      go_wp2_with fail
      go_roundw
      case rel => exact ⟨k + 1, by omega, by go_num, HO.out.1, HO.out.2, HK.out.2.2.1, HK.out.2.2.2⟩
      case measure => simp [intOf]; omega
    · obtain rfl : k = 6 := by omega
      have h3' : At6 wr (w.heap.size + 1 + 1) v := h3.cong (fun i hi => by simp [upTo6, hi])
      have HT3 := Lib.hid h3'
      have HT2 := Lib.hid h2
      have HF := Lib.hid (at6_row (v := v) h2)
      have HB := Lib.hid (below_setRow h4 (g := w.heap.size + 1) (by omega) (six v))
      clear h1 h2 h3 h4 h3'
      go_wp2_with (first
        | (refine wpList_load_row rfl 33 _ rfl (w.heap.size + 1 + 1) rfl 33 (six v) (0, 0) _ HT3.out Try.underlying33 rfl info6 ?_)
        | (refine wpList_store_row rfl 33 _ _ rfl (w.heap.size + 1) (six v) rfl rfl 33 _ HT2.out info6 rfl (six_one _) ?_))
      exact bodyPost_ret (results_six1 rfl _ _ (w.heap.size + 1) v rfl HF.out) rfl ⟨rfl, HB.out⟩

end Go.Proofs.Ytfikbjfgieiifaa
