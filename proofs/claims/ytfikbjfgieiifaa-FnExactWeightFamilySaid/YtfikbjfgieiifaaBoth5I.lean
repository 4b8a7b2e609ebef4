/- Contracts: impl.areWeights, weightOf, WeightFamily with its closure; spec.WeightFamily. Conditions: numbers of 64 bits. -/
import Derived.Test.YtfikbjfgieiifaaSixOpen
import Derived.Test.YtfikbjfgieiifaaFamSpec
import Derived.Test.YtfikbjfgieiifaaPass
import Derived.Test.YtfikbjfgieiifaaLater
namespace Go.Proofs.Ytfikbjfgieiifaa
open Go.ChangeShapes Go.WideShapes Go.ChangeAt Go.RowKit
set_option linter.unusedVariables false

/-- The sum of the first weights of a set. -/
def sumTo (v : Nat → Int) (s : Nat) : Nat → Int
  | 0 => 0
  | k + 1 => if s.testBit k = true then sumTo v s k + v k else sumTo v s k
def okTo (v : Nat → Int) : Nat → Bool
  | 0 => true
  | k + 1 => okTo v k && decide (0 ≤ v k ∧ v k ≤ 99)
def wtB (v : Nat → Int) : Bool := okTo v 6
def limB (n : Int) : Bool := decide (0 ≤ n ∧ n ≤ 999)
def wfB (v : Nat → Int) (n : Int) : Bool := wtB v && limB n
def wfT (v : Nat → Int) (n : Int) : Nat → Bool := fun s => decide (n ≤ sumTo v s 6)
def wfW (v : Nat → Int) (n : Int) : List Int := if wfB v n = true then Plain.edges (wfT v n) true else []
theorem wf_no {v : Nat → Int} {n : Int} (h : wtB v = false ∨ limB n = false) : wfW v n = [] ∧ wfB v n = false := by
  have hb : wfB v n = false := by rcases h with h | h <;> simp [wfB, h]
  exact ⟨by rw [wfW, hb]; simp, hb⟩
theorem wf_yes {v : Nat → Int} {n : Int} (h1 : wtB v = true) (h2 : limB n = true) : wfW v n = Plain.edges (wfT v n) true ∧ wfB v n = true := by
  have hb : wfB v n = true := by simp [wfB, h1, h2]
  exact ⟨by rw [wfW, hb]; simp, hb⟩
theorem wfW_le (v : Nat → Int) (n : Int) : (wfW v n).length ≤ 64 := by
  unfold wfW
  split
  · exact Plain.edges_le _ _
  · simp
theorem okTo_no {v : Nat → Int} {k : Nat} (h : decide (0 ≤ v k ∧ v k ≤ 99) = false) : ∀ m, k < m → okTo v m = false := by
  intro m
  induction m with
  | zero => intro h; omega
  | succ m ih =>
    intro hm
    rw [okTo]
    by_cases e : k = m
    · subst e; rw [h]; simp
    · rw [ih (by omega)]; rfl
theorem okTo_at {v : Nat → Int} : ∀ {m k : Nat}, okTo v m = true → k < m → 0 ≤ v k ∧ v k ≤ 99 := by
  intro m
  induction m with
  | zero => intro k _ h; omega
  | succ m ih =>
    intro k h hk
    rw [okTo, Bool.and_eq_true] at h
    by_cases e : k = m
    · subst e; simpa using h.2
    · exact ih h.1 (by omega)
theorem okTo_step {v : Nat → Int} {k : Nat} (h : okTo v k = true) (hk : decide (0 ≤ v k ∧ v k ≤ 99) = true) : okTo v (k + 1) = true := by rw [okTo, h, hk]; rfl
theorem sumTo_range {v : Nat → Int} (h : ∀ k, k < 6 → 0 ≤ v k ∧ v k ≤ 99) (s : Nat) : ∀ k, k ≤ 6 → 0 ≤ sumTo v s k ∧ sumTo v s k ≤ 99 * (k : Int) := by
  intro k
  induction k with
  | zero => intro _; simp [sumTo]
  | succ k ih =>
    intro hk
    have h1 := ih (by omega)
    have h2 := h k (by omega)
    rw [sumTo]
    split <;> omega
theorem run_index6 (v : Nat → Int) (k : Nat) (w : World) (hk : k < 6) : (Instr.index 33 (.agg (six v)) (.int .i64 (k : Int))).run Try.prog w = .ok (.int .i64 (v k)) w := by
  have h1 : (0 : Int) ≤ (k : Int) ∧ (k : Int) < 6 := by omega
  have h2 : (six v)[k]? = some (.int .i64 (v k)) := six_at _ hk
  simp [Instr.index, run_underlying Try.underlying33, asIntOf, part, go_sem, h1, h2, hk]
theorem six_box (w : World) (v : Nat → Int) : At6 (w.alloc (.cells (six v) 33)) w.heap.size v ∧ Below w.heap.size w (w.alloc (.cells (six v) 33)) := ⟨at6_new w v, (Below.refl _ _).alloc (Nat.le_refl _) _⟩
set_option maxHeartbeats 800000 in
theorem areWeights_any (v : Nat → Int) (w : World) : Calls Try.prog 33 #[.agg (six v)] w (Val (.bool (wtB v)) w) := by
  have H0 := Lib.hid (six_box w v)
  go_enter Try.func33, Try.ntmps33
  go_wp2_with (refine wpList_load_row rfl 33 _ rfl w.heap.size rfl 33 (six v) (0, 0) _ H0.out.1 Try.underlying33 rfl info6 ?_)
  obtain ⟨W, hW⟩ : ∃ W, W = w.alloc (.cells (six v) 33) := ⟨_, rfl⟩
  rw [← hW] at H0 ⊢
  clear hW
  obtain ⟨A, hA⟩ : ∃ A, A = six v := ⟨_, rfl⟩
  rw [← hA]
  have HA := Lib.hid hA
  clear hA
  go_loopw [6] (fun i wr => ∃ k : Nat, k ≤ 6 ∧ i = .int .i64 k ∧ okTo v k = true ∧ Below w.heap.size w wr) (fun i _ => 6 - (intOf i).toNat)
  case atStart => exact ⟨0, Nat.zero_le _, rfl, rfl, H0.out.2⟩
  case round =>
    clear H0
    obtain ⟨k, hk, rfl, hok, hb⟩ := hrel
    have HOK := Lib.hid hok
    have HB := Lib.hid hb
    clear hok hb
    by_cases hlt : k < 6
    · have hidx := run_index6 v k wr hlt
      rw [← HA.out] at hidx
      have hi : (k : Int) < 6 := by omega
      have hi0 : (0 : Int) ≤ (k : Int) := by omega
      obtain ⟨x, hx⟩ : ∃ x, x = v k := ⟨_, rfl⟩
      rw [← hx] at hidx
      cases hd : decide (0 ≤ x ∧ x ≤ 99) with
      | true =>
        have HN := Lib.hid (okTo_step HOK.out (by rw [← hx]; exact hd))
        have hr : 0 ≤ x ∧ x ≤ 99 := by simpa using hd
        have hr1 : ¬ x < 0 := by omega
        have hr2 : ¬ 99 < x := by omega
        clear hd hx hr
        go_wp2_with fail
        go_roundw
        case rel => exact ⟨k + 1, by omega, by go_num, HN.out, HB.out⟩
        case measure => simp [intOf]; omega
      | false =>
        have HN : Hid (wtB v = false) := Lib.hid (okTo_no (by rw [← hx]; exact hd) 6 hlt)
        have hr : x < 0 ∨ (¬ x < 0 ∧ 99 < x) := by simp only [decide_eq_false_iff_not] at hd; omega
        clear hd hx
        rcases hr with hr | ⟨hr1, hr2⟩
        · go_wp2_with fail
          go_ret
          exact ⟨ret_bool HN.out.symm, HB.out⟩
        · go_wp2_with fail
          go_ret
          exact ⟨ret_bool HN.out.symm, HB.out⟩
    · obtain rfl : k = 6 := by omega
      go_wp2_with fail
      go_ret
      exact ⟨ret_bool HOK.out.symm, HB.out⟩
set_option maxHeartbeats 800000 in
theorem weightOf_any (s : Nat) (v : Nat → Int) (w : World) (hs : s < 64) (hv : Hid (∀ k, k < 6 → 0 ≤ v k ∧ v k ≤ 99)) : Calls Try.prog 36 #[.int .i64 (s : Int), .agg (six v)] w (Val (.int .i64 (sumTo v s 6)) w) := by
  have H0 := Lib.hid (six_box w v)
  go_enter Try.func36, Try.ntmps36
  go_wp2_with (refine wpList_load_row rfl 33 _ rfl w.heap.size rfl 33 (six v) (0, 0) _ H0.out.1 Try.underlying33 rfl info6 ?_)
  obtain ⟨W, hW⟩ : ∃ W, W = w.alloc (.cells (six v) 33) := ⟨_, rfl⟩
  rw [← hW] at H0 ⊢
  clear hW
  obtain ⟨A, hA⟩ : ∃ A, A = six v := ⟨_, rfl⟩
  rw [← hA]
  have HA := Lib.hid hA
  clear hA
  go_loopw [5, 9] (fun u i wr => ∃ k : Nat, k ≤ 6 ∧ i = .int .i64 k ∧ u = .int .i64 (sumTo v s k) ∧ Below w.heap.size w wr) (fun _ i _ => 6 - (intOf i).toNat)
  case atStart => exact ⟨0, Nat.zero_le _, rfl, rfl, H0.out.2⟩
  case round =>
    clear H0
    obtain ⟨k, hk, rfl, rfl, hb⟩ := hrel
    have HB := Lib.hid hb
    clear hb
    have hsr := sumTo_range hv.out s k hk
    by_cases hlt : k < 6
    · have hidx := run_index6 v k wr hlt
      rw [← HA.out] at hidx
      have hi : (k : Int) < 6 := by omega
      have hi0 : (0 : Int) ≤ (k : Int) := by omega
      have hxr := hv.out k hlt
      have HN : Hid (sumTo v s (k + 1) = if s.testBit k = true then sumTo v s k + v k else sumTo v s k) := Lib.hid rfl
      obtain ⟨x, hx⟩ : ∃ x, x = v k := ⟨_, rfl⟩
      obtain ⟨u, hu⟩ : ∃ u, u = sumTo v s k := ⟨_, rfl⟩
      rw [← hx] at hidx hxr HN
      rw [← hu] at hsr HN ⊢
      obtain ⟨q, hq⟩ : ∃ q, q = 2 ^ k := ⟨_, rfl⟩
      have hpow : (2 : Int) ^ k = (q : Int) := by rw [hq]; simp
      have hq0 : 0 < q := by rw [hq]; exact Nat.pow_pos (by decide)
      have hqn : ((q : Int) != 0) = true := by simp; omega
      have hand := and_nail (s := s) hs (by omega : k ≤ 5) hpow
      have HP := Lib.hid hpow
      clear hpow hq hx hu
      cases hb : s.testBit k with
      | true =>
        rw [hb] at HN hand
        have HN2 := Lib.hid (HN.out.trans (if_pos rfl))
        simp only [if_true] at hand
        clear hb HN
        go_wp2_with fail
        refine (nailSet_any k q _ (by omega) HP.out).mono ?_
        rintro e w' ⟨rfl, rfl⟩
        go_wp2_with fail
        go_roundw
        case rel => exact ⟨k + 1, by omega, by go_num, by rw [HN2.out]; try go_num, HB.out⟩
        case measure => simp [intOf]; omega
      | false =>
        rw [hb] at HN hand
        have HN2 := Lib.hid (HN.out.trans (if_neg (by simp)))
        simp only [Bool.false_eq_true, if_false] at hand
        clear hb HN
        go_wp2_with fail
        refine (nailSet_any k q _ (by omega) HP.out).mono ?_
        rintro e w' ⟨rfl, rfl⟩
        go_wp2_with fail
        go_roundw
        case rel => exact ⟨k + 1, by omega, by go_num, by rw [HN2.out], HB.out⟩
        case measure => simp [intOf]; omega
    · obtain rfl : k = 6 := by omega
      go_wp2_with fail
      go_ret
      exact ⟨rfl, HB.out⟩
set_option maxHeartbeats 800000 in
theorem wt_tells (s g1 g2 : Nat) (n : Int) (v : Nat → Int) (w : World) (hs : s < 64) (hv : Hid (∀ k, k < 6 → 0 ≤ v k ∧ v k ≤ 99)) (hn : 0 ≤ n ∧ n ≤ 999) (q1 : Hid (At6 w g1 v)) (q2 : Hid (At1 3 w g2 (.int .i64 n))) :
    Calls Try.prog 35 #[.int .i64 (s : Int), .pointer (some ⟨g1, 0, none⟩), .pointer (some ⟨g2, 0, none⟩)] w (Val (.bool (wfT v n s)) w) := by
  have hsr := sumTo_range hv.out s 6 (Nat.le_refl _)
  have HW : Hid (wfT v n s = decide (n ≤ sumTo v s 6)) := Lib.hid rfl
  have HM := Lib.hid (fun W => weightOf_any s v W hs hv)
  obtain ⟨u, hu⟩ : ∃ u, u = sumTo v s 6 := ⟨_, rfl⟩
  rw [← hu] at hsr HW HM
  obtain ⟨A, hA⟩ : ∃ A, A = six v := ⟨_, rfl⟩
  have HA := Lib.hid hA
  rw [← hA] at HM
  clear hu hA
  by_cases hle : n ≤ u
  · rw [show decide (n ≤ u) = true by simpa using hle] at HW
    rw [HW.out]
    have hle1 : n ≤ u := hle
    go_enter Try.func35, Try.ntmps35
    go_wp2_with fail
    have hload : ∀ p : Later w, (loadVar 33 ⟨g1, 0, none⟩).run Try.prog p.W = .ok (.agg A) p.W := fun p => by rw [HA.out]; exact at6_load (q1.out.on p.ok)
    have HLD := Lib.hid hload
    have hcl : ∀ p : Later w, p.W.cell? ⟨g2, 0, none⟩ = some (.int .i64 n) := fun p => (q2.out.on p.ok).cell
    clear hload
    refine wp_region_below (by kernel_rfl) (by kernel_rfl) ?_
    repeat (first
      | (refine later_row rfl 33 _ rfl g1 rfl A HLD.out ?_)
      | quiet_step ((go_at_call 36; exact later_of (HM.out _))))
    refine wpQuiet_nil ?_
    intro _ hw'
    obtain ⟨⟨wx, hwx⟩, rfl⟩ := hw'
    go_wp2_with fail
    go_ret
    exact ⟨rfl, hwx⟩
  · rw [show decide (n ≤ u) = false by simpa using hle] at HW
    rw [HW.out]
    go_enter Try.func35, Try.ntmps35
    go_wp2_with fail
    have hload : ∀ p : Later w, (loadVar 33 ⟨g1, 0, none⟩).run Try.prog p.W = .ok (.agg A) p.W := fun p => by rw [HA.out]; exact at6_load (q1.out.on p.ok)
    have HLD := Lib.hid hload
    have hcl : ∀ p : Later w, p.W.cell? ⟨g2, 0, none⟩ = some (.int .i64 n) := fun p => (q2.out.on p.ok).cell
    clear hload
    refine wp_region_below (by kernel_rfl) (by kernel_rfl) ?_
    repeat (first
      | (refine later_row rfl 33 _ rfl g1 rfl A HLD.out ?_)
      | quiet_step ((go_at_call 36; exact later_of (HM.out _))))
    refine wpQuiet_nil ?_
    intro _ hw'
    obtain ⟨⟨wx, hwx⟩, rfl⟩ := hw'
    go_wp2_with fail
    go_ret
    exact ⟨by show Ending.returned (.bool (decide (n ≤ u))) = _; rw [show decide (n ≤ u) = false by simpa using hle], hwx⟩
theorem wt_blocks (w : World) (v : Nat → Int) (n : Int) : At6 (((w.alloc (.cells (six v) 33)).alloc (.cells #[.int .i64 n] 3)).alloc (.cells #[.slice none 0 0] 26)) w.heap.size v ∧ At1 3 (((w.alloc (.cells (six v) 33)).alloc (.cells #[.int .i64 n] 3)).alloc (.cells #[.slice none 0 0] 26)) (w.heap.size + 1) (.int .i64 n) ∧ FamAt (((w.alloc (.cells (six v) 33)).alloc (.cells #[.int .i64 n] 3)).alloc (.cells #[.slice none 0 0] 26)) (w.heap.size + 1 + 1) (.slice none 0 0) ∧ Below w.heap.size w (((w.alloc (.cells (six v) 33)).alloc (.cells #[.int .i64 n] 3)).alloc (.cells #[.slice none 0 0] 26)) := by
  have h1 : At6 ((w.alloc (.cells (six v) 33)).alloc (.cells #[.int .i64 n] 3)) w.heap.size v := heap_alloc2_old w _ _
  have h2 : At1 3 ((w.alloc (.cells (six v) 33)).alloc (.cells #[.int .i64 n] 3)) (w.heap.size + 1) (.int .i64 n) := heap_alloc2_new w _ _
  have h3 := famAt_new ((w.alloc (.cells (six v) 33)).alloc (.cells #[.int .i64 n] 3)) (.slice none 0 0)
  rw [show ((w.alloc (.cells (six v) 33)).alloc (.cells #[.int .i64 n] 3)).heap.size = w.heap.size + 1 + 1 by simp] at h3
  exact ⟨(Below.heap_alloc _ _ _ h1.lt).trans h1, (Below.heap_alloc _ _ _ h2.lt).trans h2, h3, (((Below.refl _ _).alloc (Nat.le_refl _) _).alloc (by simp) _).alloc (by simp; omega) _⟩
theorem wt_blocks2 (w : World) (v : Nat → Int) : At6 ((w.alloc (.cells (six v) 33)).alloc (.cells #[.slice none 0 0] 26)) w.heap.size v ∧ FamAt ((w.alloc (.cells (six v) 33)).alloc (.cells #[.slice none 0 0] 26)) (w.heap.size + 1) (.slice none 0 0) ∧ Below w.heap.size w ((w.alloc (.cells (six v) 33)).alloc (.cells #[.slice none 0 0] 26)) := by
  have h1 : At6 ((w.alloc (.cells (six v) 33)).alloc (.cells #[.slice none 0 0] 26)) w.heap.size v := heap_alloc2_old w _ _
  have h3 : FamAt ((w.alloc (.cells (six v) 33)).alloc (.cells #[.slice none 0 0] 26)) (w.heap.size + 1) (.slice none 0 0) := heap_alloc2_new w _ _
  exact ⟨h1, h3, ((Below.refl _ _).alloc (Nat.le_refl _) _).alloc (by simp) _⟩
set_option maxRecDepth 100000 in
set_option maxHeartbeats 4000000 in
theorem implWeightFamily_any (v : Nat → Int) (n : Int) (w : World) (hr : -9223372036854775808 ≤ n ∧ n ≤ 9223372036854775807) :
    Calls Try.prog 18 #[.agg (six v), .int .i64 n] w (FB (wfW v n) (wfB v n) w) := by
  have H0 := Lib.hid (wt_blocks w v n)
  cases hv : wtB v with
  | false =>
    have HE := Lib.hid (wf_no (n := n) (.inl hv))
    have HV := Lib.hid hv
    clear hv
    go_enter Try.func18, Try.ntmps18
    go_wp2_with (refine wpList_load_row rfl 33 _ rfl w.heap.size rfl 33 (six v) (0, 0) _ H0.out.1 Try.underlying33 rfl info6 ?_)
    obtain ⟨W, hW⟩ : ∃ W, W = (((w.alloc (.cells (six v) 33)).alloc (.cells #[.int .i64 n] 3)).alloc (.cells #[.slice none 0 0] 26)) := ⟨_, rfl⟩
    rw [← hW] at H0 ⊢
    clear hW
    refine (areWeights_any v _).mono ?_
    rw [HV.out]
    rintro e w2 ⟨rfl, hb⟩
    have H2 := Lib.hid (And.intro (H0.out.1.on hb) (And.intro (H0.out.2.1.on hb) (And.intro (H0.out.2.2.1.on hb) (H0.out.2.2.2.trans (hb.mono H0.out.2.2.2.size)))))
    clear hb
    have hB := ((H2.out.2.2.2).setCell (p := ⟨(w.heap.size + 1 + 1), 0, none⟩) (by simp <;> omega) (.slice none 0 0))
    have hF := (H2.out.2.2.1).set (.slice none 0 0)
    have hcr := (H2.out.2.2.1).cell
    have hfr := (H2.out.2.2.1).free
    have HB9 := Lib.hid (And.intro hB hF)
    clear hB hF
    go_wp2_with fail
    refine bodyPost_ret (results_fam2 rfl _ _ ((w.heap.size + 1 + 1)) _ (.bool false) rfl rfl HB9.out.2) rfl (fb_of HE.out.1.symm HE.out.2.symm (fb_nil HB9.out.1))
  | true =>
    have HV := Lib.hid hv
    have HVR : Hid (∀ k, k < 6 → 0 ≤ v k ∧ v k ≤ 99) := Lib.hid (fun k hk => okTo_at hv hk)
    cases hl : limB n with
    | false =>
      have HE := Lib.hid (wf_no (v := v) (.inr hl))
      have hn : n < 0 ∨ (¬ n < 0 ∧ 999 < n) := by simp only [limB, decide_eq_false_iff_not] at hl; omega
      clear hv hl
      rcases hn with hn | ⟨hn1, hn2⟩
      · skip
        go_enter Try.func18, Try.ntmps18
        go_wp2_with (refine wpList_load_row rfl 33 _ rfl w.heap.size rfl 33 (six v) (0, 0) _ H0.out.1 Try.underlying33 rfl info6 ?_)
        obtain ⟨W, hW⟩ : ∃ W, W = (((w.alloc (.cells (six v) 33)).alloc (.cells #[.int .i64 n] 3)).alloc (.cells #[.slice none 0 0] 26)) := ⟨_, rfl⟩
        rw [← hW] at H0 ⊢
        clear hW
        refine (areWeights_any v _).mono ?_
        rw [HV.out]
        rintro e w2 ⟨rfl, hb⟩
        have H2 := Lib.hid (And.intro (H0.out.1.on hb) (And.intro (H0.out.2.1.on hb) (And.intro (H0.out.2.2.1.on hb) (H0.out.2.2.2.trans (hb.mono H0.out.2.2.2.size)))))
        clear hb
        have hcn := H2.out.2.1.cell
        have hB := ((H2.out.2.2.2).setCell (p := ⟨(w.heap.size + 1 + 1), 0, none⟩) (by simp <;> omega) (.slice none 0 0))
        have hF := (H2.out.2.2.1).set (.slice none 0 0)
        have hcr := (H2.out.2.2.1).cell
        have hfr := (H2.out.2.2.1).free
        have HB9 := Lib.hid (And.intro hB hF)
        clear hB hF
        go_wp2_with fail
        refine bodyPost_ret (results_fam2 rfl _ _ ((w.heap.size + 1 + 1)) _ (.bool false) rfl rfl HB9.out.2) rfl (fb_of HE.out.1.symm HE.out.2.symm (fb_nil HB9.out.1))
      · skip
        go_enter Try.func18, Try.ntmps18
        go_wp2_with (refine wpList_load_row rfl 33 _ rfl w.heap.size rfl 33 (six v) (0, 0) _ H0.out.1 Try.underlying33 rfl info6 ?_)
        obtain ⟨W, hW⟩ : ∃ W, W = (((w.alloc (.cells (six v) 33)).alloc (.cells #[.int .i64 n] 3)).alloc (.cells #[.slice none 0 0] 26)) := ⟨_, rfl⟩
        rw [← hW] at H0 ⊢
        clear hW
        refine (areWeights_any v _).mono ?_
        rw [HV.out]
        rintro e w2 ⟨rfl, hb⟩
        have H2 := Lib.hid (And.intro (H0.out.1.on hb) (And.intro (H0.out.2.1.on hb) (And.intro (H0.out.2.2.1.on hb) (H0.out.2.2.2.trans (hb.mono H0.out.2.2.2.size)))))
        clear hb
        have hcn := H2.out.2.1.cell
        have hB := ((H2.out.2.2.2).setCell (p := ⟨(w.heap.size + 1 + 1), 0, none⟩) (by simp <;> omega) (.slice none 0 0))
        have hF := (H2.out.2.2.1).set (.slice none 0 0)
        have hcr := (H2.out.2.2.1).cell
        have hfr := (H2.out.2.2.1).free
        have HB9 := Lib.hid (And.intro hB hF)
        clear hB hF
        go_wp2_with fail
        refine bodyPost_ret (results_fam2 rfl _ _ ((w.heap.size + 1 + 1)) _ (.bool false) rfl rfl HB9.out.2) rfl (fb_of HE.out.1.symm HE.out.2.symm (fb_nil HB9.out.1))
    | true =>
      have hE := wf_yes hv hl
      have hn : 0 ≤ n ∧ n ≤ 999 := by simpa [limB] using hl
      have hn1 : ¬ n < 0 := by omega
      have hn2 : ¬ 999 < n := by omega
      obtain ⟨L, hL⟩ : ∃ L, L = Plain.edges (wfT v n) true := ⟨_, rfl⟩
      rw [← hL] at hE
      have HE := Lib.hid hE
      have HL := Lib.hid hL
      clear hv hl hE hL
      go_enter Try.func18, Try.ntmps18
      go_wp2_with (refine wpList_load_row rfl 33 _ rfl w.heap.size rfl 33 (six v) (0, 0) _ H0.out.1 Try.underlying33 rfl info6 ?_)
      obtain ⟨W, hW⟩ : ∃ W, W = (((w.alloc (.cells (six v) 33)).alloc (.cells #[.int .i64 n] 3)).alloc (.cells #[.slice none 0 0] 26)) := ⟨_, rfl⟩
      rw [← hW] at H0 ⊢
      clear hW
      refine (areWeights_any v _).mono ?_
      rw [HV.out]
      rintro e w2 ⟨rfl, hb⟩
      have H2 := Lib.hid (And.intro (H0.out.1.on hb) (And.intro (H0.out.2.1.on hb) (And.intro (H0.out.2.2.1.on hb) (H0.out.2.2.2.trans (hb.mono H0.out.2.2.2.size)))))
      clear hb
      have hcn := H2.out.2.1.cell
      go_wp2_with fail
      clear hcn
      have hct : Tells 35 #[] #[.pointer (some ⟨w.heap.size, 0, none⟩), .pointer (some ⟨w.heap.size + 1, 0, none⟩)] (wfT v n) w2 := fun s X hs hb => by
        simpa using wt_tells s w.heap.size (w.heap.size + 1) n v X hs HVR hn (Lib.hid (H2.out.1.on hb)) (Lib.hid (H2.out.2.1.on hb))
      refine (familyThat_any 35 #[] #[.pointer (some ⟨w.heap.size, 0, none⟩), .pointer (some ⟨w.heap.size + 1, 0, none⟩)] (wfT v n) _ (enters_of Try.func35 (by kernel_rfl) rfl) (Lib.hid hct)).mono ?_
      rw [← HL.out]
      rintro e w5 ⟨ma, mc, rfl, hi, ho, hcp, hb⟩
      have HS := Lib.hid (fam_stored (W := w2) (B := w2.heap.size) (G := (w.heap.size + 1 + 1)) H2.out.2.2.2 (by omega) H2.out.2.2.1.lt (Nat.le_refl _) H2.out.2.2.1 hi ho hcp hb)
      have hcr := (H2.out.2.2.1.on hb).cell
      have hfr := (H2.out.2.2.1.on hb).free
      clear hi ho hcp hb hct
      go_wp2_with fail
      refine bodyPost_ret (results_fam2 rfl _ _ ((w.heap.size + 1 + 1)) _ (.bool true) rfl rfl HS.out.1) rfl (fb_of HE.out.1.symm HE.out.2.symm HS.out.2)
set_option maxRecDepth 100000 in
set_option maxHeartbeats 8000000 in
theorem specWeightFamily_any (v : Nat → Int) (n : Int) (w : World) (h64 : Hid (∀ i, i < 6 → -9223372036854775808 ≤ v i ∧ v i ≤ 9223372036854775807)) (hr : -9223372036854775808 ≤ n ∧ n ≤ 9223372036854775807) :
    Calls Try.prog 16 #[.agg (six v), .int .i64 n] w (FB (wfW v n) (wfB v n) w) := by
  have H0 := Lib.hid (wt_blocks2 w v)
  have HR := Lib.hid hr
  obtain ⟨A, hA⟩ : ∃ A, A = six v := ⟨_, rfl⟩
  have HA := Lib.hid hA
  clear hA hr
  go_enter Try.func16, Try.ntmps16
  go_wp2_with fail
  obtain ⟨W, hW⟩ : ∃ W, W = ((w.alloc (.cells (six v) 33)).alloc (.cells #[.slice none 0 0] 26)) := ⟨_, rfl⟩
  rw [← hW] at H0 ⊢
  clear hW
  go_loopw [6] (fun i wr => ∃ k : Nat, k ≤ 6 ∧ i = .int .i64 k ∧ okTo v k = true ∧ At6 wr w.heap.size v ∧ FamAt wr (w.heap.size + 1) (.slice none 0 0) ∧ Below w.heap.size w wr) (fun i _ => 6 - (intOf i).toNat)
  case atStart => exact ⟨0, Nat.zero_le _, rfl, rfl, H0.out⟩
  case round =>
    clear H0
    obtain ⟨k, hk, rfl, hok, hrel⟩ := hrel
    have HOK := Lib.hid hok
    have H2 := Lib.hid hrel
    clear hok hrel
    by_cases hlt : k < 6
    · have hc := H2.out.1.cell hlt
      have HX := Lib.hid (h64.out k hlt)
      have hi : (k : Int) < 6 := by omega
      have hi0 : (0 : Int) ≤ (k : Int) := by omega
      obtain ⟨x, hx⟩ : ∃ x, x = v k := ⟨_, rfl⟩
      rw [← hx] at hc HX
      have HXV := Lib.hid hx
      clear hx
      go_wp2_with fail
      clear hc
      refine (l1In_any x 0 99 _ HX.out).mono ?_
      cases hd : decide (0 ≤ x ∧ x ≤ 99) with
      | true =>
        have HN := Lib.hid (okTo_step HOK.out (by rw [← HXV.out]; exact hd))
        clear hd
        rintro e w' ⟨rfl, rfl⟩
        go_wp2_with fail
        go_roundw
        case rel => exact ⟨k + 1, by omega, by go_num, HN.out, H2.out⟩
        case measure => simp [intOf]; omega
      | false =>
        have HE := Lib.hid (wf_no (v := v) (n := n) (.inl (okTo_no (by rw [← HXV.out]; exact hd) 6 hlt)))
        clear hd
        rintro e w' ⟨rfl, rfl⟩
        have hB := ((H2.out.2.2).setCell (p := ⟨w.heap.size + 1, 0, none⟩) (by simp <;> omega) (.slice none 0 0))
        have hF := (H2.out.2.1).set (.slice none 0 0)
        have hcr := (H2.out.2.1).cell
        have hfr := (H2.out.2.1).free
        have HB9 := Lib.hid (And.intro hB hF)
        clear hB hF
        go_wp2_with fail
        refine bodyPost_ret (results_fam2 rfl _ _ (w.heap.size + 1) _ (.bool false) rfl rfl HB9.out.2) rfl (fb_of HE.out.1.symm HE.out.2.symm (fb_nil HB9.out.1))
    · have hke : k = 6 := by omega
      have HV : Hid (wtB v = true) := Lib.hid (by rw [wtB, ← hke]; exact HOK.out)
      have HVR : Hid (∀ k, k < 6 → 0 ≤ v k ∧ v k ≤ 99) := Lib.hid (fun k hk => okTo_at HV.out hk)
      have hi : ¬ ((k : Int) < 6) := by omega
      clear hke
      go_wp2_with fail
      refine (l1In_any n 0 999 _ HR.out).mono ?_
      cases hl : decide (0 ≤ n ∧ n ≤ 999) with
      | false =>
        have HE := Lib.hid (wf_no (v := v) (n := n) (.inr hl))
        clear hl
        rintro e w' ⟨rfl, rfl⟩
        have hB := ((H2.out.2.2).setCell (p := ⟨w.heap.size + 1, 0, none⟩) (by simp <;> omega) (.slice none 0 0))
        have hF := (H2.out.2.1).set (.slice none 0 0)
        have hcr := (H2.out.2.1).cell
        have hfr := (H2.out.2.1).free
        have HB9 := Lib.hid (And.intro hB hF)
        clear hB hF
        go_wp2_with fail
        refine bodyPost_ret (results_fam2 rfl _ _ (w.heap.size + 1) _ (.bool false) rfl rfl HB9.out.2) rfl (fb_of HE.out.1.symm HE.out.2.symm (fb_nil HB9.out.1))
      | true =>
        have hE := wf_yes HV.out (show limB n = true from hl)
        have hn : 0 ≤ n ∧ n ≤ 999 := by simpa using hl
        obtain ⟨t, ht⟩ : ∃ t, t = wfT v n := ⟨_, rfl⟩
        rw [← ht] at hE
        have HTT := Lib.hid ht
        obtain ⟨L, hL⟩ : ∃ L, L = Plain.edges t true := ⟨_, rfl⟩
        rw [← hL] at hE
        have HE := Lib.hid hE
        have HL := Lib.hid hL
        clear hl hE hL ht
        rintro e w' ⟨rfl, rfl⟩
        have HT0 := Lib.hid (tab_new wr (fun _ => false))
        have HTS := Lib.hid (tabOn_start wr)
        go_wp2_with (refine wpList_store_row rfl 48 _ _ rfl wr.heap.size (bools fun _ => false) rfl (by rw [bools_zero]; rfl) 48 (bools fun _ => false) (by rw [← bools_zero]; exact HT0.out) info64 rfl (bools_one _) ?_)
        rw [← bools_zero]
        obtain ⟨WT, hWT⟩ : ∃ WT, WT = ((wr.alloc (.cells (bools fun _ => false) 48)).setRow wr.heap.size (bools fun _ => false)) := ⟨_, rfl⟩
        rw [← hWT] at HTS ⊢
        clear hWT HT0
        obtain ⟨wb, hwb⟩ : ∃ wb, wb = wr := ⟨_, rfl⟩
        rw [← hwb] at HTS H2 ⊢
        clear hwb
        go_loopw [8] (fun i wz => ∃ s : Nat, s ≤ 64 ∧ i = .int .i64 s ∧ TabOn wb wz (upTo t s)) (fun i _ => 64 - (intOf i).toNat)
        case atStart => exact ⟨0, Nat.zero_le _, rfl, by rw [upTo_zero]; exact HTS.out⟩
        case round =>
          clear HTS
          obtain ⟨s, hs, rfl, hrel⟩ := hrel
          have HK := Lib.hid hrel
          clear hrel
          by_cases hs64 : s < 64
          · have hj : (s : Int) < 64 := by omega
            have hj0 : (0 : Int) ≤ (s : Int) := by omega
            go_wp2_with fail
            obtain ⟨wq, hwq⟩ : ∃ wq, wq = wr := ⟨_, rfl⟩
            rw [← hwq] at HK ⊢
            clear hwq
            go_loopw [9, 10] (fun u i wy => ∃ j : Nat, j ≤ 6 ∧ i = .int .i64 j ∧ u = .int .i64 (sumTo v s j) ∧ TabOn wb wy (upTo t s)) (fun _ i _ => 6 - (intOf i).toNat)
            case atStart => exact ⟨0, Nat.zero_le _, rfl, rfl, HK.out⟩
            case round =>
              clear HK
              obtain ⟨j, hj6, rfl, rfl, hrel⟩ := hrel
              have HK := Lib.hid hrel
              have hsr := sumTo_range HVR.out s j hj6
              clear hrel
              by_cases hlt3 : j < 6
              · have q1 := (H2.out.1.on HK.out.2).cell hlt3
                have hxr := HVR.out j hlt3
                have hi3 : (j : Int) < 6 := by omega
                have hi30 : (0 : Int) ≤ (j : Int) := by omega
                have HN : Hid (sumTo v s (j + 1) = if s.testBit j = true then sumTo v s j + v j else sumTo v s j) := Lib.hid rfl
                obtain ⟨x, hx⟩ : ∃ x, x = v j := ⟨_, rfl⟩
                obtain ⟨u, hu⟩ : ∃ u, u = sumTo v s j := ⟨_, rfl⟩
                rw [← hx] at q1 hxr HN
                rw [← hu] at hsr HN ⊢
                clear hx hu
                go_wp2_with fail
                refine (l3In_any s j _ hs64 (by omega)).mono ?_
                cases hb : s.testBit j with
                | true =>
                  rw [hb] at HN
                  have HN2 := Lib.hid (HN.out.trans (if_pos rfl))
                  clear hb HN
                  rintro e w' ⟨rfl, rfl⟩
                  go_wp2_with fail
                  go_roundw
                  case rel => exact ⟨j + 1, by omega, by go_num, by rw [HN2.out]; try go_num, HK.out⟩
                  case measure => simp [intOf]; omega
                | false =>
                  rw [hb] at HN
                  have HN2 := Lib.hid (HN.out.trans (if_neg (by simp)))
                  clear hb HN
                  rintro e w' ⟨rfl, rfl⟩
                  go_wp2_with fail
                  go_roundw
                  case rel => exact ⟨j + 1, by omega, by go_num, by rw [HN2.out], HK.out⟩
                  case measure => simp [intOf]; omega
              · have hje : j = 6 := by omega
                have hi3 : ¬ ((j : Int) < 6) := by omega
                rw [hje]
                have HTV : Hid (t s = decide (n ≤ sumTo v s 6)) := Lib.hid (by rw [HTT.out]; rfl)
                rw [hje] at hsr
                obtain ⟨u, hu⟩ : ∃ u, u = sumTo v s 6 := ⟨_, rfl⟩
                rw [← hu] at HTV hsr ⊢
                have hc := HK.out.1.cell hs64
                have hf := HK.out.1.free s
                have H3 := HK.out.set hs64
                clear hu
                by_cases hq : n ≤ u
                · rw [HTV.out, show decide (n ≤ u) = true by simpa using hq] at H3
                  have HX3 := Lib.hid H3
                  have hq1 : n ≤ u := hq
                  clear H3
                  go_wp2_with fail
                  go_roundw
                  case rel => exact ⟨s + 1, by omega, by go_num, HX3.out⟩
                  case measure => simp [intOf]; omega
                · rw [HTV.out, show decide (n ≤ u) = false by simpa using hq] at H3
                  have HX3 := Lib.hid H3
                  clear H3
                  go_wp2_with fail
                  go_roundw
                  case rel => exact ⟨s + 1, by omega, by go_num, HX3.out⟩
                  case measure => simp [intOf]; omega
          · have hse : s = 64 := by omega
            have hj : ¬ ((s : Int) < 64) := by omega
            have hT : Tab wr wb.heap.size t := by
              have := HK.out.1
              rw [Tab, hse, upTo_all] at this
              exact this
            have HT := Lib.hid (And.intro hT HK.out.2)
            clear hT hse
            go_wp2_with (refine wpList_load_row rfl 48 _ rfl wb.heap.size rfl 48 (bools t) (0, 0) _ HT.out.1 Try.underlying48 rfl info64 ?_)
            refine (l5Made_any t _).mono ?_
            rw [← HL.out]
            rintro e w5 ⟨ma, mc, rfl, hi5, ho, hcp, hb⟩
            have H5F := Lib.hid (H2.out.2.1.on HT.out.2)
            have HS := Lib.hid (fam_stored (W := wr) (B := wr.heap.size) (G := w.heap.size + 1) (H2.out.2.2.trans (HT.out.2.mono H2.out.2.2.size)) (by omega) H5F.out.lt (Nat.le_refl _) H5F.out hi5 ho hcp hb)
            have hcr := (H5F.out.on hb).cell
            have hfr := (H5F.out.on hb).free
            clear hi5 ho hcp hb
            go_wp2_with fail
            refine bodyPost_ret (results_fam2 rfl _ _ (w.heap.size + 1) _ (.bool true) rfl rfl HS.out.1) rfl (fb_of HE.out.1.symm HE.out.2.symm HS.out.2)
theorem bothWeightFamily (v : Nat → Int) (h64 : Hid (∀ i, i < 6 → -9223372036854775808 ≤ v i ∧ v i ≤ 9223372036854775807)) (n : Int) (h1 : -9223372036854775808 ≤ n) (h2 : n ≤ 9223372036854775807) : ∃ (out : List Int) (ok : Bool), out.length ≤ 1048576 ∧
    (∀ w, Calls Try.prog 16 #[.agg (six v), .int .i64 n] w (FB out ok w)) ∧
    (∀ w, Calls Try.prog 18 #[.agg (six v), .int .i64 n] w (FB out ok w)) :=
  ⟨_, _, Nat.le_trans (wfW_le v n) (by decide), fun w => specWeightFamily_any v n w h64 ⟨h1, h2⟩, fun w => implWeightFamily_any v n w ⟨h1, h2⟩⟩

end Go.Proofs.Ytfikbjfgieiifaa
