/- Plain mathematics: the program's coefficients by places and the series; orders of conjugates, commutators, quotients as the program reckons them. Conditions: letters. -/
import Derived.Test.YtnmjanhpjnlfcaaMagnus2
import Derived.Test.YtnmjanhpjnlfcaaWindOrd
namespace Go.Proofs.Ytnmjanhpjnlfcaa.Plain
set_option linter.unusedVariables false

/-- A list with a number that is no nail has no coefficient. -/
theorem serS_bad {l : List Int} (h : Letters l) : ∀ {R : List Nat}, ¬ Nails R → serS l R = 0 := by
  have key : ∀ (l : List Int) (c : Ser), Letters l → (∀ R, ¬ Nails R → c R = 0) → ∀ R, ¬ Nails R → l.foldl (fun c x => letS x c) c R = 0 := fun l => by
    induction l with
    | nil => exact fun c _ hc => hc
    | cons x l ih =>
      intro c hl hc
      refine ih _ (fun y hy => hl y (List.mem_cons_of_mem _ hy)) fun R hR => ?_
      have hx := hl x List.mem_cons_self
      have hbad : ∀ {m : Nat} {S : List Nat} {n : Nat}, 1 ≤ n → n ≤ 6 → m = n → ¬ Nails (m :: S) → ¬ Nails S := fun h1 h6 e hb hS => hb fun y hy => by
        rcases List.mem_cons.1 hy with rfl | hy
        · omega
        · exact hS y hy
      show letS x c R = 0
      unfold letS
      split
      · cases R with
        | nil => exact hc _ hR
        | cons m S =>
          by_cases e : m = x.toNat
          · have h2 := hc S (hbad (by omega) (by omega) e hR)
            simp only [upS, if_pos e, hc _ hR, h2]; rfl
          · simp only [upS, if_neg e, hc _ hR]
      · induction R with
        | nil => exact hc _ hR
        | cons m S ihR =>
          by_cases e : m = (-x).toNat
          · have h2 := ihR (hbad (by omega) (by omega) e hR)
            simp only [dnS, if_pos e, hc _ hR, h2]; rfl
          · simp only [dnS, if_neg e, hc _ hR]
  intro R hR
  refine key l oneS h (fun R hR => ?_) R hR
  cases R with
  | nil => exact absurd (fun m hm => by simp at hm) hR
  | cons m S => rfl
theorem plc_in {R : List Nat} (h : Nails R) : plc R < cntL (R.length + 1) ∧ cntL R.length ≤ plc R := by
  induction R with
  | nil => exact ⟨by decide, by decide⟩
  | cons m R ih =>
    have h1 := h m List.mem_cons_self
    obtain ⟨h2, h3⟩ := ih h.tail
    refine ⟨?_, ?_⟩
    · show 6 * plc R + m < 1 + 6 * cntL (R.length + 1)
      omega
    · show 1 + 6 * cntL R.length ≤ 6 * plc R + m
      omega
/-- Each plc is that of a list. -/
theorem plc_of : ∀ (k q : Nat), q < cntL k → ∃ R, Nails R ∧ R.length < k ∧ plc R = q := fun k => by
  induction k with
  | zero => exact fun q h => absurd h (by show ¬ q < 0; omega)
  | succ k ih =>
    intro q hq
    by_cases h0 : q = 0
    · exact ⟨[], fun m hm => by simp at hm, by simp, h0.symm⟩
    · obtain ⟨R, hN, hl, hp⟩ := ih (parQ q) ((cntL_par h0).1 hq)
      refine ⟨((q - 1) % 6 + 1) :: R, fun m hm => ?_, by simp; omega, ?_⟩
      · rcases List.mem_cons.1 hm with rfl | hm
        · omega
        · exact hN m hm
      · show 6 * plc R + ((q - 1) % 6 + 1) = q
        rw [hp]; unfold parQ; omega
theorem cntL_mono {a b : Nat} (h : a ≤ b) : cntL a ≤ cntL b := by
  induction b with
  | zero => rw [show a = 0 by omega]; exact Nat.le_refl _
  | succ b ih =>
    by_cases e : a = b + 1
    · rw [e]; exact Nat.le_refl _
    · have := ih (by omega)
      show cntL a ≤ 1 + 6 * cntL b
      omega
theorem alike_iff {u v : List Int} (hu : Letters u) (hv : Letters v) {k : Nat} (hk : k ≤ 3) : Alike k (serS u) (serS v) ↔ ∀ q, q < cntL (k + 1) → cof u q = cof v q := by
  constructor
  · intro h q hq
    obtain ⟨R, hN, hl, rfl⟩ := plc_of _ q hq
    rw [at_cof u R hN (by omega), at_cof v R hN (by omega)]
    exact h R (by omega)
  · intro h R hR
    by_cases hN : Nails R
    · rw [← at_cof u R hN (by omega), ← at_cof v R hN (by omega)]
      exact h _ (Nat.lt_of_lt_of_le (plc_in hN).1 (cntL_mono (by omega)))
    · rw [serS_bad hu hN, serS_bad hv hN]
theorem low_iff {l : List Int} (h : Letters l) {k : Nat} (h1 : 1 ≤ k) (hk : k ≤ 4) : Low k (serS l) ↔ ∀ q, 0 < q → q < cntL k → cof l q = 0 := by
  obtain ⟨j, rfl⟩ : ∃ j, k = j + 1 := ⟨k - 1, by omega⟩
  have := alike_iff h Letters.nil (k := j) (by omega)
  rw [serS_nil] at this
  rw [low_alike, this]
  constructor
  · intro g q h0 hq
    rw [g q hq, cof_nil]
    exact if_neg (by omega)
  · intro g q hq
    by_cases h0 : q = 0
    · subst h0
      have e := at_cof l [] (fun m hm => by simp at hm) (by simp)
      have : cof l 0 = 1 := by rw [show (0 : Nat) = plc [] from rfl, e, serS_start]
      rw [this]; rfl
    · rw [g q (by omega) hq, cof_nil]
      exact (if_neg h0).symm
/-- The order by the series. -/
theorem ordK_low {l : List Int} (h : Letters l) : 1 ≤ ordK (cof l) ∧ ordK (cof l) ≤ 4 ∧ Low (ordK (cof l)) (serS l) ∧ (ordK (cof l) ≤ 3 → ∃ R, Nails R ∧ R.length = ordK (cof l) ∧ firstQ (cof l) = some (plc R) ∧ serS l R ≠ 0) := by
  obtain ⟨hp, hle, hz, hf, h4⟩ := ord_ok (cof l)
  refine ⟨hp, hle, (low_iff h hp hle).2 fun q h0 hq => ?_, fun h3 => ?_⟩
  · obtain ⟨R, hN, hl, rfl⟩ := plc_of _ q hq
    obtain ⟨a, b⟩ := plc_in hN
    have hR : 1 ≤ R.length := by
      cases R with
      | nil => exact absurd h0 (by decide)
      | cons m R => simp
    have hm := manyL_cnt R.length
    have := hz R.length hR hl (plc R - cntL R.length) (by omega)
    rwa [show cntL R.length + (plc R - cntL R.length) = plc R by omega] at this
  · obtain ⟨i, hi, hne, -, hq⟩ := hf h3
    have hm := manyL_cnt (ordK (cof l))
    obtain ⟨R, hN, hl, hR⟩ := plc_of (ordK (cof l) + 1) (cntL (ordK (cof l)) + i) (by omega)
    have hl2 : R.length = ordK (cof l) := by
      obtain ⟨a, b⟩ := plc_in hN
      by_cases e : R.length < ordK (cof l)
      · have := cntL_mono (show R.length + 1 ≤ ordK (cof l) by omega)
        omega
      · omega
    refine ⟨R, hN, hl2, by rw [hR]; exact hq, ?_⟩
    rw [← at_cof l R hN (by omega), hR]
    exact hne
theorem ordK_is {l : List Int} (h : Letters l) {K : Nat} (h1 : 1 ≤ K) (h4 : K ≤ 4) (hlow : Low K (serS l)) (hR : K ≤ 3 → ∃ R, R.length = K ∧ serS l R ≠ 0) : ordK (cof l) = K := by
  obtain ⟨k1, k2, k3, k4⟩ := ordK_low h
  by_cases a : ordK (cof l) < K
  · obtain ⟨R, hN, hl, _, hne⟩ := k4 (by omega)
    exact absurd (hlow R (fun e => by subst e; simp at hl; omega) (by omega)) hne
  · by_cases b : K < ordK (cof l)
    · obtain ⟨R, hl, hne⟩ := hR (by omega)
      exact absurd (k3 R (fun e => by subst e; simp at hl; omega) (by omega)) hne
    · omega
/-- Words that reduce to the same have the same coefficients at the places. -/
theorem cof_red {l : List Int} (h : Letters l) {q : Nat} (hq : q < 259) : cof (red l) q = cof l q :=
  (alike_iff h.red h (k := 3) (by omega)).1 (fun R _ => by rw [serS_red h.nz]) q hq
/-- A conjugate has the same order, and the same first coefficient. -/
theorem conj_ord {g w : List Int} (hg : Letters g) (hw : Letters w) : ordK (cof (red (g ++ (w ++ inv g)))) = ordK (cof w) ∧ ∀ q, firstQ (cof w) = some q → cof (red (g ++ (w ++ inv g))) q = cof w q := by
  obtain ⟨k1, k2, k3, k4⟩ := ordK_low hw
  have hL := hg.append (hw.append hg.inv)
  have e := serS_red hL.nz
  have hc : ∀ R, R ≠ [] → R.length ≤ ordK (cof w) → serS (red (g ++ (w ++ inv g))) R = serS w R := fun R h0 hR => by rw [e]; exact conj_first hg k3 h0 hR
  refine ⟨ordK_is hL.red k1 k2 (fun R h0 hR => by rw [hc R h0 (by omega)]; exact k3 R h0 hR) fun h3 => ?_, fun q hq => ?_⟩
  · obtain ⟨R, hN, hl, _, hne⟩ := k4 h3
    exact ⟨R, hl, by rw [hc R (fun e => by subst e; simp at hl; omega) (by omega)]; exact hne⟩
  · have h3 : ordK (cof w) ≤ 3 := by
      by_cases h : ordK (cof w) ≤ 3
      · exact h
      · have := (ord_ok (cof w)).none4 (by omega)
        rw [this] at hq; cases hq
    obtain ⟨R, hN, hl, hf, _⟩ := k4 h3
    rw [hf] at hq
    cases hq
    rw [at_cof _ R hN (by omega), at_cof _ R hN (by omega), hc R (fun e => by subst e; simp at hl; omega) (by omega)]
/-- A commutator's order. -/
theorem comm_ord {u v : List Int} (hu : Letters u) (hv : Letters v) (h : ordK (cof (comm u v)) ≤ 3) : ordK (cof u) + ordK (cof v) ≤ ordK (cof (comm u v)) := by
  obtain ⟨-, -, a3, -⟩ := ordK_low hu
  obtain ⟨-, -, b3, -⟩ := ordK_low hv
  have hL := hu.append (hv.append (hu.inv.append hv.inv))
  obtain ⟨c1, c2, -, c4⟩ := ordK_low hL.red
  obtain ⟨R, hN, hl, _, hne⟩ := c4 h
  have hlow := comm_low hu hv a3 b3
  by_cases hlt : ordK (cof u) + ordK (cof v) ≤ ordK (cof (comm u v))
  · exact hlt
  · refine absurd ?_ hne
    rw [serS_red hL.nz]
    have hl' : R.length = ordK (cof (comm u v)) := hl
    exact hlow R (fun e => by subst e; simp at hl; unfold comm at h; omega) (by omega)
/-- A quotient's order and the coefficients up to a length. -/
theorem quot_ord {u v : List Int} (hu : Letters u) (hv : Letters v) {k : Nat} (hk : k ≤ 3) : k < ordK (cof (red (u ++ inv v))) ↔ ∀ q, q < cntL (k + 1) → cof u q = cof v q := by
  have hL := hu.append hv.inv
  obtain ⟨c1, c2, c3, c4⟩ := ordK_low hL.red
  rw [← alike_iff hu hv hk, ← quot_alike hv k, ← low_alike, ← serS_red hL.nz]
  constructor
  · intro h
    exact c3.mono (by omega)
  · intro h
    by_cases hlt : k < ordK (cof (red (u ++ inv v)))
    · exact hlt
    · obtain ⟨R, hN, hl, _, hne⟩ := c4 (by omega)
      exact absurd (h R (fun e => by subst e; simp at hl; omega) (by omega)) hne

end Go.Proofs.Ytnmjanhpjnlfcaa.Plain
