/- Positions as the keys of a map. Conditions: sets from 0 to 63. -/
import Derived.Test.YtecbfndgdmpacaaGameKit
import Derived.Maps.OwnSet
import Derived.DeepKeys4
namespace Go.Proofs.Ytecbfndgdmpacaa
open Go.ChangeShapes Go.WideShapes Go.ChangeAt Go.RowKit Go.Maps
set_option linter.unusedVariables false

theorem lit_num9 (D : Nat) (x : Nat) (h : x < 64) : Try.prog.keyLits (D + 1) 3 [.int .i64 (x : Int)] = some [.int .i64 (x : Int)] := by
  have hw : (Lit.int .i64 (x : Int)).wf = true := by
    have e1 : IntKind.i64.min = -9223372036854775808 := by decide
    have e2 : IntKind.i64.max = 9223372036854775807 := by decide
    simp [Lit.wf]
    omega
  unfold Program.keyLits
  rw [Try.underlying3]
  simp [hw]
theorem tab9_lits (D : Nat) (t : Nat → Bool) : Try.prog.keyLits (D + 2) 50 ((List.range 64).map fun i => Value.bool (t i)) = some ((List.range 64).map fun i => Lit.bool (t i)) := by
  unfold Program.keyLits
  rw [Try.underlying50]
  simp only [tabF_cells, bool_cells]
  rw [if_pos (by simp), mapM_some (fun i => [Lit.bool (t i)]) _ _ (fun i hi => by rw [Nat.mul_one, drop_one _ 64 i (by simpa using hi)]; exact bool_lit D _)]
  rw [Option.map_some, flat_one]
theorem posC_list (t : Nat → Bool) (m s : Nat) : (posC t m s).toList = (List.range 64).map (fun i => Value.bool (t i)) ++ [.int .i64 (m : Int), .int .i64 (s : Int)] := by
  unfold posC arrN
  rw [List.toList_toArray, show (66 : Nat) = 64 + 2 by rfl, List.range_add, List.map_append]
  congr 1
theorem drop_past {α : Type} : ∀ (A B : List α) (n j : Nat), A.length = n → (A ++ B).drop (n + j) = B.drop j
  | [], B, n, j, h => by simp only [List.length_nil] at h; subst h; rw [Nat.zero_add]; rfl
  | x :: A, B, n, j, h => by
    simp only [List.length_cons] at h
    subst h
    rw [show A.length + 1 + j = (A.length + j) + 1 by omega, List.cons_append, List.drop_succ_cons]
    exact drop_past A B _ j rfl
theorem int_cells9 : Try.prog.cellsOf 3 = 1 := by kernel_rfl
theorem pos_cells : Try.prog.cellsOf 52 = 66 := by kernel_rfl
theorem pos_lits (D : Nat) (t : Nat → Bool) (m s : Nat) (hm : m < 64) (hs : s < 64) : Try.prog.keyLits (D + 3) 52 (posC t m s).toList = some ((List.range 64).map (fun i => Lit.bool (t i)) ++ [.int .i64 (m : Int), .int .i64 (s : Int)]) := by
  have hl : ((List.range 64).map fun i => Value.bool (t i)).length = 64 := by simp
  have hl2 : (posC t m s).toList.length = 66 := by simp [posC_size]
  have e1 : ((posC t m s).toList.drop 0).take 64 = (List.range 64).map fun i => Value.bool (t i) := by
    rw [posC_list, List.drop_zero, List.take_append_of_le_length (by rw [hl]; exact Nat.le_refl _), List.take_of_length_le (by rw [hl]; exact Nat.le_refl _)]
  have e2 : ((posC t m s).toList.drop 64).take 1 = [.int .i64 (m : Int)] := by
    rw [posC_list, drop_past _ _ 64 0 hl]; rfl
  have e3 : ((posC t m s).toList.drop 65).take 1 = [.int .i64 (s : Int)] := by
    rw [posC_list, drop_past _ _ 64 1 hl]; rfl
  unfold Program.keyLits
  rw [Try.underlying52]
  simp only [pos_cells]
  rw [if_pos ⟨hl2, by kernel_rfl⟩]
  simp only [List.mapM_cons, List.mapM_nil, tabF_cells, int_cells9, e1, e2, e3, tab9_lits D t, lit_num9 (D + 1) m hm, lit_num9 (D + 1) s hs]
  show some ((List.range 64).map (fun i => Lit.bool (t i)) ++ ([.int .i64 (m : Int)] ++ ([.int .i64 (s : Int)] ++ []))) = _
  rfl
def keyP (t : Nat → Bool) (m s : Nat) : Lit := .string (keyBytes ((List.range 64).map (fun i => Lit.bool (t i)) ++ [.int .i64 (m : Int), .int .i64 (s : Int)]))
theorem pos_key (t : Nat → Bool) (m s : Nat) (hm : m < 64) (hs : s < 64) : keyOf Try.prog 52 (.agg (posC t m s)) = some (keyP t m s) := by
  have hT : Try.prog.types.size + 1 = (Try.prog.types.size - 2) + 3 := by
    have : 2 ≤ Try.prog.types.size := of_decide_eq_true (by kernel_rfl)
    omega
  have hk : Try.prog.keyType 52 = true := by kernel_rfl
  have hf : (Value.agg (posC t m s)).formed Try.prog 52 = true := by
    unfold Value.formed
    rw [Try.underlying52]
    simp [pos_cells, posC_size]
  unfold keyOf
  rw [Try.underlying52]
  simp only [hk, hf, Bool.and_self, if_true]
  rw [hT, show (Value.agg (posC t m s)).cells.toList = (posC t m s).toList by simp [Value.cells], pos_lits _ t m s hm hs]
  rfl
theorem pos_laid : laidOutB Try.prog = true := by kernel_rfl
theorem pos_law : Keyed Try.prog 52 := Keyed.of_law (deep_law_laid pos_laid (m := 3) (by omega) (of_decide_eq_true (by kernel_rfl)) (by kernel_rfl) (by kernel_rfl))
theorem keyP_inj {t : Nat → Bool} {m s u : Nat} (hm : m < 64) (hs : s < 64) (hu : u < 64) (h : keyP t m s = keyP t m u) : s = u := by
  have h1 := pos_key t m s hm hs
  have h2 := pos_key t m u hm hu
  rw [← h] at h2
  have e := pos_law.inj h1 h2
  have e2 := congrArg (fun v => match v with | .agg cs => cs[65]? | _ => none) e
  simp only [posC_out] at e2
  have e3 : (s : Int) = (u : Int) := by simpa using e2
  exact_mod_cast e3
theorem keyP_isKey {t : Nat → Bool} {m s : Nat} (hm : m < 64) (hs : s < 64) : WideAt.IsKeyLit (keyP t m s) := pos_law.key (pos_key t m s hm hs)
/-- The map holds right numbers of positions alone. -/
def Sound (t : Nat → Bool) (m : Nat) (k : Bool) (D : DataW Unit) : Prop := IsMap D ∧ (∀ s, s < 64 → has D (keyP t m s) = true → ∀ z, D.atKey (keyP t m s) z = .lit (.int .i64 (Plain.num t m k s : Int))) ∧ ∀ es, D = .map es → ∀ p ∈ es, ∃ s, s < 64 ∧ p.1 = keyP t m s
theorem Sound.put {t : Nat → Bool} {m s : Nat} {k : Bool} {D : DataW Unit} (h : Sound t m k D) (hm : m < 64) (hs : s < 64) (hD : IsMap (D.put (keyP t m s) (.lit (.int .i64 (Plain.num t m k s : Int))))) : Sound t m k (D.put (keyP t m s) (.lit (.int .i64 (Plain.num t m k s : Int)))) := by
  refine ⟨hD, fun u hu hh z => ?_, fun es he p hp => ?_⟩
  · by_cases e : keyP t m u = keyP t m s
    · have := keyP_inj hm hu hs e
      subst this
      exact atKey_put_same h.1 (keyP_isKey hm hu) _ z
    · rw [atKey_put_other e]
      refine h.2.1 u hu ?_ z
      rw [has_put_other e] at hh
      exact hh
  · obtain ⟨es0, h0⟩ := h.1
    subst h0
    have he2 : DataW.insert (keyP t m s, .lit (.int .i64 (Plain.num t m k s : Int))) (es0.filter fun p => !p.1.sameKey (keyP t m s)) = es := DataW.map.inj he
    rw [← he2] at hp
    rcases ChangeMaps.mem_insert_iff.1 hp with rfl | hp
    · exact ⟨s, hs, rfl⟩
    · exact h.2.2 es0 rfl p (List.mem_filter.1 hp).1
theorem Sound.start (t : Nat → Bool) (m : Nat) (k : Bool) : Sound t m k (.map []) := by
  refine ⟨⟨_, rfl⟩, ?_, ?_⟩
  · intro s _ h
    cases h
  · intro es he p hp
    have e : ([] : List (Lit × DataW Unit)) = es := DataW.map.inj he
    rw [← e] at hp
    cases hp
open Classical in
theorem less_one {α : Type} (a : α) : ∀ l : List α, l.Nodup → l.length ≤ (l.filter fun x => decide (x ≠ a)).length + 1
  | [], _ => Nat.zero_le _
  | x :: l, h => by
    obtain ⟨h1, h2⟩ := List.nodup_cons.1 h
    by_cases e : x = a
    · subst e
      have : (l.filter fun y => decide (y ≠ x)) = l := List.filter_eq_self.2 fun y hy => by
        have : y ≠ x := fun e => h1 (e ▸ hy)
        simpa using this
      rw [List.filter_cons, if_neg (by simp), this]
      simp
    · have ih := less_one a l h2
      rw [List.filter_cons, if_pos (by simpa using e)]
      simp only [List.length_cons]
      omega
open Classical in
theorem few_keys {α : Type} (key : Nat → α) : ∀ (n : Nat) (l : List α), l.Nodup → (∀ x ∈ l, ∃ s, s < n ∧ x = key s) → l.length ≤ n
  | 0, l, _, h => by
    cases l with
    | nil => exact Nat.le_refl _
    | cons x l => obtain ⟨s, hs, _⟩ := h x List.mem_cons_self; omega
  | n + 1, l, hd, h => by
    have h1 := less_one (key n) l hd
    have h2 := few_keys key n (l.filter fun x => decide (x ≠ key n)) (hd.filter _) fun x hx => by
      obtain ⟨h3, h4⟩ := List.mem_filter.1 hx
      obtain ⟨s, hs, e⟩ := h x h3
      refine ⟨s, ?_, e⟩
      have : s ≠ n := fun e2 => by
        subst e2
        simp only [decide_eq_true_eq] at h4
        exact h4 e
      omega
    omega
theorem sound_cap {t : Nat → Bool} {m : Nat} {k : Bool} {V : World} {b n : Nat} {D : DataW Unit} (h : V.ownsMap Try.prog 52 (plainElem Try.prog 3) b n D) (hs : Sound t m k D) : V.ownsMap Try.prog 52 (plainElem Try.prog 3) b 64 D := by
  obtain ⟨es, he, hp⟩ := h.tidy pos_law
  have hl : es.length ≤ 64 := by
    have := few_keys (keyP t m) 64 (es.map Prod.fst) (List.pairwise_map.2 hp) fun x hx => by
      obtain ⟨p, hp2, rfl⟩ := List.mem_map.1 hx
      exact hs.2.2 es he p hp2
    simpa using this
  obtain ⟨ms, clock, h1, h2, h3, h4⟩ := h
  refine ⟨ms, clock, h1, h2, ?_, h4⟩
  rw [h4] at he
  have e := DataW.map.inj he
  have := length_sorted (H := Unit) (ms.toList.map (WideElems.rg Try.prog 52 (plainElem Try.prog 3)))
  rw [e] at this
  simp only [List.length_map, Array.length_toList] at this
  omega

end Go.Proofs.Ytecbfndgdmpacaa
