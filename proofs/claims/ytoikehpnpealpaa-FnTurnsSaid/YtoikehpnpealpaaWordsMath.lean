/- Plain mathematics for FnWords: the reduced form is a reduced word, a word's text reads as the word, the order of words is strict and total, the counts and the set of nails. No condition. -/
import Derived.Test.YtoikehpnpealpaaIsRedWalks
import Derived.Test.YtoikehpnpealpaaParseWWalks
import Derived.Test.YtoikehpnpealpaaTextWalks
import Derived.Test.YtoikehpnpealpaaLessWWalks
import Derived.Test.YtoikehpnpealpaaCountsWalks
namespace Go.Proofs.Ytoikehpnpealpaa
open Go.ChangeShapes Go.WideShapes Go.ChangeAt Go.RowKit
set_option linter.unusedVariables false

theorem word_red {w : List Int} (h : Plain.wordB w = true) : Plain.wordB (Plain.red w) = true := by
  rw [Plain.wordB_iff] at h ⊢
  exact ⟨Nat.le_trans (Plain.red_length w) h.1, h.2.red⟩
theorem isRed_red {w : List Int} (h : Plain.wordB w = true) : isRedB (Plain.red w) = true := by
  rw [isRed_yes (word_red h), red_iff]
  exact Plain.red_reduced w
theorem even_red (w : List Int) : ((w.length : Int) - ((Plain.red w).length : Int)) % 2 = 0 := by
  have := Plain.red_even w
  have := Plain.red_length w
  omega

/-! texts -/
theorem byte_sign {x : Int} (hx : x ≠ 0 ∧ -6 ≤ x ∧ x ≤ 6) : byteL (signB x) = x := by
  rcases sign_six hx with rfl | rfl | rfl | rfl | rfl | rfl | rfl | rfl | rfl | rfl | rfl | rfl <;> decide
theorem map_sign {w : List Int} (h : Plain.Letters w) : (w.map signB).map byteL = w := by
  induction w with
  | nil => rfl
  | cons x w ih => simp only [List.map_cons]; rw [byte_sign (h x (by simp)), ih (fun y hy => h y (by simp [hy]))]
theorem text_list (w : List Int) : (textOf w).data.toList = w.map signB := by simp [textOf, textB]
theorem parse_text {w : List Int} (h : Plain.wordB w = true) : parseB (textOf w) = true ∧ parseOut (textOf w) = w := by
  obtain ⟨hl, hL⟩ := Plain.wordB_iff.1 h
  have hz := textOf_size w
  have hp : parseB (textOf w) = true := by
    refine parse_good (by omega) (fun j hj _ => ?_)
    have hb := byte_at hj
    rw [text_list, List.getElem?_map] at hb
    cases hx : w[j]? with
    | none => rw [hx] at hb; simp at hb
    | some x =>
      rw [hx] at hb
      simp at hb
      rw [← hb, byte_sign (hL.at hx)]
      exact (hL.at hx).1
  refine ⟨hp, ?_⟩
  rw [parse_yes hp, readTo, text_list, hz]
  rw [show (w.map signB).take w.length = w.map signB by rw [List.take_of_length_le (by simp)]]
  exact map_sign hL

/-! the order -/
namespace Plain
theorem lex_asym : ∀ u v : List Int, lexB u v = true → lexB v u = false
  | [], [], h => by simp [lexB] at h
  | [], y :: v, h => by simp [lexB] at h
  | x :: u, [], h => by simp [lexB] at h
  | x :: u, y :: v, h => by
    by_cases e : x = y
    · subst e
      simp only [lexB, if_true] at h ⊢
      exact lex_asym u v h
    · have e' : ¬ y = x := fun k => e k.symm
      simp only [lexB, if_neg e, if_neg e', decide_eq_true_eq, decide_eq_false_iff_not] at h ⊢
      omega
theorem lex_total : ∀ u v : List Int, u.length = v.length → lexB u v = false → lexB v u = false → u = v
  | [], [], _, _, _ => rfl
  | [], y :: v, h, _, _ => by simp at h
  | x :: u, [], h, _, _ => by simp at h
  | x :: u, y :: v, h, h1, h2 => by
    by_cases e : x = y
    · subst e
      simp only [lexB, if_true] at h1 h2
      rw [lex_total u v (by simpa using h) h1 h2]
    · have e' : ¬ y = x := fun k => e k.symm
      simp only [lexB, if_neg e, if_neg e', decide_eq_false_iff_not] at h1 h2
      exact absurd (code_inj (x := x) (y := y) (by omega)) e
theorem lex_trans : ∀ u v w : List Int, u.length = v.length → v.length = w.length → lexB u v = true → lexB v w = true → lexB u w = true
  | [], [], _, _, _, h, _ => by simp [lexB] at h
  | [], y :: v, _, h, _, _, _ => by simp at h
  | x :: u, [], _, h, _, _, _ => by simp at h
  | x :: u, y :: v, [], _, h, _, _ => by simp at h
  | x :: u, y :: v, z :: w, h0, h1, h2, h3 => by
    by_cases e : x = y
    · subst e
      by_cases e2 : x = z
      · subst e2
        simp only [lexB, if_true] at h2 h3 ⊢
        exact lex_trans u v w (by simpa using h0) (by simpa using h1) h2 h3
      · simp only [lexB, if_neg e2, if_true] at h2 h3 ⊢
        exact h3
    · by_cases e2 : y = z
      · subst e2
        simp only [lexB, if_neg e, if_true] at h2 h3 ⊢
        exact h2
      · simp only [lexB, if_neg e, if_neg e2, decide_eq_true_eq] at h2 h3
        have e3 : ¬ x = z := fun k => by subst k; omega
        simp only [lexB, if_neg e3, decide_eq_true_eq]
        omega
theorem less_asym {u v : List Int} (h : lessB u v = true) : lessB v u = false := by
  by_cases hl : u.length = v.length
  · rw [less_lex hl] at h
    rw [less_lex hl.symm]
    exact lex_asym u v h
  · rw [less_len hl] at h
    rw [less_len (fun k => hl k.symm)]
    simp at h ⊢
    omega
theorem less_total {u v : List Int} (h1 : lessB u v = false) (h2 : lessB v u = false) : u = v := by
  by_cases hl : u.length = v.length
  · rw [less_lex hl] at h1
    rw [less_lex hl.symm] at h2
    exact lex_total u v hl h1 h2
  · rw [less_len hl] at h1
    rw [less_len (fun k => hl k.symm)] at h2
    simp at h1 h2
    omega
theorem less_eq (u v : List Int) : decide (u = v) = !(lessB u v || lessB v u) := by
  by_cases h : u = v
  · subst h
    simp [less_same]
  · have : (lessB u v || lessB v u) = true := by
      cases h1 : lessB u v with
      | true => rfl
      | false =>
        cases h2 : lessB v u with
        | true => rfl
        | false => exact absurd (less_total h1 h2) h
    simp [h, this]
end Plain

/-! counts and sets -/
theorem cnt_cons (x : Int) (l : List Int) (n : Nat) : cnt (x :: l) n = cnt l n + if Plain.nail x = (n : Int) then 1 else 0 := by
  unfold cnt
  rw [List.filter_cons]
  by_cases h : Plain.nail x = (n : Int) <;> simp [h]
theorem cnt_sum {l : List Int} (h : Plain.Letters l) : cnt l 1 + cnt l 2 + cnt l 3 + cnt l 4 + cnt l 5 + cnt l 6 = l.length := by
  induction l with
  | nil => rfl
  | cons x l ih =>
    have hx := h x (by simp)
    have := ih (fun y hy => h y (by simp [hy]))
    simp only [cnt_cons, List.length_cons]
    rcases nail_six hx with e | e | e | e | e | e <;> simp [e] <;> omega
theorem cnt_pos {l : List Int} {n : Nat} : 0 < cnt l n ↔ ∃ x ∈ l, Plain.nail x = (n : Int) := by
  unfold cnt
  rw [List.length_pos_iff_exists_mem]
  simp
theorem nailFold_bit (l : List Int) (b : Nat) : ∀ s, (l.foldl nailStep s).testBit b = (s.testBit b || l.any (fun x => decide ((Plain.nail x).toNat - 1 = b))) := by
  induction l with
  | nil => intro s; simp
  | cons x l ih =>
    intro s
    rw [List.foldl_cons, ih, nailStep, Nat.testBit_or, Nat.testBit_two_pow, List.any_cons, Bool.or_assoc]
theorem nail_bit {l : List Int} (h : Plain.Letters l) (n : Nat) : decide (0 < cnt l (n + 1)) = (nailSet l).testBit n := by
  unfold nailSet
  rw [nailFold_bit]
  simp only [Nat.zero_testBit, Bool.false_or]
  rw [Bool.eq_iff_iff, decide_eq_true_iff, cnt_pos, List.any_eq_true]
  constructor
  · rintro ⟨x, hx, e⟩
    exact ⟨x, hx, by simp; omega⟩
  · rintro ⟨x, hx, e⟩
    refine ⟨x, hx, ?_⟩
    have := nail_six (h x hx)
    simp at e
    omega

end Go.Proofs.Ytoikehpnpealpaa
