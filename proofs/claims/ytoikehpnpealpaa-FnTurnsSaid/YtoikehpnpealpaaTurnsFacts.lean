/- Facts of FnTurns' walk: conjugates have the same least turn, a turned word is conjugate, the parts of a word, the least turn is least; the contract of laws.rInverse. Conditions: lengths that fit. -/
import Derived.Test.YtoikehpnpealpaaTurnMath
import Derived.Test.YtoikehpnpealpaaWordsFacts
import Derived.Test.YtoikehpnpealpaaRKit
import Derived.Test.YtoikehpnpealpaaRInv
import Derived.Test.YtoikehpnpealpaaConjWalks
import Derived.Test.YtoikehpnpealpaaTurnWWalks
import Derived.Test.YtoikehpnpealpaaCoreWWalks
import Derived.Test.YtoikehpnpealpaaLeastTWalks
import Derived.Test.YtoikehpnpealpaaDrawWs
namespace Go.Proofs.Ytoikehpnpealpaa
open Go.ChangeShapes Go.WideShapes Go.ChangeAt Go.RowKit
set_option linter.unusedVariables false

theorem conj_facts {hs xs : List Int} (h : prodOk hs xs (hs ++ (xs ++ Plain.inv hs)) = true) : In64 (prodOut hs xs (hs ++ (xs ++ Plain.inv hs))) ∧ conjB (prodOut hs xs (hs ++ (xs ++ Plain.inv hs))) xs = true ∧ wordsB (prodOut hs xs (hs ++ (xs ++ Plain.inv hs))) xs = true := by
  obtain ⟨h1, hL1, hL2⟩ := prod_full h
  have hb : Plain.wordB xs = true ∧ shortB (Plain.red (hs ++ (xs ++ Plain.inv hs))) = true := by
    unfold prodOk bothB at h
    simp only [Bool.and_eq_true] at h
    exact ⟨h.1.2, h.2⟩
  rw [h1]
  have hl : Plain.Letters (Plain.red (hs ++ (xs ++ Plain.inv hs))) := (hL1.append (hL2.append hL1.inv)).red
  have hw : Plain.wordB (Plain.red (hs ++ (xs ++ Plain.inv hs))) = true := by
    rw [Plain.wordB_iff]
    exact ⟨by simpa [shortB] using hb.2, hl⟩
  obtain ⟨e1, e2⟩ := conj_yes hw hb.1
  refine ⟨letters_in64 hl, ?_, e2⟩
  rw [e1, decide_eq_true_iff, leastOf, leastOf, Plain.red_idem]
  exact Plain.least_conj hs xs hL1 hL2
theorem turn_facts {ts : List Int} {n : Int} (h : turnB ts n = true) (h0 : 0 < ts.length) : ∃ k : Nat, n = (k : Int) ∧ k < ts.length ∧ turnOut ts n = turn ts k ∧ In64 (turn ts k) ∧ conjB (turn ts k) ts = true ∧ wordsB (turn ts k) ts = true ∧ (turn ts k)[0]? = ts[k]? := by
  have hh := h
  unfold turnB placeB at hh
  simp only [Bool.and_eq_true, decide_eq_true_eq] at hh
  obtain ⟨hw, hn0, hn1⟩ := hh
  obtain ⟨k, rfl⟩ := Int.eq_ofNat_of_zero_le hn0
  have hk : k < ts.length := by omega
  have hL := (Plain.wordB_iff.1 hw).2
  have hl := (Plain.wordB_iff.1 hw).1
  have hLt : Plain.Letters (turn ts k) := Plain.Letters.turnAt hL k
  have hwt : Plain.wordB (turn ts k) = true := by rw [Plain.wordB_iff, turn_length]; exact ⟨hl, hLt⟩
  obtain ⟨e1, e2⟩ := conj_yes hwt hw
  refine ⟨k, rfl, hk, (turn_yes hw (by omega)).1, letters_in64 hLt, ?_, e2, ?_⟩
  · rw [e1, decide_eq_true_iff]
    exact Plain.least_turned ts hL k
  · rw [turn, List.getElem?_append_left (by simp; omega), List.getElem?_drop, Nat.add_zero]
theorem core_facts {ws : List Int} (h : Plain.wordB ws = true) : ifWord ws (leastOf ws) = leastOf ws ∧ (leastOf ws).length = (ifWord ws (Plain.core (Plain.red ws))).length ∧
    Plain.Letters (ifWord ws (Plain.core (Plain.red ws))) ∧ Plain.Letters (ifWord ws (Plain.by_ (Plain.red ws))) ∧ Plain.wordB (ifWord ws (Plain.core (Plain.red ws))) = true ∧
    ifWord ws (Plain.by_ (Plain.red ws)) ++ ifWord ws (Plain.core (Plain.red ws)) ++ Plain.inv (ifWord ws (Plain.by_ (Plain.red ws))) = Plain.red ws ∧
    (∀ x y, (ifWord ws (Plain.core (Plain.red ws))).head? = some x → (ifWord ws (Plain.core (Plain.red ws))).getLast? = some y → x ≠ -y) ∧ ifWord ws (Plain.red ws) = Plain.red ws ∧ Plain.wordB (leastOf ws) = true := by
  have hL := (Plain.wordB_iff.1 h).2
  have hl := (Plain.wordB_iff.1 h).1
  have hLr : Plain.Letters (Plain.red ws) := hL.red
  have hrl := Plain.red_length ws
  have hcl := Plain.core_length hLr
  obtain ⟨p1, p2⟩ := Plain.core_parts _ (Plain.red ws) (Nat.le_refl _) hLr
  rw [ifWord_yes h, ifWord_yes h, ifWord_yes h, ifWord_yes h]
  refine ⟨rfl, Plain.least_length _, hLr.core, hLr.sub fun x hx => List.mem_of_mem_take hx, ?_, ?_, p2, rfl, ?_⟩
  · rw [Plain.wordB_iff]
    exact ⟨by omega, hLr.core⟩
  · rw [List.append_assoc]
    exact p1.symm
  · rw [Plain.wordB_iff, leastOf, Plain.least_length]
    exact ⟨by omega, hLr.core.leastTo _⟩
theorem least_facts {ws : List Int} (h : Plain.wordB ws = true) {i : Nat} (hi : i < (ifWord ws (Plain.core (Plain.red ws))).length) :
    turnOut (ifWord ws (Plain.core (Plain.red ws))) (i : Int) = turn (ifWord ws (Plain.core (Plain.red ws))) i ∧ turnB (ifWord ws (Plain.core (Plain.red ws))) (i : Int) = true ∧ In64 (turn (ifWord ws (Plain.core (Plain.red ws))) i) ∧
    lessWB (turn (ifWord ws (Plain.core (Plain.red ws))) i) (leastOf ws) = false ∧ pairB (turn (ifWord ws (Plain.core (Plain.red ws))) i) (leastOf ws) = true := by
  obtain ⟨-, -, hLc, -, hwc, -, -, -, hwl⟩ := core_facts h
  rw [ifWord_yes h] at hi hLc hwc ⊢
  obtain ⟨e1, e2⟩ := turn_yes (k := i) hwc (by omega)
  have hLt : Plain.Letters (turn (Plain.core (Plain.red ws)) i) := Plain.Letters.turnAt hLc i
  have hwt : Plain.wordB (turn (Plain.core (Plain.red ws)) i) = true := by rw [Plain.wordB_iff, turn_length]; exact ⟨(Plain.wordB_iff.1 hwc).1, hLt⟩
  refine ⟨e1, e2, letters_in64 hLt, ?_, by simp [pairB, hwt, hwl]⟩
  have := (Plain.least_spec (Plain.core (Plain.red ws))).2 _ (Plain.isTurn_at _ i)
  unfold lessWB
  rw [show Plain.lessB (turn (Plain.core (Plain.red ws)) i) (leastOf ws) = false from this, Bool.and_false]

theorem ends_at {l : List Int} (h : 1 < l.length) : ∃ x y, l[0]? = some x ∧ l[l.length - 1]? = some y ∧ l.head? = some x ∧ l.getLast? = some y := by
  obtain ⟨x, hx⟩ := at_some l 0 (by omega)
  obtain ⟨y, hy⟩ := at_some l (l.length - 1) (by omega)
  exact ⟨x, y, hx, hy, by rw [List.head?_eq_getElem?]; exact hx, by rw [List.getLast?_eq_getElem?]; exact hy⟩

end Go.Proofs.Ytoikehpnpealpaa
