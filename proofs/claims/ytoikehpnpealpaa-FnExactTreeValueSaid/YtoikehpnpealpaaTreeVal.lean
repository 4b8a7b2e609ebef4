/- Plain mathematics: a tree is read alike from a text that ends behind it. No condition. -/
import Derived.Test.YtoikehpnpealpaaTree
namespace Go.Proofs.Ytoikehpnpealpaa
set_option linter.unusedVariables false

theorem runLen_take : ∀ (l : List UInt8) (m : Nat), runLen l ≤ m → runLen (l.take m) = runLen l
  | [], m, _ => by rw [List.take_nil]
  | c :: l, 0, h => by
    rw [List.take_zero]
    exact (Nat.le_zero.1 h).symm
  | c :: l, m + 1, h => by
    rw [List.take_succ_cons, runLen, runLen]
    rw [runLen] at h
    split
    · rfl
    · rename_i h0
      rw [if_neg h0] at h
      rw [runLen_take l m (by omega)]

theorem readT_take (f : Nat) : ∀ (l : List UInt8) (t : Nat × Nat × Nat × Nat), readT f l = some t → ∀ m, t.1 ≤ m → readT f (l.take m) = some t := by
  induction f with
  | zero => intro l t h; simp [readT] at h
  | succ f ih =>
    intro l t h m hm
    rw [readT] at h ⊢
    by_cases h0 : runLen l = 0
    · rw [if_neg (by rw [h0]; simp)] at h
      rw [if_neg (by rw [runLen_take l m (by omega), h0]; simp)]
      split at h
      · rename_i h91
        cases ha : readT f (l.drop 1) with
        | none => rw [ha] at h; cases h
        | some a =>
          rw [ha] at h
          simp only at h
          split at h
          · rename_i h44
            cases hb : readT f (l.drop (2 + a.1)) with
            | none => rw [hb] at h; cases h
            | some b =>
              rw [hb] at h
              simp only at h
              split at h
              · rename_i h93
                cases h
                simp only at hm
                rw [List.getElem?_take_of_lt (by omega), if_pos h91, List.drop_take, ih _ _ ha (m - 1) (by omega)]
                simp only
                rw [List.getElem?_take_of_lt (by omega), if_pos h44, List.drop_take, ih _ _ hb (m - (2 + a.1)) (by omega)]
                simp only
                rw [List.getElem?_take_of_lt (by omega), if_pos h93]
              · cases h
          · cases h
      · cases h
    · rw [if_pos h0] at h
      cases h
      simp only at hm
      rw [runLen_take l m hm, if_pos h0]

end Go.Proofs.Ytoikehpnpealpaa
