/- Plain mathematics of trees as data: their text, what the program's reader makes of a text, and that it is the document's tree. No condition. -/
import Derived.Test.YtoikehpnpealpaaWhole
import Derived.Test.YtoikehpnpealpaaPtRead
namespace Go.Proofs.Ytoikehpnpealpaa
set_option linter.unusedVariables false

/-! what the document's reader makes of a tree's text -/
theorem runLen_word : ∀ (l r : List UInt8), (∀ c ∈ l, byteL c ≠ 0) → (∀ c, r[0]? = Option.some c → byteL c = 0) → runLen (l ++ r) = l.length
  | [], [], _, _ => rfl
  | [], c :: r, _, h => by
    show runLen (c :: r) = 0
    rw [runLen, if_pos (h c rfl)]
  | d :: l, r, hl, h => by
    rw [List.cons_append, runLen, if_neg (hl d (by simp)), runLen_word l r (fun c hc => hl c (by simp [hc])) h]
    rfl
/-- What stands behind is no letter. -/
def NoL (r : List UInt8) : Prop := ∀ c, r[0]? = Option.some c → byteL c = 0
theorem noL_cons {c : UInt8} {r : List UInt8} (h : byteL c = 0) : NoL (c :: r) := fun d hd => by simp at hd; subst hd; exact h
theorem noL_nil : NoL [] := fun d hd => by simp at hd
theorem textB_some {ws : List Int} (h : ws ≠ []) : textB ws ≠ [] := by
  intro e
  apply h
  have := textB_length ws
  rw [e] at this
  exact List.eq_nil_of_length_eq_zero this.symm
theorem read_tree : ∀ (T : PT) (f : Nat) (r : List UInt8), T.some → NoL r → T.txt.length < f → readT f (T.txt ++ r) = Option.some T.four
  | .leaf ws, 0, r, _, _, h => by omega
  | .leaf ws, f + 1, r, hg, hr, hf => by
    have h1 := runLen_word (textB ws) r (textB_ne hg.2) hr
    have h2 : (textB ws).length ≠ 0 := by rw [textB_length]; intro e; exact hg.1 (List.eq_nil_of_length_eq_zero e)
    show readT (f + 1) (textB ws ++ r) = _
    rw [readT, h1, if_pos h2]
    simp [PT.four, PT.txt, PT.depth, PT.leaves, PT.raw, textB_length]
  | .node a b, 0, r, _, _, h => by omega
  | .node a b, f + 1, r, hg, hr, hf => by
    have e : (PT.node a b).txt ++ r = 91 :: (a.txt ++ (44 :: (b.txt ++ (93 :: r)))) := by simp [PT.txt]
    have hl : (PT.node a b).txt.length = 3 + a.txt.length + b.txt.length := by simp [PT.txt]; omega
    have ha : readT f (a.txt ++ (44 :: (b.txt ++ (93 :: r)))) = Option.some (a.txt.length, a.depth, a.leaves, a.raw) := read_tree a f (44 :: (b.txt ++ (93 :: r))) hg.1 (noL_cons b44) (by omega)
    have hb : readT f (b.txt ++ (93 :: r)) = Option.some (b.txt.length, b.depth, b.leaves, b.raw) := read_tree b f (93 :: r) hg.2 (noL_cons b93) (by omega)
    have e1 : (91 :: (a.txt ++ (44 :: (b.txt ++ (93 :: r))))).drop 1 = a.txt ++ (44 :: (b.txt ++ (93 :: r))) := rfl
    have e2 : (91 :: (a.txt ++ (44 :: (b.txt ++ (93 :: r)))))[1 + a.txt.length]? = Option.some 44 := by
      rw [Nat.add_comm, List.getElem?_cons_succ, List.getElem?_append_right (Nat.le_refl _), Nat.sub_self]; rfl
    have e3 : (91 :: (a.txt ++ (44 :: (b.txt ++ (93 :: r))))).drop (2 + a.txt.length) = b.txt ++ (93 :: r) := by
      rw [show 2 + a.txt.length = (a.txt.length + 1) + 1 by omega, List.drop_succ_cons, ← List.drop_drop, List.drop_left]; rfl
    have e4 : (91 :: (a.txt ++ (44 :: (b.txt ++ (93 :: r)))))[2 + a.txt.length + b.txt.length]? = Option.some 93 := by
      have : (b.txt ++ (93 :: r))[b.txt.length]? = Option.some 93 := by rw [List.getElem?_append_right (Nat.le_refl _), Nat.sub_self]; rfl
      rw [← e3, List.getElem?_drop] at this
      exact this
    rw [e, readT, show runLen (91 :: (a.txt ++ (44 :: (b.txt ++ (93 :: r))))) = 0 by rw [runLen, if_pos b91], if_neg (by simp), if_pos (by rfl), e1, ha]
    simp only
    rw [if_pos e2, e3, hb]
    simp only
    rw [if_pos e4, PT.four, hl]
    rfl
theorem run_split : ∀ (l : List UInt8), ∃ ws : List Int, Plain.Letters ws ∧ l = textB ws ++ l.drop (runLen l) ∧ ws.length = runLen l
  | [] => ⟨[], (fun x hx => by cases hx), rfl, rfl⟩
  | c :: l => by
    by_cases h : byteL c = 0
    · exact ⟨[], (fun x hx => by cases hx), by rw [runLen, if_pos h]; rfl, by rw [runLen, if_pos h]; rfl⟩
    · obtain ⟨ws, h1, h2, h3⟩ := run_split l
      refine ⟨byteL c :: ws, fun x hx => ?_, ?_, ?_⟩
      · rcases List.mem_cons.1 hx with rfl | hx
        · have := byteL_in c; exact ⟨h, this.1, this.2⟩
        · exact h1 x hx
      · rw [runLen, if_neg h]
        show c :: l = signB (byteL c) :: (textB ws ++ l.drop (runLen l))
        rw [sign_of_byte c h, ← h2]
      · rw [runLen, if_neg h, List.length_cons, h3]
theorem tree_read (f : Nat) : ∀ (l : List UInt8) (t : Nat × Nat × Nat × Nat), readT f l = Option.some t → ∃ T : PT, T.some ∧ t = T.four ∧ l = T.txt ++ l.drop t.1 := by
  induction f with
  | zero => intro l t h; simp [readT] at h
  | succ f ih =>
    intro l t h
    rw [readT] at h
    split at h
    · rename_i h0
      cases h
      obtain ⟨ws, h1, h2, h3⟩ := run_split l
      refine ⟨.leaf ws, ⟨fun e => h0 (by rw [← h3, e]; rfl), h1⟩, ?_, h2⟩
      simp [PT.four, PT.txt, PT.depth, PT.leaves, PT.raw, textB_length, h3]
    · split at h
      · rename_i h0 h91
        cases ha : readT f (l.drop 1) with
        | none => rw [ha] at h; simp at h
        | some a =>
          rw [ha] at h
          simp only at h
          split at h
          · rename_i h44
            cases hb : readT f (l.drop (2 + a.1)) with
            | none => rw [hb] at h; simp at h
            | some b =>
              rw [hb] at h
              simp only at h
              split at h
              · rename_i h93
                cases h
                obtain ⟨A, gA, eA, lA⟩ := ih _ _ ha
                obtain ⟨B, gB, eB, lB⟩ := ih _ _ hb
                refine ⟨.node A B, ⟨gA, gB⟩, ?_, ?_⟩
                · rw [eA, eB]
                  simp [PT.four, PT.txt, PT.depth, PT.leaves, PT.raw]
                  omega
                · have c0 : l = 91 :: l.drop 1 := by
                    cases l with
                    | nil => simp at h91
                    | cons c l => simp at h91; subst h91; rfl
                  have cons_of : ∀ (k : Nat) (c : UInt8), l[k]? = Option.some c → l.drop k = c :: l.drop (k + 1) := fun k c hk => by
                    obtain ⟨hk1, rfl⟩ := List.getElem?_eq_some_iff.1 hk
                    exact List.drop_eq_getElem_cons hk1
                  have d2 := cons_of _ _ h44
                  have d4 := cons_of _ _ h93
                  rw [List.drop_drop] at lA lB
                  rw [show 1 + a.1 + 1 = 2 + a.1 by omega] at d2
                  rw [show 2 + a.1 + b.1 + 1 = 3 + a.1 + b.1 by omega] at d4
                  have e : l = 91 :: (A.txt ++ (44 :: (B.txt ++ (93 :: l.drop (3 + a.1 + b.1))))) := by
                    rw [← d4, ← lB, ← d2, ← lA]; exact c0
                  exact e.trans (by simp [PT.txt])
              · cases h
          · cases h
      · cases h
theorem runs_word : ∀ (ws : List Int) (r : List UInt8) (k : Nat), Plain.Letters ws → NoL r → k ≤ 64 → runsOk k (textB ws ++ r) = (decide (k + ws.length ≤ 64) && runsOk 0 r)
  | [], [], k, _, _, hk => by simp [textB, runsOk, hk]
  | [], c :: r, k, _, h, hk => by
    show runsOk k (c :: r) = _
    have hc : byteL c = 0 := h c rfl
    simp [runsOk, hc, hk]
  | x :: ws, r, k, hl, h, hk => by
    have hx : byteL (signB x) ≠ 0 := by rw [sign_byte (hl x (by simp))]; exact (hl x (by simp)).1
    show runsOk k (signB x :: (textB ws ++ r)) = _
    rw [runsOk, if_neg hx]
    by_cases h1 : k + 1 ≤ 64
    · rw [runs_word ws r (k + 1) (fun y hy => hl y (by simp [hy])) h h1, List.length_cons, show k + (ws.length + 1) = k + 1 + ws.length by omega]
      simp [h1]
    · simp [h1]
      intro h2
      omega
theorem runs_tree : ∀ (T : PT) (r : List UInt8), T.some → NoL r → runsOk 0 (T.txt ++ r) = (T.few && runsOk 0 r)
  | .leaf ws, r, hg, hr => by
    show runsOk 0 (textB ws ++ r) = _
    rw [runs_word ws r 0 hg.2 hr (by omega), Nat.zero_add]
    rfl
  | .node a b, r, hg, hr => by
    have e : (PT.node a b).txt ++ r = 91 :: (a.txt ++ (44 :: (b.txt ++ (93 :: r)))) := by simp [PT.txt]
    have one : ∀ (c : UInt8) (l : List UInt8), byteL c = 0 → runsOk 0 (c :: l) = runsOk 0 l := fun c l h => by rw [runsOk, if_pos h]; simp
    rw [e, one 91 _ b91, runs_tree a _ hg.1 (noL_cons b44), one 44 _ b44, runs_tree b _ hg.2 (noL_cons b93), one 93 _ b93, PT.few, Bool.and_assoc]

theorem whole_of {s : ByteArray} {T : PT} (h80 : s.size ≤ 80) (hg : T.good) (hl : s.data.toList = T.txt) : wholeB s = true ∧ wholeT s = Option.some T.four ∧ treeOf s = T ∧ parsedB s = true := by
  have hz : T.txt.length = s.size := by rw [← hl]; simp
  have h1 : wholeT s = Option.some T.four := by
    rw [wholeT, if_pos h80, hl]
    have := read_tree T (s.size + 1) [] hg.1 noL_nil (by omega)
    rwa [List.append_nil] at this
  have h2 : runsOk 0 T.txt = true := by
    have := runs_tree T [] hg.1 noL_nil
    rw [List.append_nil] at this
    rw [this, hg.2]
    rfl
  have h3 : parseP s.size s.data.toList false = (T, [], false) := by
    have := parseP_tree T s.size [] false hg (fun c hc => by simp at hc) (by omega)
    rwa [List.append_nil, ← hl] at this
  refine ⟨?_, h1, by rw [treeOf, h3], by simp [parsedB, h3, h80]⟩
  unfold wholeB
  rw [h1, hl, h2]
  simp [PT.four, hz]
theorem whole_tree {s : ByteArray} (h : wholeB s = true) : ∃ T : PT, s.size ≤ 80 ∧ T.good ∧ s.data.toList = T.txt := by
  unfold wholeB at h
  cases hw : wholeT s with
  | none => rw [hw] at h; cases h
  | some t =>
    rw [hw] at h
    simp only [Bool.and_eq_true, decide_eq_true_eq] at h
    obtain ⟨h2, h3⟩ := h
    unfold wholeT at hw
    split at hw
    · rename_i h80
      obtain ⟨T, g, e, hl⟩ := tree_read _ _ _ hw
      rw [h3, List.drop_eq_nil_of_le (by simp), List.append_nil] at hl
      refine ⟨T, h80, ⟨g, ?_⟩, hl⟩
      have := runs_tree T [] g noL_nil
      rw [List.append_nil, ← hl, h2] at this
      simpa [runsOk] using this.symm
    · cases hw
theorem parsed_whole (s : ByteArray) : parsedB s = wholeB s := by
  cases h : wholeB s with
  | true =>
    obtain ⟨T, h1, h2, h3⟩ := whole_tree h
    exact (whole_of h1 h2 h3).2.2.2
  | false =>
    cases h2 : parsedB s with
    | false => rfl
    | true =>
      obtain ⟨h3, h4, h5⟩ := parsed_tree h2
      rw [(whole_of h3 h4 h5).1] at h
      cases h

end Go.Proofs.Ytoikehpnpealpaa
