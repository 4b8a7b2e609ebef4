/- Plain mathematics of trees as data: their text, what the program's reader makes of a text, and that it is the document's tree. No condition. -/
import Derived.Test.YtllmglmjghbaiaaWhole
import Derived.Test.YtllmglmjghbaiaaPtBase
namespace Go.Proofs.Ytllmglmjghbaiaa
set_option linter.unusedVariables false

/-! letters and their bytes -/
theorem sign_byte {x : Int} (hx : x ≠ 0 ∧ -6 ≤ x ∧ x ≤ 6) : byteL (signB x) = x := by
  rcases sign_six hx with rfl | rfl | rfl | rfl | rfl | rfl | rfl | rfl | rfl | rfl | rfl | rfl <;> decide
theorem byte_sign (c : UInt8) (h : byteL c ≠ 0) : signB (byteL c) = c := by
  have hc := UInt8.toNat_lt c
  apply UInt8.toNat_inj.1
  rcases byteL_cases c with h1 | h1 | h1 | h1 | h1
  · rw [byteL_low h1, signB, signNat, if_neg (by omega)]; simp; omega
  · exact absurd (byteL_no (by omega) (by omega)) h
  · rw [byteL_up h1, signB, signNat, if_pos (by omega)]; simp; omega
  · exact absurd (byteL_no (by omega) (by omega)) h
  · exact absurd (byteL_no (by omega) (by omega)) h
theorem textB_byte {ws : List Int} (h : Plain.Letters ws) : (textB ws).map byteL = ws := by
  induction ws with
  | nil => rfl
  | cons x ws ih =>
    show byteL (signB x) :: (textB ws).map byteL = _
    rw [sign_byte (h x (by simp)), ih (fun y hy => h y (by simp [hy]))]
theorem byte_textB : ∀ (l : List UInt8), (∀ c ∈ l, byteL c ≠ 0) → textB (l.map byteL) = l
  | [], _ => rfl
  | c :: l, h => by
    show signB (byteL c) :: textB (l.map byteL) = _
    rw [byte_sign c (h c (by simp)), byte_textB l (fun d hd => h d (by simp [hd]))]
theorem textB_ne {ws : List Int} (h : Plain.Letters ws) : ∀ c ∈ textB ws, byteL c ≠ 0 := by
  intro c hc
  obtain ⟨x, hx, rfl⟩ := List.mem_map.1 hc
  rw [sign_byte (h x hx)]
  exact (h x hx).1

/-! what the document's reader makes of a tree's text -/
theorem runLen_word : ∀ (l r : List UInt8), (∀ c ∈ l, byteL c ≠ 0) → (∀ c, r[0]? = Option.some c → byteL c = 0) → runLen (l ++ r) = l.length
  | [], [], _, _ => rfl
  | [], c :: r, _, h => by
    show runLen (c :: r) = 0
    rw [runLen, if_pos (h c rfl)]
  | d :: l, r, hl, h => by
    rw [List.cons_append, runLen, if_neg (hl d (by simp)), runLen_word l r (fun c hc => hl c (by simp [hc])) h]
    rfl
/-- What stands behind is no letter. -/
def NoL (r : List UInt8) : Prop := ∀ c, r[0]? = Option.some c → byteL c = 0
theorem noL_cons {c : UInt8} {r : List UInt8} (h : byteL c = 0) : NoL (c :: r) := fun d hd => by simp at hd; subst hd; exact h
theorem noL_nil : NoL [] := fun d hd => by simp at hd
theorem b91 : byteL 91 = 0 := by decide
theorem b44 : byteL 44 = 0 := by decide
theorem b93 : byteL 93 = 0 := by decide
theorem textB_some {ws : List Int} (h : ws ≠ []) : textB ws ≠ [] := by
  intro e
  apply h
  have := textB_length ws
  rw [e] at this
  exact List.eq_nil_of_length_eq_zero this.symm
theorem read_tree : ∀ (T : PT) (f : Nat) (r : List UInt8), T.some → NoL r → T.txt.length < f → readT f (T.txt ++ r) = Option.some T.four
  | .leaf ws, 0, r, _, _, h => by omega
  | .leaf ws, f + 1, r, hg, hr, hf => by
    have h1 := runLen_word (textB ws) r (textB_ne hg.2) hr
    have h2 : (textB ws).length ≠ 0 := by rw [textB_length]; intro e; exact hg.1 (List.eq_nil_of_length_eq_zero e)
    show readT (f + 1) (textB ws ++ r) = _
    rw [readT, h1, if_pos h2]
    simp [PT.four, PT.txt, PT.depth, PT.leaves, PT.raw, textB_length]
  | .node a b, 0, r, _, _, h => by omega
  | .node a b, f + 1, r, hg, hr, hf => by
    have e : (PT.node a b).txt ++ r = 91 :: (a.txt ++ (44 :: (b.txt ++ (93 :: r)))) := by simp [PT.txt]
    have hl : (PT.node a b).txt.length = 3 + a.txt.length + b.txt.length := by simp [PT.txt]; omega
    have ha : readT f (a.txt ++ (44 :: (b.txt ++ (93 :: r)))) = Option.some (a.txt.length, a.depth, a.leaves, a.raw) := read_tree a f (44 :: (b.txt ++ (93 :: r))) hg.1 (noL_cons b44) (by omega)
    have hb : readT f (b.txt ++ (93 :: r)) = Option.some (b.txt.length, b.depth, b.leaves, b.raw) := read_tree b f (93 :: r) hg.2 (noL_cons b93) (by omega)
    have e1 : (91 :: (a.txt ++ (44 :: (b.txt ++ (93 :: r))))).drop 1 = a.txt ++ (44 :: (b.txt ++ (93 :: r))) := rfl
    have e2 : (91 :: (a.txt ++ (44 :: (b.txt ++ (93 :: r)))))[1 + a.txt.length]? = Option.some 44 := by
      rw [Nat.add_comm, List.getElem?_cons_succ, List.getElem?_append_right (Nat.le_refl _), Nat.sub_self]; rfl
    have e3 : (91 :: (a.txt ++ (44 :: (b.txt ++ (93 :: r))))).drop (2 + a.txt.length) = b.txt ++ (93 :: r) := by
      rw [show 2 + a.txt.length = (a.txt.length + 1) + 1 by omega, List.drop_succ_cons, ← List.drop_drop, List.drop_left]; rfl
    have e4 : (91 :: (a.txt ++ (44 :: (b.txt ++ (93 :: r)))))[2 + a.txt.length + b.txt.length]? = Option.some 93 := by
      have : (b.txt ++ (93 :: r))[b.txt.length]? = Option.some 93 := by rw [List.getElem?_append_right (Nat.le_refl _), Nat.sub_self]; rfl
      rw [← e3, List.getElem?_drop] at this
      exact this
    rw [e, readT, show runLen (91 :: (a.txt ++ (44 :: (b.txt ++ (93 :: r))))) = 0 by rw [runLen, if_pos b91], if_neg (by simp), if_pos (by rfl), e1, ha]
    simp only
    rw [if_pos e2, e3, hb]
    simp only
    rw [if_pos e4, PT.four, hl]
    rfl
theorem run_split : ∀ (l : List UInt8), ∃ ws : List Int, Plain.Letters ws ∧ l = textB ws ++ l.drop (runLen l) ∧ ws.length = runLen l
  | [] => ⟨[], (fun x hx => by cases hx), rfl, rfl⟩
  | c :: l => by
    by_cases h : byteL c = 0
    · exact ⟨[], (fun x hx => by cases hx), by rw [runLen, if_pos h]; rfl, by rw [runLen, if_pos h]; rfl⟩
    · obtain ⟨ws, h1, h2, h3⟩ := run_split l
      refine ⟨byteL c :: ws, fun x hx => ?_, ?_, ?_⟩
      · rcases List.mem_cons.1 hx with rfl | hx
        · have := byteL_in c; exact ⟨h, this.1, this.2⟩
        · exact h1 x hx
      · rw [runLen, if_neg h]
        show c :: l = signB (byteL c) :: (textB ws ++ l.drop (runLen l))
        rw [byte_sign c h, ← h2]
      · rw [runLen, if_neg h, List.length_cons, h3]
theorem tree_read (f : Nat) : ∀ (l : List UInt8) (t : Nat × Nat × Nat × Nat), readT f l = Option.some t → ∃ T : PT, T.some ∧ t = T.four ∧ l = T.txt ++ l.drop t.1 := by
  induction f with
  | zero => intro l t h; simp [readT] at h
  | succ f ih =>
    intro l t h
    rw [readT] at h
    split at h
    · rename_i h0
      cases h
      obtain ⟨ws, h1, h2, h3⟩ := run_split l
      refine ⟨.leaf ws, ⟨fun e => h0 (by rw [← h3, e]; rfl), h1⟩, ?_, h2⟩
      simp [PT.four, PT.txt, PT.depth, PT.leaves, PT.raw, textB_length, h3]
    · split at h
      · rename_i h0 h91
        cases ha : readT f (l.drop 1) with
        | none => rw [ha] at h; simp at h
        | some a =>
          rw [ha] at h
          simp only at h
          split at h
          · rename_i h44
            cases hb : readT f (l.drop (2 + a.1)) with
            | none => rw [hb] at h; simp at h
            | some b =>
              rw [hb] at h
              simp only at h
              split at h
              · rename_i h93
                cases h
                obtain ⟨A, gA, eA, lA⟩ := ih _ _ ha
                obtain ⟨B, gB, eB, lB⟩ := ih _ _ hb
                refine ⟨.node A B, ⟨gA, gB⟩, ?_, ?_⟩
                · rw [eA, eB]
                  simp [PT.four, PT.txt, PT.depth, PT.leaves, PT.raw]
                  omega
                · have c0 : l = 91 :: l.drop 1 := by
                    cases l with
                    | nil => simp at h91
                    | cons c l => simp at h91; subst h91; rfl
                  have cons_of : ∀ (k : Nat) (c : UInt8), l[k]? = Option.some c → l.drop k = c :: l.drop (k + 1) := fun k c hk => by
                    obtain ⟨hk1, rfl⟩ := List.getElem?_eq_some_iff.1 hk
                    exact List.drop_eq_getElem_cons hk1
                  have d2 := cons_of _ _ h44
                  have d4 := cons_of _ _ h93
                  rw [List.drop_drop] at lA lB
                  rw [show 1 + a.1 + 1 = 2 + a.1 by omega] at d2
                  rw [show 2 + a.1 + b.1 + 1 = 3 + a.1 + b.1 by omega] at d4
                  have e : l = 91 :: (A.txt ++ (44 :: (B.txt ++ (93 :: l.drop (3 + a.1 + b.1))))) := by
                    rw [← d4, ← lB, ← d2, ← lA]; exact c0
                  exact e.trans (by simp [PT.txt])
              · cases h
          · cases h
      · cases h
theorem runs_word : ∀ (ws : List Int) (r : List UInt8) (k : Nat), Plain.Letters ws → NoL r → k ≤ 64 → runsOk k (textB ws ++ r) = (decide (k + ws.length ≤ 64) && runsOk 0 r)
  | [], [], k, _, _, hk => by simp [textB, runsOk, hk]
  | [], c :: r, k, _, h, hk => by
    show runsOk k (c :: r) = _
    have hc : byteL c = 0 := h c rfl
    simp [runsOk, hc, hk]
  | x :: ws, r, k, hl, h, hk => by
    have hx : byteL (signB x) ≠ 0 := by rw [sign_byte (hl x (by simp))]; exact (hl x (by simp)).1
    show runsOk k (signB x :: (textB ws ++ r)) = _
    rw [runsOk, if_neg hx]
    by_cases h1 : k + 1 ≤ 64
    · rw [runs_word ws r (k + 1) (fun y hy => hl y (by simp [hy])) h h1, List.length_cons, show k + (ws.length + 1) = k + 1 + ws.length by omega]
      simp [h1]
    · simp [h1]
      intro h2
      omega
theorem runs_tree : ∀ (T : PT) (r : List UInt8), T.some → NoL r → runsOk 0 (T.txt ++ r) = (T.few && runsOk 0 r)
  | .leaf ws, r, hg, hr => by
    show runsOk 0 (textB ws ++ r) = _
    rw [runs_word ws r 0 hg.2 hr (by omega), Nat.zero_add]
    rfl
  | .node a b, r, hg, hr => by
    have e : (PT.node a b).txt ++ r = 91 :: (a.txt ++ (44 :: (b.txt ++ (93 :: r)))) := by simp [PT.txt]
    have one : ∀ (c : UInt8) (l : List UInt8), byteL c = 0 → runsOk 0 (c :: l) = runsOk 0 l := fun c l h => by rw [runsOk, if_pos h]; simp
    rw [e, one 91 _ b91, runs_tree a _ hg.1 (noL_cons b44), one 44 _ b44, runs_tree b _ hg.2 (noL_cons b93), one 93 _ b93, PT.few, Bool.and_assoc]

/-! what the program's reader makes of a text -/
def stopB (c : UInt8) : Bool := c == 44 || c == 93
def leafLen : List UInt8 → Nat
  | [] => 0
  | c :: l => if stopB c = true then 0 else leafLen l + 1
theorem leafLen_le : ∀ l : List UInt8, leafLen l ≤ l.length
  | [] => Nat.le_refl _
  | c :: l => by
    have := leafLen_le l
    rw [leafLen]
    split <;> simp
    exact this
def leafW (l : List UInt8) : ByteArray := bytesOf (l.take (leafLen l))
def leafP (l : List UInt8) (F : Bool) : PT × List UInt8 × Bool := (.leaf (parseOut (leafW l)), l.drop (leafLen l), F || !parseB (leafW l) || decide ((parseOut (leafW l)).length = 0))
def markP (m : UInt8) (l : List UInt8) (F : Bool) : List UInt8 × Bool := if l[0]? = Option.some m then (l.drop 1, F) else (l, true)
def parseP : Nat → List UInt8 → Bool → PT × List UInt8 × Bool
  | 0, l, F => leafP l F
  | f + 1, l, F => if l[0]? = Option.some 91 then
      (.node (parseP f (l.drop 1) F).1 (parseP f (markP 44 (parseP f (l.drop 1) F).2.1 (parseP f (l.drop 1) F).2.2).1 (markP 44 (parseP f (l.drop 1) F).2.1 (parseP f (l.drop 1) F).2.2).2).1,
        markP 93 (parseP f (markP 44 (parseP f (l.drop 1) F).2.1 (parseP f (l.drop 1) F).2.2).1 (markP 44 (parseP f (l.drop 1) F).2.1 (parseP f (l.drop 1) F).2.2).2).2.1 (parseP f (markP 44 (parseP f (l.drop 1) F).2.1 (parseP f (l.drop 1) F).2.2).1 (markP 44 (parseP f (l.drop 1) F).2.1 (parseP f (l.drop 1) F).2.2).2).2.2)
    else leafP l F
theorem markP_le (m : UInt8) (l : List UInt8) (F : Bool) : (markP m l F).1.length ≤ l.length := by
  unfold markP
  split <;> simp
theorem leafP_le (l : List UInt8) (F : Bool) : (leafP l F).2.1.length ≤ l.length := by simp [leafP]
theorem parseP_le (f : Nat) : ∀ (l : List UInt8) (F : Bool), (parseP f l F).2.1.length ≤ l.length := by
  induction f with
  | zero => exact leafP_le
  | succ f ih =>
    intro l F
    rw [parseP]
    split
    · refine Nat.le_trans (markP_le _ _ _) (Nat.le_trans (ih _ _) (Nat.le_trans (markP_le _ _ _) (Nat.le_trans (ih _ _) ?_)))
      simp
    · exact leafP_le l F
theorem markP_sound {m : UInt8} {l r : List UInt8} {F : Bool} (h : markP m l F = (r, false)) : F = false ∧ l = m :: r := by
  unfold markP at h
  split at h
  · rename_i h0
    simp only [Prod.mk.injEq] at h
    refine ⟨h.2, ?_⟩
    cases l with
    | nil => simp at h0
    | cons c l => simp at h0 h; rw [h0, h.1]
  · simp at h
theorem okL_iff {c : UInt8} : okL c = true ↔ byteL c ≠ 0 := by simp [okL]
theorem parse_word {s : ByteArray} (h : parseB s = true) : Plain.Letters (parseOut s) ∧ textB (parseOut s) = s.data.toList ∧ (parseOut s).length ≤ 64 := by
  have hb := h
  simp only [parseB, signsB, Bool.and_eq_true, List.all_eq_true, decide_eq_true_eq] at hb
  have hz : s.data.toList.length = s.size := by simp
  have e : parseOut s = s.data.toList.map byteL := by rw [parse_yes h, readTo, List.take_of_length_le (by omega)]
  have hne : ∀ c ∈ s.data.toList, byteL c ≠ 0 := fun c hc => okL_iff.1 (hb.2 c hc)
  refine ⟨fun x hx => ?_, by rw [e, byte_textB _ hne], by rw [e, List.length_map]; omega⟩
  rw [e] at hx
  obtain ⟨c, hc, rfl⟩ := List.mem_map.1 hx
  have := byteL_in c
  exact ⟨hne c hc, this.1, this.2⟩
theorem word_parse {ws : List Int} (h : Plain.Letters ws) (h64 : ws.length ≤ 64) : parseB (bytesOf (textB ws)) = true ∧ parseOut (bytesOf (textB ws)) = ws := by
  have hb : parseB (bytesOf (textB ws)) = true := by
    simp only [parseB, signsB, Bool.and_eq_true, List.all_eq_true, decide_eq_true_eq, bytesOf_list, bytesOf_size, textB_length]
    exact ⟨h64, fun c hc => okL_iff.2 (textB_ne h c hc)⟩
  refine ⟨hb, ?_⟩
  rw [parse_yes hb, readTo, bytesOf_list, bytesOf_size, List.take_length, textB_byte h]
theorem leafP_sound {l r : List UInt8} {F : Bool} {T : PT} (h : leafP l F = (T, r, false)) : F = false ∧ T.good ∧ l = T.txt ++ r := by
  simp only [leafP, Prod.mk.injEq, Bool.or_eq_false_iff, Bool.not_eq_false', decide_eq_false_iff_not] at h
  obtain ⟨rfl, rfl, ⟨hF, hb⟩, hn⟩ := h
  obtain ⟨h1, h2, h3⟩ := parse_word hb
  refine ⟨hF, ⟨⟨fun e => hn (by rw [e]; rfl), h1⟩, by simp [PT.few, h3]⟩, ?_⟩
  show l = textB _ ++ _
  rw [h2, leafW, bytesOf_list, List.take_append_drop]
theorem parseP_sound (f : Nat) : ∀ (l r : List UInt8) (F : Bool) (T : PT), parseP f l F = (T, r, false) → F = false ∧ T.good ∧ l = T.txt ++ r := by
  induction f with
  | zero => intro l r F T h; exact leafP_sound h
  | succ f ih =>
    intro l r F T h
    rw [parseP] at h
    split at h
    · rename_i h91
      obtain ⟨A, ar, aF, ha⟩ : ∃ A ar aF, parseP f (l.drop 1) F = (A, ar, aF) := ⟨_, _, _, rfl⟩
      simp only [ha] at h
      obtain ⟨mr, mF, hm⟩ : ∃ mr mF, markP 44 ar aF = (mr, mF) := ⟨_, _, rfl⟩
      simp only [hm] at h
      obtain ⟨B, br, bF, hb⟩ : ∃ B br bF, parseP f mr mF = (B, br, bF) := ⟨_, _, _, rfl⟩
      simp only [hb, Prod.mk.injEq] at h
      obtain ⟨rfl, h2⟩ := h
      obtain ⟨rfl, rfl⟩ := markP_sound h2
      obtain ⟨rfl, gB, rfl⟩ := ih _ _ _ _ hb
      obtain ⟨rfl, rfl⟩ := markP_sound hm
      obtain ⟨hF, gA, hl⟩ := ih _ _ _ _ ha
      refine ⟨hF, ⟨⟨gA.1, gB.1⟩, by simp [PT.few, gA.2, gB.2]⟩, ?_⟩
      cases l with
      | nil => simp at h91
      | cons c l =>
        simp at h91 hl
        rw [h91, hl]
        simp [PT.txt]
    · exact leafP_sound h
/-- What stands behind is a mark that can be behind a tree, or nothing. -/
def Stop (r : List UInt8) : Prop := ∀ c, r[0]? = Option.some c → stopB c = true
theorem leafLen_word : ∀ (ws : List Int) (r : List UInt8), Plain.Letters ws → Stop r → leafLen (textB ws ++ r) = ws.length
  | [], [], _, _ => rfl
  | [], c :: r, _, h => by
    show leafLen (c :: r) = _
    rw [leafLen, if_pos (h c rfl)]
    rfl
  | x :: ws, r, hl, h => by
    have hx : byteL (signB x) ≠ 0 := by rw [sign_byte (hl x (by simp))]; exact (hl x (by simp)).1
    have hs : ¬ stopB (signB x) = true := by
      intro e
      simp only [stopB, Bool.or_eq_true, beq_iff_eq] at e
      rcases e with e | e <;> rw [e] at hx <;> exact hx (by decide)
    show leafLen (signB x :: (textB ws ++ r)) = _
    rw [leafLen, if_neg hs, leafLen_word ws r (fun y hy => hl y (by simp [hy])) h]
    rfl
theorem leafP_word (ws : List Int) (r : List UInt8) (F : Bool) (h : (PT.leaf ws).good) (hr : Stop r) : leafP (textB ws ++ r) F = (PT.leaf ws, r, F) := by
  have h64 : ws.length ≤ 64 := by simpa [PT.few] using h.2
  have e := leafLen_word ws r h.1.2 hr
  have ew : leafW (textB ws ++ r) = bytesOf (textB ws) := by rw [leafW, e, ← textB_length ws, List.take_left]
  obtain ⟨h1, h2⟩ := word_parse h.1.2 h64
  rw [leafP, ew, e, h1, h2, ← textB_length ws, List.drop_left, textB_length]
  have : ¬ ws.length = 0 := fun e => h.1.1 (List.eq_nil_of_length_eq_zero e)
  simp [this]
theorem parseP_tree : ∀ (T : PT) (f : Nat) (r : List UInt8) (F : Bool), T.good → Stop r → T.txt.length ≤ f → parseP f (T.txt ++ r) F = (T, r, F)
  | .leaf ws, 0, r, F, hg, hr, _ => leafP_word ws r F hg hr
  | .leaf ws, f + 1, r, F, hg, hr, _ => by
    have h0 : ¬ ((PT.leaf ws).txt ++ r)[0]? = Option.some 91 := by
      cases ws with
      | nil => exact absurd rfl hg.1.1
      | cons x ws =>
        intro e
        simp [PT.txt, textB] at e
        have hx : byteL (signB x) ≠ 0 := by rw [sign_byte (hg.1.2 x (by simp))]; exact (hg.1.2 x (by simp)).1
        rw [e] at hx
        exact hx b91
    rw [parseP, if_neg h0]
    exact leafP_word ws r F hg hr
  | .node a b, 0, r, F, hg, hr, hf => by simp [PT.txt] at hf
  | .node a b, f + 1, r, F, hg, hr, hf => by
    have e : (PT.node a b).txt ++ r = 91 :: (a.txt ++ (44 :: (b.txt ++ (93 :: r)))) := by simp [PT.txt]
    have hl : (PT.node a b).txt.length = 3 + a.txt.length + b.txt.length := by simp [PT.txt]; omega
    have stop_cons : ∀ (c : UInt8) (l : List UInt8), stopB c = true → Stop (c :: l) := fun c l h d hd => by simp at hd; subst hd; exact h
    have ha := parseP_tree a f (44 :: (b.txt ++ (93 :: r))) F (PT.good_l hg) (stop_cons _ _ rfl) (by omega)
    have hb := parseP_tree b f (93 :: r) F (PT.good_r hg) (stop_cons _ _ rfl) (by omega)
    have hm : ∀ (m : UInt8) (l : List UInt8), markP m (m :: l) F = (l, F) := fun m l => if_pos rfl
    rw [e, parseP, if_pos (by rfl), List.drop_succ_cons, List.drop_zero, ha]
    simp only [hm, hb]

/-- The tree that the program's reader makes of a text, and whether it takes it. -/
def treeOf (s : ByteArray) : PT := (parseP s.size s.data.toList false).1
def parsedB (s : ByteArray) : Bool := decide (s.size ≤ 80) && (!(parseP s.size s.data.toList false).2.2 && (parseP s.size s.data.toList false).2.1.isEmpty)
theorem whole_of {s : ByteArray} {T : PT} (h80 : s.size ≤ 80) (hg : T.good) (hl : s.data.toList = T.txt) : wholeB s = true ∧ wholeT s = Option.some T.four ∧ treeOf s = T ∧ parsedB s = true := by
  have hz : T.txt.length = s.size := by rw [← hl]; simp
  have h1 : wholeT s = Option.some T.four := by
    rw [wholeT, if_pos h80, hl]
    have := read_tree T (s.size + 1) [] hg.1 noL_nil (by omega)
    rwa [List.append_nil] at this
  have h2 : runsOk 0 T.txt = true := by
    have := runs_tree T [] hg.1 noL_nil
    rw [List.append_nil] at this
    rw [this, hg.2]
    rfl
  have h3 : parseP s.size s.data.toList false = (T, [], false) := by
    have := parseP_tree T s.size [] false hg (fun c hc => by simp at hc) (by omega)
    rwa [List.append_nil, ← hl] at this
  refine ⟨?_, h1, by rw [treeOf, h3], by simp [parsedB, h3, h80]⟩
  unfold wholeB
  rw [h1, hl, h2]
  simp [PT.four, hz]
theorem parsed_tree {s : ByteArray} (h : parsedB s = true) : s.size ≤ 80 ∧ (treeOf s).good ∧ s.data.toList = (treeOf s).txt := by
  simp only [parsedB, Bool.and_eq_true, decide_eq_true_eq, Bool.not_eq_true', List.isEmpty_iff] at h
  obtain ⟨h80, h2, h3⟩ := h
  have := parseP_sound s.size s.data.toList [] false (treeOf s) (Prod.ext rfl (Prod.ext h3 h2))
  rw [List.append_nil] at this
  exact ⟨h80, this.2⟩
theorem whole_tree {s : ByteArray} (h : wholeB s = true) : ∃ T : PT, s.size ≤ 80 ∧ T.good ∧ s.data.toList = T.txt := by
  unfold wholeB at h
  cases hw : wholeT s with
  | none => rw [hw] at h; cases h
  | some t =>
    rw [hw] at h
    simp only [Bool.and_eq_true, decide_eq_true_eq] at h
    obtain ⟨h2, h3⟩ := h
    unfold wholeT at hw
    split at hw
    · rename_i h80
      obtain ⟨T, g, e, hl⟩ := tree_read _ _ _ hw
      rw [h3, List.drop_eq_nil_of_le (by simp), List.append_nil] at hl
      refine ⟨T, h80, ⟨g, ?_⟩, hl⟩
      have := runs_tree T [] g noL_nil
      rw [List.append_nil, ← hl, h2] at this
      simpa [runsOk] using this.symm
    · cases hw
theorem parsed_whole (s : ByteArray) : parsedB s = wholeB s := by
  cases h : wholeB s with
  | true =>
    obtain ⟨T, h1, h2, h3⟩ := whole_tree h
    exact (whole_of h1 h2 h3).2.2.2
  | false =>
    cases h2 : parsedB s with
    | false => rfl
    | true =>
      obtain ⟨h3, h4, h5⟩ := parsed_tree h2
      rw [(whole_of h3 h4 h5).1] at h
      cases h

end Go.Proofs.Ytllmglmjghbaiaa
