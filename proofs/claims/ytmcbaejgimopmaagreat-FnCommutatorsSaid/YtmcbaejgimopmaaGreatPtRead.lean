/- Plain mathematics: what the program's reader makes of a text, and that it takes the texts of trees. No condition. -/
import Derived.Test.YtmcbaejgimopmaaGreatBdPTree
import Derived.Test.YtmcbaejgimopmaaGreatParseWWalks
namespace Go.Proofs.YtmcbaejgimopmaaGreat
set_option linter.unusedVariables false

/-! letters and their bytes -/
theorem sign_byte {x : Int} (hx : x ≠ 0 ∧ -6 ≤ x ∧ x ≤ 6) : byteL (signB x) = x := by
  rcases sign_six hx with rfl | rfl | rfl | rfl | rfl | rfl | rfl | rfl | rfl | rfl | rfl | rfl <;> decide
theorem sign_of_byte (c : UInt8) (h : byteL c ≠ 0) : signB (byteL c) = c := by
  have hc := UInt8.toNat_lt c
  apply UInt8.toNat_inj.1
  rcases byteL_cases c with h1 | h1 | h1 | h1 | h1
  · rw [byteL_low h1, signB, signNat, if_neg (by omega)]; simp; omega
  · exact absurd (byteL_no (by omega) (by omega)) h
  · rw [byteL_up h1, signB, signNat, if_pos (by omega)]; simp; omega
  · exact absurd (byteL_no (by omega) (by omega)) h
  · exact absurd (byteL_no (by omega) (by omega)) h
theorem textB_byte {ws : List Int} (h : Plain.Letters ws) : (textB ws).map byteL = ws := by
  induction ws with
  | nil => rfl
  | cons x ws ih =>
    show byteL (signB x) :: (textB ws).map byteL = _
    rw [sign_byte (h x (by simp)), ih (fun y hy => h y (by simp [hy]))]
theorem byte_textB : ∀ (l : List UInt8), (∀ c ∈ l, byteL c ≠ 0) → textB (l.map byteL) = l
  | [], _ => rfl
  | c :: l, h => by
    show signB (byteL c) :: textB (l.map byteL) = _
    rw [sign_of_byte c (h c (by simp)), byte_textB l (fun d hd => h d (by simp [hd]))]
theorem textB_ne {ws : List Int} (h : Plain.Letters ws) : ∀ c ∈ textB ws, byteL c ≠ 0 := by
  intro c hc
  obtain ⟨x, hx, rfl⟩ := List.mem_map.1 hc
  rw [sign_byte (h x hx)]
  exact (h x hx).1

theorem b91 : byteL 91 = 0 := by decide
theorem b44 : byteL 44 = 0 := by decide
theorem b93 : byteL 93 = 0 := by decide
/-! what the program's reader makes of a text -/
def stopB (c : UInt8) : Bool := c == 44 || c == 93
def leafLen : List UInt8 → Nat
  | [] => 0
  | c :: l => if stopB c = true then 0 else leafLen l + 1
theorem leafLen_le : ∀ l : List UInt8, leafLen l ≤ l.length
  | [] => Nat.le_refl _
  | c :: l => by
    have := leafLen_le l
    rw [leafLen]
    split <;> simp
    exact this
def leafW (l : List UInt8) : ByteArray := bytesOf (l.take (leafLen l))
def leafP (l : List UInt8) (F : Bool) : PT × List UInt8 × Bool := (.leaf (parseOut (leafW l)), l.drop (leafLen l), F || !parseB (leafW l) || decide ((parseOut (leafW l)).length = 0))
def markP (m : UInt8) (l : List UInt8) (F : Bool) : List UInt8 × Bool := if l[0]? = Option.some m then (l.drop 1, F) else (l, true)
def parseP : Nat → List UInt8 → Bool → PT × List UInt8 × Bool
  | 0, l, F => leafP l F
  | f + 1, l, F => if l[0]? = Option.some 91 then
      (.node (parseP f (l.drop 1) F).1 (parseP f (markP 44 (parseP f (l.drop 1) F).2.1 (parseP f (l.drop 1) F).2.2).1 (markP 44 (parseP f (l.drop 1) F).2.1 (parseP f (l.drop 1) F).2.2).2).1,
        markP 93 (parseP f (markP 44 (parseP f (l.drop 1) F).2.1 (parseP f (l.drop 1) F).2.2).1 (markP 44 (parseP f (l.drop 1) F).2.1 (parseP f (l.drop 1) F).2.2).2).2.1 (parseP f (markP 44 (parseP f (l.drop 1) F).2.1 (parseP f (l.drop 1) F).2.2).1 (markP 44 (parseP f (l.drop 1) F).2.1 (parseP f (l.drop 1) F).2.2).2).2.2)
    else leafP l F
theorem markP_le (m : UInt8) (l : List UInt8) (F : Bool) : (markP m l F).1.length ≤ l.length := by
  unfold markP
  split <;> simp
theorem leafP_le (l : List UInt8) (F : Bool) : (leafP l F).2.1.length ≤ l.length := by simp [leafP]
theorem parseP_le (f : Nat) : ∀ (l : List UInt8) (F : Bool), (parseP f l F).2.1.length ≤ l.length := by
  induction f with
  | zero => exact leafP_le
  | succ f ih =>
    intro l F
    rw [parseP]
    split
    · refine Nat.le_trans (markP_le _ _ _) (Nat.le_trans (ih _ _) (Nat.le_trans (markP_le _ _ _) (Nat.le_trans (ih _ _) ?_)))
      simp
    · exact leafP_le l F
theorem markP_sound {m : UInt8} {l r : List UInt8} {F : Bool} (h : markP m l F = (r, false)) : F = false ∧ l = m :: r := by
  unfold markP at h
  split at h
  · rename_i h0
    simp only [Prod.mk.injEq] at h
    refine ⟨h.2, ?_⟩
    cases l with
    | nil => simp at h0
    | cons c l => simp at h0 h; rw [h0, h.1]
  · simp at h
theorem okL_iff {c : UInt8} : okL c = true ↔ byteL c ≠ 0 := by simp [okL]
theorem parse_word {s : ByteArray} (h : parseB s = true) : Plain.Letters (parseOut s) ∧ textB (parseOut s) = s.data.toList ∧ (parseOut s).length ≤ 64 := by
  have hb := h
  simp only [parseB, signsB, Bool.and_eq_true, List.all_eq_true, decide_eq_true_eq] at hb
  have hz : s.data.toList.length = s.size := by simp
  have e : parseOut s = s.data.toList.map byteL := by rw [parse_yes h, readTo, List.take_of_length_le (by omega)]
  have hne : ∀ c ∈ s.data.toList, byteL c ≠ 0 := fun c hc => okL_iff.1 (hb.2 c hc)
  refine ⟨fun x hx => ?_, by rw [e, byte_textB _ hne], by rw [e, List.length_map]; omega⟩
  rw [e] at hx
  obtain ⟨c, hc, rfl⟩ := List.mem_map.1 hx
  have := byteL_in c
  exact ⟨hne c hc, this.1, this.2⟩
theorem word_parse {ws : List Int} (h : Plain.Letters ws) (h64 : ws.length ≤ 64) : parseB (bytesOf (textB ws)) = true ∧ parseOut (bytesOf (textB ws)) = ws := by
  have hb : parseB (bytesOf (textB ws)) = true := by
    simp only [parseB, signsB, Bool.and_eq_true, List.all_eq_true, decide_eq_true_eq, bytesOf_list, bytesOf_size, textB_length]
    exact ⟨h64, fun c hc => okL_iff.2 (textB_ne h c hc)⟩
  refine ⟨hb, ?_⟩
  rw [parse_yes hb, readTo, bytesOf_list, bytesOf_size, List.take_length, textB_byte h]
theorem leafP_sound {l r : List UInt8} {F : Bool} {T : PT} (h : leafP l F = (T, r, false)) : F = false ∧ T.good ∧ l = T.txt ++ r := by
  simp only [leafP, Prod.mk.injEq, Bool.or_eq_false_iff, Bool.not_eq_false', decide_eq_false_iff_not] at h
  obtain ⟨rfl, rfl, ⟨hF, hb⟩, hn⟩ := h
  obtain ⟨h1, h2, h3⟩ := parse_word hb
  refine ⟨hF, ⟨⟨fun e => hn (by rw [e]; rfl), h1⟩, by simp [PT.few, h3]⟩, ?_⟩
  show l = textB _ ++ _
  rw [h2, leafW, bytesOf_list, List.take_append_drop]
theorem parseP_sound (f : Nat) : ∀ (l r : List UInt8) (F : Bool) (T : PT), parseP f l F = (T, r, false) → F = false ∧ T.good ∧ l = T.txt ++ r := by
  induction f with
  | zero => intro l r F T h; exact leafP_sound h
  | succ f ih =>
    intro l r F T h
    rw [parseP] at h
    split at h
    · rename_i h91
      obtain ⟨A, ar, aF, ha⟩ : ∃ A ar aF, parseP f (l.drop 1) F = (A, ar, aF) := ⟨_, _, _, rfl⟩
      simp only [ha] at h
      obtain ⟨mr, mF, hm⟩ : ∃ mr mF, markP 44 ar aF = (mr, mF) := ⟨_, _, rfl⟩
      simp only [hm] at h
      obtain ⟨B, br, bF, hb⟩ : ∃ B br bF, parseP f mr mF = (B, br, bF) := ⟨_, _, _, rfl⟩
      simp only [hb, Prod.mk.injEq] at h
      obtain ⟨rfl, h2⟩ := h
      obtain ⟨rfl, rfl⟩ := markP_sound h2
      obtain ⟨rfl, gB, rfl⟩ := ih _ _ _ _ hb
      obtain ⟨rfl, rfl⟩ := markP_sound hm
      obtain ⟨hF, gA, hl⟩ := ih _ _ _ _ ha
      refine ⟨hF, ⟨⟨gA.1, gB.1⟩, by simp [PT.few, gA.2, gB.2]⟩, ?_⟩
      cases l with
      | nil => simp at h91
      | cons c l =>
        simp at h91 hl
        rw [h91, hl]
        simp [PT.txt]
    · exact leafP_sound h
/-- What stands behind is a mark that can be behind a tree, or nothing. -/
def Stop (r : List UInt8) : Prop := ∀ c, r[0]? = Option.some c → stopB c = true
theorem leafLen_word : ∀ (ws : List Int) (r : List UInt8), Plain.Letters ws → Stop r → leafLen (textB ws ++ r) = ws.length
  | [], [], _, _ => rfl
  | [], c :: r, _, h => by
    show leafLen (c :: r) = _
    rw [leafLen, if_pos (h c rfl)]
    rfl
  | x :: ws, r, hl, h => by
    have hx : byteL (signB x) ≠ 0 := by rw [sign_byte (hl x (by simp))]; exact (hl x (by simp)).1
    have hs : ¬ stopB (signB x) = true := by
      intro e
      simp only [stopB, Bool.or_eq_true, beq_iff_eq] at e
      rcases e with e | e <;> rw [e] at hx <;> exact hx (by decide)
    show leafLen (signB x :: (textB ws ++ r)) = _
    rw [leafLen, if_neg hs, leafLen_word ws r (fun y hy => hl y (by simp [hy])) h]
    rfl
theorem leafP_word (ws : List Int) (r : List UInt8) (F : Bool) (h : (PT.leaf ws).good) (hr : Stop r) : leafP (textB ws ++ r) F = (PT.leaf ws, r, F) := by
  have h64 : ws.length ≤ 64 := by simpa [PT.few] using h.2
  have e := leafLen_word ws r h.1.2 hr
  have ew : leafW (textB ws ++ r) = bytesOf (textB ws) := by rw [leafW, e, ← textB_length ws, List.take_left]
  obtain ⟨h1, h2⟩ := word_parse h.1.2 h64
  rw [leafP, ew, e, h1, h2, ← textB_length ws, List.drop_left, textB_length]
  have : ¬ ws.length = 0 := fun e => h.1.1 (List.eq_nil_of_length_eq_zero e)
  simp [this]
theorem parseP_tree : ∀ (T : PT) (f : Nat) (r : List UInt8) (F : Bool), T.good → Stop r → T.txt.length ≤ f → parseP f (T.txt ++ r) F = (T, r, F)
  | .leaf ws, 0, r, F, hg, hr, _ => leafP_word ws r F hg hr
  | .leaf ws, f + 1, r, F, hg, hr, _ => by
    have h0 : ¬ ((PT.leaf ws).txt ++ r)[0]? = Option.some 91 := by
      cases ws with
      | nil => exact absurd rfl hg.1.1
      | cons x ws =>
        intro e
        simp [PT.txt, textB] at e
        have hx : byteL (signB x) ≠ 0 := by rw [sign_byte (hg.1.2 x (by simp))]; exact (hg.1.2 x (by simp)).1
        rw [e] at hx
        exact hx b91
    rw [parseP, if_neg h0]
    exact leafP_word ws r F hg hr
  | .node a b, 0, r, F, hg, hr, hf => by simp [PT.txt] at hf
  | .node a b, f + 1, r, F, hg, hr, hf => by
    have e : (PT.node a b).txt ++ r = 91 :: (a.txt ++ (44 :: (b.txt ++ (93 :: r)))) := by simp [PT.txt]
    have hl : (PT.node a b).txt.length = 3 + a.txt.length + b.txt.length := by simp [PT.txt]; omega
    have stop_cons : ∀ (c : UInt8) (l : List UInt8), stopB c = true → Stop (c :: l) := fun c l h d hd => by simp at hd; subst hd; exact h
    have ha := parseP_tree a f (44 :: (b.txt ++ (93 :: r))) F (PT.good_l hg) (stop_cons _ _ rfl) (by omega)
    have hb := parseP_tree b f (93 :: r) F (PT.good_r hg) (stop_cons _ _ rfl) (by omega)
    have hm : ∀ (m : UInt8) (l : List UInt8), markP m (m :: l) F = (l, F) := fun m l => if_pos rfl
    rw [e, parseP, if_pos (by rfl), List.drop_succ_cons, List.drop_zero, ha]
    simp only [hm, hb]

/-- The tree that the program's reader makes of a text, and whether it takes it. -/
def treeOf (s : ByteArray) : PT := (parseP s.size s.data.toList false).1
def parsedB (s : ByteArray) : Bool := decide (s.size ≤ 80) && (!(parseP s.size s.data.toList false).2.2 && (parseP s.size s.data.toList false).2.1.isEmpty)
theorem parsed_tree {s : ByteArray} (h : parsedB s = true) : s.size ≤ 80 ∧ (treeOf s).good ∧ s.data.toList = (treeOf s).txt := by
  simp only [parsedB, Bool.and_eq_true, decide_eq_true_eq, Bool.not_eq_true', List.isEmpty_iff] at h
  obtain ⟨h80, h2, h3⟩ := h
  have := parseP_sound s.size s.data.toList [] false (treeOf s) (Prod.ext rfl (Prod.ext h3 h2))
  rw [List.append_nil] at this
  exact ⟨h80, this.2⟩
/-- A tree's text is taken, and read as the tree. -/
theorem parsed_of {s : ByteArray} {T : PT} (h80 : s.size ≤ 80) (hg : T.good) (hl : s.data.toList = T.txt) : treeOf s = T ∧ parsedB s = true := by
  have hz : T.txt.length = s.size := by rw [← hl]; simp
  have h3 : parseP s.size s.data.toList false = (T, [], false) := by
    have := parseP_tree T s.size [] false hg (fun c hc => by simp at hc) (by omega)
    rwa [List.append_nil, ← hl] at this
  exact ⟨by rw [treeOf, h3], by simp [parsedB, h3, h80]⟩

end Go.Proofs.YtmcbaejgimopmaaGreat
