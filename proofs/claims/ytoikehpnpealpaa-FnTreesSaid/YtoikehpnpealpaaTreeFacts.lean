/- Plain mathematics of trees as texts: leaves and depth, a swapped tree is a tree of the same raw length whose value is the inverse, a value has at most as many letters as the raw length tells. No condition. -/
import Derived.Test.YtoikehpnpealpaaTreeValue
namespace Go.Proofs.Ytoikehpnpealpaa
open Go.ChangeShapes Go.WideShapes Go.ChangeAt Go.RowKit
set_option linter.unusedVariables false

/-! inverses of reduced lists -/
theorem reduced_inv {y : List Int} (h : Plain.Reduced y) : Plain.Reduced (Plain.inv y) := by
  have key : ∀ x : List Int, Plain.red (Plain.inv (Plain.red x)) = Plain.red (Plain.inv x) := fun x => by
    have e1 : Plain.red (Plain.inv (Plain.red x) ++ (Plain.red x ++ Plain.inv x)) = Plain.red (Plain.inv (Plain.red x)) := by
      rw [← Plain.red_append_red, Plain.red_red_append, Plain.red_inv, List.append_nil]
    have e2 : Plain.red (Plain.inv (Plain.red x) ++ (Plain.red x ++ Plain.inv x)) = Plain.red (Plain.inv x) := by
      rw [← List.append_assoc, ← Plain.red_red_append]
      have : Plain.red (Plain.inv (Plain.red x) ++ Plain.red x) = [] := by
        have := Plain.red_inv (Plain.inv (Plain.red x))
        rwa [Plain.inv_inv] at this
      rw [this, List.nil_append]
    rw [← e1, e2]
  have h1 := Plain.red_length (Plain.inv y)
  have h2 := Plain.red_length (Plain.inv (Plain.red (Plain.inv y)))
  rw [key, Plain.inv_inv, Plain.red_of_reduced h, Plain.inv_length] at h2
  refine Plain.red_length_eq.1 ?_
  rw [Plain.inv_length] at h1 ⊢
  omega
theorem inv_red (x : List Int) : Plain.inv (Plain.red x) = Plain.red (Plain.inv x) := by
  have e1 : Plain.red (Plain.inv (Plain.red x) ++ (Plain.red x ++ Plain.inv x)) = Plain.red (Plain.inv (Plain.red x)) := by
    rw [← Plain.red_append_red, Plain.red_red_append, Plain.red_inv, List.append_nil]
  have e2 : Plain.red (Plain.inv (Plain.red x) ++ (Plain.red x ++ Plain.inv x)) = Plain.red (Plain.inv x) := by
    rw [← List.append_assoc, ← Plain.red_red_append]
    have : Plain.red (Plain.inv (Plain.red x) ++ Plain.red x) = [] := by
      have := Plain.red_inv (Plain.inv (Plain.red x))
      rwa [Plain.inv_inv] at this
    rw [this, List.nil_append]
  rw [← e2, e1, Plain.red_of_reduced (reduced_inv (Plain.red_reduced x))]
theorem comm_swap (u v : List Int) : Plain.comm v u = Plain.inv (Plain.comm u v) := by
  rw [Plain.comm, Plain.comm, inv_red]
  congr 1
  simp only [Plain.inv_append, Plain.inv_inv, List.append_assoc]
theorem short_inv (x : List Int) : short (Plain.inv x) = Plain.inv (short x) ∧ shortB (Plain.inv x) = shortB x := by
  unfold short shortB
  rw [Plain.inv_length]
  refine ⟨?_, rfl⟩
  split
  · rfl
  · rfl

/-! reading trees -/
theorem runLen_app : ∀ (l r : List UInt8), (∀ c, r[0]? = some c → byteL c = 0) → runLen (l ++ r) = runLen l
  | [], [], _ => rfl
  | [], c :: r, h => by
    show runLen (c :: r) = 0
    rw [runLen, if_pos (h c rfl)]
  | d :: l, r, h => by
    rw [List.cons_append, runLen, runLen, runLen_app l r h]
theorem get_app {l r : List UInt8} {i : Nat} {c : UInt8} (h : l[i]? = some c) : (l ++ r)[i]? = some c := by
  rw [List.getElem?_append_left (List.getElem?_eq_some_iff.1 h).1]; exact h
theorem drop_app {l r : List UInt8} {i : Nat} (h : i ≤ l.length) : (l ++ r).drop i = l.drop i ++ r := List.drop_append_of_le_length h
theorem readT_app (f : Nat) : ∀ (l r : List UInt8) (t : Nat × Nat × Nat × Nat), readT f l = some t → (∀ c, r[0]? = some c → byteL c = 0) → readT f (l ++ r) = some t := by
  induction f with
  | zero => intro l r t h; simp [readT] at h
  | succ f ih =>
    intro l r t h hr
    rw [readT] at h ⊢
    rw [runLen_app l r hr]
    split
    · rename_i h0
      rw [if_pos h0] at h
      exact h
    · rename_i h0
      rw [if_neg h0] at h
      split at h
      · rename_i h91
        rw [if_pos (get_app h91)]
        have hl0 := (List.getElem?_eq_some_iff.1 h91).1
        cases ha : readT f (l.drop 1) with
        | none => rw [ha] at h; cases h
        | some a =>
          rw [ha] at h
          simp only at h
          rw [drop_app (by omega), ih _ _ _ ha hr]
          simp only
          split at h
          · rename_i h44
            have hl1 := (List.getElem?_eq_some_iff.1 h44).1
            rw [if_pos (get_app h44), drop_app (by omega)]
            cases hb : readT f (l.drop (2 + a.1)) with
            | none => rw [hb] at h; cases h
            | some b =>
              rw [hb] at h
              simp only at h
              rw [ih _ _ _ hb hr]
              simp only
              split at h
              · rename_i h93
                rw [if_pos (get_app h93)]
                exact h
              · cases h
          · cases h
      · cases h
/-- Leaves are more than the depth, and the raw length is no less. -/
theorem readT_many (f : Nat) : ∀ (l : List UInt8) (t : Nat × Nat × Nat × Nat), readT f l = some t → t.2.1 + 1 ≤ t.2.2.1 ∧ t.2.2.1 ≤ t.2.2.2 := by
  induction f with
  | zero => intro l t h; simp [readT] at h
  | succ f ih =>
    intro l t h
    rw [readT] at h
    split at h
    · cases h
      exact ⟨Nat.le_refl _, by simp only; omega⟩
    · split at h
      · cases ha : readT f (l.drop 1) with
        | none => rw [ha] at h; cases h
        | some a =>
          rw [ha] at h
          simp only at h
          split at h
          · cases hb : readT f (l.drop (2 + a.1)) with
            | none => rw [hb] at h; cases h
            | some b =>
              rw [hb] at h
              simp only at h
              split at h
              · cases h
                have h1 := ih _ _ ha
                have h2 := ih _ _ hb
                simp only
                omega
              · cases h
          · cases h
      · cases h


/-! a tree of two trees, as a text -/
def nodeS (X Y : ByteArray) : ByteArray := ⟨#[91]⟩ ++ X ++ ⟨#[44]⟩ ++ Y ++ ⟨#[93]⟩
theorem ba_ext {s t : ByteArray} (h : s.data.toList = t.data.toList) : s = t := by
  cases s; cases t
  congr 1
  exact Array.ext' h
theorem node_list (X Y : ByteArray) : (nodeS X Y).data.toList = 91 :: (X.data.toList ++ 44 :: (Y.data.toList ++ [93])) := by
  simp [nodeS, ByteArray.data_append, Array.toList_append]
theorem list_size (X : ByteArray) : X.data.toList.length = X.size := by simp
theorem node_size (X Y : ByteArray) : (nodeS X Y).size = 3 + X.size + Y.size := by
  rw [← list_size, node_list]
  simp
  omega
theorem node_drop1 (X Y : ByteArray) : (nodeS X Y).data.toList.drop 1 = X.data.toList ++ 44 :: (Y.data.toList ++ [93]) := by rw [node_list]; rfl
theorem node_drop2 (X Y : ByteArray) : (nodeS X Y).data.toList.drop (2 + X.size) = Y.data.toList ++ [93] := by
  rw [node_list, show 2 + X.size = (X.size + 1) + 1 by omega, List.drop_succ_cons, ← list_size, ← List.drop_drop, List.drop_left]
  rfl
theorem node_at0 (X Y : ByteArray) : (nodeS X Y).data.toList[0]? = some 91 := by rw [node_list]; rfl
theorem node_at1 (X Y : ByteArray) : (nodeS X Y).data.toList[1 + X.size]? = some 44 := by
  rw [node_list, show 1 + X.size = X.size + 1 by omega, List.getElem?_cons_succ, ← list_size, List.getElem?_append_right (Nat.le_refl _), Nat.sub_self]
  rfl
theorem node_at2 (X Y : ByteArray) : (nodeS X Y).data.toList[2 + X.size + Y.size]? = some 93 := by
  have h := node_drop2 X Y
  have h1 : ((nodeS X Y).data.toList.drop (2 + X.size))[Y.size]? = some 93 := by
    rw [h, ← list_size, List.getElem?_append_right (Nat.le_refl _), Nat.sub_self]; rfl
  rwa [List.getElem?_drop] at h1
theorem node_one (X Y : ByteArray) : (nodeS X Y).extract 1 (1 + X.size) = X := ba_ext (by
  rw [extract_list, node_drop1, show 1 + X.size - 1 = X.size by omega, ← list_size, List.take_left])
theorem node_two (X Y : ByteArray) : (nodeS X Y).extract (2 + X.size) ((nodeS X Y).size - 1) = Y := ba_ext (by
  rw [extract_list, node_drop2, node_size, show 3 + X.size + Y.size - 1 - (2 + X.size) = Y.size by omega, ← list_size, List.take_left])
theorem byte_91 : byteL 91 = 0 := by decide
theorem byte_44 : byteL 44 = 0 := by decide
theorem byte_93 : byteL 93 = 0 := by decide
theorem run91 {l : List UInt8} (h : l[0]? = some 91) : runLen l = 0 := by
  cases l with
  | nil => rfl
  | cons c l =>
    simp at h
    subst h
    rw [runLen, if_pos byte_91]
theorem node_read {f : Nat} {X Y : ByteArray} {a b : Nat × Nat × Nat × Nat} (ha : readT f X.data.toList = some a) (ha1 : a.1 = X.size) (hb : readT f Y.data.toList = some b) (hb1 : b.1 = Y.size) :
    readT f ((nodeS X Y).data.toList.drop 1) = some a ∧ readT (f + 1) (nodeS X Y).data.toList = some (3 + a.1 + b.1, max a.2.1 b.2.1 + 1, a.2.2.1 + b.2.2.1, 2 * (a.2.2.2 + b.2.2.2)) := by
  have h1 : readT f ((nodeS X Y).data.toList.drop 1) = some a := by
    rw [node_drop1]
    exact readT_app f _ _ _ ha (fun c hc => by simp at hc; subst hc; exact byte_44)
  have h2 : readT f ((nodeS X Y).data.toList.drop (2 + a.1)) = some b := by
    rw [ha1, node_drop2]
    exact readT_app f _ _ _ hb (fun c hc => by simp at hc; subst hc; exact byte_93)
  refine ⟨h1, ?_⟩
  rw [readT, run91 (node_at0 X Y), if_neg (by simp), if_pos (node_at0 X Y), h1]
  simp only
  rw [h2, ha1, if_pos (node_at1 X Y)]
  simp only
  rw [hb1, if_pos (node_at2 X Y)]
theorem runs_app : ∀ (l : List UInt8) (n : Nat) (c : UInt8) (r : List UInt8), byteL c = 0 → runsOk n (l ++ c :: r) = (runsOk n l && runsOk 0 r)
  | [], n, c, r, h => by simp [runsOk, h]
  | d :: l, n, c, r, h => by
    rw [List.cons_append, runsOk, runsOk, runs_app l _ c r h, Bool.and_assoc]
theorem node_runs (X Y : ByteArray) : runsOk 0 (nodeS X Y).data.toList = (runsOk 0 X.data.toList && runsOk 0 Y.data.toList) := by
  rw [node_list]
  have h := runs_app [] 0 91 (X.data.toList ++ 44 :: (Y.data.toList ++ [93])) byte_91
  rw [List.nil_append] at h
  rw [h, runs_app _ 0 44 _ byte_44, runs_app _ 0 93 [] byte_93]
  simp [runsOk]
/-- Two trees that make one. -/
def Pair (X Y : ByteArray) (a b : Nat × Nat × Nat × Nat) : Prop :=
  readT (nodeS X Y).size X.data.toList = some a ∧ a.1 = X.size ∧ readT (nodeS X Y).size Y.data.toList = some b ∧ b.1 = Y.size ∧ (nodeS X Y).size ≤ 80 ∧ (runsOk 0 X.data.toList && runsOk 0 Y.data.toList) = true
theorem Pair.swap {X Y : ByteArray} {a b : Nat × Nat × Nat × Nat} (h : Pair X Y a b) : Pair Y X b a := by
  obtain ⟨h1, h2, h3, h4, h5, h6⟩ := h
  have e : (nodeS Y X).size = (nodeS X Y).size := by rw [node_size, node_size]; omega
  exact ⟨by rw [e]; exact h3, h4, by rw [e]; exact h1, h2, by rw [e]; exact h5, by rw [Bool.and_comm]; exact h6⟩
theorem Pair.whole {X Y : ByteArray} {a b : Nat × Nat × Nat × Nat} (h : Pair X Y a b) : wholeT (nodeS X Y) = some (3 + a.1 + b.1, max a.2.1 b.2.1 + 1, a.2.2.1 + b.2.2.1, 2 * (a.2.2.2 + b.2.2.2)) ∧ wholeB (nodeS X Y) = true := by
  obtain ⟨h1, h2, h3, h4, h5, h6⟩ := h
  have hw : wholeT (nodeS X Y) = some (3 + a.1 + b.1, max a.2.1 b.2.1 + 1, a.2.2.1 + b.2.2.1, 2 * (a.2.2.2 + b.2.2.2)) := by
    rw [wholeT, if_pos h5]; exact (node_read h1 h2 h3 h4).2
  refine ⟨hw, ?_⟩
  rw [wholeB, hw]
  simp only
  rw [node_runs, h6, node_size, h2, h4]
  simp
theorem Pair.swapS {X Y : ByteArray} {a b : Nat × Nat × Nat × Nat} (h : Pair X Y a b) : swapS (nodeS X Y) = (nodeS Y X, true) := by
  have hw := h.whole.2
  obtain ⟨h1, h2, h3, h4, h5, h6⟩ := h
  rw [Go.Proofs.Ytoikehpnpealpaa.swapS, if_pos ⟨hw, node_at0 X Y⟩, (node_read h1 h2 h3 h4).1]
  simp only
  rw [h2, node_one, node_two]
  rfl
theorem Pair.value {X Y : ByteArray} {a b : Nat × Nat × Nat × Nat} (h : Pair X Y a b) : treeV (nodeS X Y) = (if ((valS (nodeS X Y).size X).2 && (valS (nodeS X Y).size Y).2) = true then (short (Plain.comm (valS (nodeS X Y).size X).1 (valS (nodeS X Y).size Y).1), shortB (Plain.comm (valS (nodeS X Y).size X).1 (valS (nodeS X Y).size Y).1)) else ([], false)) := by
  have hw := h.whole.2
  obtain ⟨h1, h2, h3, h4, h5, h6⟩ := h
  rw [treeV, if_pos hw, valS, if_pos (node_at0 X Y), (node_read h1 h2 h3 h4).1]
  simp only
  rw [h2, node_one, node_two]
theorem Pair.values {X Y : ByteArray} {a b : Nat × Nat × Nat × Nat} (h : Pair X Y a b) : treeV (nodeS Y X) = (Plain.inv (treeV (nodeS X Y)).1, (treeV (nodeS X Y)).2) := by
  rw [h.value, h.swap.value]
  have e : (nodeS Y X).size = (nodeS X Y).size := by rw [node_size, node_size]; omega
  rw [e, comm_swap (valS (nodeS X Y).size X).1, (short_inv _).1, (short_inv _).2, Bool.and_comm]
  split
  · rfl
  · rfl
/-- A tree that begins with a bracket is two trees. -/
theorem whole_pair {s : ByteArray} (h : wholeB s = true) (h91 : s.data.toList[0]? = some 91) : ∃ X Y a b, s = nodeS X Y ∧ Pair X Y a b := by
  have hruns : runsOk 0 s.data.toList = true := by
    unfold wholeB at h
    cases hw : wholeT s with
    | none => rw [hw] at h; cases h
    | some t => rw [hw] at h; simp only [Bool.and_eq_true] at h; exact h.1
  unfold wholeB at h
  cases hw : wholeT s with
  | none => rw [hw] at h; cases h
  | some t =>
    rw [hw] at h
    simp only [Bool.and_eq_true, decide_eq_true_eq] at h
    have ht := h.2
    unfold wholeT at hw
    split at hw
    · rename_i h80
      rw [readT, run91 h91, if_neg (by simp), if_pos h91] at hw
      cases ha : readT s.size (s.data.toList.drop 1) with
      | none => rw [ha] at hw; cases hw
      | some a =>
        rw [ha] at hw
        simp only at hw
        split at hw
        · rename_i h44
          cases hb : readT s.size (s.data.toList.drop (2 + a.1)) with
          | none => rw [hb] at hw; cases hw
          | some b =>
            rw [hb] at hw
            simp only at hw
            split at hw
            · rename_i h93
              cases hw
              simp only at ht
              have hsl := list_size s
              have hX : (s.extract 1 (1 + a.1)).size = a.1 := by simp; omega
              have hY : (s.extract (2 + a.1) (s.size - 1)).size = b.1 := by simp; omega
              have hs : s = nodeS (s.extract 1 (1 + a.1)) (s.extract (2 + a.1) (s.size - 1)) := ba_ext (by
                rw [node_list, extract_list, extract_list, show 1 + a.1 - 1 = a.1 by omega, show s.size - 1 - (2 + a.1) = b.1 by omega]
                have e0 : s.data.toList = 91 :: s.data.toList.drop 1 := by
                  cases hl : s.data.toList with
                  | nil => rw [hl] at h91; cases h91
                  | cons c l => rw [hl] at h91; simp at h91; subst h91; rfl
                have e1 : s.data.toList.drop 1 = (s.data.toList.drop 1).take a.1 ++ 44 :: s.data.toList.drop (2 + a.1) := by
                  have k := List.take_append_drop a.1 (s.data.toList.drop 1)
                  rw [List.drop_drop] at k
                  have k2 : s.data.toList.drop (1 + a.1) = 44 :: s.data.toList.drop (2 + a.1) := by
                    obtain ⟨k3, k4⟩ := List.getElem?_eq_some_iff.1 h44
                    rw [List.drop_eq_getElem_cons k3, k4, show 1 + a.1 + 1 = 2 + a.1 by omega]
                  rw [← k2, k]
                have e2 : s.data.toList.drop (2 + a.1) = (s.data.toList.drop (2 + a.1)).take b.1 ++ [93] := by
                  have k := List.take_append_drop b.1 (s.data.toList.drop (2 + a.1))
                  rw [List.drop_drop] at k
                  have k2 : s.data.toList.drop (2 + a.1 + b.1) = [93] := by
                    obtain ⟨k3, k4⟩ := List.getElem?_eq_some_iff.1 h93
                    rw [List.drop_eq_getElem_cons k3, k4, List.drop_eq_nil_of_le (by omega)]
                  rw [← k2, k]
                conv => lhs; rw [e0, e1, e2])
              have hz : (nodeS (s.extract 1 (1 + a.1)) (s.extract (2 + a.1) (s.size - 1))).size = s.size := by rw [← hs]
              refine ⟨_, _, a, b, hs, ?_, hX.symm, ?_, hY.symm, by rw [hz]; exact h80, ?_⟩
              · rw [hz, extract_list, show 1 + a.1 - 1 = a.1 by omega]
                exact readT_take _ _ _ ha _ (Nat.le_refl _)
              · rw [hz, extract_list]
                exact readT_take _ _ _ hb _ (by omega)
              · rw [← node_runs, ← hs]; exact hruns
            · cases hw
        · cases hw
    · cases hw


/-! a value has at most as many letters as the raw length tells -/
theorem short_len (xs : List Int) : (short xs).length ≤ xs.length := by
  unfold short
  split
  · exact Nat.le_refl _
  · exact Nat.zero_le _
theorem valS_le (f : Nat) : ∀ (s : ByteArray) (t : Nat × Nat × Nat × Nat), readT f s.data.toList = some t → t.1 = s.size → (valS f s).1.length ≤ t.2.2.2 := by
  induction f with
  | zero => intro s t h; simp [readT] at h
  | succ f ih =>
    intro s t h ht
    rw [readT] at h
    rw [valS]
    by_cases h91 : s.data.toList[0]? = some 91
    · rw [if_pos h91]
      rw [run91 h91, if_neg (by simp), if_pos h91] at h
      cases ha : readT f (s.data.toList.drop 1) with
      | none => rw [ha] at h; cases h
      | some a =>
        rw [ha] at h
        simp only at h ⊢
        split at h
        · cases hb : readT f (s.data.toList.drop (2 + a.1)) with
          | none => rw [hb] at h; cases h
          | some b =>
            rw [hb] at h
            simp only at h
            split at h
            · cases h
              simp only at ht ⊢
              split
              · have hX := ih (s.extract 1 (1 + a.1)) a (by rw [extract_list, show 1 + a.1 - 1 = a.1 by omega]; exact readT_take _ _ _ ha _ (Nat.le_refl _)) (by simp; omega)
                have hY := ih (s.extract (2 + a.1) (s.size - 1)) b (by rw [extract_list]; exact readT_take _ _ _ hb _ (by omega)) (by simp; omega)
                have h1 := short_len (Plain.comm (valS f (s.extract 1 (1 + a.1))).1 (valS f (s.extract (2 + a.1) (s.size - 1))).1)
                have h2 := Plain.comm_le (valS f (s.extract 1 (1 + a.1))).1 (valS f (s.extract (2 + a.1) (s.size - 1))).1
                simp only
                omega
              · simp
            · cases h
        · cases h
    · rw [if_neg h91]
      split at h
      · cases h
        simp only at ht ⊢
        have h1 := Plain.red_length (parseOut s)
        have h2 := parseOut_le s
        omega
      · cases h

/-- What a tree's raw length, depth and leaves read. -/
def rawI (s : ByteArray) : Int := if wholeB s then (match wholeT s with | none => 0 | some t => (t.2.2.2 : Int)) else 0
def deepI (s : ByteArray) : Int := if wholeB s then (match wholeT s with | none => 0 | some t => (t.2.1 : Int)) else 0
def leavesI (s : ByteArray) : Int := if wholeB s then (match wholeT s with | none => 0 | some t => (t.2.2.1 : Int)) else 0
theorem whole_some {s : ByteArray} (h : wholeB s = true) : ∃ t, wholeT s = some t ∧ readT (s.size + 1) s.data.toList = some t ∧ t.1 = s.size ∧ s.size ≤ 80 ∧ rawI s = (t.2.2.2 : Int) ∧ deepI s = (t.2.1 : Int) ∧ leavesI s = (t.2.2.1 : Int) := by
  have h0 := h
  unfold wholeB at h
  cases hw : wholeT s with
  | none => rw [hw] at h; cases h
  | some t =>
    rw [hw] at h
    simp only [Bool.and_eq_true, decide_eq_true_eq] at h
    have hw2 := hw
    unfold wholeT at hw2
    split at hw2
    · rename_i h80
      refine ⟨t, rfl, hw2, h.2, h80, ?_, ?_, ?_⟩
      · rw [rawI, if_pos h0, hw]
      · rw [deepI, if_pos h0, hw]
      · rw [leavesI, if_pos h0, hw]
    · cases hw2
theorem tree_small (s : ByteArray) : (0 ≤ rawI s ∧ rawI s ≤ 41943040) ∧ (0 ≤ deepI s ∧ deepI s ≤ 19) ∧ (0 ≤ leavesI s ∧ leavesI s ≤ 80) := by
  cases hb : wholeB s with
  | true =>
    obtain ⟨t, hw, hr, ht, h80, h1, h2, h3⟩ := whole_some hb
    have hf := fit_small (readT_fit _ _ _ hr) (by rw [list_size]; exact h80)
    rw [h1, h2, h3]
    omega
  | false => simp [rawI, deepI, leavesI, hb]
theorem tree_shape {s : ByteArray} (h : wholeB s = true) : deepI s + 1 ≤ leavesI s ∧ leavesI s ≤ rawI s := by
  obtain ⟨t, hw, hr, ht, h80, h1, h2, h3⟩ := whole_some h
  have hm := readT_many _ _ _ hr
  rw [h1, h2, h3]
  omega
theorem tree_whole {s : ByteArray} (h : (treeV s).2 = true) : wholeB s = true := by
  cases hb : wholeB s with
  | true => rfl
  | false => rw [treeV, if_neg (by rw [hb]; simp)] at h; cases h
theorem tree_le {s : ByteArray} (h : (treeV s).2 = true) : ((treeV s).1.length : Int) ≤ rawI s := by
  have hb := tree_whole h
  obtain ⟨t, hw, hr, ht, h80, h1, h2, h3⟩ := whole_some hb
  rw [h1, treeV, if_pos hb]
  have := valS_le _ _ _ hr ht
  omega
theorem tree_swap (s : ByteArray) : (swapS s).2 = (wholeB s && decide (0 < deepI s)) ∧ ((swapS s).2 = true → (wholeB (swapS s).1 = true ∧ rawI (swapS s).1 = rawI s ∧ swapS (swapS s).1 = (s, true) ∧ treeV (swapS s).1 = (Plain.inv (treeV s).1, (treeV s).2))) := by
  cases hb : wholeB s with
  | false =>
    have : swapS s = (⟨#[]⟩, false) := by rw [swapS, if_neg (by rw [hb]; simp)]
    rw [this]
    exact ⟨rfl, fun h => by cases h⟩
  | true =>
    by_cases h91 : s.data.toList[0]? = some 91
    · obtain ⟨X, Y, a, b, rfl, hp⟩ := whole_pair hb h91
      have hw := hp.whole
      have hw2 := hp.swap.whole
      have hd : deepI (nodeS X Y) = ((max a.2.1 b.2.1 + 1 : Nat) : Int) := by rw [deepI, if_pos hb, hw.1]
      have hr : rawI (nodeS X Y) = ((2 * (a.2.2.2 + b.2.2.2) : Nat) : Int) := by rw [rawI, if_pos hb, hw.1]
      have hr2 : rawI (nodeS Y X) = ((2 * (b.2.2.2 + a.2.2.2) : Nat) : Int) := by rw [rawI, if_pos hw2.2, hw2.1]
      rw [hp.swapS]
      refine ⟨?_, fun _ => ⟨hw2.2, ?_, hp.swap.swapS, hp.values⟩⟩
      · have : 0 < deepI (nodeS X Y) := by rw [hd]; omega
        simp [this]
      · rw [hr, hr2]; omega
    · have hs : swapS s = (⟨#[]⟩, false) := by rw [swapS, if_neg (fun h => h91 h.2)]
      obtain ⟨t, hw, hr, ht, h80, h1, h2, h3⟩ := whole_some hb
      rw [readT] at hr
      have hd : deepI s = 0 := by
        split at hr
        · cases hr
          exact h2
        · cases hr
      rw [hs, hd]
      exact ⟨rfl, fun h => by cases h⟩

end Go.Proofs.Ytoikehpnpealpaa
