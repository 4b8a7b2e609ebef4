/- Contracts: impl.IsTree, TreeLength, TreeShape, SwapTree answer as spec's. Condition: a text that fits. -/
import Derived.Test.YtoikehpnpealpaaParseTree
import Derived.Test.YtoikehpnpealpaaPt
import Derived.Test.YtoikehpnpealpaaTextImpl
import Derived.Test.YtoikehpnpealpaaSwap
import Derived.BigRegion
namespace Go.Proofs.Ytoikehpnpealpaa
open Go.ChangeShapes Go.WideShapes Go.ChangeAt Go.RowKit
set_option linter.unusedVariables false

theorem whole_facts {s : ByteArray} (h : wholeB s = true) : (treeOf s).good ∧ s.data.toList = (treeOf s).txt ∧ wholeT s = some (treeOf s).four ∧ (treeOf s).raw ≤ 41943040 ∧ (treeOf s).depth ≤ 19 ∧ (treeOf s).leaves ≤ 80 ∧ (treeOf s).txt.length ≤ 80 := by
  obtain ⟨h80, hg, hl⟩ := parsed_tree (by rw [parsed_whole]; exact h)
  have hw := (whole_of h80 hg hl).2.1
  have hr := hw
  unfold wholeT at hr
  rw [if_pos h80] at hr
  have hf := fit_small (readT_fit _ _ _ hr) (by simpa using h80)
  exact ⟨hg, hl, hw, hf.2.2.2, hf.2.1, hf.2.2.1, hf.1⟩
theorem parse_is (s : ByteArray) (w : World) (hs : s.size ≤ 9223372036854775807) : Calls Try.prog 65 #[.string s] w fun e w' => (∃ v, e = .returned (.tuple #[v, .bool (wholeB s)]) ∧ (wholeB s = true → ∃ p, v = .pointer (some ⟨p, 0, none⟩) ∧ PTree 0 w' (treeOf s) p)) ∧ Below w.heap.size w w' := by
  have h := parseTree_any s w (by omega)
  unfold ParsePost at h
  rw [parsed_whole] at h
  exact h

set_option maxHeartbeats 400000 in
theorem implIsTree_any (s : ByteArray) (w : World) (hs : s.size ≤ 9223372036854775807) : Calls Try.prog 31 #[.string s] w (Val (.bool (wholeB s)) w) := by
  have HC := Lib.hid (parse_is s w hs)
  generalize wholeB s = ok at HC ⊢
  go_enter Try.func31, Try.ntmps31
  go_wp2_with fail
  refine HC.out.mono ?_
  rintro e w1 ⟨⟨v, rfl, -⟩, hb⟩
  go_wp2_with fail
  go_ret
  exact ⟨rfl, hb⟩

set_option maxHeartbeats 400000 in
theorem implTreeLength_any (s : ByteArray) (w : World) (hs : s.size ≤ 9223372036854775807) : Calls Try.prog 29 #[.string s] w (Val (.tuple #[.int .i64 (if wholeB s then (match wholeT s with | none => 0 | some t => (t.2.2.2 : Int)) else 0), .bool (wholeB s)]) w) := by
  have HC := Lib.hid (parse_is s w hs)
  have hfacts := fun h => whole_facts (s := s) h
  generalize wholeB s = ok at HC hfacts ⊢
  cases ok with
  | false =>
    simp only [Bool.false_eq_true, if_false]
    clear hfacts
    go_enter Try.func29, Try.ntmps29
    go_wp2_with fail
    refine HC.out.mono ?_
    rintro e w1 ⟨⟨v, rfl, -⟩, hb⟩
    go_wp2_with fail
    go_ret2
    exact ⟨rfl, hb⟩
  | true =>
    obtain ⟨hg, hl, hw, h1, h2, h3, h4⟩ := hfacts rfl
    rw [if_pos rfl, hw]
    simp only [PT.four]
    obtain ⟨T, hT⟩ : ∃ T, T = treeOf s := ⟨_, rfl⟩
    rw [← hT] at HC h1 ⊢
    clear hT hg hl hw h2 h3 h4 hfacts
    go_enter Try.func29, Try.ntmps29
    go_wp2_with fail
    refine HC.out.mono ?_
    rintro e w1 ⟨⟨v, rfl, hv⟩, hb⟩
    obtain ⟨p, rfl, hp⟩ := hv (by trivial)
    have HP := Lib.hid hp
    clear hv hp
    go_wp2_with fail
    refine (rawLength_any T 0 p _ (by omega) HP).mono ?_
    rintro e w2 ⟨rfl, n, rfl⟩
    go_wp2_with fail
    go_ret2
    exact ⟨rfl, hb.trans ((drewN_below _ _).mono hb.size)⟩

set_option maxHeartbeats 400000 in
theorem implTreeShape_any (s : ByteArray) (w : World) (hs : s.size ≤ 9223372036854775807) : Calls Try.prog 32 #[.string s] w (Val (.tuple #[.int .i64 (if wholeB s then (match wholeT s with | none => 0 | some t => (t.2.1 : Int)) else 0), .int .i64 (if wholeB s then (match wholeT s with | none => 0 | some t => (t.2.2.1 : Int)) else 0), .bool (wholeB s)]) w) := by
  have HC := Lib.hid (parse_is s w hs)
  have hfacts := fun h => whole_facts (s := s) h
  generalize wholeB s = ok at HC hfacts ⊢
  cases ok with
  | false =>
    simp only [Bool.false_eq_true, if_false]
    clear hfacts
    go_enter Try.func32, Try.ntmps32
    go_wp2_with fail
    refine HC.out.mono ?_
    rintro e w1 ⟨⟨v, rfl, -⟩, hb⟩
    go_wp2_with fail
    go_ret3
    exact ⟨rfl, hb⟩
  | true =>
    obtain ⟨hg, hl, hw, h1, h2, h3, h4⟩ := hfacts rfl
    rw [if_pos rfl, if_pos rfl, hw]
    simp only [PT.four]
    obtain ⟨T, hT⟩ : ∃ T, T = treeOf s := ⟨_, rfl⟩
    rw [← hT] at HC h2 h3 ⊢
    clear hT hg hl hw h1 h4 hfacts
    go_enter Try.func32, Try.ntmps32
    go_wp2_with fail
    refine HC.out.mono ?_
    rintro e w1 ⟨⟨v, rfl, hv⟩, hb⟩
    obtain ⟨p, rfl, hp⟩ := hv (by trivial)
    have HP := Lib.hid hp
    clear hv hp
    go_wp2_with fail
    refine (shape_any T 0 p _ (by omega) (by omega) HP).mono ?_
    rintro e w2 ⟨rfl, n, rfl⟩
    go_wp2_with fail
    go_ret3
    exact ⟨rfl, hb.trans ((drewN_below _ _).mono hb.size)⟩

/-! a text that is a tree of two -/
theorem cut_list (s : ByteArray) (i j : Nat) : (s.extract i j) = bytesOf ((s.data.toList.drop i).take (j - i)) := by
  rw [← bytesOf_self (s.extract i j), ByteArray.data_extract, Array.toList_extract]
theorem node_cut {s : ByteArray} {l r : PT} (h : s.data.toList = (PT.node l r).txt) : s.data.toList[0]? = some 91 ∧ s.data.toList.drop 1 = l.txt ++ (44 :: (r.txt ++ [93])) ∧ s.extract 1 (1 + l.txt.length) = bytesOf l.txt ∧ s.extract (2 + l.txt.length) (s.size - 1) = bytesOf r.txt ∧ s.size = 3 + l.txt.length + r.txt.length := by
  have e : s.data.toList = 91 :: (l.txt ++ (44 :: (r.txt ++ [93]))) := h
  have hz : s.size = 3 + l.txt.length + r.txt.length := by
    have : s.data.toList.length = s.size := by simp
    rw [← this, e]
    simp
    omega
  refine ⟨by rw [e]; rfl, by rw [e]; rfl, ?_, ?_, hz⟩
  · rw [cut_list, e, List.drop_succ_cons, List.drop_zero, show 1 + l.txt.length - 1 = l.txt.length by omega, List.take_left]
  · have e2 : (91 :: (l.txt ++ (44 :: (r.txt ++ [93])))).drop (2 + l.txt.length) = r.txt ++ [93] := by
      rw [show 2 + l.txt.length = (l.txt.length + 1) + 1 by omega, List.drop_succ_cons, ← List.drop_drop, List.drop_left]
      rfl
    rw [cut_list, e, e2, hz, show 3 + l.txt.length + r.txt.length - 1 - (2 + l.txt.length) = r.txt.length by omega, List.take_left]
theorem leaf_head {ws : List Int} (h : (PT.leaf ws).good) : ¬ (PT.leaf ws).txt[0]? = some 91 := by
  cases ws with
  | nil => exact absurd rfl h.1.1
  | cons x ws =>
    intro e
    simp [PT.txt, textB] at e
    have hx : byteL (signB x) ≠ 0 := by rw [sign_byte (h.1.2 x (by simp))]; exact (h.1.2 x (by simp)).1
    rw [e] at hx
    exact hx b91

theorem swap_leaf {s : ByteArray} {ws : List Int} (hT : treeOf s = .leaf ws) (h : wholeB s = true) : swapS s = (⟨#[]⟩, false) := by
  obtain ⟨hg, hl, -⟩ := whole_facts h
  rw [hT] at hg hl
  exact if_neg (fun k => leaf_head hg (by rw [← hl]; exact k.2))
theorem swap_node {s : ByteArray} {l r : PT} (hT : treeOf s = .node l r) (h : wholeB s = true) : swapS s = (bytesOf (PT.node r l).txt, true) := by
  obtain ⟨hg, hl, -⟩ := whole_facts h
  rw [hT] at hg hl
  obtain ⟨h1, h2, h3, h4, h5⟩ := node_cut hl
  have hr : readT s.size (s.data.toList.drop 1) = some l.four := by
    rw [h2]
    exact read_tree l s.size _ hg.1.1 (noL_cons b44) (by omega)
  rw [swapS, if_pos ⟨h, h1⟩, hr]
  simp only [PT.four]
  rw [h3, h4, node_text]
theorem swap_no {s : ByteArray} (h : wholeB s = false) : swapS s = (⟨#[]⟩, false) := if_neg (by rw [h]; simp)
set_option maxRecDepth 100000 in
set_option maxHeartbeats 400000 in
theorem implSwapTree_any (s : ByteArray) (w : World) (hs : s.size ≤ 9223372036854775807) : Calls Try.prog 34 #[.string s] w (Val (.tuple #[.string (swapS s).1, .bool (swapS s).2]) w) := by
  have HC := Lib.hid (parse_is s w hs)
  cases hb : wholeB s with
  | false =>
    have HE := Lib.hid (swap_no hb)
    rw [hb] at HC
    rw [HE.out]
    clear hb HE
    go_enter Try.func34, Try.ntmps34
    go_wp2_with fail
    refine HC.out.mono ?_
    rintro e w1 ⟨⟨v, rfl, -⟩, hb⟩
    go_wp2_with fail
    go_ret2
    exact ⟨rfl, hb⟩
  | true =>
    obtain ⟨hg, hl, -, -, -, -, h80⟩ := whole_facts hb
    have hsl := fun ws h => swap_leaf (s := s) (ws := ws) h hb
    have hsn := fun l r h => swap_node (s := s) (l := l) (r := r) h hb
    rw [hb] at HC
    generalize treeOf s = T at HC hg hl hsl hsn h80
    clear hb hl
    cases T with
    | leaf ws =>
      rw [hsl ws rfl]
      clear hsl hsn
      go_enter Try.func34, Try.ntmps34
      go_wp2_with fail
      refine HC.out.mono ?_
      rintro e w1 ⟨⟨v, rfl, hv⟩, hb⟩
      obtain ⟨p, rfl, hp⟩ := hv (by trivial)
      obtain ⟨a, cap, c0, c1, c2, -, -⟩ := hp.leaf_cells
      have HB := Lib.hid hb
      clear hv hp hb
      go_wp2_with fail
      refine (isLeaf_yes p _ c1).mono ?_
      rintro e w' ⟨rfl, rfl⟩
      go_wp2_with fail
      go_ret2
      exact ⟨rfl, HB.out⟩
    | node l r =>
      rw [hsn l r rfl]
      have hg2 : (PT.node r l).good := ⟨⟨hg.1.2, hg.1.1⟩, by have := hg.2; simp [PT.few] at this ⊢; exact ⟨this.2, this.1⟩⟩
      have h82 : (PT.node r l).txt.length ≤ 80 := by
        have e1 : (PT.node l r).txt.length = 3 + l.txt.length + r.txt.length := by simp [PT.txt]; omega
        have e2 : (PT.node r l).txt.length = 3 + r.txt.length + l.txt.length := by simp [PT.txt]; omega
        omega
      have HT := Lib.hid (fun q W (hh : Hid (PTree 0 W (PT.node r l) q)) => treeText_any (PT.node r l) 0 q W hg2 (by omega) hh)
      clear hsl hsn hg hg2 h80 h82
      go_enter Try.func34, Try.ntmps34
      go_wp2_with fail
      refine HC.out.mono ?_
      rintro e w1 ⟨⟨v, rfl, hv⟩, hb⟩
      obtain ⟨p, rfl, hp⟩ := hv (by trivial)
      obtain ⟨pl, pr, c1, c2, hpl, hpr⟩ := hp.node_cells
      have HB := Lib.hid hb
      have HL := Lib.hid hpl
      have HR := Lib.hid hpr
      clear hv hp hb hpl hpr
      go_wp2_with fail
      refine (isLeaf_no p pl _ c1).mono ?_
      rintro e w' ⟨rfl, rfl⟩
      go_wp2_with fail
      have d1 : w1.drew.cell? ⟨p, 1, none⟩ = some (.pointer (some ⟨pl, 0, none⟩)) := c1
      have d2 : w1.drew.cell? ⟨p, 2, none⟩ = some (.pointer (some ⟨pr, 0, none⟩)) := c2
      have hlt : p < w1.heap.size := World.block_lt_of_cell? _ _ c1
      have hlt2 : p < w1.drew.heap.size := hlt
      go_region
      have HB2 := (Below.refl w1.heap.size w1).alloc (Nat.le_refl _) (.cells #[.slice none 0 0, .pointer (some ⟨pr, 0, none⟩), .pointer (some ⟨pl, 0, none⟩)] 83)
      have HQ : Hid (PTree 0 (w1.alloc (.cells #[.slice none 0 0, .pointer (some ⟨pr, 0, none⟩), .pointer (some ⟨pl, 0, none⟩)] 83)).drew (.node r l) w1.heap.size) := Lib.hid ⟨Nat.zero_le _, pr, pl, heap_alloc_new w1 _, PTree.on HB2.drew HR.out, PTree.on HB2.drew HL.out⟩
      have HB3 := Lib.hid (HB.out.trans (HB2.drew.mono HB.out.size))
      clear HB2
      generalize (w1.alloc (.cells #[.slice none 0 0, .pointer (some ⟨pr, 0, none⟩), .pointer (some ⟨pl, 0, none⟩)] 83)).drew = W2 at HQ HB3 ⊢
      go_wp2_with fail
      refine (HT.out _ _ HQ).mono ?_
      rintro e w3 ⟨rfl, hb⟩
      go_wp2_with fail
      go_ret2
      exact ⟨rfl, HB3.out.trans (hb.mono HB3.out.size)⟩

end Go.Proofs.Ytoikehpnpealpaa
