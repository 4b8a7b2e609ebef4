/- Contracts: (*spec.l1Cur).tree draws a short text, spoilt changes one by at most one byte, spec.DrawTreeValue hands back a short text. Condition: the code's bytes lie in memory. -/
import Derived.Test.YtoikehpnpealpaaDrawWord
import Derived.Test.YtoikehpnpealpaaTextSpec
namespace Go.Proofs.Ytoikehpnpealpaa
open Go.ChangeShapes Go.WideShapes Go.ChangeAt Go.RowKit
set_option linter.unusedVariables false

/-- A text drawn by the cursor. -/
def TextPost (B : Nat) (a : Option Addr) (len cap m n : Nat) (W : World) (e : Ending) (W' : World) : Prop := ∃ s : ByteArray, e = .returned (.string s) ∧ s.size ≤ n ∧ Held W' B a len cap m ∧ W.grownBy W' (some B)
theorem int_one (W : World) (x : Int) : Ints (W.alloc (.cells #[.int .i64 x] 3)) (some ⟨W.heap.size, 0, none⟩) [x] := Ints.made W [x] 3
theorem _root_.Go.World.grownBy.alloc_right {W W' : World} {r : Option Nat} (h : W.grownBy W' r) (o : Obj) : W.grownBy (W'.alloc o) r := by
  have hb : Below W'.heap.size W' (W'.alloc o) := (Below.refl _ _).alloc (Nat.le_refl _) _
  exact h.trans ⟨hb.os, hb.tape, hb.output, hb.size, fun j hj _ => hb.block j hj⟩
set_option maxRecDepth 100000 in
set_option maxHeartbeats 2000000 in
theorem tree_any (f : Nat) : ∀ (B len cap m n : Nat) (a : Option Addr) (W : World), f ≤ 30 → 1 ≤ n → n ≤ f → Hid (Held W B a len cap m) → m + 60 * n ≤ 800000 →
    Calls Try.prog 89 #[.pointer (some ⟨B, 0, none⟩), .int .i64 (n : Int)] W (TextPost B a len cap (m + (60 * n - 30)) (5 * n - 3) W) := by
  induction f with
  | zero =>
    intro B len cap m n a W hf hn0 hn h hm
    omega
  | succ f ih =>
    intro B len cap m n a W hf hn0 hn h hm
    by_cases h1 : n ≤ 1
    · have h2 : (n : Int) ≤ 1 := by omega
      go_enter Try.func89, Try.ntmps89
      go_wp2_with fail
      refine (letter_any B len cap (m) a _ h (by omega)).mono ?_
      rintro e Wa ⟨x, rfl, hx0, hx1, hx2, hH, hg⟩
      have LX : Hid (Plain.Letters [x]) := Lib.hid (fun y hy => by rw [List.mem_singleton.1 hy]; exact ⟨hx0, hx1, hx2⟩)
      have Ha := Lib.hid (hH.alloc (.cells #[.int .i64 x] 3))
      have Ga : Hid (W.grownBy Wa (some B)) := Lib.hid (hg)
      have Ia := Lib.hid (int_one Wa x)
      clear hH hg hx0 hx1 hx2
      go_wp2_with fail
      refine (l2Text_any _ _ [x] _ Ia LX (by simp)).mono ?_
      rintro e w' ⟨rfl, rfl⟩
      obtain ⟨tx, htx⟩ : ∃ tx, tx = textOf [x] := ⟨_, rfl⟩
      have sx : tx.size = 1 := by rw [htx, textOf_size]; rfl
      rw [← htx]
      clear htx
      go_wp2_with fail
      refine (one_any B len cap (m + 6) 3 a _ Ha (by omega) (by omega)).mono ?_
      rintro e Wb ⟨b2, rfl, hH, hg⟩
      have Hb := Lib.hid hH
      have Gb : Hid (W.grownBy Wb (some B)) := Lib.hid (Ga.out.trans (alloc_grown hg))
      clear hH hg
      cases b2 with
      | false =>
        go_wp2_with fail
        go_ret
        exact ⟨tx, rfl, by omega, Hb.out.more (by omega), Gb.out⟩
      | true =>
        go_wp2_with fail
        refine (letter_any B len cap (m + 6 + 2) a _ Hb (by omega)).mono ?_
        rintro e Wc ⟨y, rfl, hy0, hy1, hy2, hH, hg⟩
        have LY : Hid (Plain.Letters [y]) := Lib.hid (fun z hz => by rw [List.mem_singleton.1 hz]; exact ⟨hy0, hy1, hy2⟩)
        have Hc := Lib.hid (hH.alloc (.cells #[.int .i64 y] 3))
        have Gc : Hid (W.grownBy (Wc.alloc (.cells #[.int .i64 y] 3)) (some B)) := Lib.hid ((Gb.out.trans hg).alloc_right _)
        have Ic := Lib.hid (int_one Wc y)
        clear hH hg hy0 hy1 hy2
        go_wp2_with fail
        refine (l2Text_any _ _ [y] _ Ic LY (by simp)).mono ?_
        rintro e w' ⟨rfl, rfl⟩
        obtain ⟨ty, hty⟩ : ∃ ty, ty = textOf [y] := ⟨_, rfl⟩
        have sy : ty.size = 1 := by rw [hty, textOf_size]; rfl
        rw [← hty]
        clear hty
        have sxy : (tx.size : Int) + (ty.size : Int) = 2 := by omega
        go_wp2_with fail
        go_ret
        refine ⟨tx ++ ty, rfl, by rw [ByteArray.size_append]; omega, Hc.out.more (by omega), Gc.out⟩
    · have h2 : ¬ (n : Int) ≤ 1 := by omega
      go_enter Try.func89, Try.ntmps89
      go_wp2_with fail
      refine (one_any B len cap m 4 a _ h (by omega) (by omega)).mono ?_
      rintro e W1 ⟨b, rfl, hH, hg⟩
      have H1 := Lib.hid hH
      have G1 := Lib.hid hg
      clear hH hg
      cases b with
      | true =>
        go_wp2_with fail
        refine (letter_any B len cap (m + 2) a _ H1 (by omega)).mono ?_
        rintro e Wa ⟨x, rfl, hx0, hx1, hx2, hH, hg⟩
        have LX : Hid (Plain.Letters [x]) := Lib.hid (fun y hy => by rw [List.mem_singleton.1 hy]; exact ⟨hx0, hx1, hx2⟩)
        have Ha := Lib.hid (hH.alloc (.cells #[.int .i64 x] 3))
        have Ga : Hid (W.grownBy Wa (some B)) := Lib.hid (G1.out.trans hg)
        have Ia := Lib.hid (int_one Wa x)
        clear hH hg hx0 hx1 hx2
        go_wp2_with fail
        refine (l2Text_any _ _ [x] _ Ia LX (by simp)).mono ?_
        rintro e w' ⟨rfl, rfl⟩
        obtain ⟨tx, htx⟩ : ∃ tx, tx = textOf [x] := ⟨_, rfl⟩
        have sx : tx.size = 1 := by rw [htx, textOf_size]; rfl
        rw [← htx]
        clear htx
        go_wp2_with fail
        refine (one_any B len cap (m + 2 + 6) 3 a _ Ha (by omega) (by omega)).mono ?_
        rintro e Wb ⟨b2, rfl, hH, hg⟩
        have Hb := Lib.hid hH
        have Gb : Hid (W.grownBy Wb (some B)) := Lib.hid (Ga.out.trans (alloc_grown hg))
        clear hH hg
        cases b2 with
        | false =>
          go_wp2_with fail
          go_ret
          exact ⟨tx, rfl, by omega, Hb.out.more (by omega), Gb.out⟩
        | true =>
          go_wp2_with fail
          refine (letter_any B len cap (m + 2 + 6 + 2) a _ Hb (by omega)).mono ?_
          rintro e Wc ⟨y, rfl, hy0, hy1, hy2, hH, hg⟩
          have LY : Hid (Plain.Letters [y]) := Lib.hid (fun z hz => by rw [List.mem_singleton.1 hz]; exact ⟨hy0, hy1, hy2⟩)
          have Hc := Lib.hid (hH.alloc (.cells #[.int .i64 y] 3))
          have Gc : Hid (W.grownBy (Wc.alloc (.cells #[.int .i64 y] 3)) (some B)) := Lib.hid ((Gb.out.trans hg).alloc_right _)
          have Ic := Lib.hid (int_one Wc y)
          clear hH hg hy0 hy1 hy2
          go_wp2_with fail
          refine (l2Text_any _ _ [y] _ Ic LY (by simp)).mono ?_
          rintro e w' ⟨rfl, rfl⟩
          obtain ⟨ty, hty⟩ : ∃ ty, ty = textOf [y] := ⟨_, rfl⟩
          have sy : ty.size = 1 := by rw [hty, textOf_size]; rfl
          rw [← hty]
          clear hty
          have sxy : (tx.size : Int) + (ty.size : Int) = 2 := by omega
          go_wp2_with fail
          go_ret
          refine ⟨tx ++ ty, rfl, by rw [ByteArray.size_append]; omega, Hc.out.more (by omega), Gc.out⟩
      | false =>
        have hc : (n : Int) - 1 = ((n - 1 : Nat) : Int) := by omega
        go_wp2_with fail
        refine (pick_any B len cap (m + 2) (n - 1) a _ H1 (by omega) (by omega)).mono ?_
        rintro e W2 ⟨k, rfl, hk, hH, hg⟩
        have H2 := Lib.hid hH
        have G2 := Lib.hid (G1.out.trans hg)
        have hk1 : k < n - 1 := by omega
        clear hH hg hk hc
        obtain ⟨u, hu⟩ : ∃ u, u = k + 1 := ⟨_, rfl⟩
        obtain ⟨v, hv⟩ : ∃ v, v = n - (k + 1) := ⟨_, rfl⟩
        have hc1 : (1 : Int) + (k : Int) = (u : Int) := by omega
        have hc2 : (n : Int) - (u : Int) = (v : Int) := by omega
        have hu0 : 1 ≤ u := by omega
        have hv0 : 1 ≤ v := by omega
        have huv : u + v = n := by omega
        clear hu hv
        go_wp2_with fail
        refine (ih B len cap (m + 2 + 2) u a _ (by omega) hu0 (by omega) H2 (by omega)).mono ?_
        rintro e W3 ⟨s1, rfl, hs1, hH, hg⟩
        have H3 := Lib.hid hH
        have G3 := Lib.hid (G2.out.trans hg)
        clear hH hg
        go_wp2_with fail
        refine (ih B len cap (m + 2 + 2 + (60 * u - 30)) v a _ (by omega) hv0 (by omega) H3 (by omega)).mono ?_
        rintro e W4 ⟨s2, rfl, hs2, hH, hg⟩
        have H4 := Lib.hid (hH.more (by omega : m + 2 + 2 + (60 * u - 30) + (60 * v - 30) ≤ m + (60 * n - 30)))
        have G4 := Lib.hid (G3.out.trans hg)
        clear hH hg
        have z1 : (1 : Int) + (s1.size : Int) ≤ 1000 := by omega
        have z2 : (s1.size : Int) ≤ 1000 := by omega
        have z3 : (s2.size : Int) ≤ 1000 := by omega
        go_wp2_with fail
        go_ret
        have c1 : (⟨#[91]⟩ : ByteArray).size = 1 := rfl
        have c2 : (⟨#[44]⟩ : ByteArray).size = 1 := rfl
        have c3 : (⟨#[93]⟩ : ByteArray).size = 1 := rfl
        exact ⟨_, rfl, by simp only [ByteArray.size_append, c1, c2, c3]; omega, H4.out, G4.out⟩

theorem size_pos_if {t : ByteArray} (h : t.toList.isEmpty = false) : 0 < t.size := by
  rcases Nat.eq_zero_or_pos t.size with h0 | h0
  · exfalso
    obtain ⟨d⟩ := t
    have : d = #[] := Array.eq_empty_of_size_eq_zero h0
    subst this
    rw [ByteArray.toList, ByteArray.toList.loop] at h
    simp at h
    exact absurd h.1 (by decide)
  · exact h0

set_option maxRecDepth 100000 in
set_option maxHeartbeats 1000000 in
theorem spoiltG_any (wt : ByteArray) (hw0 : 0 < wt.size) (hw1 : wt.size ≤ 64) (B len cap m : Nat) (a : Option Addr) (t : ByteArray) (W : World) (h : Hid (Held W B a len cap m)) (hm : m ≤ 900000) (ht : t.size ≤ 1000) :
    Calls Try.prog 90 #[.pointer (some ⟨B, 0, none⟩), .string t, .string wt] W fun e W' => ∃ s : ByteArray, e = .returned (.string s) ∧ s.size ≤ 3000 ∧ Held W' B a len cap (m + 6) ∧ W.grownBy W' (some B) := by
  cases hb : t.toList.isEmpty with
  | true =>
    have hw2 : (1 : Int) ≤ (wt.size : Int) := by omega
    go_enter Try.func90, Try.ntmps90
    go_wp2
    go_ret
    exact ⟨_, rfl, by simp; omega, h.out.more (by omega), grown_refl _ _⟩
  | false =>
    have hpos := size_pos_if hb
    go_enter Try.func90, Try.ntmps90
    go_wp2_with fail
    refine (pick_any B len cap m t.size a _ h (by omega) (by omega)).mono ?_
    rintro e W1 ⟨k, rfl, hk, hH, hg⟩
    have hHH := Lib.hid hH
    have hgg := Lib.hid hg
    have hk1 : k < t.size := by omega
    clear hH hg hk
    go_wp2_with fail
    refine (pick_any B len cap (m + 2) wt.size a _ hHH (by omega) (by omega)).mono ?_
    rintro e W2 ⟨j, rfl, hj, hH, hg⟩
    have hHH2 := Lib.hid hH
    have hgg2 := Lib.hid (hgg.out.trans hg)
    have hj1 : j < wt.size := by omega
    clear hH hg hj
    have hj2 : (j : Int) ≤ (wt.size : Int) := by omega
    have hj4 : (1 : Int) ≤ ((wt.extract j wt.size).size : Int) := by simp; omega
    have hj3 : (0 : Int) ≤ (j : Int) := by omega
    have hk2 : (k : Int) ≤ (t.size : Int) := by omega
    have hk3 : (0 : Int) ≤ (k : Int) := by omega
    have hk4 : (k : Int) + 1 ≤ (t.size : Int) := by omega
    have hk5 : (0 : Int) ≤ (k : Int) + 1 := by omega
    go_wp2_with fail
    refine (pick_any B len cap (m + 4) 3 a _ hHH2 (by omega) (by omega)).mono ?_
    rintro e W3 ⟨q, rfl, hq, hH, hg⟩
    have hHH3 := Lib.hid hH
    have hgg3 := Lib.hid (hgg2.out.trans hg)
    have hq1 : q < 3 := by omega
    clear hH hg hq
    have hz : ((wt.extract j wt.size).extract 0 1).size ≤ 1 := by simp; omega
    generalize (wt.extract j wt.size).extract 0 1 = z at hz ⊢
    have hz2 : (z.size : Int) ≤ 8388608 := by omega
    have hz3 : ((t.extract 0 k).size : Int) ≤ 8388608 := by simp; omega
    have hz4 : ((t.extract k t.size).size : Int) ≤ 8388608 := by simp; omega
    have hz5 : ((t.extract (k + 1) t.size).size : Int) ≤ 8388608 := by simp; omega
    obtain rfl | rfl | rfl : q = 0 ∨ q = 1 ∨ q = 2 := by omega
    · go_wp2
      go_quiet (fail)
      go_wp2
      go_ret
      exact ⟨_, rfl, by simp [ByteArray.size_append]; omega, hHH3.out, grown_drawn _ _ _ _ hgg3.out⟩
    · go_wp2
      go_quiet (fail)
      go_wp2
      go_ret
      exact ⟨_, rfl, by simp [ByteArray.size_append]; omega, hHH3.out, grown_drawn _ _ _ _ hgg3.out⟩
    · go_wp2
      go_quiet (fail)
      go_wp2
      go_ret
      exact ⟨_, rfl, by simp [ByteArray.size_append]; omega, hHH3.out, grown_drawn _ _ _ _ hgg3.out⟩


/-- One text drawn. -/
def TreeDraw (W : World) (e : Ending) (W' : World) : Prop := ∃ s : ByteArray, e = .returned (.string s) ∧ s.size ≤ 3000 ∧ Below W.heap.size W W'
theorem pickMost (B len cap m N : Nat) (a : Option Addr) (W : World) (hN : N = W.heap.size) (h : Hid (Held W B a len cap m)) (hm : m + 1 ≤ 999999) :
    Calls Try.prog 84 #[.pointer (some ⟨B, 0, none⟩), .slice (some ⟨N, 0, none⟩) 7 7] (W.alloc (.cells #[.int .i64 3, .int .i64 2, .int .i64 4, .int .i64 1, .int .i64 5, .int .i64 6, .int .i64 30] 3)) fun e W' => ∃ x : Nat, e = .returned (.int .i64 (x : Int)) ∧ 1 ≤ x ∧ x ≤ 30 ∧ Held W' B a len cap (m + 2) ∧ W.grownBy W' (some B) := by
  subst hN
  have k := pickInt B len cap m a [3, 2, 4, 1, 5, 6, 30] W 3 h (by simp) hm (by simp)
  simp only [intVals, List.map_cons, List.map_nil, List.length_cons, List.length_nil] at k
  refine Calls.mono k ?_
  rintro e W1 ⟨j, n, rfl, hn, hH, hg⟩
  have hmem : n ∈ [3, 2, 4, 1, 5, 6, 30] := List.mem_of_getElem? hn
  obtain ⟨u, rfl, hu⟩ : ∃ u : Nat, n = (u : Int) ∧ 1 ≤ u ∧ u ≤ 30 := ⟨n.toNat, by simp at hmem; omega, by simp at hmem; omega⟩
  exact ⟨u, rfl, hu.1, hu.2, hH, hg⟩
set_option maxRecDepth 100000 in
set_option maxHeartbeats 1000000 in
theorem drawIsTree_any (a : Option Addr) (len cap : Nat) (W : World) (h : Hid (Code8 W a len)) :
    Calls Try.prog 64 #[.slice a len cap] W (TreeDraw W) := by
  go_enter Try.func64, Try.ntmps64
  go_wp2_with fail
  refine (pickMost W.heap.size len cap 0 _ a _ (by simp) (Lib.hid (Held.fresh cap h.out)) (by omega)).mono ?_
  rintro e W1 ⟨n, rfl, hn0, hn1, hH, hg⟩
  have H1 := Lib.hid hH
  have G1 := Lib.hid hg
  clear hH hg
  go_wp2_with fail
  refine (tree_any 30 W.heap.size len cap (0 + 2) n a _ (Nat.le_refl _) hn0 hn1 H1 (by omega)).mono ?_
  rintro e W2 ⟨s, rfl, hs, hH, hg⟩
  have H2 := Lib.hid hH
  have G2 := Lib.hid (G1.out.trans hg)
  clear hH hg
  go_wp2_with fail
  refine (one_any W.heap.size len cap _ 5 a _ H2 (by omega) (by omega)).mono ?_
  rintro e W3 ⟨b, rfl, hH, hg⟩
  have H3 := Lib.hid hH
  have G3 := Lib.hid (G2.out.trans hg)
  clear hH hg
  cases b with
  | false =>
    have hB := Lib.hid (below_of G3.out)
    go_wp2_with fail
    go_ret
    exact ⟨s, rfl, by omega, hB.out⟩
  | true =>
    go_wp2_with fail
    refine (spoiltG_any ⟨#[91, 44, 93, 97, 65, 103]⟩ (by decide) (by decide) W.heap.size len cap _ a s _ H3 (by omega) (by omega)).mono ?_
    rintro e W4 ⟨t, rfl, ht, hH, hg⟩
    have hB := Lib.hid (below_of (G3.out.trans hg))
    clear hH hg
    go_wp2_with fail
    go_ret
    exact ⟨t, rfl, ht, hB.out⟩
theorem drawTreeValue_any (a : Option Addr) (len cap : Nat) (W : World) (h : Hid (Code8 W a len)) :
    Calls Try.prog 26 #[.slice a len cap] W (TreeDraw W) := by
  go_enter Try.func26, Try.ntmps26
  go_wp2_with fail
  refine (drawIsTree_any a len cap _ h).mono ?_
  rintro e W4 ⟨t, rfl, ht, hb⟩
  have hB := Lib.hid hb
  clear hb
  go_wp2_with fail
  go_ret
  exact ⟨t, rfl, ht, hB.out⟩

end Go.Proofs.Ytoikehpnpealpaa
