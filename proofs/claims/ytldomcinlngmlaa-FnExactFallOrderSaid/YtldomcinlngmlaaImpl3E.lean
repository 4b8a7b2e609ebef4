/- Contracts: impl's fallTable.deciders, isLeast, isGreatest, mattering, setsThat, LeastFalls, GreatestHangs, MatteringNails. Conditions: sets from 0 to 63, numbers of 64 bits, lengths that fit. -/
import Derived.Test.YtldomcinlngmlaaImpl3D
import Derived.Test.YtldomcinlngmlaaFallMore
namespace Go.Proofs.Ytldomcinlngmlaa
open Go.ChangeShapes Go.WideShapes Go.ChangeAt Go.RowKit
set_option linter.unusedVariables false

/-- A table in a new block. -/
theorem tabF_box (w : World) (t : Nat → Bool) : TabF (w.alloc (.cells (bools t) 53)) w.heap.size t ∧ Below w.heap.size w (w.alloc (.cells (bools t) 53)) :=
  ⟨tabF_new w t, (Below.refl _ _).alloc (Nat.le_refl _) _⟩
theorem clr_all : ((List.range 64).all fun a => (List.range 64).all fun b => decide (bits .andNot .i64 (a : Int) (b : Int) = ((Plain.clr a b : Nat) : Int))) = true := by kernel_rfl
theorem clr_small {a b : Nat} (ha : a < 64) (hb : b < 64) : bits .andNot .i64 (a : Int) (b : Int) = ((Plain.clr a b : Nat) : Int) := by
  have h1 := List.all_eq_true.1 (List.all_eq_true.1 clr_all a (List.mem_range.2 ha)) b (List.mem_range.2 hb)
  simpa using h1
theorem clr_lt {a : Nat} (b : Nat) (ha : a < 64) : Plain.clr a b < 64 := Nat.xor_lt_two_pow (n := 6) ha (Nat.lt_of_le_of_lt Nat.and_le_left ha)

set_option maxRecDepth 100000 in
set_option maxHeartbeats 800000 in
theorem deciders_any (t : Nat → Bool) (s : Nat) (w : World) (hs : s < 64) :
    Calls Try.prog 80 #[.agg (bools t), .int .i64 (s : Int)] w (Val (.int .i64 (Plain.decN t s : Nat)) w) := by
  have HT := Lib.hid (tabF_box w t)
  go_enter Try.func80, Try.ntmps80
  go_wp2_with fail
  obtain ⟨W, hW⟩ : ∃ W, W = w.alloc (.cells (bools t) 53) := ⟨_, rfl⟩
  rw [← hW] at HT ⊢
  clear hW
  go_loop [5, 6] (fun v i => ∃ n : Nat, n ≤ 6 ∧ i = .int .i64 ((n : Int) + 1) ∧ v = .int .i64 (Plain.decTo t s n : Nat)) (fun _ i => 7 - (intOf i).toNat)
  case atStart => exact ⟨0, Nat.zero_le _, rfl, rfl⟩
  case round =>
    obtain ⟨n, hn, rfl, rfl⟩ := hrel
    have hd := Plain.decTo_lt t s n hn
    by_cases hlt : n < 6
    · obtain ⟨q, hq⟩ : ∃ q, q = 2 ^ n := ⟨_, rfl⟩
      have hq32 : q ≤ 32 := by rw [hq]; exact pow_small hlt
      have hpow : (2 : Int) ^ n = (q : Int) := by rw [hq]; simp
      have HP := Lib.hid hpow
      obtain ⟨d, hdd⟩ : ∃ d, d = Plain.decTo t s n := ⟨_, rfl⟩
      rw [← hdd] at hd ⊢
      obtain ⟨o1, ho1⟩ : ∃ o, o = Plain.clr s q := ⟨_, rfl⟩
      obtain ⟨o2, ho2⟩ : ∃ o, o = s ||| q := ⟨_, rfl⟩
      have h1 : o1 < 64 := by rw [ho1]; exact clr_lt q hs
      have h2 : o2 < 64 := by rw [ho2]; exact Nat.or_lt_two_pow (n := 6) hs (by omega)
      have e1 : bits .andNot .i64 (s : Int) (q : Int) = (o1 : Int) := by rw [ho1]; exact clr_small hs (by omega)
      have e2 : bits .or .i64 (s : Int) (q : Int) = (o2 : Int) := by rw [ho2]; exact or_small s q hs (by omega)
      have e3 : bits .or .i64 (d : Int) (q : Int) = ((d ||| q : Nat) : Int) := or_small d q hd (by omega)
      have hD : Plain.decB t s n = (!t o1 && t o2) := by rw [Plain.decB, ho1, ho2, hq]
      have hS : Plain.decTo t s (n + 1) = if (!t o1 && t o2) = true then d ||| q else d := by rw [Plain.decTo, hD, hdd, hq]
      have HS := Lib.hid hS
      have c1 := HT.out.1.cell h1
      have c2 := HT.out.1.cell h2
      have hi : (n : Int) + 1 ≤ 6 := by omega
      have i1 : (o1 : Int) < 64 := by omega
      have i2 : (o2 : Int) < 64 := by omega
      have i3 : (0 : Int) ≤ (o1 : Int) := by omega
      have i4 : (0 : Int) ≤ (o2 : Int) := by omega
      clear hq hpow hdd ho1 ho2 hD hS
      go_wp2_with fail
      refine (nailSet_any n q _ (by omega) HP.out).mono ?_
      rintro e w' ⟨rfl, rfl⟩
      cases hb1 : t o1 with
      | true =>
        rw [hb1] at c1 HS
        have HS2 : Hid (Plain.decTo t s (n + 1) = d) := Lib.hid HS.out
        clear hb1 HS
        go_wp2_with fail
        go_round
        case rel => exact ⟨n + 1, by omega, by go_num, by rw [HS2.out]⟩
        case measure => simp [intOf]; omega
      | false =>
        rw [hb1] at c1 HS
        cases hb2 : t o2 with
        | true =>
          rw [hb2] at c2 HS
          have HS2 : Hid (Plain.decTo t s (n + 1) = d ||| q) := Lib.hid HS.out
          clear hb1 hb2 HS
          go_wp2_with fail
          go_round
          case rel => exact ⟨n + 1, by omega, by go_num, by rw [HS2.out]⟩
          case measure => simp [intOf]; omega
        | false =>
          rw [hb2] at c2 HS
          have HS2 : Hid (Plain.decTo t s (n + 1) = d) := Lib.hid HS.out
          clear hb1 hb2 HS
          go_wp2_with fail
          go_round
          case rel => exact ⟨n + 1, by omega, by go_num, by rw [HS2.out]⟩
          case measure => simp [intOf]; omega
    · obtain rfl : n = 6 := by omega
      go_wp2_with fail
      go_ret
      exact ⟨rfl, HT.out.2⟩

/-- A whole table loaded by an operation whose guard says yes. -/
theorem wpList_load_if {ops : Array Oper} {rest : List Oper} {o : Oper} {a : Act} {w : World} {Q : Exit → Act → World → Prop} (hw : Region.wanted o (yielded ops a.tmps) = true) (x : Operand) (ho : o.op = .load 53 x)
    (g : Nat) (hx : a.eval x = .pointer (some ⟨g, 0, none⟩)) (t : Nat → Bool) (hg : TabF w g t) (h : wpList Try.prog ops Q rest (a.put o.dst (.agg (bools t))) w) : wpList Try.prog ops Q (o :: rest) a w :=
  BigFrame.wpList_want hw fun _ hK => wp_load_row 53 x ho g hx 53 (bools t) (0, 0) _ hg Try.underlying53 rfl info64f (hK _ _ h)

set_option maxRecDepth 100000 in
set_option maxHeartbeats 800000 in
theorem isLeast_any (t : Nat → Bool) (s : Nat) (w : World) (hs : s < 64) :
    Calls Try.prog 56 #[.agg (bools t), .int .i64 (s : Int)] w (Val (.bool (Plain.edgeB t true s)) w) := by
  have HT := Lib.hid (tabF_box w t)
  have HE := Lib.hid (Plain.least_edge t hs)
  have c1 := HT.out.1.cell hs
  have i1 : (s : Int) < 64 := by omega
  have i2 : (0 : Int) ≤ (s : Int) := by omega
  go_enter Try.func56, Try.ntmps56
  cases hb : t s with
  | false =>
    rw [hb] at c1 HE
    have HE2 : Hid (Plain.edgeB t true s = false) := Lib.hid HE.out.symm
    clear hb
    go_wp2_with fail
    go_ret
    exact ⟨ret_bool HE2.out.symm, HT.out.2⟩
  | true =>
    rw [hb] at c1 HE
    have HE2 : Hid (Plain.edgeB t true s = (Plain.decN t s == s)) := Lib.hid HE.out.symm
    clear hb
    go_wp2_with (refine wpList_load_if rfl _ rfl w.heap.size rfl t HT.out.1 ?_)
    refine (deciders_any t s _ hs).mono ?_
    rintro e w1 ⟨rfl, hb⟩
    have HB := Lib.hid (HT.out.2.trans (hb.mono HT.out.2.size))
    clear hb
    by_cases h0 : Plain.decN t s = s
    · have hq : ((Plain.decN t s : Int) == (s : Int)) = true := by simp [h0]
      have HE3 : Hid (Plain.edgeB t true s = true) := Lib.hid (by rw [HE2.out]; simp [h0])
      clear h0
      go_wp2_with fail
      go_ret
      exact ⟨ret_bool HE3.out.symm, HB.out⟩
    · have hq : ((Plain.decN t s : Int) == (s : Int)) = false := by simp; omega
      have HE3 : Hid (Plain.edgeB t true s = false) := Lib.hid (by rw [HE2.out]; simpa using h0)
      clear h0
      go_wp2_with fail
      go_ret
      exact ⟨ret_bool HE3.out.symm, HB.out⟩

set_option maxRecDepth 100000 in
set_option maxHeartbeats 800000 in
theorem isGreatest_any (t : Nat → Bool) (s : Nat) (w : World) (hs : s < 64) :
    Calls Try.prog 59 #[.agg (bools t), .int .i64 (s : Int)] w (Val (.bool (Plain.edgeB t false s)) w) := by
  have HT := Lib.hid (tabF_box w t)
  have HE := Lib.hid (Plain.greatest_edge t hs)
  have c1 := HT.out.1.cell hs
  have e1 : bits .andNot .i64 63 (s : Int) = ((Plain.clr 63 s : Nat) : Int) := clr_small (a := 63) (by decide) hs
  have i1 : (s : Int) < 64 := by omega
  have i2 : (0 : Int) ≤ (s : Int) := by omega
  go_enter Try.func59, Try.ntmps59
  cases hb : t s with
  | false =>
    rw [hb] at c1 HE
    have HE2 : Hid (Plain.edgeB t false s = (Plain.decN t s == Plain.clr 63 s)) := Lib.hid HE.out.symm
    clear hb
    go_wp2_with (refine wpList_load_if rfl _ rfl w.heap.size rfl t HT.out.1 ?_)
    refine (deciders_any t s _ hs).mono ?_
    rintro e w1 ⟨rfl, hb⟩
    have HB := Lib.hid (HT.out.2.trans (hb.mono HT.out.2.size))
    clear hb
    by_cases h0 : Plain.decN t s = Plain.clr 63 s
    · have hq : ((Plain.decN t s : Int) == (Plain.clr 63 s : Int)) = true := by simp [h0]
      have HE3 : Hid (Plain.edgeB t false s = true) := Lib.hid (by rw [HE2.out]; simp [h0])
      clear h0
      go_wp2_with fail
      go_ret
      exact ⟨ret_bool HE3.out.symm, HB.out⟩
    · have hq : ((Plain.decN t s : Int) == (Plain.clr 63 s : Int)) = false := by simp; omega
      have HE3 : Hid (Plain.edgeB t false s = false) := Lib.hid (by rw [HE2.out]; simpa using h0)
      clear h0
      go_wp2_with fail
      go_ret
      exact ⟨ret_bool HE3.out.symm, HB.out⟩
  | true =>
    rw [hb] at c1 HE
    have HE2 : Hid (Plain.edgeB t false s = false) := Lib.hid HE.out.symm
    clear hb
    go_wp2_with fail
    go_ret
    exact ⟨ret_bool HE2.out.symm, HT.out.2⟩

end Go.Proofs.Ytldomcinlngmlaa
