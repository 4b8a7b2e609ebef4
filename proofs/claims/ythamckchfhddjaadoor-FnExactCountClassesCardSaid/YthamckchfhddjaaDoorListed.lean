/- Contracts: impl.areListed, isListed, listedWords; spec.l7Bound, l7Search, l7All. Conditions: the table of greatest lengths lies as the program's text lays it; numbers of 64 bits. -/
import Derived.Test.YthamckchfhddjaaDoorMoreB
import Derived.Test.YthamckchfhddjaaDoorWordOf
namespace Go.Proofs.YthamckchfhddjaaDoor
open Go.ChangeShapes Go.WideShapes Go.ChangeAt Go.RowKit
set_option linter.unusedVariables false

/-- The table of greatest lengths. -/
def Listed (w : World) : Prop := w.cell? ⟨0, 1, none⟩ = some (.int .i64 8) ∧ w.cell? ⟨0, 2, none⟩ = some (.int .i64 8) ∧ w.cell? ⟨0, 3, none⟩ = some (.int .i64 5)
theorem Listed.on {w w' : World} (h : Listed w) (hb : Below w.heap.size w w') : Listed w' := ⟨cell_later hb h.1, cell_later hb h.2.1, cell_later hb h.2.2⟩
/-- The greatest length of a search. -/
def longN (n : Int) : Int := if n = 3 then 5 else 8
def n3B (n : Int) : Bool := decide (1 ≤ n ∧ n ≤ 3)
def listB (n L : Int) : Bool := decide (1 ≤ n ∧ n ≤ 3 ∧ 0 ≤ L ∧ L ≤ longN n)
theorem areListed_any (n : Int) (w : World) (h : -9223372036854775808 ≤ n ∧ n ≤ 9223372036854775807) : Calls Tryd.prog 51 #[.int .i64 n] w fun e w' => e = .returned (.bool (n3B n)) ∧ w = w' := by
  by_cases h0 : 1 ≤ n
  · by_cases h1 : n ≤ 3
    · have HE : Hid (n3B n = true) := Lib.hid (by simp [n3B]; omega)
      go_enter Tryd.func51, Tryd.ntmps51
      go_wp2_with fail
      go_ret
      exact ⟨ret_bool HE.out.symm, rfl⟩
    · have HE : Hid (n3B n = false) := Lib.hid (by simp [n3B]; omega)
      go_enter Tryd.func51, Tryd.ntmps51
      go_wp2_with fail
      go_ret
      exact ⟨ret_bool HE.out.symm, rfl⟩
  · have HE : Hid (n3B n = false) := Lib.hid (by simp [n3B]; omega)
    go_enter Tryd.func51, Tryd.ntmps51
    go_wp2_with fail
    go_ret
    exact ⟨ret_bool HE.out.symm, rfl⟩
set_option maxHeartbeats 800000 in
theorem isListed_any (n L : Int) (w : World) (hg : Hid (Listed w)) (hn : -9223372036854775808 ≤ n ∧ n ≤ 9223372036854775807) (hL : -9223372036854775808 ≤ L ∧ L ≤ 9223372036854775807) :
    Calls Tryd.prog 34 #[.int .i64 n, .int .i64 L] w fun e w' => e = .returned (.bool (listB n L)) ∧ w = w' := by
  cases h3 : n3B n with
  | false =>
    have HE : Hid (listB n L = false) := Lib.hid (by simp only [n3B, decide_eq_false_iff_not] at h3; simp only [listB, decide_eq_false_iff_not]; omega)
    have HN := Lib.hid h3
    clear h3
    go_enter Tryd.func34, Tryd.ntmps34
    go_wp2_with fail
    refine (areListed_any n _ hn).mono ?_
    rw [HN.out]
    rintro e w' ⟨rfl, rfl⟩
    go_wp2_with fail
    go_ret
    exact ⟨ret_bool HE.out.symm, rfl⟩
  | true =>
    have h3' := h3
    simp only [n3B, decide_eq_true_eq] at h3'
    have HN := Lib.hid h3
    by_cases h0 : 0 ≤ L
    · have hh : n = 1 ∨ n = 2 ∨ n = 3 := by omega
      obtain ⟨g1, g2, g3⟩ := hg.out
      clear h3 h3'
      rcases hh with rfl | rfl | rfl
      · have HE : Hid (listB 1 L = decide (L ≤ 8)) := Lib.hid (by simp only [listB, longN]; rw [Bool.eq_iff_iff]; simp; omega)
        go_enter Tryd.func34, Tryd.ntmps34
        go_wp2_with fail
        refine (areListed_any 1 _ hn).mono ?_
        rw [HN.out]
        rintro e w' ⟨rfl, rfl⟩
        go_wp2_with fail
        go_ret
        exact ⟨ret_bool HE.out.symm, rfl⟩
      · have HE : Hid (listB 2 L = decide (L ≤ 8)) := Lib.hid (by simp only [listB, longN]; rw [Bool.eq_iff_iff]; simp; omega)
        go_enter Tryd.func34, Tryd.ntmps34
        go_wp2_with fail
        refine (areListed_any 2 _ hn).mono ?_
        rw [HN.out]
        rintro e w' ⟨rfl, rfl⟩
        go_wp2_with fail
        go_ret
        exact ⟨ret_bool HE.out.symm, rfl⟩
      · have HE : Hid (listB 3 L = decide (L ≤ 5)) := Lib.hid (by simp only [listB, longN]; rw [Bool.eq_iff_iff]; simp; omega)
        go_enter Tryd.func34, Tryd.ntmps34
        go_wp2_with fail
        refine (areListed_any 3 _ hn).mono ?_
        rw [HN.out]
        rintro e w' ⟨rfl, rfl⟩
        go_wp2_with fail
        go_ret
        exact ⟨ret_bool HE.out.symm, rfl⟩
    · have HE : Hid (listB n L = false) := Lib.hid (by simp only [listB, decide_eq_false_iff_not]; omega)
      clear h3 h3'
      go_enter Tryd.func34, Tryd.ntmps34
      go_wp2_with fail
      refine (areListed_any n _ hn).mono ?_
      rw [HN.out]
      rintro e w' ⟨rfl, rfl⟩
      go_wp2_with fail
      go_ret
      exact ⟨ret_bool HE.out.symm, rfl⟩
theorem l7Bound_any (n : Int) (w : World) : Calls Tryd.prog 58 #[.int .i64 n] w fun e w' => e = .returned (.int .i64 (longN n)) ∧ w = w' := by
  by_cases h : n = 3
  · subst h
    go_enter Tryd.func58, Tryd.ntmps58
    go_wp2_with fail
    go_ret
    exact ⟨rfl, rfl⟩
  · have HE : Hid (longN n = 8) := Lib.hid (if_neg h)
    have hq : (n == 3) = false := by simpa using h
    clear h
    go_enter Tryd.func58, Tryd.ntmps58
    go_wp2_with fail
    go_ret
    exact ⟨ret_int HE.out.symm, rfl⟩
theorem l7Search_any (n L : Int) (w : World) (hn : -9223372036854775808 ≤ n ∧ n ≤ 9223372036854775807) (hL : -9223372036854775808 ≤ L ∧ L ≤ 9223372036854775807) :
    Calls Tryd.prog 32 #[.int .i64 n, .int .i64 L] w fun e w' => e = .returned (.bool (listB n L)) ∧ w = w' := by
  cases h3 : n3B n with
  | false =>
    have HE : Hid (listB n L = false) := Lib.hid (by simp only [n3B, decide_eq_false_iff_not] at h3; simp only [listB, decide_eq_false_iff_not]; omega)
    have HN := Lib.hid h3
    clear h3
    go_enter Tryd.func32, Tryd.ntmps32
    go_wp2_with fail
    refine (l1In_any n 1 3 _ hn).mono ?_
    rw [show decide (1 ≤ n ∧ n ≤ 3) = _ from HN.out]
    rintro e w' ⟨rfl, rfl⟩
    go_wp2_with fail
    go_ret
    exact ⟨ret_bool HE.out.symm, rfl⟩
  | true =>
    have HE : Hid (listB n L = decide (0 ≤ L ∧ L ≤ longN n)) := Lib.hid (by simp only [n3B, decide_eq_true_eq] at h3; simp only [listB]; rw [Bool.eq_iff_iff]; simp only [decide_eq_true_eq]; omega)
    have HN := Lib.hid h3
    clear h3
    go_enter Tryd.func32, Tryd.ntmps32
    go_wp2_with fail
    refine (l1In_any n 1 3 _ hn).mono ?_
    rw [show decide (1 ≤ n ∧ n ≤ 3) = _ from HN.out]
    rintro e w' ⟨rfl, rfl⟩
    go_wp2_with fail
    refine (l7Bound_any n _).mono ?_
    rintro e w' ⟨rfl, rfl⟩
    go_wp2_with fail
    refine (l1In_any L 0 (longN n) _ hL).mono ?_
    rw [← HE.out]
    rintro e w' ⟨rfl, rfl⟩
    go_wp2_with fail
    go_ret
    exact ⟨rfl, rfl⟩
theorem list_nat {n L : Int} (h : listB n L = true) : ∃ p q : Nat, n = (p : Int) ∧ L = (q : Int) ∧ 1 ≤ p ∧ p ≤ 3 ∧ q ≤ 8 ∧ (2 * p) ^ q ≤ 100000 := by
  have h' := of_decide_eq_true h
  obtain ⟨a1, a2, a3, a4⟩ := h'
  have a5 : L ≤ 8 ∧ (n = 3 → L ≤ 5) := by
    unfold longN at a4
    split at a4
    · exact ⟨by omega, fun _ => a4⟩
    · rename_i hne; exact ⟨a4, fun e => absurd e hne⟩
  clear h a4
  refine ⟨n.toNat, L.toNat, by omega, by omega, by omega, by omega, by omega, ?_⟩
  obtain ⟨p, hp⟩ : ∃ p, p = n.toNat := ⟨_, rfl⟩
  obtain ⟨q, hq⟩ : ∃ q, q = L.toNat := ⟨_, rfl⟩
  rw [← hp, ← hq]
  have hh : p = 1 ∨ p = 2 ∨ p = 3 := by omega
  rcases hh with rfl | rfl | rfl
  · exact Nat.le_trans (Nat.pow_le_pow_right (by decide) (show q ≤ 8 by omega)) (by decide)
  · exact Nat.le_trans (Nat.pow_le_pow_right (by decide) (show q ≤ 8 by omega)) (by decide)
  · exact Nat.le_trans (Nat.pow_le_pow_right (by decide) (show q ≤ 5 by have := a5.2 (by omega); omega)) (by decide)
theorem allB_len (m : Nat) : ∀ k, (Plain.allB m k).length ≤ m ^ k := by
  intro k
  induction k with
  | zero => exact Nat.le_refl _
  | succ k ih =>
    have := Plain.moreB_len m (Plain.allB m k) (Plain.allB m k).length
    rw [← Plain.allB_step, Nat.pow_succ, Nat.mul_comm]
    exact Nat.le_trans this (Nat.mul_le_mul_left _ ih)
theorem owns_mono {w : World} {B B' : Nat} {T : TypeId} {v : Value} {n : Nat} {vs : List Value} (h : w.ownsRow B T 1 v n vs) (hB : B' ≤ B) : w.ownsRow B' T 1 v n vs := by
  obtain ⟨hl, h | ⟨g, cap, cur, e, hg, h⟩⟩ := h
  · exact ⟨hl, .inl h⟩
  · exact ⟨hl, .inr ⟨g, cap, cur, e, Nat.le_trans hB hg, h⟩⟩
theorem CollF.rebase {T : TypeId} {fs : List Fac} {w w1 wr : World} {v : Value} (h : CollF T fs w1.heap.size w1 v wr) (hb : Below w.heap.size w w1) : CollF T fs w.heap.size w v wr :=
  ⟨owns_mono h.1 hb.size, fun f hf => (h.2.1 f hf).mono hb.size, hb.trans (h.2.2.1.mono hb.size), Nat.le_trans hb.size h.2.2.2⟩
set_option maxRecDepth 100000 in
set_option maxHeartbeats 2000000 in
theorem listedWords_any (n L : Nat) (w : World) (h1 : 1 ≤ n) (h3 : n ≤ 3) (hL : L ≤ 8) (hpow : (2 * n) ^ L ≤ 100000) :
    Calls Tryd.prog 35 #[.int .i64 (n : Int), .int .i64 (L : Int)] w (fun e w' => ∃ v gs, e = .returned v ∧ lists gs = Plain.allB (2 * n) L ∧ CollF 30 gs w.heap.size w v w') := by
  have HS := Lib.hid (collF_first 30 w)
  have HPW : Hid (∀ k, k ≤ L → (Plain.allB (2 * n) k).length ≤ 100000) := Lib.hid (fun k hk => Nat.le_trans (allB_len (2 * n) k) (Nat.le_trans (Nat.pow_le_pow_right (by omega) hk) hpow))
  clear hpow
  go_enter Tryd.func35, Tryd.ntmps35
  go_wp2_with fail
  obtain ⟨W0, hW0⟩ : ∃ W0, W0 = ((w.alloc (.cells #[] 3)).alloc (.cells #[.slice (some ⟨w.heap.size, 0, none⟩) 0 0] 30)) := ⟨_, rfl⟩
  rw [← hW0] at HS ⊢
  clear hW0
  go_loopw [5, 9] (fun v i wr => ∃ k : Nat, k ≤ L ∧ i = .int .i64 k ∧ ∃ gs, lists gs = Plain.allB (2 * n) k ∧ CollF 30 gs w.heap.size w v wr) (fun _ i _ => L - (intOf i).toNat)
  case atStart => exact ⟨0, Nat.zero_le _, rfl, [(some ⟨w.heap.size, 0, none⟩, 0, [])], rfl, HS.out⟩
  case round =>
    obtain ⟨k, hk, rfl, gs, hgs, hrel⟩ := hrel
    by_cases hlt : k < L
    · have hgl : gs.length ≤ 100000 := by rw [← lists_length, hgs]; exact HPW.out k hk
      have HOK : Hid (∀ f ∈ gs, Plain.Letters f.2.2 ∧ f.2.2.length ≤ 100) := Lib.hid (fun f hf => by
        have h2 := Plain.allB_mem (m := 2 * n) (by omega) (k := k) (v := f.2.2) (by rw [← hgs]; exact List.mem_map.2 ⟨f, hf, rfl⟩)
        exact ⟨h2.2, by omega⟩)
      have HE : Hid (Plain.moreB (2 * n) (lists gs) gs.length = Plain.allB (2 * n) (k + 1)) := Lib.hid (by rw [hgs, ← lists_length, hgs, Plain.allB_step])
      have HB := Lib.hid hrel.2.2.1
      obtain ⟨a, c, rfl, hfa, -, -, -⟩ := collF_facs hrel
      have HFA := Lib.hid hfa
      have hi : (k : Int) < (L : Int) := by omega
      have hi0' : (0 : Int) ≤ (k : Int) := by omega
      clear hrel hgs hfa
      go_wp2_with fail
      refine (moreB_any a c gs n _ HFA HOK hgl (by omega)).mono ?_
      rw [HE.out]
      rintro e w1 ⟨v1, hs, rfl, hhs, hc1⟩
      have HR := Lib.hid (And.intro hhs (hc1.rebase HB.out))
      clear hhs hc1
      go_wp2_with fail
      go_roundw
      case rel => exact ⟨k + 1, by omega, by go_num, hs, HR.out⟩
      case measure => simp [intOf]; omega
    · obtain rfl : k = L := by omega
      have HR := Lib.hid (And.intro hgs hrel)
      have hi : ¬ (k : Int) < (k : Int) := by omega
      clear hgs hrel
      go_wp2_with fail
      go_ret
      first | exact ⟨_, gs, rfl, HR.out⟩ | exact ⟨_, rfl, gs, HR.out⟩

end Go.Proofs.YthamckchfhddjaaDoor
