/- Contracts: impl.areListed, isListed, listedWords; spec.l7Bound, l7Search, l7All. Contract: spec.l7All. Conditions: the table of greatest lengths lies as the program's text lays it; numbers of 64 bits; at most three nails, at most eight letters, at most 100000 words. -/
import Derived.Test.YthamckchfhddjaaDoorMoreB
import Derived.Test.YthamckchfhddjaaDoorWordOf
namespace Go.Proofs.YthamckchfhddjaaDoor
open Go.ChangeShapes Go.WideShapes Go.ChangeAt Go.RowKit
set_option linter.unusedVariables false

/-- The table of greatest lengths. -/
def Listed (w : World) : Prop := w.cell? ⟨0, 1, none⟩ = some (.int .i64 8) ∧ w.cell? ⟨0, 2, none⟩ = some (.int .i64 8) ∧ w.cell? ⟨0, 3, none⟩ = some (.int .i64 5)
theorem Listed.on {w w' : World} (h : Listed w) (hb : Below w.heap.size w w') : Listed w' := ⟨cell_later hb h.1, cell_later hb h.2.1, cell_later hb h.2.2⟩
/-- The greatest length of a search. -/
def longN (n : Int) : Int := if n = 3 then 5 else 8
def n3B (n : Int) : Bool := decide (1 ≤ n ∧ n ≤ 3)
def listB (n L : Int) : Bool := decide (1 ≤ n ∧ n ≤ 3 ∧ 0 ≤ L ∧ L ≤ longN n)
theorem areListed_any (n : Int) (w : World) (h : -9223372036854775808 ≤ n ∧ n ≤ 9223372036854775807) : Calls Tryd.prog 51 #[.int .i64 n] w fun e w' => e = .returned (.bool (n3B n)) ∧ w = w' := by
  by_cases h0 : 1 ≤ n
  · by_cases h1 : n ≤ 3
    · have HE : Hid (n3B n = true) := Lib.hid (by simp [n3B]; omega)
      go_enter Tryd.func51, Tryd.ntmps51
      go_wp2_with fail
      go_ret
      exact ⟨ret_bool HE.out.symm, rfl⟩
    · have HE : Hid (n3B n = false) := Lib.hid (by simp [n3B]; omega)
      go_enter Tryd.func51, Tryd.ntmps51
      go_wp2_with fail
      go_ret
      exact ⟨ret_bool HE.out.symm, rfl⟩
  · have HE : Hid (n3B n = false) := Lib.hid (by simp [n3B]; omega)
    go_enter Tryd.func51, Tryd.ntmps51
    go_wp2_with fail
    go_ret
    exact ⟨ret_bool HE.out.symm, rfl⟩
set_option maxHeartbeats 800000 in
theorem isListed_any (n L : Int) (w : World) (hg : Hid (Listed w)) (hn : -9223372036854775808 ≤ n ∧ n ≤ 9223372036854775807) (hL : -9223372036854775808 ≤ L ∧ L ≤ 9223372036854775807) :
    Calls Tryd.prog 34 #[.int .i64 n, .int .i64 L] w fun e w' => e = .returned (.bool (listB n L)) ∧ w = w' := by
  cases h3 : n3B n with
  | false =>
    have HE : Hid (listB n L = false) := Lib.hid (by simp only [n3B, decide_eq_false_iff_not] at h3; simp only [listB, decide_eq_false_iff_not]; omega)
    have HN := Lib.hid h3
    clear h3
    go_enter Tryd.func34, Tryd.ntmps34
    go_wp2_with fail
    refine (areListed_any n _ hn).mono ?_
    rw [HN.out]
    rintro e w' ⟨rfl, rfl⟩
    go_wp2_with fail
    go_ret
    exact ⟨ret_bool HE.out.symm, rfl⟩
  | true =>
    have h3' := h3
    simp only [n3B, decide_eq_true_eq] at h3'
    have HN := Lib.hid h3
    by_cases h0 : 0 ≤ L
    · have hh : n = 1 ∨ n = 2 ∨ n = 3 := by omega
      obtain ⟨g1, g2, g3⟩ := hg.out
      clear h3 h3'
      rcases hh with rfl | rfl | rfl
      · have HE : Hid (listB 1 L = decide (L ≤ 8)) := Lib.hid (by simp only [listB, longN]; rw [Bool.eq_iff_iff]; simp; omega)
        go_enter Tryd.func34, Tryd.ntmps34
        go_wp2_with fail
        refine (areListed_any 1 _ hn).mono ?_
        rw [HN.out]
        rintro e w' ⟨rfl, rfl⟩
        go_wp2_with fail
        go_ret
        exact ⟨ret_bool HE.out.symm, rfl⟩
      · have HE : Hid (listB 2 L = decide (L ≤ 8)) := Lib.hid (by simp only [listB, longN]; rw [Bool.eq_iff_iff]; simp; omega)
        go_enter Tryd.func34, Tryd.ntmps34
        go_wp2_with fail
        refine (areListed_any 2 _ hn).mono ?_
        rw [HN.out]
        rintro e w' ⟨rfl, rfl⟩
        go_wp2_with fail
        go_ret
        exact ⟨ret_bool HE.out.symm, rfl⟩
      · have HE : Hid (listB 3 L = decide (L ≤ 5)) := Lib.hid (by simp only [listB, longN]; rw [Bool.eq_iff_iff]; simp; omega)
        go_enter Tryd.func34, Tryd.ntmps34
        go_wp2_with fail
        refine (areListed_any 3 _ hn).mono ?_
        rw [HN.out]
        rintro e w' ⟨rfl, rfl⟩
        go_wp2_with fail
        go_ret
        exact ⟨ret_bool HE.out.symm, rfl⟩
    · have HE : Hid (listB n L = false) := Lib.hid (by simp only [listB, decide_eq_false_iff_not]; omega)
      clear h3 h3'
      go_enter Tryd.func34, Tryd.ntmps34
      go_wp2_with fail
      refine (areListed_any n _ hn).mono ?_
      rw [HN.out]
      rintro e w' ⟨rfl, rfl⟩
      go_wp2_with fail
      go_ret
      exact ⟨ret_bool HE.out.symm, rfl⟩
theorem l7Bound_any (n : Int) (w : World) : Calls Tryd.prog 58 #[.int .i64 n] w fun e w' => e = .returned (.int .i64 (longN n)) ∧ w = w' := by
  by_cases h : n = 3
  · subst h
    go_enter Tryd.func58, Tryd.ntmps58
    go_wp2_with fail
    go_ret
    exact ⟨rfl, rfl⟩
  · have HE : Hid (longN n = 8) := Lib.hid (if_neg h)
    have hq : (n == 3) = false := by simpa using h
    clear h
    go_enter Tryd.func58, Tryd.ntmps58
    go_wp2_with fail
    go_ret
    exact ⟨ret_int HE.out.symm, rfl⟩
theorem l7Search_any (n L : Int) (w : World) (hn : -9223372036854775808 ≤ n ∧ n ≤ 9223372036854775807) (hL : -9223372036854775808 ≤ L ∧ L ≤ 9223372036854775807) :
    Calls Tryd.prog 32 #[.int .i64 n, .int .i64 L] w fun e w' => e = .returned (.bool (listB n L)) ∧ w = w' := by
  cases h3 : n3B n with
  | false =>
    have HE : Hid (listB n L = false) := Lib.hid (by simp only [n3B, decide_eq_false_iff_not] at h3; simp only [listB, decide_eq_false_iff_not]; omega)
    have HN := Lib.hid h3
    clear h3
    go_enter Tryd.func32, Tryd.ntmps32
    go_wp2_with fail
    refine (l1In_any n 1 3 _ hn).mono ?_
    rw [show decide (1 ≤ n ∧ n ≤ 3) = _ from HN.out]
    rintro e w' ⟨rfl, rfl⟩
    go_wp2_with fail
    go_ret
    exact ⟨ret_bool HE.out.symm, rfl⟩
  | true =>
    have HE : Hid (listB n L = decide (0 ≤ L ∧ L ≤ longN n)) := Lib.hid (by simp only [n3B, decide_eq_true_eq] at h3; simp only [listB]; rw [Bool.eq_iff_iff]; simp only [decide_eq_true_eq]; omega)
    have HN := Lib.hid h3
    clear h3
    go_enter Tryd.func32, Tryd.ntmps32
    go_wp2_with fail
    refine (l1In_any n 1 3 _ hn).mono ?_
    rw [show decide (1 ≤ n ∧ n ≤ 3) = _ from HN.out]
    rintro e w' ⟨rfl, rfl⟩
    go_wp2_with fail
    refine (l7Bound_any n _).mono ?_
    rintro e w' ⟨rfl, rfl⟩
    go_wp2_with fail
    refine (l1In_any L 0 (longN n) _ hL).mono ?_
    rw [← HE.out]
    rintro e w' ⟨rfl, rfl⟩
    go_wp2_with fail
    go_ret
    exact ⟨rfl, rfl⟩
theorem list_nat {n L : Int} (h : listB n L = true) : ∃ p q : Nat, n = (p : Int) ∧ L = (q : Int) ∧ 1 ≤ p ∧ p ≤ 3 ∧ q ≤ 8 ∧ (2 * p) ^ q ≤ 100000 := by
  have h' := of_decide_eq_true h
  obtain ⟨a1, a2, a3, a4⟩ := h'
  have a5 : L ≤ 8 ∧ (n = 3 → L ≤ 5) := by
    unfold longN at a4
    split at a4
    · exact ⟨by omega, fun _ => a4⟩
    · rename_i hne; exact ⟨a4, fun e => absurd e hne⟩
  clear h a4
  refine ⟨n.toNat, L.toNat, by omega, by omega, by omega, by omega, by omega, ?_⟩
  obtain ⟨p, hp⟩ : ∃ p, p = n.toNat := ⟨_, rfl⟩
  obtain ⟨q, hq⟩ : ∃ q, q = L.toNat := ⟨_, rfl⟩
  rw [← hp, ← hq]
  have hh : p = 1 ∨ p = 2 ∨ p = 3 := by omega
  rcases hh with rfl | rfl | rfl
  · exact Nat.le_trans (Nat.pow_le_pow_right (by decide) (show q ≤ 8 by omega)) (by decide)
  · exact Nat.le_trans (Nat.pow_le_pow_right (by decide) (show q ≤ 8 by omega)) (by decide)
  · exact Nat.le_trans (Nat.pow_le_pow_right (by decide) (show q ≤ 5 by have := a5.2 (by omega); omega)) (by decide)
theorem allB_len (m : Nat) : ∀ k, (Plain.allB m k).length ≤ m ^ k := by
  intro k
  induction k with
  | zero => exact Nat.le_refl _
  | succ k ih =>
    have := Plain.moreB_len m (Plain.allB m k) (Plain.allB m k).length
    rw [← Plain.allB_step, Nat.pow_succ, Nat.mul_comm]
    exact Nat.le_trans this (Nat.mul_le_mul_left _ ih)
theorem owns_mono {w : World} {B B' : Nat} {T : TypeId} {v : Value} {n : Nat} {vs : List Value} (h : w.ownsRow B T 1 v n vs) (hB : B' ≤ B) : w.ownsRow B' T 1 v n vs := by
  obtain ⟨hl, h | ⟨g, cap, cur, e, hg, h⟩⟩ := h
  · exact ⟨hl, .inl h⟩
  · exact ⟨hl, .inr ⟨g, cap, cur, e, Nat.le_trans hB hg, h⟩⟩
theorem CollF.rebase {T : TypeId} {fs : List Fac} {w w1 wr : World} {v : Value} (h : CollF T fs w1.heap.size w1 v wr) (hb : Below w.heap.size w w1) : CollF T fs w.heap.size w v wr :=
  ⟨owns_mono h.1 hb.size, fun f hf => (h.2.1 f hf).mono hb.size, hb.trans (h.2.2.1.mono hb.size), Nat.le_trans hb.size h.2.2.2⟩
set_option maxRecDepth 100000 in
set_option maxHeartbeats 2000000 in
theorem listedWords_any (n L : Nat) (w : World) (h1 : 1 ≤ n) (h3 : n ≤ 3) (hL : L ≤ 8) (hpow : (2 * n) ^ L ≤ 100000) :
    Calls Tryd.prog 35 #[.int .i64 (n : Int), .int .i64 (L : Int)] w (fun e w' => ∃ v gs, e = .returned v ∧ lists gs = Plain.allB (2 * n) L ∧ CollF 30 gs w.heap.size w v w') := by
  have HS := Lib.hid (collF_first 30 w)
  have HPW : Hid (∀ k, k ≤ L → (Plain.allB (2 * n) k).length ≤ 100000) := Lib.hid (fun k hk => Nat.le_trans (allB_len (2 * n) k) (Nat.le_trans (Nat.pow_le_pow_right (by omega) hk) hpow))
  clear hpow
  go_enter Tryd.func35, Tryd.ntmps35
  go_wp2_with fail
  obtain ⟨W0, hW0⟩ : ∃ W0, W0 = ((w.alloc (.cells #[] 3)).alloc (.cells #[.slice (some ⟨w.heap.size, 0, none⟩) 0 0] 30)) := ⟨_, rfl⟩
  rw [← hW0] at HS ⊢
  clear hW0
  go_loopw [5, 9] (fun v i wr => ∃ k : Nat, k ≤ L ∧ i = .int .i64 k ∧ ∃ gs, lists gs = Plain.allB (2 * n) k ∧ CollF 30 gs w.heap.size w v wr) (fun _ i _ => L - (intOf i).toNat)
  case atStart => exact ⟨0, Nat.zero_le _, rfl, [(some ⟨w.heap.size, 0, none⟩, 0, [])], rfl, HS.out⟩
  case round =>
    obtain ⟨k, hk, rfl, gs, hgs, hrel⟩ := hrel
    by_cases hlt : k < L
    · have hgl : gs.length ≤ 100000 := by rw [← lists_length, hgs]; exact HPW.out k hk
      have HOK : Hid (∀ f ∈ gs, Plain.Letters f.2.2 ∧ f.2.2.length ≤ 100) := Lib.hid (fun f hf => by
        have h2 := Plain.allB_mem (m := 2 * n) (by omega) (k := k) (v := f.2.2) (by rw [← hgs]; exact List.mem_map.2 ⟨f, hf, rfl⟩)
        exact ⟨h2.2, by omega⟩)
      have HE : Hid (Plain.moreB (2 * n) (lists gs) gs.length = Plain.allB (2 * n) (k + 1)) := Lib.hid (by rw [hgs, ← lists_length, hgs, Plain.allB_step])
      have HB := Lib.hid hrel.2.2.1
      obtain ⟨a, c, rfl, hfa, -, -, -⟩ := collF_facs hrel
      have HFA := Lib.hid hfa
      have hi : (k : Int) < (L : Int) := by omega
      have hi0' : (0 : Int) ≤ (k : Int) := by omega
      clear hrel hgs hfa
      go_wp2_with fail
      refine (moreB_any a c gs n _ HFA HOK hgl (by omega)).mono ?_
      rw [HE.out]
      rintro e w1 ⟨v1, hs, rfl, hhs, hc1⟩
      have HR := Lib.hid (And.intro hhs (hc1.rebase HB.out))
      clear hhs hc1
      go_wp2_with fail
      go_roundw
      case rel => exact ⟨k + 1, by omega, by go_num, hs, HR.out⟩
      case measure => simp [intOf]; omega
    · obtain rfl : k = L := by omega
      have HR := Lib.hid (And.intro hgs hrel)
      have hi : ¬ (k : Int) < (k : Int) := by omega
      clear hgs hrel
      go_wp2_with fail
      go_ret
      first | exact ⟨_, gs, rfl, HR.out⟩ | exact ⟨_, rfl, gs, HR.out⟩

end Go.Proofs.YthamckchfhddjaaDoor

namespace Go.Proofs.YthamckchfhddjaaDoor
open Go.ChangeShapes Go.WideShapes Go.ChangeAt Go.RowKit
set_option linter.unusedVariables false

theorem facs_coll {T : TypeId} {fs : List Fac} {B : Nat} {w wr : World} {v : Value} (h : CollF T fs B w v wr) {j : Nat} {f : Fac} (hf : fs[j]? = some f) :
    ∃ b c, v = .slice (some ⟨b, 0, none⟩) fs.length c ∧ wr.cell? ⟨b, j, none⟩ = some (facVal f) ∧ FacOk B wr f := by
  have hk := h.2.1 f (List.mem_of_getElem? hf)
  obtain ⟨a, c, rfl, hfa, -, -, hs⟩ := collF_facs h
  obtain ⟨b, rfl⟩ := hs j (by rw [hf]; rfl)
  obtain ⟨⟨b2, o2, e, hc⟩, -, -⟩ := hfa j f hf
  cases e
  rw [Nat.zero_add] at hc
  exact ⟨b, c, rfl, hc, hk⟩
theorem own7_at (a : Option Addr) (cap n : Nat) (xs : List Int) (w : World) (hl : xs.length = n) (h : Hid (Ints w a xs)) (hcp : Hid (Cap a n cap)) (hn : n ≤ 1048576) :
    Calls Tryd.prog 60 #[.slice a n cap] w fun e w' => ∃ v, e = .returned v ∧ Coll xs w.heap.size w v w' ∧ v ≠ .slice none 0 0 := by
  subst hl
  exact l1Own_any a cap xs w h hcp hn
set_option maxRecDepth 100000 in
set_option maxHeartbeats 8000000 in
theorem l7All_any (n L : Nat) (w : World) (h1 : 1 ≤ n) (h3 : n ≤ 3) (hL : L ≤ 8) (hpow : (2 * n) ^ L ≤ 100000) :
    Calls Tryd.prog 33 #[.int .i64 (n : Int), .int .i64 (L : Int)] w (fun e w' => ∃ v gs, e = .returned v ∧ lists gs = Plain.allB (2 * n) L ∧ CollF 30 gs w.heap.size w v w') := by
  obtain ⟨i0, hi0, hz0, hz1, hz2⟩ := info_partsL infoLL
  obtain ⟨i1, hi1, hy0, hy1, hy2⟩ := info_parts infoInt
  have HT1 : 30 ≠ 3 := by decide
  have HS := Lib.hid (collF_first 30 w)
  have HPW : Hid (∀ k, k ≤ L → (Plain.allB (2 * n) k).length ≤ 100000) := Lib.hid (fun k hk => Nat.le_trans (allB_len (2 * n) k) (Nat.le_trans (Nat.pow_le_pow_right (by omega) hk) hpow))
  clear hpow
  go_enter Tryd.func33, Tryd.ntmps33
  go_wp2_with fail
  obtain ⟨W0, hW0⟩ : ∃ W0, W0 = ((w.alloc (.cells #[] 3)).alloc (.cells #[.slice (some ⟨w.heap.size, 0, none⟩) 0 0] 30)) := ⟨_, rfl⟩
  rw [← hW0] at HS ⊢
  clear hW0
  go_loopw [5, 6] (fun v i wr => ∃ k : Nat, k ≤ L ∧ i = .int .i64 k ∧ ∃ gs, lists gs = Plain.allB (2 * n) k ∧ CollF 30 gs w.heap.size w v wr) (fun _ i _ => L - (intOf i).toNat)
  case atStart => exact ⟨0, Nat.zero_le _, rfl, [(some ⟨w.heap.size, 0, none⟩, 0, [])], rfl, HS.out⟩
  case round =>
    clear HS
    obtain ⟨k, hk, rfl, gs, hgs, hrel⟩ := hrel
    by_cases hlt : k < L
    · have hgl : gs.length ≤ 100000 := by rw [← lists_length, hgs]; exact HPW.out k hk
      have HOK : Hid (∀ f ∈ gs, Plain.Letters f.2.2 ∧ f.2.2.length = k) := Lib.hid (fun f hf => by
        have h2 := Plain.allB_mem (m := 2 * n) (by omega) (k := k) (v := f.2.2) (by rw [← hgs]; exact List.mem_map.2 ⟨f, hf, rfl⟩)
        exact ⟨h2.2, h2.1⟩)
      have HE : Hid (Plain.moreB (2 * n) (lists gs) gs.length = Plain.allB (2 * n) (k + 1)) := Lib.hid (by rw [hgs, ← lists_length, hgs, Plain.allB_step])
      have HB := Lib.hid hrel.2.2.1
      have HG := Lib.hid hrel
      obtain ⟨WA, hWA⟩ : ∃ WA, WA = wr := ⟨_, rfl⟩
      subst hWA
      have HS := Lib.hid (collF_start 30 WA)
      obtain ⟨ga, gc, rfl, -, -, -, -⟩ := collF_facs hrel
      have hi : (k : Int) < (L : Int) := by omega
      have hi0' : (0 : Int) ≤ (k : Int) := by omega
      clear hrel hgs
      go_wp2_with fail
      go_loopw [7, 8] (fun v i wr => ∃ j : Nat, j ≤ gs.length ∧ i = .int .i64 j ∧ ∃ hs, lists hs = Plain.moreB (2 * n) (lists gs) j ∧ CollF 30 hs WA.heap.size WA v wr) (fun _ i _ => gs.length - (intOf i).toNat)
      case atStart => exact ⟨0, Nat.zero_le _, rfl, [], by rw [Plain.moreB_zero]; rfl, HS.out⟩
      case round =>
        clear HS
        obtain ⟨j, hj, rfl, hs, hhs, hrel⟩ := hrel
        by_cases hlt2 : j < gs.length
        · obtain ⟨f, hf⟩ := at_some gs j hlt2
          have HN := Lib.hid (Plain.moreB_step (m := 2 * n) (lists_at hf))
          have hPl := Plain.moreB_len (2 * n) (lists gs) j
          have hPl2 : 2 * n * j ≤ 6 * j := Nat.mul_le_mul_right _ (by omega)
          have hok := HOK.out f (List.mem_of_getElem? hf)
          obtain ⟨b, c, e5, hcg, hfk⟩ := facs_coll HG.out hf
          cases e5
          obtain ⟨fa, fc, fl⟩ := f
          dsimp only at HN hok
          have hfl := hok.2
          have HL0 := Lib.hid hok.1
          have HFK := Lib.hid (And.intro hfk hcg)
          obtain ⟨P, hP⟩ : ∃ P, P = Plain.moreB (2 * n) (lists gs) j := ⟨_, rfl⟩
          rw [← hP] at hPl hhs HN
          have hPL : P.length ≤ 600000 := by omega
          have HK := Lib.hid hrel
          have HL := Lib.hid hhs
          have hi2 : (j : Int) < (gs.length : Int) := by omega
          have hi20 : (0 : Int) ≤ (j : Int) := by omega
          have hcap : fl.length ≤ fc ∧ fc ≤ 9223372036854775807 := ⟨hfk.2.1.1, hfk.2.1.2.1⟩
          clear hrel hhs hP hf hok hPl hPl2 hfk hcg
          go_wp2_with fail
          go_loopw [7, 9] (fun v i wr => ∃ t : Nat, t ≤ 2 * n ∧ i = .int .i64 t ∧ ∃ hs, lists hs = P ++ Plain.rowB fl (Plain.behind fl t) ∧ CollF 30 hs WA.heap.size WA v wr) (fun _ i _ => 2 * n - (intOf i).toNat)
          case atStart => exact ⟨0, Nat.zero_le _, rfl, hs, HL.out.trans (by simp [Plain.rowB, Plain.behind]), HK.out⟩
          case round =>
            clear HK HL
            obtain ⟨t, ht, rfl, hs, hhs, hrel⟩ := hrel
            by_cases hlt3 : t < 2 * n
            · have hgn : hs.length ≤ P.length + 2 * n := by
                have e1 : hs.length = (P ++ Plain.rowB fl (Plain.behind fl t)).length := by rw [← lists_length, hhs]
                have e2 := Plain.behind_le fl t
                rw [List.length_append, Plain.rowB_len] at e1
                omega
              have hgn2 : hs.length ≤ 700000 := by omega
              have HR2 := Lib.hid (Plain.behind_step fl t)
              have hxr := Plain.letterAt_ok t (by omega)
              obtain ⟨x, hx⟩ : ∃ x, x = Plain.letterAt t := ⟨_, rfl⟩
              rw [← hx] at HR2 hxr
              have HX := Lib.hid hx
              have hcg := cell_later hrel.2.2.1 HFK.out.2
              simp only [facVal] at hcg
              have HFI := Lib.hid (HFK.out.1.1.on hrel.2.2.1)
              have HFN := Lib.hid HFK.out.1.2.1.2.2
              have HK := Lib.hid hrel
              have HL := Lib.hid hhs
              have hi3 : (t : Int) < 2 * (n : Int) := by omega
              have hi30 : (0 : Int) ≤ (t : Int) := by omega
              have ht12 : t < 12 := by omega
              clear hrel hhs hx hgn
              by_cases hz : k = 0
              · have hq1 : ((k : Int) == 0) = true := by simp [hz]
                have HE : Hid (lists hs ++ [fl ++ [x]] = P ++ Plain.rowB fl (Plain.behind fl (t + 1))) := Lib.hid (by
                  have e0 : fl = [] := List.eq_nil_of_length_eq_zero (by omega)
                  rw [HR2.out, if_pos (by rw [e0]; exact Plain.stays_nil x), HL.out, List.append_assoc]
                  simp [Plain.rowB])
                clear hz HR2
                go_wp2_with fail
                go_quiet (fail)
                go_wp2_with fail
                refine (own7_at fa fc k fl _ hfl (Lib.hid (HFI.out.drewN _)) (Lib.hid ⟨by omega, by omega, HFN.out.1, HFN.out.2⟩) (by omega)).mono ?_
                rintro e w1 ⟨v1, rfl, hC, -⟩
                have HC1 := Lib.hid hC
                clear hC
                go_wp2_with fail
                refine (l7Letter_any t _ (by omega)).mono ?_
                rw [← HX.out]
                rintro e w2 ⟨rfl, rfl⟩
                go_wp2_with (at_builtin; refine wpList_append_own _ rfl _ _ 30 rfl _ 3 i1 (.int .i64 0) 1 8 Tryd.underlying30 hi1 hy0 hy1 hy2 rfl (by decide) _ _ _ rfl (HC1.out.1.alloc _) ⟨w2.heap.size, 0, none⟩ 1 1 [.int .i64 x] rfl rfl ?d1 ?d2 ?d3 ?d4 ?d5 ?_)
                case d1 => exact cell_one_new _ _ _
                case d2 => simp [Value.oneCell']
                case d3 => unfold maxLen; omega
                case d4 => omega
                case d5 => exact Nat.le_trans HC1.out.2.2 (by simp)
                intro v3 w3 hown3 hgrow3 _
                have hC3 := coll_push (x := x) HC1.out (by rw [hfl]; exact hown3) hgrow3
                obtain ⟨a5, c5, rfl, hok5⟩ := facOk_coll hC3
                have HK4 := Lib.hid (And.intro ((HK.out.drewN nq).later hC3.2.1) (hok5.mono HK.out.2.2.2))
                clear hown3 hgrow3 hC3 hok5
                obtain ⟨zs, hzs⟩ : ∃ zs, zs = fl ++ [x] := ⟨_, rfl⟩
                rw [← hzs] at HK4 HE
                have hzl : fl.length + 1 = zs.length := by rw [hzs]; simp
                rw [show (fl ++ [x]).length = zs.length by rw [hzs]]
                clear hzs
                obtain ⟨zl, hzl2⟩ : ∃ zl, zl = zs.length := ⟨_, rfl⟩
                rw [← hzl2]
                have HZ := Lib.hid hzl2
                clear hzl hzl2
                go_wp2_with (at_builtin; refine wpList_append_own _ rfl _ _ 22 rfl WA.heap.size 30 i0 (.slice none 0 0) 1 24 Tryd.underlying22 hi0 hz0 hz1 hz2 rfl (by decide) _ _ _ rfl (HK4.out.1.1.alloc _) ⟨w3.heap.size, 0, none⟩ 1 1 [.slice a5 zl c5] rfl rfl ?c1 ?c2 ?c3 ?c4 ?c5 ?_)
                case c1 => exact cell_one_new _ _ _
                case c2 => simp [Value.oneCell']
                case c3 => unfold maxLen; omega
                case c4 => omega
                case c5 => exact Nat.le_trans HK4.out.1.2.2.2 (by simp)
                rw [HZ.out]
                intro v' w5 hown' hgrow _
                have hR := Lib.hid (collF_push (f := (a5, c5, zs)) HT1 HK4.out.1 HK4.out.2 hown' hgrow)
                clear hown' hgrow
                go_wp2_with fail
                go_roundw
                case rel => exact ⟨t + 1, by omega, by go_num, _, by rw [lists_append]; exact HE.out, hR.out⟩
                case measure => simp [intOf]; omega
              · obtain ⟨k2, hk2⟩ : ∃ k2, k = k2 + 1 := ⟨k - 1, by omega⟩
                have hq1 : ((k : Int) == 0) = false := by simp [hz]
                have hmk : (k : Int) - 1 = (k2 : Int) := by omega
                have hk20 : (0 : Int) ≤ (k2 : Int) := by omega
                have hk2l : (k2 : Int) < (k : Int) := by omega
                have hwk : IntKind.i64.wrap ((k : Int) - 1) = (k2 : Int) := by rw [hmk]; exact IntWalk.i64_in _ (by omega)
                obtain ⟨y, hy⟩ := at_some fl k2 (by omega)
                obtain ⟨b3, o3, rfl, hcy⟩ := HFI.out k2 y hy
                have hyr := (HL0.out.at hy).2
                have hsy := Plain.stays_some (w := fl) (y := y) (by rw [hfl, show k - 1 = k2 by omega]; exact hy) x
                have hxl : Plain.letterAt t = x := HX.out.symm
                clear hy
                by_cases hey : y = -x
                · have hq : (Plain.letterAt t != -y) = false := by rw [hxl]; simp; omega
                  have HE : Hid (lists hs = P ++ Plain.rowB fl (Plain.behind fl (t + 1))) := Lib.hid (by
                    rw [HR2.out, if_neg (by rw [hsy]; simpa using hey), HL.out])
                  clear hz HR2 hsy hey hxl hk2
                  go_wp2_with fail
                  go_quiet ((go_at_call 59; exact Calls.quiet_of_same (l7Letter_any t _ ht12)))
                  go_wp2_with fail
                  go_roundw
                  case rel => exact ⟨t + 1, by omega, by go_num, hs, HE.out, HK.out.drewN _⟩
                  case measure => simp [intOf]; omega
                · have hq : (Plain.letterAt t != -y) = true := by rw [hxl]; simp; omega
                  have HE : Hid (lists hs ++ [fl ++ [x]] = P ++ Plain.rowB fl (Plain.behind fl (t + 1))) := Lib.hid (by
                    rw [HR2.out, if_pos (by rw [hsy]; simpa using hey), HL.out, List.append_assoc]
                    simp [Plain.rowB])
                  clear hz HR2 hsy hey hxl hk2
                  go_wp2_with fail
                  go_quiet ((go_at_call 59; exact Calls.quiet_of_same (l7Letter_any t _ ht12)))
                  go_wp2_with fail
                  refine (own7_at (some ⟨b3, o3, none⟩) fc k fl _ hfl (Lib.hid (HFI.out.drewN _)) (Lib.hid ⟨by omega, by omega, HFN.out.1, HFN.out.2⟩) (by omega)).mono ?_
                  rintro e w1 ⟨v1, rfl, hC, -⟩
                  have HC1 := Lib.hid hC
                  clear hC
                  go_wp2_with fail
                  refine (l7Letter_any t _ (by omega)).mono ?_
                  rw [← HX.out]
                  rintro e w2 ⟨rfl, rfl⟩
                  go_wp2_with (at_builtin; refine wpList_append_own _ rfl _ _ 30 rfl _ 3 i1 (.int .i64 0) 1 8 Tryd.underlying30 hi1 hy0 hy1 hy2 rfl (by decide) _ _ _ rfl (HC1.out.1.alloc _) ⟨w2.heap.size, 0, none⟩ 1 1 [.int .i64 x] rfl rfl ?d1 ?d2 ?d3 ?d4 ?d5 ?_)
                  case d1 => exact cell_one_new _ _ _
                  case d2 => simp [Value.oneCell']
                  case d3 => unfold maxLen; omega
                  case d4 => omega
                  case d5 => exact Nat.le_trans HC1.out.2.2 (by simp)
                  intro v3 w3 hown3 hgrow3 _
                  have hC3 := coll_push (x := x) HC1.out (by rw [hfl]; exact hown3) hgrow3
                  obtain ⟨a5, c5, rfl, hok5⟩ := facOk_coll hC3
                  have HK4 := Lib.hid (And.intro ((HK.out.drewN nq).later hC3.2.1) (hok5.mono HK.out.2.2.2))
                  clear hown3 hgrow3 hC3 hok5
                  obtain ⟨zs, hzs⟩ : ∃ zs, zs = fl ++ [x] := ⟨_, rfl⟩
                  rw [← hzs] at HK4 HE
                  have hzl : fl.length + 1 = zs.length := by rw [hzs]; simp
                  rw [show (fl ++ [x]).length = zs.length by rw [hzs]]
                  clear hzs
                  obtain ⟨zl, hzl2⟩ : ∃ zl, zl = zs.length := ⟨_, rfl⟩
                  rw [← hzl2]
                  have HZ := Lib.hid hzl2
                  clear hzl hzl2
                  go_wp2_with (at_builtin; refine wpList_append_own _ rfl _ _ 22 rfl WA.heap.size 30 i0 (.slice none 0 0) 1 24 Tryd.underlying22 hi0 hz0 hz1 hz2 rfl (by decide) _ _ _ rfl (HK4.out.1.1.alloc _) ⟨w3.heap.size, 0, none⟩ 1 1 [.slice a5 zl c5] rfl rfl ?c1 ?c2 ?c3 ?c4 ?c5 ?_)
                  case c1 => exact cell_one_new _ _ _
                  case c2 => simp [Value.oneCell']
                  case c3 => unfold maxLen; omega
                  case c4 => omega
                  case c5 => exact Nat.le_trans HK4.out.1.2.2.2 (by simp)
                  rw [HZ.out]
                  intro v' w5 hown' hgrow _
                  have hR := Lib.hid (collF_push (f := (a5, c5, zs)) HT1 HK4.out.1 HK4.out.2 hown' hgrow)
                  clear hown' hgrow
                  go_wp2_with fail
                  go_roundw
                  case rel => exact ⟨t + 1, by omega, by go_num, _, by rw [lists_append]; exact HE.out, hR.out⟩
                  case measure => simp [intOf]; omega
            · obtain rfl : t = 2 * n := by omega
              have HR := Lib.hid (And.intro (hhs.trans HN.out.symm) hrel)
              have hi3 : ¬ (((2 * n : Nat) : Int) < 2 * (n : Int)) := by omega
              clear hhs hrel
              go_wp2_with fail
              go_roundw
              case rel => exact ⟨j + 1, by omega, by go_num, hs, HR.out⟩
              case measure => simp [intOf]; omega
        · obtain rfl : j = gs.length := by omega
          have HR := Lib.hid (And.intro (hhs.trans HE.out) (hrel.rebase HB.out))
          have hi2 : ¬ (gs.length : Int) < (gs.length : Int) := by omega
          clear hhs hrel
          go_wp2_with fail
          go_roundw
          case rel => exact ⟨k + 1, by omega, by go_num, hs, HR.out⟩
          case measure => simp [intOf]; omega
    · obtain rfl : k = L := by omega
      have HR := Lib.hid (And.intro hgs hrel)
      have hi : ¬ (k : Int) < (k : Int) := by omega
      clear hgs hrel
      go_wp2_with fail
      go_ret
      first | exact ⟨_, gs, rfl, HR.out⟩ | exact ⟨_, rfl, gs, HR.out⟩

end Go.Proofs.YthamckchfhddjaaDoor
