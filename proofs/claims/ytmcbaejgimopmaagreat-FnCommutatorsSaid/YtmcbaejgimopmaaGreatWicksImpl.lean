/- Contracts: (impl.word).isInverseOf, wicksCuts, slices.Clone at its words, impl.WicksParts. Conditions: letters, numbers of 64 bits, lengths that fit. -/
import Derived.Test.YtmcbaejgimopmaaGreatBdWicksMath
import Derived.Test.YtmcbaejgimopmaaGreatReducedWalks
import Derived.Laws.IdiomCopy
import Derived.Lib.SliceRun
namespace Go.Proofs.YtmcbaejgimopmaaGreat
open Go.ChangeShapes Go.WideShapes Go.ChangeAt Go.RowKit
set_option linter.unusedVariables false

/-! one list is the inverse of another -/
theorem inv_at {ys : List Int} {j : Nat} {y : Int} (hj : j < ys.length) (hy : ys[ys.length - 1 - j]? = some y) : (Plain.inv ys)[j]? = some (-y) := by
  unfold Plain.inv
  rw [List.getElem?_reverse (by simpa using hj), List.length_map, List.getElem?_map, hy]
  rfl
theorem inv_differs {xs ys : List Int} {j : Nat} {x y : Int} (hl : xs.length = ys.length) (hx : xs[j]? = some x) (hy : ys[ys.length - 1 - j]? = some y) (hne : y ≠ -x) : decide (xs = Plain.inv ys) = false := by
  refine decide_eq_false fun e => ?_
  have h := inv_at (ys := ys) (by have := at_lt hx; omega) hy
  rw [← e, hx] at h
  simp at h
  omega
theorem inv_same {xs ys : List Int} (hl : xs.length = ys.length) (h : ∀ (j : Nat) (x : Int), xs[j]? = some x → ys[ys.length - 1 - j]? = some (-x)) : decide (xs = Plain.inv ys) = true := by
  refine decide_eq_true (List.ext_getElem? fun j => ?_)
  by_cases hj : j < xs.length
  · obtain ⟨x, hx⟩ := at_some xs j hj
    rw [hx, inv_at (by omega) (h j x hx), Int.neg_neg]
  · rw [List.getElem?_eq_none (by omega), List.getElem?_eq_none (by rw [Plain.inv_length]; omega)]
theorem inv_lens {xs ys : List Int} (hl : ¬ xs.length = ys.length) : decide (xs = Plain.inv ys) = false := decide_eq_false fun e => hl (by rw [e, Plain.inv_length])

set_option maxRecDepth 100000 in
set_option maxHeartbeats 800000 in
theorem isInv_any (a1 a2 : Option Addr) (c1 c2 n1 n2 : Nat) (xs ys : List Int) (w : World) (hn1 : xs.length = n1) (hn2 : ys.length = n2) (h1 : Hid (Ints w a1 xs)) (h2 : Hid (Ints w a2 ys)) (l1 : Hid (Plain.Letters xs)) (l2 : Hid (Plain.Letters ys)) (h : n1 ≤ 1048576) (hm : n2 ≤ 1048576) :
    Calls Tryz.prog 88 #[.slice a1 n1 c1, .slice a2 n2 c2] w fun e w' => e = .returned (.bool (decide (xs = Plain.inv ys))) ∧ ∃ m, w' = w.drewN m := by
  subst hn1 hn2
  by_cases hl : xs.length = ys.length
  · have HL := Lib.hid hl
    have hli : ((xs.length : Nat) : Int) = (ys.length : Int) := by omega
    have hq : ((xs.length : Int) != (ys.length : Int)) = false := by simp; omega
    clear hl hli
    go_enter Tryz.func88, Tryz.ntmps88
    go_wp2_with fail
    go_loopw [14] (fun i wr => ∃ k m : Nat, k ≤ xs.length ∧ i = .int .i64 (k : Int) ∧ wr = w.drewN m ∧ ∀ (j : Nat) (x : Int), j < k → xs[j]? = some x → ys[ys.length - 1 - j]? = some (-x)) (fun i _ => xs.length - (intOf i).toNat)
    case atStart => exact ⟨0, 0, Nat.zero_le _, rfl, rfl, fun j x hj => by omega⟩
    case round =>
      obtain ⟨k, m, hk, rfl, rfl, hall⟩ := hrel
      have HA := Lib.hid hall
      clear hall
      by_cases hlt : k < xs.length
      · obtain ⟨x, hx⟩ := at_some xs k hlt
        have hky : ys.length - 1 - k < ys.length := by have := HL.out; omega
        obtain ⟨y, hy⟩ := at_some ys (ys.length - 1 - k) hky
        obtain ⟨b1, o1, rfl, hc1⟩ := h1.out k x hx
        obtain ⟨b2, o2, rfl, hc2⟩ := h2.out _ y hy
        have hx6 := l1.out.at hx
        have hy6 := l2.out.at hy
        have HX := Lib.hid hx
        have HY := Lib.hid hy
        have hi : (k : Int) < (xs.length : Int) := by omega
        have e1 : (ys.length : Int) - 1 - (k : Int) = ((ys.length - 1 - k : Nat) : Int) := by have := HL.out; omega
        have hi2 : ((ys.length - 1 - k : Nat) : Int) < (ys.length : Int) := by omega
        obtain ⟨q, hq2⟩ : ∃ q, q = ys.length - 1 - k := ⟨_, rfl⟩
        rw [← hq2] at e1 hi2 hc2 hky
        have HQ := Lib.hid hq2
        clear hx hy hq2
        by_cases he : y = -x
        · have HA2 : Hid (∀ (j : Nat) (z : Int), j < k + 1 → xs[j]? = some z → ys[ys.length - 1 - j]? = some (-z)) := Lib.hid (fun j z hj hz => by
            by_cases e : j = k
            · subst e
              rw [HX.out] at hz
              cases hz
              rw [HY.out, he]
            · exact HA.out j z (by omega) hz)
          have hne : (y != -x) = false := by simp [he]
          have HYE := Lib.hid he
          clear he HA
          go_wp2_with fail
          go_roundw
          case rel => exact ⟨k + 1, m, by omega, by go_num, rfl, HA2.out⟩
          case measure => simp [intOf]; omega
        · have HE := Lib.hid (inv_differs HL.out HX.out HY.out he)
          have hne : (y != -x) = true := by simp [he]
          clear he HA
          go_wp2_with fail
          go_ret
          exact ⟨ret_bool HE.out.symm, m, rfl⟩
      · obtain rfl : k = xs.length := by omega
        have HE := Lib.hid (inv_same HL.out (fun j x hj => HA.out j x (at_lt hj) hj))
        go_wp2_with fail
        go_ret
        exact ⟨ret_bool HE.out.symm, m, rfl⟩
  · have HE := Lib.hid (inv_lens hl)
    have hq : ((xs.length : Int) != (ys.length : Int)) = true := by simp; omega
    clear hl
    go_enter Tryz.func88, Tryz.ntmps88
    go_wp2_with fail
    go_ret
    exact ⟨ret_bool HE.out.symm, 0, rfl⟩

/-! the cuts -/
def cutI (r : Option (Nat × Nat)) : Nat := match r with | some (i, _) => i | none => 0
def cutJ (r : Option (Nat × Nat)) : Nat := match r with | some (i, k) => i + k | none => 0
theorem ret_cut {r : Option (Nat × Nat)} {i j : Int} {b : Bool} (h1 : (cutI r : Int) = i) (h2 : (cutJ r : Int) = j) (h3 : r.isSome = b) : Ending.returned (.tuple #[.int .i64 i, .int .i64 j, .bool b]) = .returned (.tuple #[.int .i64 (cutI r : Int), .int .i64 (cutJ r : Int), .bool r.isSome]) := by rw [h1, h2, h3]
theorem ints_low {w : World} {b o k : Nat} {xs : List Int} (h : Ints w (some ⟨b, o, none⟩) xs) (hk : xs.length ≤ k) : ∀ a, Ints w a (xs.drop k) := fun a => by
  rw [List.drop_eq_nil_of_le hk]
  exact Ints.nil _ _

set_option maxRecDepth 100000 in
set_option maxHeartbeats 4000000 in
theorem wicksCuts_any (b o cap : Nat) (t : List Int) (w : World) (h : Hid (Ints w (some ⟨b, o, none⟩) t)) (hcp : Hid (Cap (some ⟨b, o, none⟩) t.length cap)) (hl : Hid (Plain.Letters t)) (hlen : t.length ≤ 64) (h0 : 0 < t.length) :
    Calls Tryz.prog 60 #[.slice (some ⟨b, o, none⟩) t.length cap] w fun e w' => e = .returned (.tuple #[.int .i64 (cutI (iC t (t.length / 2) (t.length / 2 + 1) 0) : Int), .int .i64 (cutJ (iC t (t.length / 2) (t.length / 2 + 1) 0) : Int), .bool (iC t (t.length / 2) (t.length / 2 + 1) 0).isSome]) ∧ ∃ m, w' = w.drewN m := by
  obtain ⟨n, hn⟩ : ∃ n, n = t.length / 2 := ⟨_, rfl⟩
  have HN := Lib.hid hn
  have hq : (t.length : Int) / 2 = (n : Int) := by omega
  have hnl : n < t.length := by omega
  have hn2 : 2 * n ≤ t.length := by omega
  rw [← hn]
  have hc1 := hcp.out.1
  have hc2 := hcp.out.2.1
  have q1 : (n : Int) ≤ (t.length : Int) := by omega
  have q2 : (n : Int) ≤ (cap : Int) := by omega
  have q3 : (t.length : Int) ≤ (cap : Int) := by omega
  have hne : ¬ cap = n := by omega
  clear hn
  go_enter Tryz.func60, Tryz.ntmps60
  go_wp2_with fail
  go_quiet (fail)
  have hw0 : ∃ m, w.drewN nq = w.drewN m := ⟨_, rfl⟩
  generalize w.drewN nq = w0 at hw0 ⊢
  go_wp2_with fail
  go_loopw [21] (fun i wr => ∃ k : Nat, k ≤ n + 1 ∧ i = .int .i64 (k : Int) ∧ iC t n (n + 1 - k) k = iC t n (n + 1) 0 ∧ ∃ m, wr = w.drewN m) (fun i _ => n + 1 - (intOf i).toNat)
  case atStart => exact ⟨0, Nat.zero_le _, rfl, rfl, hw0⟩
  case round =>
    obtain ⟨i, hi, rfl, hfrom, hwr⟩ := hrel
    have HFi := Lib.hid hfrom
    have HW := Lib.hid hwr
    have HI : Hid (Ints wr (some ⟨b, o, none⟩) t) := Lib.hid (by obtain ⟨m, e⟩ := hwr; rw [e]; exact h.out)
    clear hfrom hwr
    by_cases hin : i ≤ n
    · have hi1 : (i : Int) < (n : Int) + 1 := by omega
      have r1 : (i : Int) ≤ (cap : Int) := by omega
      have r2 : (i : Int) ≤ (n : Int) := by omega
      have r3 : i ≤ cap - n := by omega
      have r4 : ((cap - n : Nat) : Int) = (cap : Int) - (n : Int) := by omega
      have r5 : ((t.length - n : Nat) : Int) = (t.length : Int) - (n : Int) := by omega
      have r6 : (i : Int) ≤ (cap : Int) - (n : Int) := by omega
      have r7 : (i : Int) ≤ (t.length : Int) - (n : Int) := by omega
      have HA : Hid (∀ W, Ints W (some ⟨b, o, none⟩) t → Calls Tryz.prog 88 #[.slice (some ⟨b, o + n, none⟩) i (cap - n), .slice (some ⟨b, o, none⟩) i cap] W fun e w' => e = .returned (.bool (headB t i)) ∧ ∃ m, w' = W.drewN m) := Lib.hid (fun W hh => by
        have hc := isInv_any (some ⟨b, o + n, none⟩) (some ⟨b, o, none⟩) (cap - n) cap i i ((t.drop n).take i) ((t.take n).take i) W (by simp; omega) (by simp; omega) (Lib.hid ((hh.from n).upto i)) (Lib.hid ((hh.upto n).upto i)) (Lib.hid (hl.out.sub fun x hx => List.mem_of_mem_drop (List.mem_of_mem_take hx))) (Lib.hid (hl.out.sub fun x hx => List.mem_of_mem_take (List.mem_of_mem_take hx))) (by omega) (by omega)
        unfold headB
        rw [← HN.out]
        exact hc)
      cases hd : headB t i with
      | false =>
        rw [hd] at HA
        have HX : Hid (iC t n (n + 1 - (i + 1)) (i + 1) = iC t n (n + 1) 0) := Lib.hid (by
          rw [← HFi.out, show n + 1 - i = (n + 1 - (i + 1)) + 1 by omega, iC, hd, if_neg (by simp)])
        clear hd
        go_wp2_with fail
        go_quiet ((go_at_call 88; exact Calls.quiet_of (HA.out _ HI.out)))
        have HW1 : Hid (∃ m, wr.drewN nq = w.drewN m) := Lib.hid (by obtain ⟨m, e⟩ := HW.out; exact ⟨m + nq, by rw [e, World.drewN_drewN]⟩)
        generalize wr.drewN nq = w1 at HW1 ⊢
        go_wp2_with fail
        go_roundw
        case rel => exact ⟨i + 1, by omega, by go_num, HX.out, HW1.out⟩
        case measure => simp [intOf]; omega
      | true =>
        rw [hd] at HA
        have HD := Lib.hid hd
        clear hd
        go_wp2_with fail
        go_quiet ((go_at_call 88; exact Calls.quiet_of (HA.out _ HI.out)))
        have HW1 : Hid (∃ m, wr.drewN nq = w.drewN m) := Lib.hid (by obtain ⟨m, e⟩ := HW.out; exact ⟨m + nq, by rw [e, World.drewN_drewN]⟩)
        generalize wr.drewN nq = w1 at HW1 ⊢
        go_wp2_with fail
        go_loopw [9] (fun j wr => ∃ k : Nat, i + k ≤ n + 1 ∧ j = .int .i64 ((i : Int) + (k : Int)) ∧ jC t i (n + 1 - i - k) k = jC t i (n + 1 - i) 0 ∧ ∃ m, wr = w.drewN m) (fun j _ => n + 1 - (intOf j).toNat)
        case atStart => exact ⟨0, by omega, by simp, rfl, HW1.out⟩
        case round =>
          obtain ⟨k, hk, rfl, hfrom, hwr⟩ := hrel
          have HFk := Lib.hid hfrom
          have HW2 := Lib.hid hwr
          have HI2 : Hid (Ints wr (some ⟨b, o, none⟩) t) := Lib.hid (by obtain ⟨m, e⟩ := hwr; rw [e]; exact h.out)
          clear hfrom hwr HA HI
          by_cases hkn : i + k ≤ n
          · have hk1 : (i : Int) + (k : Int) ≤ (n : Int) := by omega
            obtain ⟨j, hj⟩ : ∃ j, j = i + k := ⟨_, rfl⟩
            have hji : (i : Int) + (k : Int) = (j : Int) := by omega
            have HJ := Lib.hid hj
            rw [hji] at hk1 ⊢
            have hij : (i : Int) ≤ (j : Int) := by omega
            have hij2 : i ≤ j := by omega
            have s1 : (j : Int) ≤ (cap : Int) := by omega
            have s2 : (j : Int) ≤ (cap : Int) - (n : Int) := by omega
            have s3 : (j : Int) ≤ (t.length : Int) - (n : Int) := by omega
            have s4 : j ≤ cap - n := by omega
            have s5 : j ≤ t.length - n := by omega
            have s6 : j ≤ n := by omega
            have s7 : (t.length : Int) - (n : Int) ≤ (cap : Int) - (n : Int) := by omega
            have hne1 : ¬ cap = i := by omega
            have hne2 : ¬ cap = j := by omega
            have HM : Hid (∀ W x, Ints W (some ⟨b, o, none⟩) t → (x = o + n + i ∨ j - i = 0) → Calls Tryz.prog 88 #[.slice (some ⟨b, x, none⟩) (j - i) (cap - n - i), .slice (some ⟨b, o + i, none⟩) (j - i) (cap - i)] W fun e w' => e = .returned (.bool (midB t i j)) ∧ ∃ m, w' = W.drewN m) := Lib.hid (fun W x hh hx => by
              have hI : Ints W (some ⟨b, x, none⟩) (((t.drop n).drop i).take (j - i)) := by
                rcases hx with rfl | h0
                · exact ((hh.from n).from i).upto _
                · rw [h0]; exact Ints.nil _ _
              have hc := isInv_any (some ⟨b, x, none⟩) (some ⟨b, o + i, none⟩) (cap - n - i) (cap - i) (j - i) (j - i) (((t.drop n).drop i).take (j - i)) (((t.take n).drop i).take (j - i)) W (by simp; omega) (by simp; omega) (Lib.hid hI) (Lib.hid (((hh.upto n).from i).upto _)) (Lib.hid (hl.out.sub fun x hx => List.mem_of_mem_drop (List.mem_of_mem_drop (List.mem_of_mem_take hx)))) (Lib.hid (hl.out.sub fun x hx => List.mem_of_mem_take (List.mem_of_mem_drop (List.mem_of_mem_take hx)))) (by omega) (by omega)
              unfold midB
              rw [← HN.out]
              exact hc)
            have HT : Hid (∀ W x, Ints W (some ⟨b, o, none⟩) t → (x = o + n + j ∨ t.length - n - j = 0) → Calls Tryz.prog 88 #[.slice (some ⟨b, x, none⟩) (t.length - n - j) (cap - n - j), .slice (some ⟨b, o + j, none⟩) (n - j) (cap - j)] W fun e w' => e = .returned (.bool (tailB t j)) ∧ ∃ m, w' = W.drewN m) := Lib.hid (fun W x hh hx => by
              have hI : Ints W (some ⟨b, x, none⟩) ((t.drop n).drop j) := by
                rcases hx with rfl | h0
                · exact (hh.from n).from j
                · rw [List.drop_eq_nil_of_le (by simp; omega)]; exact Ints.nil _ _
              have hc := isInv_any (some ⟨b, x, none⟩) (some ⟨b, o + j, none⟩) (cap - n - j) (cap - j) (t.length - n - j) (n - j) ((t.drop n).drop j) ((t.take n).drop j) W (by simp; omega) (by simp; omega) (Lib.hid hI) (Lib.hid ((hh.upto n).from j)) (Lib.hid (hl.out.sub fun x hx => List.mem_of_mem_drop (List.mem_of_mem_drop hx))) (Lib.hid (hl.out.sub fun x hx => List.mem_of_mem_take (List.mem_of_mem_drop hx))) (by omega) (by omega)
              unfold tailB
              rw [← HN.out]
              exact hc)
            have hz1 : cap - n = i → j - i = 0 := by omega
            have hz2 : cap - n = j → t.length - n - j = 0 := by omega
            have HZ1 := Lib.hid hz1
            have HZ2 := Lib.hid hz2
            have HSTEP : Hid ((midB t i j && tailB t j) = false → jC t i (n + 1 - i - (k + 1)) (k + 1) = jC t i (n + 1 - i) 0) := Lib.hid (fun hf => by
              rw [← HFk.out, show n + 1 - i - k = (n + 1 - i - (k + 1)) + 1 by omega, jC, ← HJ.out, hf, if_neg (by simp)])
            have HHIT : Hid ((midB t i j && tailB t j) = true → iC t n (n + 1) 0 = some (i, k)) := Lib.hid (fun hf => by
              have hj0 : jC t i (n + 1 - i) 0 = some k := by
                rw [← HFk.out, show n + 1 - i - k = (n - i - k) + 1 by omega, jC, ← HJ.out, hf, if_pos rfl]
              rw [← HFi.out, show n + 1 - i = (n + 1 - (i + 1)) + 1 by omega, iC, HD.out, if_pos rfl]
              first | rw [hj0] | (rw [show n + 1 - (i + 1) + 1 = n + 1 - i by omega, hj0]) | simp only [hj0])
            have HEND : Hid (cap - n = i → midB t i j = true ∧ tailB t j = true) := Lib.hid (fun hci => by
              have e1 : j = i := by omega
              have e2 : t.length / 2 = j := by have := HN.out; omega
              have e3 : t.length = j + j := by omega
              refine ⟨?_, ?_⟩
              · unfold midB
                rw [e1, Nat.sub_self, List.take_zero, List.take_zero]
                rfl
              · unfold tailB
                rw [List.drop_eq_nil_of_le (by simp; omega), List.drop_eq_nil_of_le (by simp; omega)]
                rfl)
            generalize midB t i j = mb at HM HSTEP HHIT HEND
            generalize tailB t j = tb at HT HSTEP HHIT HEND
            clear hj hz1 hz2
            by_cases hci : cap - n = i
            · -- the second half is at its end: nothing is left to compare
              obtain ⟨rfl, rfl⟩ := HEND.out hci
              have e1 : i = n := by omega
              have e2 : j = n := by omega
              have e3 : cap = n + n := by omega
              have e4 : t.length = n + n := by omega
              subst e1 e2
              have HXE : Hid (∀ W, Ints W (some ⟨b, o, none⟩) t → Calls Tryz.prog 88 #[.slice (some ⟨b, o + j, none⟩) 0 0, .slice (some ⟨b, o + j, none⟩) 0 j] W fun e w' => e = .returned (.bool true) ∧ ∃ m, w' = W.drewN m) := Lib.hid (fun W hh => by
                have hc := HM.out W (o + j) hh (.inr (Nat.sub_self _))
                rw [e3, show j + j - j = j by omega, Nat.sub_self] at hc
                exact hc)
              have hn1 := HN.out
              subst e3
              clear HM HT HZ1 HZ2 HEND hci HN hn1
              go_wp2_with fail
              go_quiet ((go_at_call 88; exact Calls.quiet_of (HXE.out _ HI2.out)))
              have HW3 : Hid (∃ m, wr.drewN nq = w.drewN m) := Lib.hid (by obtain ⟨m, e⟩ := HW2.out; exact ⟨m + nq, by rw [e, World.drewN_drewN]⟩)
              generalize wr.drewN nq = w3 at HW3 ⊢
              go_wp2_with fail
              go_ret3
              have hh := HHIT.out rfl
              exact ⟨ret_cut (by rw [hh]; rfl) (by rw [hh]; show ((j + k : Nat) : Int) = (j : Int); have := HJ.out; omega) (by rw [hh]; rfl), HW3.out⟩
            · have HXM : Hid (∀ W, Ints W (some ⟨b, o, none⟩) t → Calls Tryz.prog 88 #[.slice (some ⟨b, o + n + i, none⟩) (j - i) (cap - n - i), .slice (some ⟨b, o + i, none⟩) (j - i) (cap - i)] W fun e w' => e = .returned (.bool mb) ∧ ∃ m, w' = W.drewN m) := Lib.hid (fun W hh => HM.out W _ hh (.inl rfl))
              by_cases hcj : cap - n = j
              · have e2 : j = n := by omega
                have e3 : cap = n + n := by omega
                have e4 : t.length = n + n := by omega
                subst e2
                have hij3 : ¬ j = i := by omega
                have HXM2 : Hid (∀ W, Ints W (some ⟨b, o, none⟩) t → Calls Tryz.prog 88 #[.slice (some ⟨b, o + j + i, none⟩) (j - i) (j - i), .slice (some ⟨b, o + i, none⟩) (j - i) (j + j - i)] W fun e w' => e = .returned (.bool mb) ∧ ∃ m, w' = W.drewN m) := Lib.hid (fun W hh => by
                  have hc := HXM.out W hh
                  rw [e3, show j + j - j = j by omega] at hc
                  exact hc)
                have HXT2 : Hid (∀ W, Ints W (some ⟨b, o, none⟩) t → Calls Tryz.prog 88 #[.slice (some ⟨b, o + j, none⟩) 0 0, .slice (some ⟨b, o + j, none⟩) 0 j] W fun e w' => e = .returned (.bool tb) ∧ ∃ m, w' = W.drewN m) := Lib.hid (fun W hh => by
                  have hc := HT.out W (o + j) hh (.inr (by omega))
                  rw [e3, e4, show j + j - j = j by omega, Nat.sub_self] at hc
                  exact hc)
                subst e3
                clear HM HT HZ1 HZ2 HEND hcj HXM HN
                cases mb with
                | false =>
                  go_wp2_with fail
                  go_quiet ((go_at_call_of 88 (some (⟨b, o + j + i, none⟩ : Addr)); exact Calls.quiet_of (HXM2.out _ HI2.out)))
                  have HW3 : Hid (∃ m, wr.drewN nq = w.drewN m) := Lib.hid (by obtain ⟨m, e⟩ := HW2.out; exact ⟨m + nq, by rw [e, World.drewN_drewN]⟩)
                  generalize wr.drewN nq = w3 at HW3 ⊢
                  go_wp2_with fail
                  go_roundw
                  case rel => exact ⟨k + 1, by omega, by have := HJ.out; (first | rfl | (congr 1; omega) | (congr 1)), HSTEP.out rfl, HW3.out⟩
                  case measure => (have := HJ.out; simp [intOf]; try omega)
                | true =>
                  cases tb with
                  | false =>
                    go_wp2_with fail
                    go_quiet (first
                      | (go_at_call_of 88 (some (⟨b, o + j + i, none⟩ : Addr)); exact Calls.quiet_of (HXM2.out _ HI2.out))
                      | (go_at_call_of 88 (some (⟨b, o + j, none⟩ : Addr)); exact Calls.quiet_of (HXT2.out _ HI2.out)))
                    have HW3 : Hid (∃ m, wr.drewN nq = w.drewN m) := Lib.hid (by obtain ⟨m, e⟩ := HW2.out; exact ⟨m + nq, by rw [e, World.drewN_drewN]⟩)
                    generalize wr.drewN nq = w3 at HW3 ⊢
                    go_wp2_with fail
                    go_roundw
                    case rel => exact ⟨k + 1, by omega, by have := HJ.out; (first | rfl | (congr 1; omega) | (congr 1)), HSTEP.out rfl, HW3.out⟩
                    case measure => (have := HJ.out; simp [intOf]; try omega)
                  | true =>
                    go_wp2_with fail
                    go_quiet (first
                      | (go_at_call_of 88 (some (⟨b, o + j + i, none⟩ : Addr)); exact Calls.quiet_of (HXM2.out _ HI2.out))
                      | (go_at_call_of 88 (some (⟨b, o + j, none⟩ : Addr)); exact Calls.quiet_of (HXT2.out _ HI2.out)))
                    have HW3 : Hid (∃ m, wr.drewN nq = w.drewN m) := Lib.hid (by obtain ⟨m, e⟩ := HW2.out; exact ⟨m + nq, by rw [e, World.drewN_drewN]⟩)
                    generalize wr.drewN nq = w3 at HW3 ⊢
                    go_wp2_with fail
                    go_ret3
                    have hh := HHIT.out rfl
                    exact ⟨ret_cut (by rw [hh]; rfl) (by rw [hh, HJ.out]; rfl) (by rw [hh]; rfl), HW3.out⟩
              · have HXT : Hid (∀ W, Ints W (some ⟨b, o, none⟩) t → Calls Tryz.prog 88 #[.slice (some ⟨b, o + n + j, none⟩) (t.length - n - j) (cap - n - j), .slice (some ⟨b, o + j, none⟩) (n - j) (cap - j)] W fun e w' => e = .returned (.bool tb) ∧ ∃ m, w' = W.drewN m) := Lib.hid (fun W hh => HT.out W _ hh (.inl rfl))
                clear HM HT
                cases mb with
                | false =>
                  go_wp2_with fail
                  go_quiet ((go_at_call_of 88 (some (⟨b, o + n + i, none⟩ : Addr)); exact Calls.quiet_of (HXM.out _ HI2.out)))
                  have HW3 : Hid (∃ m, wr.drewN nq = w.drewN m) := Lib.hid (by obtain ⟨m, e⟩ := HW2.out; exact ⟨m + nq, by rw [e, World.drewN_drewN]⟩)
                  generalize wr.drewN nq = w3 at HW3 ⊢
                  go_wp2_with fail
                  go_roundw
                  case rel => exact ⟨k + 1, by omega, by have := HJ.out; (first | rfl | (congr 1; omega) | (congr 1)), HSTEP.out rfl, HW3.out⟩
                  case measure => (have := HJ.out; simp [intOf]; try omega)
                | true =>
                  cases tb with
                  | false =>
                    go_wp2_with fail
                    go_quiet (first
                      | (go_at_call_of 88 (some (⟨b, o + n + i, none⟩ : Addr)); exact Calls.quiet_of (HXM.out _ HI2.out))
                      | (go_at_call_of 88 (some (⟨b, o + n + j, none⟩ : Addr)); exact Calls.quiet_of (HXT.out _ HI2.out)))
                    have HW3 : Hid (∃ m, wr.drewN nq = w.drewN m) := Lib.hid (by obtain ⟨m, e⟩ := HW2.out; exact ⟨m + nq, by rw [e, World.drewN_drewN]⟩)
                    generalize wr.drewN nq = w3 at HW3 ⊢
                    go_wp2_with fail
                    go_roundw
                    case rel => exact ⟨k + 1, by omega, by have := HJ.out; (first | rfl | (congr 1; omega) | (congr 1)), HSTEP.out rfl, HW3.out⟩
                    case measure => (have := HJ.out; simp [intOf]; try omega)
                  | true =>
                    go_wp2_with fail
                    go_quiet (first
                      | (go_at_call_of 88 (some (⟨b, o + n + i, none⟩ : Addr)); exact Calls.quiet_of (HXM.out _ HI2.out))
                      | (go_at_call_of 88 (some (⟨b, o + n + j, none⟩ : Addr)); exact Calls.quiet_of (HXT.out _ HI2.out)))
                    have HW3 : Hid (∃ m, wr.drewN nq = w.drewN m) := Lib.hid (by obtain ⟨m, e⟩ := HW2.out; exact ⟨m + nq, by rw [e, World.drewN_drewN]⟩)
                    generalize wr.drewN nq = w3 at HW3 ⊢
                    go_wp2_with fail
                    go_ret3
                    have hh := HHIT.out rfl
                    exact ⟨ret_cut (by rw [hh]; rfl) (by rw [hh, HJ.out]; rfl) (by rw [hh]; rfl), HW3.out⟩
          · obtain rfl : k = n + 1 - i := by omega
            have hk1 : ¬ (i : Int) + ((n + 1 - i : Nat) : Int) ≤ (n : Int) := by omega
            have HX : Hid (iC t n (n + 1 - (i + 1)) (i + 1) = iC t n (n + 1) 0) := Lib.hid (by
              have hj0 : jC t i (n + 1 - i) 0 = none := by rw [← HFk.out, Nat.sub_self]; rfl
              rw [← HFi.out, show n + 1 - i = (n + 1 - (i + 1)) + 1 by omega, iC, HD.out, if_pos rfl, show n + 1 - i = n + 1 - i from rfl, hj0])
            go_wp2_with fail
            go_roundw
            case rel => exact ⟨i + 1, by omega, by go_num, HX.out, HW2.out⟩
            case measure => simp [intOf]; omega
    · obtain rfl : i = n + 1 := by omega
      have HX : Hid (iC t n (n + 1) 0 = none) := Lib.hid (by rw [← HFi.out, Nat.sub_self]; rfl)
      have hi1 : ¬ ((n + 1 : Nat) : Int) < (n : Int) + 1 := by omega
      go_wp2_with fail
      go_ret3
      exact ⟨ret_cut (by rw [HX.out]; rfl) (by rw [HX.out]; rfl) (by rw [HX.out]; rfl), HW.out⟩

end Go.Proofs.YtmcbaejgimopmaaGreat
