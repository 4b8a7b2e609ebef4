/- Contracts: impl.isNail, areNails, sizeOf, areDifferentNails. Conditions: numbers of 64 bits, lengths that fit. -/
import Derived.Test.YtmcbaejgimopmaaGreatBdNailsWalks
import Derived.Test.YtmcbaejgimopmaaGreatComm
import Derived.Test.YtmcbaejgimopmaaGreatWord
namespace Go.Proofs.YtmcbaejgimopmaaGreat
open Go.ChangeShapes Go.WideShapes Go.ChangeAt Go.RowKit
set_option linter.unusedVariables false

/-! a list of different nails -/
def dnOne (n : Int) : Bool := decide (1 ≤ n ∧ n ≤ 6)
def dnAll (ns : List Int) : Bool := ns.all dnOne
theorem dn_mem {ns : List Int} (h : dnAll ns = true) : ∀ x ∈ ns, 1 ≤ x ∧ x ≤ 6 := fun x hx => by
  have := List.all_eq_true.1 h x hx
  simpa [dnOne] using this
theorem dn_bad {ns : List Int} {k : Nat} {x : Int} (hx : ns[k]? = some x) (h : dnOne x = false) : dnAll ns = false := by
  rw [← Bool.not_eq_true, dnAll, List.all_eq_true]
  intro hall
  rw [hall x (List.mem_of_getElem? hx)] at h
  cases h
theorem dn_good {ns : List Int} (h : ∀ (j : Nat) (x : Int), ns[j]? = some x → dnOne x = true) : dnAll ns = true := by
  rw [dnAll, List.all_eq_true]
  intro x hx
  obtain ⟨j, hj⟩ := List.getElem?_of_mem hx
  exact h j x hj
theorem many_or_all : ((List.range 64).all fun s => (List.range 6).all fun p => Plain.many (s ||| 2 ^ p) == Plain.many s + (if s.testBit p then 0 else 1)) = true := by kernel_rfl
theorem many_or {s p : Nat} (hs : s < 64) (hp : p < 6) : Plain.many (s ||| 2 ^ p) = Plain.many s + (if s.testBit p then 0 else 1) := by
  have h1 := List.all_eq_true.1 many_or_all s (List.mem_range.2 hs)
  have h2 := List.all_eq_true.1 h1 p (List.mem_range.2 hp)
  simpa using h2
theorem nail_step {s : Nat} {x : Int} (h : 1 ≤ x ∧ x ≤ 6) : nailStep s x = s ||| 2 ^ (x.toNat - 1) := by
  unfold nailStep Plain.nail
  split
  · first | rfl | (exfalso; omega)
  · first | rfl | (exfalso; omega)
theorem has_snoc (l : List Int) (x y : Int) : Plain.memB (l ++ [x]) y = (Plain.memB l y || decide (x = y)) := by simp [Plain.memB]
theorem bit_has {ns : List Int} (h : ∀ x ∈ ns, 1 ≤ x ∧ x ≤ 6) {p : Nat} (hp : p < 6) : ∀ k, k ≤ ns.length → (nailSet (ns.take k)).testBit p = Plain.memB (ns.take k) ((p : Int) + 1)
  | 0, _ => by simp [nailSet, Plain.memB]
  | k + 1, hk => by
    obtain ⟨x, hx⟩ := at_some ns k (by omega)
    have h1 := h x (List.mem_of_getElem? hx)
    rw [nailSet_take hx, nail_step h1, Nat.testBit_or, bit_has h hp k (by omega), Plain.take_snoc hx, has_snoc, Nat.testBit_two_pow]
    congr 1
    exact decide_eq_decide.2 (by omega)
theorem many_good {ns : List Int} (h : ∀ x ∈ ns, 1 ≤ x ∧ x ≤ 6) : ∀ k, k ≤ ns.length → Plain.many (nailSet (ns.take k)) ≤ k ∧ (Plain.many (nailSet (ns.take k)) = k ↔ Plain.goodTo ns k = true)
  | 0, _ => by
    have e : Plain.many (nailSet (ns.take 0)) = 0 := by rw [List.take_zero]; kernel_rfl
    rw [e]
    exact ⟨Nat.le_refl _, by simp [Plain.goodTo]⟩
  | k + 1, hk => by
    obtain ⟨x, hx⟩ := at_some ns k (by omega)
    have h1 := h x (List.mem_of_getElem? hx)
    obtain ⟨i1, i2⟩ := many_good h k (by omega)
    have hl : Plain.Letters (ns.take k) := fun y hy => by have := h y (List.mem_of_mem_take hy); omega
    have hm := many_or (nailSet_lt hl) (show x.toNat - 1 < 6 by omega)
    rw [bit_has h (by omega) k (by omega), show ((x.toNat - 1 : Nat) : Int) + 1 = x by omega] at hm
    rw [nailSet_take hx, nail_step h1, hm]
    have hn : Plain.nailAt ns k = !Plain.memB (ns.take k) x := by
      unfold Plain.nailAt
      rw [List.getD_eq_getElem?_getD, hx]
      simp [h1]
    rw [Plain.goodTo, hn]
    cases Plain.memB (ns.take k) x with
    | true => simp; omega
    | false =>
      simp only [Bool.false_eq_true, if_false, Bool.not_false, Bool.and_true]
      rw [← i2]
      omega
theorem dn_ok (ns : List Int) : (decide (0 < ns.length) && (dnAll ns && decide (Plain.many (nailSet ns) = ns.length))) = Plain.nailsOk ns := by
  cases ha : dnAll ns with
  | false =>
    cases hk : Plain.nailsOk ns with
    | false => simp
    | true =>
      have h := (Plain.nailsOk_letters hk).2
      rw [← Bool.not_eq_true, dnAll, List.all_eq_true] at ha
      exact absurd (fun x hx => by simp [dnOne, h x hx]) ha
  | true =>
    have h := many_good (dn_mem ha) ns.length (Nat.le_refl _)
    rw [List.take_length] at h
    have h6 := Plain.many_le (nailSet ns)
    rw [Plain.nailsOk]
    cases hg : Plain.goodTo ns ns.length with
    | false =>
      have : ¬ Plain.many (nailSet ns) = ns.length := fun e => by rw [h.2.1 e] at hg; cases hg
      simp [this]
    | true =>
      have e := h.2.2 hg
      rw [e] at h6
      have e2 : decide (0 < ns.length) = decide (1 ≤ ns.length ∧ ns.length ≤ 6) := decide_eq_decide.2 (by omega)
      rw [e2, e]
      simp

theorem dnIsNail_any (n : Int) (w : World) (h : -9223372036854775808 ≤ n ∧ n ≤ 9223372036854775807) : Calls Tryz.prog 93 #[.int .i64 n] w fun e w' => e = .returned (.bool (dnOne n)) ∧ w = w' := by
  by_cases h0 : 1 ≤ n
  · by_cases h1 : n ≤ 6
    · have HE : Hid (dnOne n = true) := Lib.hid (by simp [dnOne]; omega)
      go_enter Tryz.func93, Tryz.ntmps93
      go_wp2_with fail
      go_ret
      exact ⟨ret_bool HE.out.symm, rfl⟩
    · have HE : Hid (dnOne n = false) := Lib.hid (by simp [dnOne]; omega)
      go_enter Tryz.func93, Tryz.ntmps93
      go_wp2_with fail
      go_ret
      exact ⟨ret_bool HE.out.symm, rfl⟩
  · have HE : Hid (dnOne n = false) := Lib.hid (by simp [dnOne]; omega)
    go_enter Tryz.func93, Tryz.ntmps93
    go_wp2_with fail
    go_ret
    exact ⟨ret_bool HE.out.symm, rfl⟩
set_option maxRecDepth 100000 in
set_option maxHeartbeats 800000 in
theorem dnAll_any (a : Option Addr) (cap : Nat) (ns : List Int) (w : World) (h : Hid (Ints w a ns)) (h64 : Hid (In64 ns)) (hn : ns.length ≤ 1048576) :
    Calls Tryz.prog 77 #[.slice a ns.length cap] w fun e w' => e = .returned (.bool (dnAll ns)) ∧ w = w' := by
  go_enter Tryz.func77, Tryz.ntmps77
  go_wp2_with fail
  go_loop [7] (fun i => ∃ k : Nat, k ≤ ns.length ∧ i = .int .i64 (k : Int) ∧ ∀ (j : Nat) (x : Int), j < k → ns[j]? = some x → dnOne x = true) (fun i => ns.length - (intOf i).toNat)
  case atStart => exact ⟨0, Nat.zero_le _, rfl, fun j x h => by omega⟩
  case round =>
    obtain ⟨k, hk, rfl, hrel⟩ := hrel
    have HA := Lib.hid hrel
    clear hrel
    by_cases hlt : k < ns.length
    · obtain ⟨x, hx0⟩ := at_some ns k hlt
      obtain ⟨b, o, rfl, hc⟩ := h.out k x hx0
      have HR := Lib.hid (h64.out k x hx0)
      have HX := Lib.hid hx0
      have hi : (k : Int) < (ns.length : Int) := by omega
      have hi0 : (0 : Int) ≤ (k : Int) := by omega
      clear hx0
      go_wp2_with fail
      refine (dnIsNail_any x _ HR.out).mono ?_
      cases hd : dnOne x with
      | false =>
        have HE : Hid (dnAll ns = false) := Lib.hid (dn_bad HX.out hd)
        clear hd
        rintro e w' ⟨rfl, rfl⟩
        go_wp2_with fail
        go_ret
        exact ⟨ret_bool HE.out.symm, rfl⟩
      | true =>
        have HA2 : Hid (∀ (j : Nat) (y : Int), j < k + 1 → ns[j]? = some y → dnOne y = true) := Lib.hid (fun j y hj hy => by
          by_cases e : j = k
          · subst e
            rw [HX.out] at hy
            cases hy
            exact hd
          · exact HA.out j y (by omega) hy)
        clear hd HA
        rintro e w' ⟨rfl, rfl⟩
        go_wp2_with fail
        go_round
        case rel => exact ⟨k + 1, by omega, by go_num, HA2.out⟩
        case measure => simp [intOf]; omega
    · obtain rfl : k = ns.length := by omega
      have HNS : Hid (dnAll ns = true) := Lib.hid (dn_good (fun j x hj => HA.out j x (at_lt hj) hj))
      clear HA
      go_wp2_with fail
      go_ret
      exact ⟨ret_bool HNS.out.symm, rfl⟩
theorem dn64 {f g : Nat → Int} (h : ((List.range 64).all fun s => f s == g s) = true) : ∀ s : Nat, s < 64 → f s = g s := by
  intro s hs
  simpa using List.all_eq_true.1 h s (List.mem_range.2 hs)
set_option maxRecDepth 100000 in
theorem dnOnes64_any (s : Nat) (w : World) (hs : s < 64) : Calls Tryz.prog 107 #[.int .u64 (s : Int)] w fun e w' => e = .returned (.int .i64 (Plain.many s : Nat)) ∧ w = w' := by
  go_enter Tryz.func107, Tryz.ntmps107
  go_wp2_with fail
  go_ret
  refine ⟨ret_int ?_, rfl⟩
  revert s
  refine dn64 ?_
  kernel_rfl
theorem dnSize_any (s : Nat) (w : World) (hs : s < 64) : Calls Tryz.prog 78 #[.int .i64 (s : Int)] w fun e w' => e = .returned (.int .i64 (Plain.many s : Nat)) ∧ w = w' := by
  have HC : Hid (∀ W, Calls Tryz.prog 94 #[.int .u64 (s : Int)] W fun e w' => e = .returned (.int .i64 (Plain.many s : Nat)) ∧ W = w') := Lib.hid (fun W => by
    go_enter Tryz.func94, Tryz.ntmps94
    go_wp2_with fail
    refine (dnOnes64_any s _ hs).mono ?_
    rintro e w' ⟨rfl, rfl⟩
    go_wp2_with fail
    go_ret
    exact ⟨rfl, rfl⟩)
  go_enter Tryz.func78, Tryz.ntmps78
  go_wp2_with fail
  refine (HC.out _).mono ?_
  rintro e w' ⟨rfl, rfl⟩
  go_wp2_with fail
  go_ret
  exact ⟨rfl, rfl⟩
set_option maxRecDepth 100000 in
set_option maxHeartbeats 400000 in
theorem different_any (a : Option Addr) (cap : Nat) (ns : List Int) (w : World) (h : Hid (Ints w a ns)) (h64 : Hid (In64 ns)) (hn : ns.length ≤ 1048576) :
    Calls Tryz.prog 41 #[.slice a ns.length cap] w fun e w' => e = .returned (.bool (Plain.nailsOk ns)) ∧ w = w' := by
  rw [← dn_ok]
  by_cases h0 : 0 < ns.length
  · have hi0 : (0 : Int) < (ns.length : Int) := by omega
    have HA := Lib.hid (dnAll_any a cap ns w h h64 hn)
    rw [decide_eq_true h0, Bool.true_and]
    cases ha : dnAll ns with
    | false =>
      rw [ha] at HA
      clear ha
      rw [Bool.false_and]
      go_enter Tryz.func41, Tryz.ntmps41
      go_wp2_with fail
      refine HA.out.mono ?_
      rintro e w' ⟨rfl, rfl⟩
      go_wp2_with fail
      go_ret
      exact ⟨rfl, rfl⟩
    | true =>
      rw [ha] at HA
      have hl : Plain.Letters ns := fun x hx => by have := dn_mem ha x hx; omega
      have HN := Lib.hid (nails_any a cap ns w h (Lib.hid hl) hn)
      have hs := nailSet_lt hl
      rw [Bool.true_and]
      generalize nailSet ns = m at HN hs ⊢
      have HZ := Lib.hid (dnSize_any m w hs)
      generalize Plain.many m = k at HZ ⊢
      have hq : ((k : Int) == (ns.length : Int)) = decide (k = ns.length) := by
        by_cases e : k = ns.length <;> simp [e]
        omega
      clear ha hl hs
      go_enter Tryz.func41, Tryz.ntmps41
      go_wp2_with fail
      refine HA.out.mono ?_
      rintro e w' ⟨rfl, rfl⟩
      go_wp2_with fail
      refine HN.out.mono ?_
      rintro e w' ⟨rfl, rfl⟩
      go_wp2_with fail
      refine HZ.out.mono ?_
      rintro e w' ⟨rfl, rfl⟩
      go_wp2_with fail
      go_ret
      exact ⟨rfl, rfl⟩
  · have hz : ns.length = 0 := by omega
    have hi0 : ((ns.length : Nat) : Int) = 0 := by omega
    rw [decide_eq_false h0, Bool.false_and]
    go_enter Tryz.func41, Tryz.ntmps41
    go_wp2_with fail
    go_ret
    exact ⟨rfl, rfl⟩

end Go.Proofs.YtmcbaejgimopmaaGreat
