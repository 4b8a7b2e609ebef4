/- Contracts: impl.areNails, impl.FallOrder. Conditions: numbers of 64 bits, lengths that fit. -/
import Derived.Test.YtkooibimeoojeaaImpl3F
import Derived.Test.YtkooibimeoojeaaFallOrd
namespace Go.Proofs.Ytkooibimeoojeaa
open Go.ChangeShapes Go.WideShapes Go.ChangeAt Go.RowKit
set_option linter.unusedVariables false

set_option maxRecDepth 100000 in
set_option maxHeartbeats 800000 in
theorem areNails_any (a : Option Addr) (cap : Nat) (ns : List Int) (w : World) (h : Hid (Ints w a ns)) (h64 : Hid (In64 ns)) (hn : ns.length ≤ 1048576) :
    Calls Try.prog 63 #[.slice a ns.length cap] w fun e w' => e = .returned (.bool (Plain.nailsB ns)) ∧ w = w' := by
  go_enter Try.func63, Try.ntmps63
  go_wp2_with fail
  go_loop [7] (fun i => ∃ k : Nat, k ≤ ns.length ∧ i = .int .i64 (k : Int) ∧ ∀ (j : Nat) (x : Int), j < k → ns[j]? = some x → decide (1 ≤ x ∧ x ≤ 6) = true) (fun i => ns.length - (intOf i).toNat)
  case atStart => exact ⟨0, Nat.zero_le _, rfl, fun j x h => by omega⟩
  case round =>
    obtain ⟨k, hk, rfl, hrel⟩ := hrel
    have HA := Lib.hid hrel
    clear hrel
    by_cases hlt : k < ns.length
    · obtain ⟨x, hx0⟩ := at_some ns k hlt
      obtain ⟨b, o, rfl, hc⟩ := h.out k x hx0
      have HR := Lib.hid (h64.out k x hx0)
      have HX := Lib.hid hx0
      have hi : (k : Int) < (ns.length : Int) := by omega
      have hi0 : (0 : Int) ≤ (k : Int) := by omega
      clear hx0
      go_wp2_with fail
      refine (isNail_any x _ HR.out).mono ?_
      cases hd : nailB x with
      | false =>
        have HE : Hid (Plain.nailsB ns = false) := Lib.hid (nails_bad HX.out hd)
        clear hd
        rintro e w' ⟨rfl, rfl⟩
        go_wp2_with fail
        go_ret
        exact ⟨ret_bool HE.out.symm, rfl⟩
      | true =>
        have HA2 : Hid (∀ (j : Nat) (y : Int), j < k + 1 → ns[j]? = some y → decide (1 ≤ y ∧ y ≤ 6) = true) := Lib.hid (fun j y hj hy => by
          by_cases e : j = k
          · subst e
            rw [HX.out] at hy
            cases hy
            exact hd
          · exact HA.out j y (by omega) hy)
        clear hd HA
        rintro e w' ⟨rfl, rfl⟩
        go_wp2_with fail
        go_round
        case rel => exact ⟨k + 1, by omega, by go_num, HA2.out⟩
        case measure => simp [intOf]; omega
    · obtain rfl : k = ns.length := by omega
      have HNS : Hid (Plain.nailsB ns = true) := Lib.hid (nails_good (fun j x hj => HA.out j x (at_lt hj) hj))
      clear HA
      go_wp2_with fail
      go_ret
      exact ⟨ret_bool HNS.out.symm, rfl⟩
set_option maxRecDepth 100000 in
set_option maxHeartbeats 2000000 in
theorem implFallOrder_any (a1 a2 : Option Addr) (c1 c2 : Nat) (xs ns : List Int) (w : World) (h1 : Hid (Ints w a1 xs)) (n1 : Hid (In64 xs)) (h2 : Hid (Ints w a2 ns)) (n2 : Hid (In64 ns)) (hx : xs.length ≤ 9223372036854775807) (hy : ns.length ≤ 1048576) :
    Calls Try.prog 35 #[.slice a1 xs.length c1, .slice a2 ns.length c2] w (Val (.tuple #[.int .i64 (orderV xs ns : Nat), .bool (orderB xs ns)]) w) := by
  cases hw : Plain.wordB xs with
  | false =>
    have HE := Lib.hid (order_no (ns := ns) (.inl hw))
    have HW := Lib.hid hw
    clear hw
    go_enter Try.func35, Try.ntmps35
    go_wp2_with fail
    refine (isWord_any _ _ xs _ h1 n1 hx).mono ?_
    rw [HW.out]
    rintro e w' ⟨rfl, rfl⟩
    go_wp2_with fail
    go_ret2
    exact val_ib HE.out.1.symm HE.out.2.symm ⟨rfl, Below.refl _ _⟩
  | true =>
    have m1 := (Plain.wordB_iff.1 hw).1
    have HL := Lib.hid (Plain.wordB_iff.1 hw).2
    have HW := Lib.hid hw
    cases hns : Plain.nailsB ns with
    | false =>
      have HE := Lib.hid (order_no (xs := xs) (.inr hns))
      have HN := Lib.hid hns
      clear hw hns
      go_enter Try.func35, Try.ntmps35
      go_wp2_with fail
      refine (isWord_any _ _ xs _ h1 n1 hx).mono ?_
      rw [HW.out]
      rintro e w' ⟨rfl, rfl⟩
      go_wp2_with fail
      refine (areNails_any _ _ ns _ h2 n2 hy).mono ?_
      rw [HN.out]
      rintro e w' ⟨rfl, rfl⟩
      go_wp2_with fail
      go_ret2
      exact val_ib HE.out.1.symm HE.out.2.symm ⟨rfl, Below.refl _ _⟩
    | true =>
      have hE := order_yes hw hns
      have HN := Lib.hid hns
      obtain ⟨t, ht⟩ : ∃ t, t = Plain.fallsB xs := ⟨_, rfl⟩
      rw [← ht] at hE
      have HE := Lib.hid hE
      have HTT := Lib.hid ht
      clear hw hns hE ht
      go_enter Try.func35, Try.ntmps35
      go_wp2_with fail
      refine (isWord_any _ _ xs _ h1 n1 hx).mono ?_
      rw [HW.out]
      rintro e w' ⟨rfl, rfl⟩
      go_wp2_with fail
      refine (areNails_any _ _ ns _ h2 n2 hy).mono ?_
      rw [HN.out]
      rintro e w' ⟨rfl, rfl⟩
      go_wp2_with fail
      refine (fallTable_any _ _ xs _ h1 HL (by omega)).mono ?_
      rw [← HTT.out]
      rintro e w1 ⟨rfl, hb⟩
      have HB := Lib.hid (hb.alloc hb.size (.cells (bools fun _ => false) 50))
      have HT0 := Lib.hid (tabF_new w1 (fun _ => false))
      have HB1 := Lib.hid (below_setRow HB.out hb.size (bools t))
      have HT := Lib.hid (tabF_row (t := t) HT0.out)
      have hc0 := HT.out.cell (i := 0) (by omega)
      rw [bools_zero] at hc0
      clear hb
      cases ht0 : t 0 with
      | true =>
        rw [ht0] at hc0
        have HR2 : Hid (Plain.orderOf t ns = some 0) := Lib.hid (from_hit (f := ns.length) (k := 0) ht0)
        clear ht0
        go_wp2_with (refine wpList_store_row rfl 50 _ _ rfl w1.heap.size (bools t) rfl rfl 50 (bools fun _ => false) (by rw [bools_zero]; exact heap_alloc_new _ _) info64f rfl (bools_one _) ?_)
        rw [← bools_zero]
        go_ret2
        exact val_ib (by rw [HE.out.1, HR2.out]; rfl) (by rw [HE.out.2, HR2.out]; rfl) ⟨rfl, HB1.out⟩
      | false =>
        rw [ht0] at hc0
        have HR2 : Hid (Plain.orderFrom t ns ns.length 1 = Plain.orderOf t ns) := Lib.hid (from_miss (f := ns.length) (k := 0) ht0).symm
        clear ht0
        go_wp2_with (refine wpList_store_row rfl 50 _ _ rfl w1.heap.size (bools t) rfl rfl 50 (bools fun _ => false) (by rw [bools_zero]; exact heap_alloc_new _ _) info64f rfl (bools_one _) ?_)
        rw [← bools_zero]
        obtain ⟨W, hW⟩ : ∃ W, W = ((w1.alloc (.cells (bools fun _ => false) 50)).setRow w1.heap.size (bools t)) := ⟨_, rfl⟩
        rw [← hW] at HB1 HT ⊢
        clear hW HB HT0 hc0
        have HI2 := Lib.hid (h2.out.on HB1.out)
        go_loop [7, 24] (fun o i => ∃ k : Nat, k ≤ ns.length ∧ i = .int .i64 (k : Int) ∧ o = .int .i64 (Plain.setTo ns k : Nat) ∧ Plain.orderFrom t ns (ns.length - k) (k + 1) = Plain.orderOf t ns) (fun _ i => ns.length - (intOf i).toNat)
        case atStart => exact ⟨0, Nat.zero_le _, rfl, rfl, HR2.out⟩
        case round =>
          obtain ⟨k, hk, rfl, rfl, hfrom⟩ := hrel
          have HF := Lib.hid hfrom
          clear hfrom
          have hs64 := Plain.setTo_lt HN.out k hk
          obtain ⟨s, hs⟩ : ∃ s, s = Plain.setTo ns k := ⟨_, rfl⟩
          rw [← hs] at hs64 ⊢
          by_cases hlt : k < ns.length
          · obtain ⟨f, hf⟩ : ∃ f, ns.length - k = f + 1 := ⟨ns.length - k - 1, by omega⟩
            have HS := Lib.hid hs
            have HFF := Lib.hid hf
            clear hs hf
            obtain ⟨x, hx0⟩ := at_some ns k hlt
            obtain ⟨b, o, rfl, hc⟩ := HI2.out k x hx0
            obtain ⟨hx1, hx2⟩ := nails_at HN.out hx0
            obtain ⟨p, rfl⟩ : ∃ p : Nat, x = (p : Int) + 1 := ⟨(x - 1).toNat, by omega⟩
            have hp : p ≤ 5 := by omega
            obtain ⟨q, hq⟩ : ∃ q, q = 2 ^ p := ⟨_, rfl⟩
            have hq32 : q ≤ 32 := by rw [hq]; exact pow_small (by omega)
            have hpow : (2 : Int) ^ p = (q : Int) := by rw [hq]; simp
            have HP := Lib.hid hpow
            have hor := or_small s q hs64 (by omega)
            obtain ⟨u, hu⟩ : ∃ u, u = s ||| q := ⟨_, rfl⟩
            have hNu : u = Plain.setTo ns (k + 1) := by
              rw [hu, Plain.setTo, ← HS.out, hq, List.getD_eq_getElem?_getD, hx0]
              congr 2
            rw [← hu] at hor
            have hu64 : u < 64 := by rw [hNu]; exact Plain.setTo_lt HN.out (k + 1) hlt
            have hcu := HT.out.cell hu64
            have hi2 : (k : Int) < (ns.length : Int) := by omega
            have hi0 : (0 : Int) ≤ (k : Int) := by omega
            have hu0 : (0 : Int) ≤ (u : Int) := by omega
            have hu1 : (u : Int) < 64 := by omega
            have HNU := Lib.hid hNu
            clear hq hx0 hu hNu hpow
            cases htu : t u with
            | true =>
              rw [htu] at hcu
              have HR3 : Hid (Plain.orderOf t ns = some (k + 1)) := Lib.hid (by
                rw [← HF.out, HFF.out]
                exact from_hit (by rw [← HNU.out]; exact htu))
              clear htu
              go_wp2_with fail
              refine (nailSet_any p q _ hp HP.out).mono ?_
              rintro e w' ⟨rfl, rfl⟩
              go_wp2_with fail
              go_ret2
              refine val_ib (a := k + 1) (c := true) (by rw [HE.out.1, HR3.out]; rfl) (by rw [HE.out.2, HR3.out]; rfl) ⟨?_, HB1.out⟩
              simp
            | false =>
              rw [htu] at hcu
              have HR3 : Hid (Plain.orderFrom t ns (ns.length - (k + 1)) (k + 1 + 1) = Plain.orderOf t ns) := Lib.hid (by
                rw [← HF.out, HFF.out, from_miss (by rw [← HNU.out]; exact htu)]
                congr 1
                have := HFF.out
                omega)
              clear htu
              go_wp2_with fail
              refine (nailSet_any p q _ hp HP.out).mono ?_
              rintro e w' ⟨rfl, rfl⟩
              go_wp2_with fail
              go_round
              case rel => exact ⟨k + 1, by omega, by go_num, by rw [HNU.out], HR3.out⟩
              case measure => simp [intOf]; omega
          · obtain rfl : k = ns.length := by omega
            have HR3 : Hid (Plain.orderOf t ns = none) := Lib.hid (by rw [← HF.out, Nat.sub_self]; rfl)
            clear hs
            go_wp2_with fail
            go_ret2
            exact val_ib (by rw [HE.out.1, HR3.out]; rfl) (by rw [HE.out.2, HR3.out]; rfl) ⟨rfl, HB1.out⟩

end Go.Proofs.Ytkooibimeoojeaa
