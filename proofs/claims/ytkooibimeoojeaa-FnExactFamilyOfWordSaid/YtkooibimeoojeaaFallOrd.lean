/- Contracts: spec.HidesNail, FallOrder, LettersLeft. Conditions: numbers of 64 bits, lengths that fit. -/
import Derived.Test.YtkooibimeoojeaaFallRest
namespace Go.Proofs.Ytkooibimeoojeaa
open Go.ChangeShapes Go.WideShapes Go.ChangeAt Go.RowKit
set_option linter.unusedVariables false

def hidesV (xs : List Int) (p : Nat) : Bool := (nailSet (Plain.red xs)).testBit p && !(Plain.matter (Plain.fallsB xs)).testBit p
def hidesW (xs : List Int) (n : Int) : Bool := okW xs n && hidesV xs (n - 1).toNat
theorem hides_no {xs : List Int} {n : Int} (h : Plain.wordB xs = false ∨ nailB n = false) : hidesW xs n = false ∧ okW xs n = false := by simp [hidesW, ok_no h]
theorem hides_yes {xs : List Int} {p : Nat} (h : Plain.wordB xs = true) (hn : nailB ((p : Int) + 1) = true) : hidesW xs ((p : Int) + 1) = hidesV xs p ∧ okW xs ((p : Int) + 1) = true := by
  simp [hidesW, okW, h, hn]
set_option maxRecDepth 100000 in
set_option maxHeartbeats 1000000 in
theorem specHides_any (a : Option Addr) (cap : Nat) (xs : List Int) (n : Int) (w : World) (h : Hid (Ints w a xs)) (h64 : Hid (In64 xs)) (hn : xs.length ≤ 9223372036854775807) (hr : -9223372036854775808 ≤ n ∧ n ≤ 9223372036854775807) :
    Calls Try.prog 32 #[.slice a xs.length cap, .int .i64 n] w (Val (.tuple #[.bool (hidesW xs n), .bool (okW xs n)]) w) := by
  cases hw : Plain.wordB xs with
  | false =>
    have HE := Lib.hid (hides_no (n := n) (.inl hw))
    have HW := Lib.hid hw
    clear hw hr
    go_enter Try.func32, Try.ntmps32
    go_wp2_with fail
    refine (l2Word_any _ _ xs _ h h64 hn).mono ?_
    rw [HW.out]
    rintro e w' ⟨rfl, rfl⟩
    go_wp2_with fail
    go_ret2
    exact val_bb HE.out.1.symm HE.out.2.symm ⟨rfl, Below.refl _ _⟩
  | true =>
    have m1 := (Plain.wordB_iff.1 hw).1
    have HL := Lib.hid (Plain.wordB_iff.1 hw).2
    have HW := Lib.hid hw
    cases hs : nailB n with
    | false =>
      have HE := Lib.hid (hides_no (xs := xs) (.inr hs))
      have HN : Hid (decide (1 ≤ n ∧ n ≤ 6) = false) := Lib.hid hs
      have HR := Lib.hid hr
      clear hw hs hr
      go_enter Try.func32, Try.ntmps32
      go_wp2_with fail
      refine (l2Word_any _ _ xs _ h h64 hn).mono ?_
      rw [HW.out]
      rintro e w' ⟨rfl, rfl⟩
      go_wp2_with fail
      refine (l1In_any n 1 6 _ HR.out).mono ?_
      rw [HN.out]
      rintro e w' ⟨rfl, rfl⟩
      go_wp2_with fail
      go_ret2
      exact val_bb HE.out.1.symm HE.out.2.symm ⟨rfl, Below.refl _ _⟩
    | true =>
      obtain ⟨p, rfl, hp⟩ := nail_nat hs
      have HE := Lib.hid (hides_yes hw hs)
      have HN : Hid (decide (1 ≤ (p : Int) + 1 ∧ (p : Int) + 1 ≤ 6) = true) := Lib.hid hs
      have HR := Lib.hid hr
      have hrl := Plain.red_length xs
      have HLr := Lib.hid HL.out.red
      have hns := nailSet_lt HLr.out
      have hms := Plain.matterTo_lt (Plain.fallsB xs) 6 (Nat.le_refl _)
      obtain ⟨r, hrr⟩ : ∃ r, r = Plain.red xs := ⟨_, rfl⟩
      obtain ⟨t, ht⟩ : ∃ t, t = Plain.fallsB xs := ⟨_, rfl⟩
      obtain ⟨ns, hnn⟩ : ∃ ns, ns = nailSet r := ⟨_, rfl⟩
      obtain ⟨ms, hmm⟩ : ∃ ms, ms = Plain.matter t := ⟨_, rfl⟩
      have HV : Hid (hidesV xs p = (ns.testBit p && !ms.testBit p)) := Lib.hid (by rw [hidesV, hnn, hmm, hrr, ht])
      have hns2 : ns < 64 := by rw [hnn, hrr]; exact hns
      have hms2 : ms < 64 := by rw [hmm, ht]; exact hms
      rw [← hrr] at hrl HLr
      have HRR := Lib.hid hrr
      have HTT := Lib.hid ht
      have HNN := Lib.hid hnn
      have HMM := Lib.hid hmm
      clear hw hs hr hrr ht hnn hmm hns hms
      go_enter Try.func32, Try.ntmps32
      go_wp2_with fail
      refine (l2Word_any _ _ xs _ h h64 hn).mono ?_
      rw [HW.out]
      rintro e w' ⟨rfl, rfl⟩
      go_wp2_with fail
      refine (l1In_any ((p : Int) + 1) 1 6 _ HR.out).mono ?_
      rw [HN.out]
      rintro e w' ⟨rfl, rfl⟩
      go_wp2_with fail
      refine (l2Reduce_any _ _ xs _ h HL (by omega)).mono ?_
      rintro e w1 ⟨v, rfl, hres, hb⟩
      rw [← HRR.out] at hres
      obtain ⟨ra, rc, rfl, hi, -, -⟩ := hres
      have HI := Lib.hid hi
      have HB := Lib.hid hb
      have H1 := Lib.hid (h.out.on hb)
      clear hi hb
      go_wp2_with fail
      refine (l2Nails_any ra rc r _ HI HLr (by omega)).mono ?_
      rw [← HNN.out]
      rintro e w' ⟨rfl, rfl⟩
      go_wp2_with fail
      refine (l3In_any ns p _ hns2 hp).mono ?_
      rintro e w' ⟨rfl, rfl⟩
      cases hb1 : ns.testBit p with
      | false =>
        have HV2 : Hid (hidesV xs p = false) := Lib.hid (by rw [HV.out, hb1]; rfl)
        clear hb1
        go_wp2_with fail
        go_ret2
        exact val_bb (by rw [HE.out.1, HV2.out]) HE.out.2.symm ⟨rfl, HB.out⟩
      | true =>
        have HV2 : Hid (hidesV xs p = !ms.testBit p) := Lib.hid (by rw [HV.out, hb1]; rfl)
        clear hb1
        go_wp2_with fail
        refine (l3Table_any _ _ xs _ H1 HL (by omega)).mono ?_
        rw [← HTT.out]
        rintro e w2 ⟨rfl, hb⟩
        have HB2 := Lib.hid (HB.out.trans (hb.mono HB.out.size))
        clear hb
        go_wp2_with fail
        refine (l3Matter_any t _).mono ?_
        rw [← HMM.out]
        rintro e w3 ⟨rfl, hb⟩
        have HB3 := Lib.hid (HB2.out.trans (hb.mono HB2.out.size))
        clear hb
        go_wp2_with fail
        refine (l3In_any ms p _ hms2 hp).mono ?_
        rintro e w' ⟨rfl, rfl⟩
        go_wp2_with fail
        go_ret2
        exact val_bb (by rw [HE.out.1, HV2.out]) HE.out.2.symm ⟨rfl, HB3.out⟩

/-! an order of nails -/
def orderOk (xs ns : List Int) : Bool := Plain.wordB xs && Plain.nailsB ns
def orderB (xs ns : List Int) : Bool := orderOk xs ns && (Plain.orderOf (Plain.fallsB xs) ns).isSome
def orderV (xs ns : List Int) : Nat := if orderOk xs ns = true then (Plain.orderOf (Plain.fallsB xs) ns).getD 0 else 0
theorem order_no {xs ns : List Int} (h : Plain.wordB xs = false ∨ Plain.nailsB ns = false) : orderV xs ns = 0 ∧ orderB xs ns = false := by
  have hb : orderOk xs ns = false := by rcases h with h | h <;> simp [orderOk, h]
  simp [orderV, orderB, hb]
theorem order_yes {xs ns : List Int} (h : Plain.wordB xs = true) (hn : Plain.nailsB ns = true) : orderV xs ns = (Plain.orderOf (Plain.fallsB xs) ns).getD 0 ∧ orderB xs ns = (Plain.orderOf (Plain.fallsB xs) ns).isSome := by simp [orderV, orderB, orderOk, h, hn]
theorem nails_bad {ns : List Int} {k : Nat} {x : Int} (hx : ns[k]? = some x) (h : decide (1 ≤ x ∧ x ≤ 6) = false) : Plain.nailsB ns = false := by
  rw [Plain.nailsB, ← Bool.not_eq_true, List.all_eq_true]
  intro hall
  rw [hall x (List.mem_of_getElem? hx)] at h
  cases h
theorem nails_good {ns : List Int} (h : ∀ (j : Nat) (x : Int), ns[j]? = some x → decide (1 ≤ x ∧ x ≤ 6) = true) : Plain.nailsB ns = true := by
  rw [Plain.nailsB, List.all_eq_true]
  intro x hx
  obtain ⟨j, hj⟩ := List.getElem?_of_mem hx
  exact h j x hj
theorem nails_at {ns : List Int} {k : Nat} {x : Int} (h : Plain.nailsB ns = true) (hx : ns[k]? = some x) : 1 ≤ x ∧ x ≤ 6 := by
  have := List.all_eq_true.1 h x (List.mem_of_getElem? hx)
  simpa using this
theorem from_hit {t : Nat → Bool} {ns : List Int} {f k : Nat} (h : t (Plain.setTo ns k) = true) : Plain.orderFrom t ns (f + 1) k = some k := if_pos h
theorem from_miss {t : Nat → Bool} {ns : List Int} {f k : Nat} (h : t (Plain.setTo ns k) = false) : Plain.orderFrom t ns (f + 1) k = Plain.orderFrom t ns f (k + 1) := if_neg (by rw [h]; simp)
set_option maxRecDepth 100000 in
set_option maxHeartbeats 2000000 in
theorem specOrder_any (a1 a2 : Option Addr) (c1 c2 : Nat) (xs ns : List Int) (w : World) (h1 : Hid (Ints w a1 xs)) (n1 : Hid (In64 xs)) (h2 : Hid (Ints w a2 ns)) (n2 : Hid (In64 ns)) (hx : xs.length ≤ 9223372036854775807) (hy : ns.length ≤ 1048576) :
    Calls Try.prog 34 #[.slice a1 xs.length c1, .slice a2 ns.length c2] w (Val (.tuple #[.int .i64 (orderV xs ns : Nat), .bool (orderB xs ns)]) w) := by
  cases hw : Plain.wordB xs with
  | false =>
    have HE := Lib.hid (order_no (ns := ns) (.inl hw))
    have HW := Lib.hid hw
    clear hw
    go_enter Try.func34, Try.ntmps34
    go_wp2_with fail
    refine (l2Word_any _ _ xs _ h1 n1 hx).mono ?_
    rw [HW.out]
    rintro e w' ⟨rfl, rfl⟩
    go_wp2_with fail
    go_ret2
    exact val_ib HE.out.1.symm HE.out.2.symm ⟨rfl, Below.refl _ _⟩
  | true =>
    have m1 := (Plain.wordB_iff.1 hw).1
    have HL := Lib.hid (Plain.wordB_iff.1 hw).2
    have HW := Lib.hid hw
    clear hw
    go_enter Try.func34, Try.ntmps34
    go_wp2_with fail
    refine (l2Word_any _ _ xs _ h1 n1 hx).mono ?_
    rw [HW.out]
    rintro e w' ⟨rfl, rfl⟩
    go_wp2_with fail
    go_loop [6] (fun i => ∃ k : Nat, k ≤ ns.length ∧ i = .int .i64 (k : Int) ∧ ∀ (j : Nat) (x : Int), j < k → ns[j]? = some x → decide (1 ≤ x ∧ x ≤ 6) = true) (fun i => ns.length - (intOf i).toNat)
    case atStart => exact ⟨0, Nat.zero_le _, rfl, fun j x h => by omega⟩
    case round =>
      obtain ⟨k, hk, rfl, hrel⟩ := hrel
      have HA := Lib.hid hrel
      clear hrel
      by_cases hlt : k < ns.length
      · obtain ⟨x, hx0⟩ := at_some ns k hlt
        obtain ⟨b, o, rfl, hc⟩ := h2.out k x hx0
        have HR := Lib.hid (n2.out k x hx0)
        have HX := Lib.hid hx0
        have hi : (k : Int) < (ns.length : Int) := by omega
        have hi0 : (0 : Int) ≤ (k : Int) := by omega
        clear hx0
        go_wp2_with fail
        refine (l1In_any x 1 6 _ HR.out).mono ?_
        cases hd : decide (1 ≤ x ∧ x ≤ 6) with
        | false =>
          have HE := Lib.hid (order_no (xs := xs) (.inr (nails_bad HX.out hd)))
          clear hd
          rintro e w' ⟨rfl, rfl⟩
          go_wp2_with fail
          go_ret2
          exact val_ib HE.out.1.symm HE.out.2.symm ⟨rfl, Below.refl _ _⟩
        | true =>
          have HA2 : Hid (∀ (j : Nat) (y : Int), j < k + 1 → ns[j]? = some y → decide (1 ≤ y ∧ y ≤ 6) = true) := Lib.hid (fun j y hj hy => by
            by_cases e : j = k
            · subst e
              rw [HX.out] at hy
              cases hy
              exact hd
            · exact HA.out j y (by omega) hy)
          clear hd HA
          rintro e w' ⟨rfl, rfl⟩
          go_wp2_with fail
          go_round
          case rel => exact ⟨k + 1, by omega, by go_num, HA2.out⟩
          case measure => simp [intOf]; omega
      · obtain rfl : k = ns.length := by omega
        have hns : Plain.nailsB ns = true := nails_good (fun j x hj => HA.out j x (at_lt hj) hj)
        have HE0 := order_yes HW.out hns
        have HNS := Lib.hid hns
        obtain ⟨t, ht⟩ : ∃ t, t = Plain.fallsB xs := ⟨_, rfl⟩
        rw [← ht] at HE0
        have HE := Lib.hid HE0
        have HTT := Lib.hid ht
        clear hns HE0 ht HA
        go_wp2_with fail
        go_loopw [7, 8] (fun s i wr => ∃ k : Nat, k ≤ ns.length + 1 ∧ i = .int .i64 (k : Int) ∧ (k ≤ ns.length → s = .int .i64 (Plain.setTo ns k : Nat)) ∧ Plain.orderFrom t ns (ns.length + 1 - k) k = Plain.orderOf t ns ∧ Below w.heap.size w wr) (fun _ i _ => ns.length + 2 - (intOf i).toNat)
        case atStart => exact ⟨0, by omega, rfl, fun _ => rfl, rfl, Below.refl _ _⟩
        case round =>
          obtain ⟨k, hk, rfl, hset, hfrom, hb⟩ := hrel
          have HF := Lib.hid hfrom
          have HB := Lib.hid hb
          have HI := Lib.hid (h1.out.on hb)
          have HI2 := Lib.hid (h2.out.on hb)
          clear hfrom hb
          by_cases hlt : k ≤ ns.length
          · obtain rfl := hset hlt
            clear hset
            have hs64 := Plain.setTo_lt HNS.out k hlt
            have hi : (k : Int) ≤ (ns.length : Int) := by omega
            obtain ⟨f, hf⟩ : ∃ f, ns.length + 1 - k = f + 1 := ⟨ns.length - k, by omega⟩
            obtain ⟨s, hs⟩ : ∃ s, s = Plain.setTo ns k := ⟨_, rfl⟩
            rw [← hs] at hs64 ⊢
            have HS := Lib.hid hs
            have HFF := Lib.hid hf
            clear hs hf
            go_wp2_with fail
            refine (l3Falls_any _ _ xs s _ HI HL (by omega) hs64).mono ?_
            rw [← HTT.out]
            cases hts : t s with
            | true =>
              have HR2 : Hid (Plain.orderOf t ns = some k) := Lib.hid (by
                rw [← HF.out, HFF.out]
                exact from_hit (by rw [← HS.out]; exact hts))
              clear hts
              rintro e w1 ⟨rfl, hb⟩
              have HB2 := Lib.hid (HB.out.trans (hb.mono HB.out.size))
              clear hb
              go_wp2_with fail
              go_ret2
              exact val_ib (by rw [HE.out.1, HR2.out]; rfl) (by rw [HE.out.2, HR2.out]; rfl) ⟨rfl, HB2.out⟩
            | false =>
              have HR2 : Hid (Plain.orderFrom t ns (ns.length + 1 - (k + 1)) (k + 1) = Plain.orderOf t ns) := Lib.hid (by
                rw [← HF.out, HFF.out, from_miss (by rw [← HS.out]; exact hts)]
                congr 1
                have := HFF.out
                omega)
              clear hts
              rintro e w1 ⟨rfl, hb⟩
              have HB2 := Lib.hid (HB.out.trans (hb.mono HB.out.size))
              have HI3 := Lib.hid (HI2.out.on hb)
              clear hb HI2
              by_cases hlt2 : k < ns.length
              · obtain ⟨x, hx0⟩ := at_some ns k hlt2
                obtain ⟨b, o, rfl, hc⟩ := HI3.out k x hx0
                obtain ⟨hx1, hx2⟩ := nails_at HNS.out hx0
                obtain ⟨p, rfl⟩ : ∃ p : Nat, x = (p : Int) + 1 := ⟨(x - 1).toNat, by omega⟩
                have hp : p ≤ 5 := by omega
                obtain ⟨q, hq⟩ : ∃ q, q = 2 ^ p := ⟨_, rfl⟩
                have hq32 : q ≤ 32 := by rw [hq]; exact pow_small (by omega)
                have hpow : (2 : Int) ^ p = (q : Int) := by rw [hq]; simp
                have hor := or_small s q hs64 (by omega)
                have HN : Hid (s ||| q = Plain.setTo ns (k + 1)) := Lib.hid (by
                  rw [Plain.setTo, ← HS.out, hq, List.getD_eq_getElem?_getD, hx0]
                  congr 2)
                have hi2 : (k : Int) < (ns.length : Int) := by omega
                have hi0 : (0 : Int) ≤ (k : Int) := by omega
                clear hq hx0 HI3
                go_wp2_with fail
                go_roundw
                case rel => exact ⟨k + 1, by omega, by go_num, fun _ => by rw [HN.out], HR2.out, HB2.out⟩
                case measure => simp [intOf]; omega
              · have hi2 : ¬ (k : Int) < (ns.length : Int) := by omega
                go_wp2_with fail
                go_roundw
                case rel => exact ⟨k + 1, by omega, by go_num, fun h => by omega, HR2.out, HB2.out⟩
                case measure => simp [intOf]; omega
          · obtain rfl : k = ns.length + 1 := by omega
            have HR2 : Hid (Plain.orderOf t ns = none) := Lib.hid (by rw [← HF.out, Nat.sub_self]; rfl)
            have hi : ¬ ((ns.length + 1 : Nat) : Int) ≤ (ns.length : Int) := by omega
            clear hset
            go_wp2_with fail
            go_ret2
            exact val_ib (by rw [HE.out.1, HR2.out]; rfl) (by rw [HE.out.2, HR2.out]; rfl) ⟨rfl, HB.out⟩

end Go.Proofs.Ytkooibimeoojeaa
