/- Contracts: spec.l4Balanced, BalancedWord. Conditions: numbers of 64 bits, lengths that fit. -/
import Derived.Test.YtmcbaejgimopmaaGreatLeftSpec
import Derived.Deep.RegionWith
namespace Go.Proofs.YtmcbaejgimopmaaGreat
open Go.ChangeShapes Go.WideShapes Go.ChangeAt Go.RowKit
set_option linter.unusedVariables false

set_option maxRecDepth 100000 in
set_option maxHeartbeats 2000000 in
theorem l4Balanced_any (f : Nat) : ∀ (a : Option Addr) (cap n : Nat) (ns : List Int) (w : World), f ≤ 3 → ns.length = n → 1 ≤ n → n ≤ 2 ^ f → Hid (Ints w a ns) → Hid (Cap a n cap) → Hid (Plain.Letters ns) →
    Calls Tryz.prog 46 #[.slice a n cap] w (ListPost (Plain.bal f ns) w) := by
  induction f with
  | zero =>
    intro a cap n ns w _ hn h1 h2 h hcp hl
    obtain rfl : n = 1 := by simp at h2; omega
    obtain ⟨x, hx⟩ := at_some ns 0 (by omega)
    obtain ⟨b, o, rfl, hc⟩ := h.out 0 x hx
    rw [Nat.add_zero] at hc
    have HE : Hid (Plain.bal 0 ns = [x]) := Lib.hid (take_one hx)
    have HO := Lib.hid (ints_one w x)
    have HOw := Lib.hid (own_one w x (Nat.le_refl _) 1)
    clear hx hn
    go_enter Tryz.func46, Tryz.ntmps46
    go_wp2_with fail
    go_ret
    exact ⟨_, rfl, by rw [HE.out]; exact ⟨_, 1, rfl, HO.out, HOw.out, cap_copy _ (Nat.le_of_ble_eq_true rfl)⟩, (Below.refl _ _).alloc (Nat.le_refl _) _⟩
  | succ f ih =>
    intro a cap n ns w hf hn h1 h2 h hcp hl
    by_cases he : n = 1
    · subst he
      obtain ⟨x, hx⟩ := at_some ns 0 (by omega)
      obtain ⟨b, o, rfl, hc⟩ := h.out 0 x hx
      rw [Nat.add_zero] at hc
      have HE : Hid (Plain.bal (f + 1) ns = [x]) := Lib.hid (by rw [Plain.bal, if_pos hn]; exact take_one hx)
      have HO := Lib.hid (ints_one w x)
      have HOw := Lib.hid (own_one w x (Nat.le_refl _) 1)
      clear hx hn ih
      go_enter Tryz.func46, Tryz.ntmps46
      go_wp2_with fail
      go_ret
      exact ⟨_, rfl, by rw [HE.out]; exact ⟨_, 1, rfl, HO.out, HOw.out, cap_copy _ (Nat.le_of_ble_eq_true rfl)⟩, (Below.refl _ _).alloc (Nat.le_refl _) _⟩
    · obtain ⟨x, hx⟩ := at_some ns 0 (by omega)
      obtain ⟨b, o, rfl, -⟩ := h.out 0 x hx
      clear hx
      obtain ⟨k, hk⟩ : ∃ k, k = (n + 1) / 2 := ⟨_, rfl⟩
      have hpow : n ≤ 2 * 2 ^ f := by rw [Nat.pow_succ] at h2; omega
      have hkn : k < n := by omega
      have hk1 : 1 ≤ k := by omega
      have hkp : k ≤ 2 ^ f := by omega
      have hmp : n - k ≤ 2 ^ f := by omega
      have hn8 : n ≤ 16 := by
        have : 2 ^ f ≤ 2 ^ 3 := Nat.pow_le_pow_right (by decide) (by omega)
        omega
      have hc1 := hcp.out.1
      have hc2 := hcp.out.2.1
      have ht : (ns.take k).length = k := by simp; omega
      have hd : (ns.drop k).length = n - k := by simp; omega
      have HI1 : Hid (Ints w.drew (some ⟨b, o, none⟩) (ns.take k)) := Lib.hid (h.out.upto k)
      have HI2 : Hid (Ints w.drew (some ⟨b, o + k, none⟩) (ns.drop k)) := Lib.hid (h.out.from k)
      have HK1 := Lib.hid (cap_upto hcp.out (k := k) (by omega))
      have HK2 := Lib.hid (cap_from hcp.out (k := k) (by omega))
      have HL1 : Hid (Plain.Letters (ns.take k)) := Lib.hid (hl.out.sub fun x hx => List.mem_of_mem_take hx)
      have HL2 : Hid (Plain.Letters (ns.drop k)) := Lib.hid (hl.out.sub fun x hx => List.mem_of_mem_drop hx)
      have hE : Plain.bal (f + 1) ns = Plain.comm (Plain.bal f (ns.take k)) (Plain.bal f (ns.drop k)) := by rw [Plain.bal, if_neg (by omega), hn, ← hk]
      have hb1 := Plain.bal_le f (ns.take k)
      have hb2 := Plain.bal_le f (ns.drop k)
      have h4 : 4 ^ f ≤ 64 := Nat.le_trans (Nat.pow_le_pow_right (by decide) (by omega : f ≤ 3)) (by decide)
      have HM1 := Lib.hid (Plain.Letters.bal f HL1.out)
      have HM2 := Lib.hid (Plain.Letters.bal f HL2.out)
      have c1 := fun W (hh : Hid (Ints W (some ⟨b, o, none⟩) (ns.take k))) => ih (some ⟨b, o, none⟩) cap k (ns.take k) W (by omega) ht hk1 hkp hh HK1 HL1
      have c2 := fun W (hh : Hid (Ints W (some ⟨b, o + k, none⟩) (ns.drop k))) => ih (some ⟨b, o + k, none⟩) (cap - k) (n - k) (ns.drop k) W (by omega) hd (by omega) hmp hh HK2 HL2
      obtain ⟨us, hus⟩ : ∃ z, z = Plain.bal f (ns.take k) := ⟨_, rfl⟩
      obtain ⟨vs, hvs⟩ : ∃ z, z = Plain.bal f (ns.drop k) := ⟨_, rfl⟩
      rw [← hus] at c1 hE hb1 HM1
      rw [← hvs] at c2 hE hb2 HM2
      have C1 := Lib.hid c1
      have C2 := Lib.hid c2
      have HE := Lib.hid hE
      have hul : us.length ≤ 64 := by omega
      have hvl : vs.length ≤ 64 := by omega
      have hne : ¬ cap = k := by omega
      have hq1 : (k : Int) ≤ (n : Int) := by omega
      have hq2 : (0 : Int) ≤ (k : Int) := by omega
      have hq3 : (k : Int) ≤ (cap : Int) := by omega
      have hq4 : (n : Int) ≤ (cap : Int) := by omega
      have hdv : ((n : Int) + 1) / 2 = (k : Int) := by omega
      have hneq : ((n : Int) == 1) = false := by simp; omega
      clear ih c1 c2 hE hus hvs ht hd hb1 hb2 h4 hpow hk hn hkp hmp h2 h
      go_enter Tryz.func46, Tryz.ntmps46
      go_wp2_with fail
      go_region_with (first
        | (refine (C1.out _ HI1).mono ?_; rintro e w1 ⟨_, rfl, ⟨a3, c3, rfl, hi3, -, hk3⟩, hb⟩; have I3 := Lib.hid hi3; have K3 := Lib.hid hk3; have B3 := Lib.hid ((Below.refl w.heap.size w).drew.trans hb); have J2 := Lib.hid (HI2.out.on hb); clear hi3 hk3 hb HI1)
        | (refine (C2.out _ J2).mono ?_; rintro e w2 ⟨_, rfl, ⟨a4, c4, rfl, hi4, -, hk4⟩, hb⟩; have I4 := Lib.hid hi4; have K4 := Lib.hid hk4; have J3 := Lib.hid (I3.out.on hb); have B4 := Lib.hid (B3.out.trans (hb.mono B3.out.size)); clear hi4 hk4 hb I3 J2)
        | (refine (l4Commutator_any a3 a4 c3 c4 us vs _ J3 K3 I4 K4 HM1 HM2 (by omega) (by omega)).mono ?_; rw [← HE.out]; rintro e w3 ⟨v, rfl, hr, hb⟩; have R := Lib.hid (And.intro (hr.mono B4.out.size) (B4.out.trans (hb.mono B4.out.size))); clear hr hb))
      all_goals
        go_wp2_with fail
        go_ret
        exact ⟨_, rfl, R.out.1, R.out.2⟩

set_option maxRecDepth 100000 in
set_option maxHeartbeats 400000 in
theorem specBalancedWord_any (a : Option Addr) (cap : Nat) (ns : List Int) (w : World) (h : Hid (Ints w a ns)) (hcp : Hid (Cap a ns.length cap)) (h64 : Hid (In64 ns)) (hn : ns.length ≤ 9223372036854775807) :
    Calls Tryz.prog 13 #[.slice a ns.length cap] w (SB (nailW ns (Plain.bal 3 ns)) (nailW_B ns (Plain.bal 3 ns)) w) := by
  cases hw : Plain.nailsOk ns with
  | false =>
    have HE := Lib.hid (nailW_no (out := Plain.bal 3 ns) hw)
    have HW := Lib.hid hw
    clear hw
    go_enter Tryz.func13, Tryz.ntmps13
    go_wp2_with fail
    refine (l4Nails_any _ _ ns _ h hcp h64 hn).mono ?_
    rw [HW.out]
    rintro e w1 ⟨rfl, hb⟩
    have HB := Lib.hid hb
    have HS := Lib.hid (coll_res (coll_start w1))
    clear hb
    go_wp2_with fail
    go_ret2
    exact sb_eq HE.out.1 HE.out.2 ⟨_, rfl, HS.out.1.mono HB.out.size, HB.out.trans (HS.out.2.mono HB.out.size)⟩
  | true =>
    have HE := Lib.hid (nailW_yes (out := Plain.bal 3 ns) hw)
    have HW := Lib.hid hw
    obtain ⟨hlen1, hlen6⟩ := (Plain.nailsOk_iff.1 hw).1
    have HL := Lib.hid (Plain.nailsOk_letters hw).1
    have hb3 := Plain.bal_le 3 ns
    obtain ⟨us, hus⟩ : ∃ z, z = Plain.bal 3 ns := ⟨_, rfl⟩
    rw [← hus] at hb3 HE
    have HU := Lib.hid hus
    have hul : us.length ≤ 64 := hb3
    clear hw hb3
    rw [← HU.out]
    clear hus
    go_enter Tryz.func13, Tryz.ntmps13
    go_wp2_with fail
    refine (l4Nails_any _ _ ns _ h hcp h64 hn).mono ?_
    rw [HW.out]
    rintro e w1 ⟨rfl, hb⟩
    have HB := Lib.hid hb
    have HI := Lib.hid (h.out.on hb)
    clear hb
    go_wp2_with fail
    refine (l4Balanced_any 3 a cap ns.length ns _ (by omega) rfl hlen1 (by omega) HI hcp HL).mono ?_
    rw [← HU.out]
    rintro e w2 ⟨_, rfl, ⟨a3, c3, rfl, hi3, ho3, hk3⟩, hb⟩
    have I3 := Lib.hid hi3
    have O3 := Lib.hid (ho3.mono HB.out.size)
    have K3 := Lib.hid hk3
    have B3 := Lib.hid (HB.out.trans (hb.mono HB.out.size))
    clear hi3 ho3 hk3 hb
    go_wp2_with fail
    refine (l2Short_any a3 c3 us _ I3 w.heap.size O3 K3 B3.out.size (by omega)).mono ?_
    rintro e w3 ⟨v, rfl, hr, hb⟩
    have R := Lib.hid (And.intro hr (B3.out.trans (hb.mono B3.out.size)))
    clear hr hb
    go_wp2_with fail
    go_ret2
    exact sb_eq HE.out.1 HE.out.2 ⟨_, rfl, R.out.1, R.out.2⟩

end Go.Proofs.YtmcbaejgimopmaaGreat
