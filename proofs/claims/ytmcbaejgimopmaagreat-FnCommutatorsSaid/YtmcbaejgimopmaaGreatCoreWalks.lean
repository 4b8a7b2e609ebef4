/- Contracts: (impl.word).core and spec.l2Core return the core of what a list of letters is reduced to. Conditions: letters, a length that fits. -/
import Derived.Test.YtmcbaejgimopmaaGreatLawKit
import Derived.Test.YtmcbaejgimopmaaGreatTurnWalks
import Derived.Test.YtmcbaejgimopmaaGreatWord
namespace Go.Proofs.YtmcbaejgimopmaaGreat
open Go.ChangeShapes Go.WideShapes Go.ChangeAt Go.RowKit
set_option linter.unusedVariables false

def sliceLen : Value → Nat | .slice _ n _ => n | _ => 0
/-- What is left of a list when j letters are taken off at each end, as a slice. -/
def Mid (rs : List Int) (b o j n cp : Nat) (v : Value) : Prop := ∃ o', v = .slice (some ⟨b, o', none⟩) n cp ∧ (0 < n → o' = o + j)
theorem mid_res {rs : List Int} {B b o j n cp : Nat} {v : Value} {w : World} (h : Mid rs b o j n cp v) (hi : Ints w (some ⟨b, o, none⟩) rs) (ho : Own B w (some ⟨b, o, none⟩) rs.length) (hne : rs.length ≠ 0) (hl : rs.length = 2 * j + n) (hc : n ≤ cp) (hm : cp ≤ 9223372036854775807) : Res B w v (Plain.mid rs j) := by
  obtain ⟨o', rfl, hoff⟩ := h
  have hml : (Plain.mid rs j).length = n := by rw [Plain.mid_length rs j (by omega)]; omega
  obtain ⟨b2, o2, e, h1, h2, h3⟩ := ho.resolve_left hne
  cases e
  refine ⟨_, cp, by rw [hml], fun i x hx => ?_, .inr ⟨b, o', rfl, h1, h2, h3⟩, by rw [hml]; exact hc, hm, fun h => (by cases h), fun x h => ⟨b, o', by cases h; rfl⟩⟩
  have hi2 := at_lt hx
  rw [hml] at hi2
  rw [Plain.mid_at (by omega)] at hx
  obtain ⟨b3, o3, e, hc3⟩ := hi (j + i) x hx
  cases e
  exact ⟨b, o', rfl, by rw [hoff (by omega), Nat.add_assoc]; exact hc3⟩

set_option maxRecDepth 100000 in
set_option maxHeartbeats 1000000 in
theorem core_any (a : Option Addr) (cap : Nat) (xs : List Int) (w : World) (h : Hid (Ints w a xs)) (hl : Hid (Plain.Letters xs)) (hn : xs.length ≤ 1048576) :
    Calls Tryz.prog 58 #[.slice a xs.length cap] w (ListPost (Plain.core (Plain.red xs)) w) := by
  have hrl : (Plain.red xs).length ≤ 1048576 := Nat.le_trans (Plain.red_length xs) hn
  have LR := Lib.hid hl.out.red
  obtain ⟨rs, hrs⟩ : ∃ rs, rs = Plain.red xs := ⟨_, rfl⟩
  rw [← hrs] at hrl LR ⊢
  have HRS := Lib.hid hrs
  clear hrs
  go_enter Tryz.func58, Tryz.ntmps58
  go_wp2_with fail
  refine (reduced_any _ _ xs _ h hl hn).mono ?_
  rw [RedPost_def, ← HRS.out]
  rintro e w1 ⟨_, rfl, ⟨a3, c3, rfl, hi, ho, hk⟩, hb⟩
  have I := Lib.hid hi
  have O := Lib.hid ho
  have K := Lib.hid hk
  have B1 := Lib.hid hb
  clear hi ho hk hb
  by_cases h0 : rs.length = 0
  · obtain rfl : rs = [] := List.eq_nil_of_length_eq_zero h0
    have hR : Hid (Res w.heap.size w1 (.slice a3 0 c3) (Plain.core [])) := Lib.hid ⟨a3, c3, rfl, Ints.nil _ _, .inl rfl, K.out⟩
    clear h0
    have hd : decide ((0 : Int) < 0) = false := by decide
    go_wp2
    go_loopw [3] (fun v wr => v = .slice a3 0 c3 ∧ ∃ q, wr = w1.drewN q) (fun _ _ => 0)
    case atStart => exact ⟨rfl, 0, rfl⟩
    case round =>
      obtain ⟨rfl, q, rfl⟩ := hrel
      go_wp2
      go_quiet (fail)
      go_wp2
      go_ret
      exact ⟨_, rfl, hR.out, below_drewN (below_drewN B1.out _) _⟩
  · obtain ⟨b, o, rfl, hOB, hOS, hOF⟩ := O.out.resolve_left h0
    have H0 := Lib.hid h0
    have hk1 := K.out.1
    have hk2 := K.out.2.1
    clear h0 hOF
    go_wp2
    go_loopw [3] (fun v wr => ∃ j n cp, rs.length = 2 * j + n ∧ Mid rs b o j n cp v ∧ n ≤ cp ∧ cp ≤ 9223372036854775807 ∧ Plain.Deep rs j ∧ ∃ q, wr = w1.drewN q) (fun v _ => sliceLen v)
    case atStart => exact ⟨0, rs.length, c3, by omega, ⟨o, rfl, fun _ => rfl⟩, hk1, hk2, Plain.deep_zero rs, 0, rfl⟩
    case round =>
      obtain ⟨j, n, cp, hjn, ⟨o', rfl, hoff⟩, hcp, hcm, hD, q, rfl⟩ := hrel
      have HJ := Lib.hid hjn
      have HD := Lib.hid hD
      have HMid : Hid (Mid rs b o j n cp (.slice (some ⟨b, o', none⟩) n cp)) := Lib.hid ⟨o', rfl, hoff⟩
      have HO : Hid (0 < n → o' = o + j) := Lib.hid hoff
      clear hD hoff
      by_cases hn0 : n = 0
      · subst hn0
        have HE := Lib.hid (Plain.deep_stop HD.out (Plain.stops_end (by omega)))
        have hd : decide ((0 : Int) < 0) = false := by decide
        have hR : Hid (Res w.heap.size w1 (.slice (some ⟨b, o', none⟩) 0 cp) (Plain.core rs)) := Lib.hid (by rw [Plain.core, HE.out]; exact mid_res HMid.out I.out O.out H0.out HJ.out hcp hcm)
        clear hjn
        go_wp2
        go_quiet (fail)
        go_wp2
        go_ret
        exact ⟨_, rfl, hR.out, below_drewN (below_drewN B1.out _) _⟩
      · obtain ⟨m, rfl⟩ : ∃ m, n = m + 1 := ⟨n - 1, by omega⟩
        obtain rfl : o' = o + j := HO.out (by omega)
        obtain ⟨x, hx⟩ := at_some rs j (by omega)
        obtain ⟨y, hy⟩ := at_some rs (j + m) (by omega)
        obtain ⟨b1, o1, e1, hcx⟩ := I.out j x hx
        obtain ⟨b2, o2, e2, hcy⟩ := I.out (j + m) y hy
        cases e1
        cases e2
        rw [← Nat.add_assoc] at hcy
        have hyl : rs[rs.length - 1 - j]? = some y := by rw [← hy]; congr 1; omega
        obtain ⟨hy0, hy1, hy2⟩ := LR.out.at hy
        have HX := Lib.hid hx
        have HY := Lib.hid hyl
        have hd : decide ((0 : Int) < (m : Int) + 1) = true := by rw [decide_eq_true_iff]; omega
        have hm0 : (0 : Int) ≤ (m : Int) := by omega
        have hm1 : (m : Int) < (m : Int) + 1 := by omega
        have hcp2 : (m : Int) ≤ (cp : Int) := by omega
        by_cases he : x = -y
        · have hq : (x == -y) = true := by simpa using he
          have HS := Lib.hid (Plain.goes_on (by omega) hx hyl he)
          have hmne : m ≠ 0 := by
            rintro rfl
            have := hx.symm.trans hy
            simp at this
            omega
          have HN := Lib.hid (Plain.deep_succ HD.out HS.out (by omega))
          have HJ2 := Lib.hid (show rs.length = 2 * (j + 1) + (m - 1) by omega)
          have HMN := Lib.hid hmne
          clear he hx hy hyl hjn hn0 hmne
          go_wp2
          go_quiet (fail)
          by_cases hk0 : m = 1
          · subst hk0
            go_wp2
            go_roundw
            case rel => exact ⟨j + 1, 0, 0, HJ2.out, ⟨_, rfl, fun h => by omega⟩, by omega, by omega, HN.out, _, rfl⟩
            case measure => simp [sliceLen]
          · have hm2 : (1 : Int) ≤ (m : Int) := by have := HMN.out; omega
            have hm3 : 1 ≤ m := by have := HMN.out; omega
            have hm4 : ¬ 1 = m := by omega
            have hcp3 : m ≤ cp := by omega
            go_wp2
            go_roundw
            case rel => exact ⟨j + 1, m - 1, m - 1, HJ2.out, ⟨_, rfl, fun h => by omega⟩, by omega, by omega, HN.out, _, rfl⟩
            case measure => simp [sliceLen]; omega
        · have hq : (x == -y) = false := by simpa using he
          have HE := Lib.hid (Plain.deep_stop HD.out (Plain.stops_no hx hyl he))
          have hR : Hid (Res w.heap.size w1 (.slice (some ⟨b, o + j, none⟩) (m + 1) cp) (Plain.core rs)) := Lib.hid (by rw [Plain.core, HE.out]; exact mid_res HMid.out I.out O.out H0.out HJ.out hcp hcm)
          clear he hx hy hyl hjn hn0
          go_wp2
          go_quiet (fail)
          go_wp2
          go_ret
          exact ⟨_, rfl, hR.out, below_drewN (below_drewN B1.out _) _⟩

theorem core_end {rs L : List Int} {w w1 wr w3 : World} {q j c4 c5 : Nat} {a4 a5 : Option Addr} (HE : Plain.depth rs = j) (hL : L = rs.take j) (BW : Below w.heap.size w wr) (hs1 : w.heap.size ≤ w1.heap.size) (hs2 : w1.heap.size ≤ wr.heap.size)
    (hi4 : Ints w3 a4 (Plain.mid rs j)) (ho4 : Own (wr.drewN q).heap.size w3 a4 (Plain.mid rs j).length) (hk4 : Cap a4 (Plain.mid rs j).length c4) (hb4 : Below (wr.drewN q).heap.size (wr.drewN q) w3)
    (hi5 : Ints wr a5 L) (ho5 : Own w1.heap.size wr a5 L.length) (hk5 : Cap a5 L.length c5) :
    SS (Plain.core rs) (Plain.by_ rs) w (.returned (.tuple #[.slice a4 (Plain.mid rs j).length c4, .slice a5 L.length c5])) w3 := by
  subst HE hL
  have hbw : Below w.heap.size w (wr.drewN q) := below_drewN BW q
  refine ⟨a4, c4, a5, c5, rfl, hi4, ho4.mono ?_, hk4, hi5.on (w := wr.drewN q) hb4, (ho5.on (w := wr.drewN q) hb4).mono hs1, hk5, (apart_of (W1 := wr) ho5 ho4 ?_).symm, hbw.trans (hb4.mono ?_)⟩
  · show w.heap.size ≤ wr.heap.size; omega
  · show wr.heap.size ≤ wr.heap.size; omega
  · show w.heap.size ≤ wr.heap.size; omega
theorem core_end_nil {w w1 w3 : World} {q c4 : Nat} {a4 : Option Addr} (B1 : Below w.heap.size w w1) (C0 : Coll [] w1.heap.size w1 (.slice (some ⟨w1.heap.size, 0, none⟩) 0 0) (w1.alloc (.cells #[] 3)))
    (hi : Ints w3 a4 []) (ho : Own ((w1.alloc (.cells #[] 3)).drewN q).heap.size w3 a4 ([] : List Int).length) (hk : Cap a4 ([] : List Int).length c4) (hb : Below ((w1.alloc (.cells #[] 3)).drewN q).heap.size ((w1.alloc (.cells #[] 3)).drewN q) w3) :
    SS (Plain.core []) (Plain.by_ []) w (.returned (.tuple #[.slice a4 0 c4, .slice (some ⟨w1.heap.size, 0, none⟩) 0 0])) w3 := by
  have hs : w1.heap.size ≤ ((w1.alloc (.cells #[] 3)).drewN q).heap.size := by show _ ≤ (w1.alloc (.cells #[] 3)).heap.size; simp
  have hb2 : Below w.heap.size w ((w1.alloc (.cells #[] 3)).drewN q) := below_drewN (B1.alloc B1.size _) _
  exact ⟨a4, c4, _, 0, rfl, hi, .inl rfl, hk, Ints.nil _ _, .inl rfl, cap_copy (n := 0) _ (by omega), .inl rfl, hb2.trans (hb.mono hb2.size)⟩
set_option maxRecDepth 100000 in
set_option maxHeartbeats 1000000 in
theorem l2Core_any (a : Option Addr) (cap : Nat) (xs : List Int) (w : World) (h : Hid (Ints w a xs)) (hl : Hid (Plain.Letters xs)) (hn : xs.length ≤ 1048576) :
    Calls Tryz.prog 62 #[.slice a xs.length cap] w (SS (Plain.core (Plain.red xs)) (Plain.by_ (Plain.red xs)) w) := by
  obtain ⟨i0, hi0, hz0, hz1, hz2⟩ := info_parts infoInt
  have hrl : (Plain.red xs).length ≤ 1048576 := Nat.le_trans (Plain.red_length xs) hn
  have LR := Lib.hid hl.out.red
  obtain ⟨rs, hrs⟩ : ∃ rs, rs = Plain.red xs := ⟨_, rfl⟩
  rw [← hrs] at hrl LR ⊢
  have HRS := Lib.hid hrs
  clear hrs
  go_enter Tryz.func62, Tryz.ntmps62
  go_wp2_with fail
  refine (l2Reduce_any _ _ xs _ h hl hn).mono ?_
  rw [RedPost_def, ← HRS.out]
  rintro e w1 ⟨_, rfl, ⟨a3, c3, rfl, hi, ho, hk⟩, hb⟩
  have I := Lib.hid hi
  have O := Lib.hid ho
  have K := Lib.hid hk
  have B1 := Lib.hid hb
  have C0 := Lib.hid (coll_start w1)
  clear hi ho hk hb
  by_cases h0 : rs.length = 0
  · obtain rfl : rs = [] := List.eq_nil_of_length_eq_zero h0
    clear h0
    have hd : decide ((1 : Int) < 0) = false := by decide
    go_wp2
    go_loopw [4, 5] (fun v u wr => v = .slice a3 0 c3 ∧ u = .slice (some ⟨w1.heap.size, 0, none⟩) 0 0 ∧ ∃ q, wr = (w1.alloc (.cells #[] 3)).drewN q) (fun _ _ _ => 0)
    case atStart => exact ⟨rfl, rfl, 0, rfl⟩
    case round =>
      obtain ⟨rfl, rfl, q, rfl⟩ := hrel
      go_wp2
      go_quiet (fail)
      go_wp2_with fail
      refine (l1Own_at a3 c3 0 [] _ rfl (Lib.hid (Ints.nil _ _)) K (by omega)).mono ?_
      rintro e w3 ⟨v3, rfl, hC, -⟩
      obtain ⟨⟨a4, c4, rfl, hi4, ho4, hk4⟩, hb4⟩ := coll_res hC
      have R := Lib.hid (core_end_nil B1.out C0.out hi4 ho4 hk4 hb4)
      clear hC hi4 ho4 hk4 hb4
      go_wp2
      go_ret2
      exact R.out
  · obtain ⟨b, o, rfl, hOB, hOS, hOF⟩ := O.out.resolve_left h0
    have H0 := Lib.hid h0
    have hk1 := K.out.1
    have hk2 := K.out.2.1
    clear h0 hOF hOB hOS
    go_wp2
    go_loopw [4, 5] (fun v u wr => ∃ j n cp, rs.length = 2 * j + n ∧ Mid rs b o j n cp v ∧ n ≤ cp ∧ cp ≤ 9223372036854775807 ∧ Plain.Deep rs j ∧ Coll (rs.take j) w1.heap.size w1 u wr) (fun v _ _ => sliceLen v)
    case atStart => exact ⟨0, rs.length, c3, by omega, ⟨o, rfl, fun _ => rfl⟩, hk1, hk2, Plain.deep_zero rs, C0.out⟩
    case round =>
      obtain ⟨j, n, cp, hjn, ⟨o', rfl, hoff⟩, hcp, hcm, hD, hC⟩ := hrel
      have HJ := Lib.hid hjn
      have HD := Lib.hid hD
      have HMid : Hid (Mid rs b o j n cp (.slice (some ⟨b, o', none⟩) n cp)) := Lib.hid ⟨o', rfl, hoff⟩
      have HO : Hid (0 < n → o' = o + j) := Lib.hid hoff
      have HC := Lib.hid hC
      have IW := Lib.hid (I.out.on hC.2.1)
      have OW := Lib.hid (O.out.on hC.2.1)
      have BW := Lib.hid (B1.out.trans (hC.2.1.mono B1.out.size))
      have hml : (Plain.mid rs j).length = n := by rw [Plain.mid_length rs j (by omega)]; omega
      have HML := Lib.hid hml
      have hRM := Lib.hid (mid_res HMid.out IW.out OW.out H0.out HJ.out hcp hcm)
      have IM : Hid (Ints wr (some ⟨b, o', none⟩) (Plain.mid rs j)) := Lib.hid (by
        obtain ⟨a5, c5, e, h5, -⟩ := hRM.out
        cases e
        exact h5)
      have KM : Hid (Cap (some ⟨b, o', none⟩) n cp) := Lib.hid ⟨hcp, hcm, fun h => (by cases h), fun x h => ⟨b, o', by cases h; rfl⟩⟩
      have hnl : n ≤ 1048576 := by omega
      clear hD hoff hC hml
      by_cases hst : Plain.stopsB rs j = true
      · have HE := Lib.hid (Plain.deep_stop HD.out hst)
        obtain ⟨L, hL⟩ : ∃ L, L = rs.take j := ⟨_, rfl⟩
        rw [← hL] at HC
        have HLT := Lib.hid hL
        clear hL
        by_cases hn2 : n ≤ 1
        · have hd : decide ((1 : Int) < (n : Int)) = false := decide_eq_false (by omega)
          clear hjn hst
          go_wp2
          go_quiet (fail)
          go_wp2_with fail
          refine (l1Own_at _ cp n (Plain.mid rs j) (wr.drewN nq) HML.out IM KM (by omega)).mono ?_
          rintro e w3 ⟨v3, rfl, hC3, -⟩
          obtain ⟨⟨a4, c4, rfl, hi4, ho4, hk4⟩, hb4⟩ := coll_res hC3
          obtain ⟨⟨a5, c5, rfl, hi5, ho5, hk5⟩, hb5⟩ := coll_res HC.out
          have R := Lib.hid (core_end HE.out HLT.out BW.out B1.out.size HC.out.2.2 hi4 ho4 hk4 hb4 hi5 ho5 hk5)
          clear hC3 hi4 ho4 hk4 hb4 hi5 ho5 hk5 hb5
          go_wp2
          go_ret2
          exact R.out
        · obtain ⟨m, rfl⟩ : ∃ m, n = m + 1 := ⟨n - 1, by omega⟩
          obtain rfl : o' = o + j := HO.out (by omega)
          obtain ⟨x, hx⟩ := at_some rs j (by omega)
          obtain ⟨y, hy⟩ := at_some rs (j + m) (by omega)
          obtain ⟨b1, o1, e1, hcx⟩ := IW.out j x hx
          obtain ⟨b2, o2, e2, hcy⟩ := IW.out (j + m) y hy
          cases e1
          cases e2
          rw [← Nat.add_assoc] at hcy
          have hyl : rs[rs.length - 1 - j]? = some y := by rw [← hy]; congr 1; omega
          obtain ⟨hy0, hy1, hy2⟩ := LR.out.at hy
          have hd : decide ((1 : Int) < (m : Int) + 1) = true := by rw [decide_eq_true_iff]; omega
          have hm0 : (0 : Int) ≤ (m : Int) := by omega
          have hm1 : (m : Int) < (m : Int) + 1 := by omega
          have he : ¬ x = -y := fun he => by
            have := Plain.goes_on (by omega) hx hyl he
            rw [this] at hst
            cases hst
          have hq : (x == -y) = false := by simpa using he
          clear hjn hst hx hy hyl he
          go_wp2
          go_quiet (fail)
          go_wp2_with fail
          refine (l1Own_at _ cp (m + 1) (Plain.mid rs j) (wr.drewN nq) HML.out IM KM (by omega)).mono ?_
          rintro e w3 ⟨v3, rfl, hC3, -⟩
          obtain ⟨⟨a4, c4, rfl, hi4, ho4, hk4⟩, hb4⟩ := coll_res hC3
          obtain ⟨⟨a5, c5, rfl, hi5, ho5, hk5⟩, hb5⟩ := coll_res HC.out
          have R := Lib.hid (core_end HE.out HLT.out BW.out B1.out.size HC.out.2.2 hi4 ho4 hk4 hb4 hi5 ho5 hk5)
          clear hC3 hi4 ho4 hk4 hb4 hi5 ho5 hk5 hb5
          go_wp2
          go_ret2
          exact R.out
      · have hst' : Plain.stopsB rs j = false := by simpa using hst
        have hn2 : 2 ≤ n := by
          rcases Nat.lt_or_ge n 2 with h2 | h2
          · exfalso
            rcases Nat.lt_or_ge n 1 with h1 | h1
            · exact hst (Plain.stops_end (by omega))
            · exact hst (Plain.stops_mid LR.out (by omega))
          · exact h2
        obtain ⟨m, rfl⟩ : ∃ m, n = m + 1 := ⟨n - 1, by omega⟩
        obtain rfl : o' = o + j := HO.out (by omega)
        obtain ⟨x, hx⟩ := at_some rs j (by omega)
        obtain ⟨y, hy⟩ := at_some rs (j + m) (by omega)
        obtain ⟨b1, o1, e1, hcx⟩ := IW.out j x hx
        obtain ⟨b2, o2, e2, hcy⟩ := IW.out (j + m) y hy
        cases e1
        cases e2
        rw [← Nat.add_assoc] at hcy
        have hyl : rs[rs.length - 1 - j]? = some y := by rw [← hy]; congr 1; omega
        obtain ⟨hy0, hy1, hy2⟩ := LR.out.at hy
        have hd : decide ((1 : Int) < (m : Int) + 1) = true := by rw [decide_eq_true_iff]; omega
        have hm0 : (0 : Int) ≤ (m : Int) := by omega
        have hm1 : (m : Int) < (m : Int) + 1 := by omega
        have he : x = -y := by
          refine Classical.byContradiction fun he => ?_
          rw [Plain.stops_no hx hyl he] at hst'
          cases hst'
        have hq : (x == -y) = true := by simpa using he
        have HN := Lib.hid (Plain.deep_succ HD.out hst' (by omega))
        have HJ2 := Lib.hid (show rs.length = 2 * (j + 1) + (m - 1) by omega)
        have HT := Lib.hid (Plain.take_snoc hx)
        have hjl : (rs.take j).length ≤ 1048576 := by simp; omega
        have hm2 : (1 : Int) ≤ (m : Int) := by omega
        have hm3 : 1 ≤ m := by omega
        have hcp3 : ¬ cp = 1 := by omega
        have hcp4 : ¬ 1 = cp := by omega
        have hcp5 : (m : Int) ≤ (cp : Int) := by omega
        generalize rs.take j = L at HC HT hjl
        clear hjn hst hst' hx hy hyl he hn2
        go_wp2
        go_quiet (fail)
        go_wp2_with (at_builtin; refine wpList_append_own _ rfl _ _ 24 rfl w1.heap.size 3 i0 (.int .i64 0) 1 8 Tryz.underlying24 hi0 hz0 hz1 hz2 rfl (by decide) _ _ _ rfl ((HC.out.drewN nq).1.alloc _) ⟨wr.heap.size, 0, none⟩ 1 1 [.int .i64 x] rfl rfl ?c1 ?c2 ?c3 ?c4 ?c5 ?_)
        case c1 => exact cell_one_new _ _ _
        case c2 => simp [Value.oneCell']
        case c3 => unfold maxLen; omega
        case c4 => omega
        case c5 => exact Nat.le_trans HC.out.2.2 (by simp)
        intro v' w4 hown' hgrow _
        have hR := Lib.hid (coll_push (x := x) (HC.out.drewN nq) hown' hgrow)
        clear hown' hgrow
        go_wp2
        go_roundw
        case rel => exact ⟨j + 1, m - 1, cp - 1, HJ2.out, ⟨_, rfl, fun h => by omega⟩, by omega, by omega, HN.out, by rw [HT.out]; exact hR.out⟩
        case measure => simp [sliceLen]; omega
end Go.Proofs.YtmcbaejgimopmaaGreat
