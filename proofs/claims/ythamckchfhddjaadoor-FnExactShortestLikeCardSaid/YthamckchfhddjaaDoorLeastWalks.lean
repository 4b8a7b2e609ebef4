/- Contracts: spec.l2Least and (impl.word).leastTurn return the least turn of the core of what a list of letters is reduced to. Conditions: letters, a length that fits. -/
import Derived.Test.YthamckchfhddjaaDoorCoreWalks
import Derived.Test.YthamckchfhddjaaDoorLessWalks
import Derived.Test.YthamckchfhddjaaDoorLeast
namespace Go.Proofs.YthamckchfhddjaaDoor
open Go.ChangeShapes Go.WideShapes Go.ChangeAt Go.RowKit
set_option linter.unusedVariables false

def leastOf (xs : List Int) : List Int := Plain.least (Plain.core (Plain.red xs))
theorem leastOf_le (xs : List Int) : (leastOf xs).length ≤ xs.length := by
  rw [leastOf, Plain.least_length]
  refine Nat.le_trans ?_ (Plain.red_length xs)
  simp [Plain.core, Plain.mid]
  omega
/-- The loop's relation: the least of the first k turns so far. -/
def Best (C : List Int) (k : Nat) (w w1 : World) (v : Value) (wr : World) : Prop := Res w.heap.size wr v (Plain.leastTo C k) ∧ Below w1.heap.size w1 wr
theorem best_old {C : List Int} {k : Nat} {w w1 wr w2 : World} {v : Value} (h : Best C k w w1 v wr) (hs : w1.heap.size ≤ wr.heap.size) (hb : Below wr.heap.size wr w2) (he : Plain.lessB (Plain.turnAt C k) (Plain.leastTo C k) = false) : Best C (k + 1) w w1 v w2 := by
  refine ⟨?_, h.2.trans (hb.mono hs)⟩
  rw [Plain.leastTo_no he]
  exact h.1.on hb
theorem best_new {C : List Int} {k : Nat} {w w1 wr w2 : World} {v v' : Value} (h : Best C k w w1 v wr) (hs : w1.heap.size ≤ wr.heap.size) (hs0 : w.heap.size ≤ w1.heap.size) (hr : Res wr.heap.size w2 v' (turn C k)) (hb : Below wr.heap.size wr w2) (he : Plain.lessB (Plain.turnAt C k) (Plain.leastTo C k) = true) : Best C (k + 1) w w1 v' w2 := by
  refine ⟨?_, h.2.trans (hb.mono hs)⟩
  rw [Plain.leastTo_yes he]
  exact hr.mono (by omega)

set_option maxRecDepth 100000 in
set_option maxHeartbeats 1000000 in
theorem leastTurn_any (a : Option Addr) (cap : Nat) (xs : List Int) (w : World) (h : Hid (Ints w a xs)) (hl : Hid (Plain.Letters xs)) (hn : xs.length ≤ 1048576) :
    Calls Tryd.prog 41 #[.slice a xs.length cap] w (ListPost (leastOf xs) w) := by
  have LC := Lib.hid hl.out.red.core
  have hcl : (Plain.core (Plain.red xs)).length ≤ 1048576 := by have := leastOf_le xs; rw [leastOf, Plain.least_length] at this; omega
  unfold leastOf
  obtain ⟨C, hC⟩ : ∃ C, C = Plain.core (Plain.red xs) := ⟨_, rfl⟩
  rw [← hC] at LC hcl ⊢
  have HC := Lib.hid hC
  clear hC
  go_enter Tryd.func41, Tryd.ntmps41
  go_wp2_with fail
  refine (core_any _ _ xs _ h hl hn).mono ?_
  rw [← HC.out]
  rintro e w1 ⟨_, rfl, ⟨a3, c3, rfl, hi, ho, hk⟩, hb⟩
  have I := Lib.hid hi
  have K := Lib.hid hk
  have B1 := Lib.hid hb
  have H0 : Hid (Best C 0 w w1 (.slice a3 C.length c3) w1) := Lib.hid ⟨⟨a3, c3, rfl, hi, ho, hk⟩, Below.refl _ _⟩
  clear hi ho hk hb
  go_wp2
  go_loopw [4, 12] (fun v i wr => ∃ k : Nat, k ≤ C.length ∧ i = .int .i64 k ∧ Best C k w w1 v wr) (fun _ i _ => C.length - (intOf i).toNat)
  case atStart => exact ⟨0, Nat.zero_le _, rfl, H0.out⟩
  case round =>
    obtain ⟨k, hkk, rfl, hrel⟩ := hrel
    have HR := Lib.hid hrel
    obtain ⟨⟨a4, c4, rfl, hi4, ho4, hk4⟩, hbw⟩ := hrel
    have I4 := Lib.hid hi4
    have IC := Lib.hid (I.out.on hbw)
    have BW := Lib.hid hbw
    have R4 : Hid (Res w.heap.size wr (.slice a4 (Plain.leastTo C k).length c4) (Plain.leastTo C k)) := Lib.hid ⟨a4, c4, rfl, hi4, ho4, hk4⟩
    have hll := Plain.leastTo_length C k
    have LL := Lib.hid (LC.out.leastTo k)
    clear hi4 ho4 hk4 hbw
    by_cases hlt : k < C.length
    · have LT := Lib.hid (LC.out.turnAt k)
      have htl := Plain.turnAt_length C k
      have hlz : (Plain.leastTo C k).length ≤ 1048576 := by omega
      have hly : (Plain.turnAt C k).length ≤ 1048576 := by omega
      obtain ⟨zs, hzs⟩ : ∃ zs, zs = Plain.leastTo C k := ⟨_, rfl⟩
      obtain ⟨ys, hys⟩ : ∃ ys, ys = Plain.turnAt C k := ⟨_, rfl⟩
      rw [← hzs] at I4 LL hlz ⊢
      rw [← hys] at LT hly
      have HZ := Lib.hid hzs
      have HY := Lib.hid hys
      clear hzs hys hll htl R4
      go_wp2_with fail
      refine (turned_any _ _ C k _ IC K (by omega) hcl).mono ?_
      rintro e w2 ⟨_, rfl, hr, hb⟩
      have HRes := Lib.hid hr
      have HBel := Lib.hid hb
      obtain ⟨a5, c5, hv5, hi5, -, -⟩ := hr
      rw [show turn C k = ys from HY.out.symm] at hi5 hv5
      subst hv5
      have I5 := Lib.hid hi5
      have J4 := Lib.hid (I4.out.on hb)
      clear hi5 hb
      go_wp2_with fail
      refine (isBefore_any _ _ _ _ ys zs _ I5 J4 LT LL (by omega) (by omega)).mono ?_
      cases hle : Plain.lessB ys zs with
      | true =>
        have HN := Lib.hid (best_new HR.out BW.out.size B1.out.size HRes.out HBel.out (by rw [← HY.out, ← HZ.out]; exact hle))
        clear hle
        rintro e w' ⟨rfl, rfl⟩
        go_wp2
        go_roundw
        case rel => exact ⟨k + 1, by omega, by go_num, HN.out⟩
        case measure => simp [intOf]; omega
      | false =>
        have HN := Lib.hid (best_old HR.out BW.out.size HBel.out (by rw [← HY.out, ← HZ.out]; exact hle))
        rw [← HZ.out] at HN
        clear hle
        rintro e w' ⟨rfl, rfl⟩
        go_wp2
        go_roundw
        case rel => exact ⟨k + 1, by omega, by go_num, HN.out⟩
        case measure => simp [intOf]; omega
    · obtain rfl : k = C.length := by omega
      have HL : Hid (Plain.leastTo C C.length = Plain.least C) := Lib.hid rfl
      have BE := Lib.hid (B1.out.trans (BW.out.mono B1.out.size))
      clear hll
      go_wp2
      go_ret
      exact ⟨_, rfl, R4.out, BE.out⟩

set_option maxRecDepth 100000 in
set_option maxHeartbeats 1000000 in
theorem l2Least_any (a : Option Addr) (cap : Nat) (xs : List Int) (w : World) (h : Hid (Ints w a xs)) (hl : Hid (Plain.Letters xs)) (hn : xs.length ≤ 1048576) :
    Calls Tryd.prog 37 #[.slice a xs.length cap] w (ListPost (leastOf xs) w) := by
  have LC := Lib.hid hl.out.red.core
  have hcl : (Plain.core (Plain.red xs)).length ≤ 1048576 := by have := leastOf_le xs; rw [leastOf, Plain.least_length] at this; omega
  unfold leastOf
  obtain ⟨C, hC⟩ : ∃ C, C = Plain.core (Plain.red xs) := ⟨_, rfl⟩
  rw [← hC] at LC hcl ⊢
  have HC := Lib.hid hC
  clear hC
  obtain ⟨G, hG⟩ : ∃ G, G = Plain.by_ (Plain.red xs) := ⟨_, rfl⟩
  have HG := Lib.hid hG
  clear hG
  go_enter Tryd.func37, Tryd.ntmps37
  go_wp2_with fail
  refine (l2Core_any _ _ xs _ h hl hn).mono ?_
  rw [← HC.out, ← HG.out]
  rintro e w1 ⟨a3, c3, ag, cg, rfl, hi, ho, hk, -, -, -, -, hb⟩
  have I := Lib.hid hi
  have K := Lib.hid hk
  have B1 := Lib.hid hb
  have H0 : Hid (Best C 1 w w1 (.slice a3 C.length c3) w1) := Lib.hid ⟨by rw [Plain.leastTo_one]; exact ⟨a3, c3, rfl, hi, ho, hk⟩, Below.refl _ _⟩
  clear hi ho hk hb
  go_wp2
  go_loopw [5, 6] (fun v i wr => ∃ k : Nat, 1 ≤ k ∧ (k ≤ C.length ∨ k = 1) ∧ i = .int .i64 k ∧ Best C k w w1 v wr) (fun _ i _ => C.length - (intOf i).toNat)
  case atStart => exact ⟨1, Nat.le_refl _, .inr rfl, rfl, H0.out⟩
  case round =>
    obtain ⟨k, hk1, hkk, rfl, hrel⟩ := hrel
    have HR := Lib.hid hrel
    obtain ⟨⟨a4, c4, rfl, hi4, ho4, hk4⟩, hbw⟩ := hrel
    have I4 := Lib.hid hi4
    have K4 := Lib.hid hk4
    have IC := Lib.hid (I.out.on hbw)
    have BW := Lib.hid hbw
    have hll := Plain.leastTo_length C k
    have LL := Lib.hid (LC.out.leastTo k)
    have hlz : (Plain.leastTo C k).length ≤ 1048576 := by omega
    clear hi4 ho4 hk4 hbw hll
    by_cases hlt : k < C.length
    · have LT := Lib.hid (LC.out.turnAt k)
      have htl := Plain.turnAt_length C k
      have hly : (Plain.turnAt C k).length ≤ 1048576 := by omega
      obtain ⟨zs, hzs⟩ : ∃ zs, zs = Plain.leastTo C k := ⟨_, rfl⟩
      obtain ⟨ys, hys⟩ : ∃ ys, ys = Plain.turnAt C k := ⟨_, rfl⟩
      rw [← hzs] at I4 K4 LL hlz ⊢
      rw [← hys] at LT hly
      have HZ := Lib.hid hzs
      have HY := Lib.hid hys
      clear hzs hys htl hkk
      go_wp2_with fail
      refine (l2Turn_any _ _ C k _ IC K (by omega) hcl).mono ?_
      rintro e w2 ⟨_, rfl, hr, hb⟩
      have HRes := Lib.hid hr
      have HBel := Lib.hid hb
      obtain ⟨a5, c5, hv5, hi5, -, -⟩ := hr
      rw [show turn C k = ys from HY.out.symm] at hi5 hv5
      subst hv5
      have I5 := Lib.hid hi5
      have J4 := Lib.hid (I4.out.on hb)
      clear hi5 hb
      go_wp2_with fail
      refine (l2Less_any _ _ _ _ ys zs _ I5 J4 LT LL (by omega) (by omega)).mono ?_
      cases hle : Plain.lessB ys zs with
      | true =>
        have HN : Hid (∀ n, Best C (k + 1) w w1 (.slice a5 ys.length c5) (w2.drewN n)) := Lib.hid (fun n => best_new HR.out BW.out.size B1.out.size HRes.out (below_drewN HBel.out n) (by rw [← HY.out, ← HZ.out]; exact hle))
        clear hle
        rintro e w' ⟨rfl, n, rfl⟩
        go_wp2
        go_roundw
        case rel => exact ⟨k + 1, by omega, .inl (by omega), by go_num, HN.out n⟩
        case measure => simp [intOf]; omega
      | false =>
        have HN : Hid (∀ n, Best C (k + 1) w w1 (.slice a4 zs.length c4) (w2.drewN n)) := Lib.hid (fun n => by
          have := best_old HR.out BW.out.size (below_drewN HBel.out n) (by rw [← HY.out, ← HZ.out]; exact hle)
          rw [← HZ.out] at this
          exact this)
        clear hle
        rintro e w' ⟨rfl, n, rfl⟩
        go_wp2
        go_roundw
        case rel => exact ⟨k + 1, by omega, .inl (by omega), by go_num, HN.out n⟩
        case measure => simp [intOf]; omega
    · have HL : Hid (Plain.leastTo C k = Plain.least C) := Lib.hid (by
        rcases hkk with hkk | rfl
        · rw [show k = C.length by omega]; rfl
        · exact Plain.least_short (by omega))
      have BE := Lib.hid (B1.out.trans (BW.out.mono B1.out.size))
      obtain ⟨zs, hzs⟩ : ∃ zs, zs = Plain.leastTo C k := ⟨_, rfl⟩
      rw [← hzs] at I4 K4 LL hlz HL ⊢
      have HZ := Lib.hid hzs
      have hi : ¬ (k : Int) < (C.length : Int) := by omega
      clear hzs hkk
      go_wp2_with fail
      refine (l1Own_any _ _ zs _ I4 K4 hlz).mono ?_
      rintro e w3 ⟨v3, rfl, hC3, -⟩
      have HD := Lib.hid (coll_res hC3)
      clear hC3
      go_wp2
      go_ret
      exact ⟨_, rfl, by rw [← HL.out]; exact HD.out.1.mono BE.out.size, BE.out.trans (HD.out.2.mono BE.out.size)⟩

end Go.Proofs.YthamckchfhddjaaDoor
