/- Contracts: spec.l4Commutator, CommutatorOf, l1Has, l4Nails, LeftWord, LeftLength, l4Length, BalancedLength. Conditions: letters, numbers of 64 bits, lengths that fit. -/
import Derived.Test.YtobjifggelmhcaaGreatComm
import Derived.Test.YtobjifggelmhcaaGreatProd
namespace Go.Proofs.YtobjifggelmhcaaGreat
open Go.ChangeShapes Go.WideShapes Go.ChangeAt Go.RowKit
set_option linter.unusedVariables false

set_option maxRecDepth 100000 in
set_option maxHeartbeats 400000 in
theorem l4Commutator_any (a1 a2 : Option Addr) (c1 c2 : Nat) (xs ys : List Int) (w : World) (h1 : Hid (Ints w a1 xs)) (k1 : Hid (Cap a1 xs.length c1)) (h2 : Hid (Ints w a2 ys)) (k2 : Hid (Cap a2 ys.length c2))
    (l1 : Hid (Plain.Letters xs)) (l2 : Hid (Plain.Letters ys)) (hx : xs.length ≤ 100000) (hy : ys.length ≤ 100000) :
    Calls Tryz.prog 48 #[.slice a1 xs.length c1, .slice a2 ys.length c2] w (ListPost (Plain.comm xs ys) w) := by
  have hpl : (Plain.red (xs ++ ys)).length ≤ 200000 := Nat.le_trans (Plain.red_length _) (by simp; omega)
  have hil : (Plain.inv xs).length ≤ 100000 := by rw [Plain.inv_length]; exact hx
  have hjl : (Plain.inv ys).length ≤ 100000 := by rw [Plain.inv_length]; exact hy
  have hql : (Plain.red (Plain.inv xs ++ Plain.inv ys)).length ≤ 200000 := Nat.le_trans (Plain.red_length _) (by simp; omega)
  have LP := Lib.hid (l1.out.append l2.out).red
  have LI := Lib.hid l1.out.inv
  have LJ := Lib.hid l2.out.inv
  have LQ := Lib.hid (l1.out.inv.append l2.out.inv).red
  have HC := Lib.hid (Plain.comm_red xs ys)
  obtain ⟨ps, hps⟩ : ∃ z, z = Plain.red (xs ++ ys) := ⟨_, rfl⟩
  obtain ⟨is, his⟩ : ∃ z, z = Plain.inv xs := ⟨_, rfl⟩
  obtain ⟨js, hjs⟩ : ∃ z, z = Plain.inv ys := ⟨_, rfl⟩
  rw [← his, ← hjs] at hql LQ HC
  obtain ⟨qs, hqs⟩ : ∃ z, z = Plain.red (is ++ js) := ⟨_, rfl⟩
  rw [← hps] at hpl LP HC
  rw [← his] at hil LI
  rw [← hjs] at hjl LJ
  rw [← hqs] at hql LQ HC
  have HP := Lib.hid hps
  have HI := Lib.hid his
  have HJ := Lib.hid hjs
  have HQ := Lib.hid hqs
  clear hps his hjs hqs
  go_enter Tryz.func48, Tryz.ntmps48
  go_wp2_with fail
  refine (l2Join_any _ _ _ _ xs ys _ h1 k1 h2 k2 l1 l2 (by omega)).mono ?_
  rw [← HP.out]
  rintro e w1 ⟨_, rfl, ⟨a3, c3, rfl, hi, -, hk⟩, hb⟩
  have I3 := Lib.hid hi
  have K3 := Lib.hid hk
  have B3 := Lib.hid hb
  have H1 := Lib.hid (h1.out.on hb)
  have H2 := Lib.hid (h2.out.on hb)
  clear hi hk hb
  go_wp2_with fail
  refine (l2Inverse_any _ _ xs _ H1 l1 (by omega)).mono ?_
  rw [← HI.out]
  rintro e w2 ⟨_, rfl, ⟨a4, c4, rfl, hi, -, hk⟩, hb⟩
  have I4 := Lib.hid hi
  have K4 := Lib.hid hk
  have J3 := Lib.hid (I3.out.on hb)
  have G2 := Lib.hid (H2.out.on hb)
  have B4 := Lib.hid (B3.out.trans (hb.mono B3.out.size))
  clear hi hk hb I3 H1 H2
  go_wp2_with fail
  refine (l2Inverse_any _ _ ys _ G2 l2 (by omega)).mono ?_
  rw [← HJ.out]
  rintro e w3 ⟨_, rfl, ⟨a5, c5, rfl, hi, -, hk⟩, hb⟩
  have I5 := Lib.hid hi
  have K5 := Lib.hid hk
  have M3 := Lib.hid (J3.out.on hb)
  have J4 := Lib.hid (I4.out.on hb)
  have B5 := Lib.hid (B4.out.trans (hb.mono B4.out.size))
  clear hi hk hb I4 J3 G2
  go_wp2_with fail
  refine (l2Join_any _ _ _ _ is js _ J4 K4 I5 K5 LI LJ (by omega)).mono ?_
  rw [← HQ.out]
  rintro e w4 ⟨_, rfl, ⟨a6, c6, rfl, hi, -, hk⟩, hb⟩
  have I6 := Lib.hid hi
  have K6 := Lib.hid hk
  have N3 := Lib.hid (M3.out.on hb)
  have B6 := Lib.hid (B5.out.trans (hb.mono B5.out.size))
  clear hi hk hb M3 J4 I5
  go_wp2_with fail
  refine (l2Join_any _ _ _ _ ps qs _ N3 K3 I6 K6 LP LQ (by omega)).mono ?_
  rw [HC.out]
  rintro e w5 ⟨v, rfl, hr, hb⟩
  have R := Lib.hid (And.intro (hr.mono B6.out.size) (B6.out.trans (hb.mono B6.out.size)))
  clear hr hb
  go_wp2_with fail
  go_ret
  exact ⟨_, rfl, R.out.1, R.out.2⟩

def commZ (xs ys : List Int) : List Int := xs ++ (ys ++ (Plain.inv xs ++ Plain.inv ys))

end Go.Proofs.YtobjifggelmhcaaGreat
