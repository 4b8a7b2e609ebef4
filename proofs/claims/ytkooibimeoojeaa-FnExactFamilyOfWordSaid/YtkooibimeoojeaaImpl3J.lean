/- Contracts: impl.FallAlike, impl.HidesNail. Conditions: numbers of 64 bits, lengths that fit. -/
import Derived.Test.YtkooibimeoojeaaImpl3F
import Derived.Test.YtkooibimeoojeaaFallOrd
namespace Go.Proofs.Ytkooibimeoojeaa
open Go.ChangeShapes Go.WideShapes Go.ChangeAt Go.RowKit
set_option linter.unusedVariables false

theorem tabF_key : Try.prog.keyTypeAt 5 50 = true := by kernel_rfl
theorem tabF_cells : Try.prog.cellsOf 50 = 64 := by kernel_rfl
theorem boolsF_lits (t : Nat → Bool) : Try.prog.keyLits 3 50 (bools t).toList = some ((List.range 64).map fun i => Lit.bool (t i)) := by
  rw [bools_list]
  unfold Program.keyLits
  rw [Try.underlying50]
  simp only [tabF_cells, bool_cells]
  rw [if_pos (by simp), mapM_some (fun i => [Lit.bool (t i)]) _ _ (fun i hi => by rw [Nat.mul_one, drop_one _ 64 i (by simpa using hi)]; exact bool_lit 1 _)]
  rw [Option.map_some, flat_one]
theorem run_tabsF (w : World) (t u : Nat → Bool) : Sem.run Try.prog (Op.equalIn 10000 50 (.agg (bools t)) (.agg (bools u))) w = .ok (Plain.alike t u) w := by
  have hf : ∀ v : Nat → Bool, (Value.agg (bools v)).formed Try.prog 50 = true := fun v => by
    unfold Value.formed
    rw [Try.underlying50]
    simp [tabF_cells, bools_size]
  have hc : ∀ v : Nat → Bool, (Value.agg (bools v)).cells.toList = (bools v).toList := fun v => by simp [Value.cells]
  obtain ⟨r, hr, hiff⟩ := run_equalIn_deep (P := Try.prog) 9995 5 50 tabF_key w 3 3 _ _ _ _ (hf t) (hf u) (by rw [hc]; exact boolsF_lits t) (by rw [hc]; exact boolsF_lits u)
  rw [hr]
  have e : r = Plain.alike t u := by
    rw [Bool.eq_iff_iff, hiff, Plain.alike, Plain.alikeTo_iff]
    constructor
    · intro h i hi
      have := congrArg (fun l => l[i]?) h
      simp [hi] at this
      exact this
    · intro h
      refine List.map_congr_left fun i hi => ?_
      rw [h i (by simpa using hi)]
  rw [e]

set_option maxRecDepth 100000 in
set_option maxHeartbeats 800000 in
theorem implFallAlike_any (a1 a2 : Option Addr) (c1 c2 : Nat) (xs ys : List Int) (w : World) (h1 : Hid (Ints w a1 xs)) (n1 : Hid (In64 xs)) (h2 : Hid (Ints w a2 ys)) (n2 : Hid (In64 ys)) (hx : xs.length ≤ 9223372036854775807) (hy : ys.length ≤ 9223372036854775807) :
    Calls Try.prog 31 #[.slice a1 xs.length c1, .slice a2 ys.length c2] w (Val (.tuple #[.bool (alikeW xs ys), .bool (pairW xs ys)]) w) := by
  cases hw1 : Plain.wordB xs with
  | false =>
    have HE := Lib.hid (alike_no (ys := ys) (.inl hw1))
    have W1 := Lib.hid hw1
    clear hw1
    go_enter Try.func31, Try.ntmps31
    go_wp2_with fail
    refine (isWord_any _ _ xs _ h1 n1 hx).mono ?_
    rw [W1.out]
    rintro e w' ⟨rfl, rfl⟩
    go_wp2_with fail
    go_ret2
    exact val_bb HE.out.1.symm HE.out.2.symm ⟨rfl, Below.refl _ _⟩
  | true =>
    cases hw2 : Plain.wordB ys with
    | false =>
      have HE := Lib.hid (alike_no (xs := xs) (.inr hw2))
      have W1 := Lib.hid hw1
      have W2 := Lib.hid hw2
      clear hw1 hw2
      go_enter Try.func31, Try.ntmps31
      go_wp2_with fail
      refine (isWord_any _ _ xs _ h1 n1 hx).mono ?_
      rw [W1.out]
      rintro e w' ⟨rfl, rfl⟩
      go_wp2_with fail
      refine (isWord_any _ _ ys _ h2 n2 hy).mono ?_
      rw [W2.out]
      rintro e w' ⟨rfl, rfl⟩
      go_wp2_with fail
      go_ret2
      exact val_bb HE.out.1.symm HE.out.2.symm ⟨rfl, Below.refl _ _⟩
    | true =>
      have HE := Lib.hid (alike_yes hw1 hw2)
      have m1 := (Plain.wordB_iff.1 hw1).1
      have m2 := (Plain.wordB_iff.1 hw2).1
      have L1 := Lib.hid (Plain.wordB_iff.1 hw1).2
      have L2 := Lib.hid (Plain.wordB_iff.1 hw2).2
      have W1 := Lib.hid hw1
      have W2 := Lib.hid hw2
      clear hw1 hw2
      go_enter Try.func31, Try.ntmps31
      go_wp2_with fail
      refine (isWord_any _ _ xs _ h1 n1 hx).mono ?_
      rw [W1.out]
      rintro e w' ⟨rfl, rfl⟩
      go_wp2_with fail
      refine (isWord_any _ _ ys _ h2 n2 hy).mono ?_
      rw [W2.out]
      rintro e w' ⟨rfl, rfl⟩
      go_wp2_with fail
      refine (fallTable_any _ _ xs _ h1 L1 (by omega)).mono ?_
      rintro e w1 ⟨rfl, hb⟩
      have HB := Lib.hid hb
      have H2 := Lib.hid (h2.out.on hb)
      clear hb
      go_wp2_with fail
      refine (fallTable_any _ _ ys _ H2 L2 (by omega)).mono ?_
      rintro e w2 ⟨rfl, hb⟩
      have HB2 := Lib.hid (HB.out.trans (hb.mono HB.out.size))
      clear hb
      have hrun := run_tabsF w2 (Plain.fallsB xs) (Plain.fallsB ys)
      go_wp2_with fail
      go_ret2
      exact val_bb HE.out.1.symm HE.out.2.symm ⟨rfl, HB2.out⟩

theorem clr_bit (s q p : Nat) : (Plain.clr s q).testBit p = (s.testBit p && !q.testBit p) := by
  rw [Plain.clr, Nat.testBit_xor, Nat.testBit_and]
  cases s.testBit p <;> cases q.testBit p <;> rfl
set_option maxRecDepth 100000 in
set_option maxHeartbeats 1000000 in
theorem implHidesNail_any (a : Option Addr) (cap : Nat) (xs : List Int) (n : Int) (w : World) (h : Hid (Ints w a xs)) (h64 : Hid (In64 xs)) (hn : xs.length ≤ 9223372036854775807) (hr : -9223372036854775808 ≤ n ∧ n ≤ 9223372036854775807) :
    Calls Try.prog 33 #[.slice a xs.length cap, .int .i64 n] w (Val (.tuple #[.bool (hidesW xs n), .bool (okW xs n)]) w) := by
  cases hw : Plain.wordB xs with
  | false =>
    have HE := Lib.hid (hides_no (n := n) (.inl hw))
    have HW := Lib.hid hw
    clear hw hr
    go_enter Try.func33, Try.ntmps33
    go_wp2_with fail
    refine (isWord_any _ _ xs _ h h64 hn).mono ?_
    rw [HW.out]
    rintro e w' ⟨rfl, rfl⟩
    go_wp2_with fail
    go_ret2
    exact val_bb HE.out.1.symm HE.out.2.symm ⟨rfl, Below.refl _ _⟩
  | true =>
    have m1 := (Plain.wordB_iff.1 hw).1
    have HL := Lib.hid (Plain.wordB_iff.1 hw).2
    have HW := Lib.hid hw
    cases hs : nailB n with
    | false =>
      have HE := Lib.hid (hides_no (xs := xs) (.inr hs))
      have HN := Lib.hid hs
      have HR := Lib.hid hr
      clear hw hs hr
      go_enter Try.func33, Try.ntmps33
      go_wp2_with fail
      refine (isWord_any _ _ xs _ h h64 hn).mono ?_
      rw [HW.out]
      rintro e w' ⟨rfl, rfl⟩
      go_wp2_with fail
      refine (isNail_any n _ HR.out).mono ?_
      rw [HN.out]
      rintro e w' ⟨rfl, rfl⟩
      go_wp2_with fail
      go_ret2
      exact val_bb HE.out.1.symm HE.out.2.symm ⟨rfl, Below.refl _ _⟩
    | true =>
      obtain ⟨p, rfl, hp⟩ := nail_nat hs
      have HE := Lib.hid (hides_yes hw hs)
      have HN := Lib.hid hs
      have HR := Lib.hid hr
      have hrl := Plain.red_length xs
      have HLr := Lib.hid HL.out.red
      have hns := nailSet_lt HLr.out
      have hms := Plain.matterTo_lt (Plain.fallsB xs) 6 (Nat.le_refl _)
      obtain ⟨r, hrr⟩ : ∃ r, r = Plain.red xs := ⟨_, rfl⟩
      obtain ⟨ns, hnn⟩ : ∃ ns, ns = nailSet r := ⟨_, rfl⟩
      obtain ⟨ms, hmm⟩ : ∃ ms, ms = Plain.matter (Plain.fallsB xs) := ⟨_, rfl⟩
      have hns2 : ns < 64 := by rw [hnn, hrr]; exact hns
      have hms2 : ms < 64 := by rw [hmm]; exact hms
      have hcl := clr_small hns2 hms2
      have hcl64 := clr_lt ms hns2
      obtain ⟨q, hq⟩ : ∃ q, q = 2 ^ p := ⟨_, rfl⟩
      have hq32 : q ≤ 32 := by rw [hq]; exact pow_small (by omega)
      have hpow : (2 : Int) ^ p = (q : Int) := by rw [hq]; simp
      have hq0 : 0 < q := by rw [hq]; exact Nat.pow_pos (by decide)
      have hand := and_nail hcl64 hp hpow
      rw [clr_bit] at hand
      have HV : Hid (hidesV xs p = (ns.testBit p && !ms.testBit p)) := Lib.hid (by rw [hidesV, hnn, hmm, hrr])
      rw [← HV.out] at hand
      rw [← hrr] at hrl HLr
      have HRR := Lib.hid hrr
      have HNN := Lib.hid hnn
      have HMM := Lib.hid hmm
      have HP := Lib.hid hpow
      have hqn : ((q : Int) != 0) = true := by simp; omega
      obtain ⟨cl, hc⟩ : ∃ cl, cl = Plain.clr ns ms := ⟨_, rfl⟩
      rw [← hc] at hcl hand hcl64
      clear hw hs hr hrr hnn hmm hns hms hq hpow HV hc
      go_enter Try.func33, Try.ntmps33
      go_wp2_with fail
      refine (isWord_any _ _ xs _ h h64 hn).mono ?_
      rw [HW.out]
      rintro e w' ⟨rfl, rfl⟩
      go_wp2_with fail
      refine (isNail_any ((p : Int) + 1) _ HR.out).mono ?_
      rw [HN.out]
      rintro e w' ⟨rfl, rfl⟩
      go_wp2_with fail
      refine (reduced_any _ _ xs _ h HL (by omega)).mono ?_
      rintro e w1 ⟨v, rfl, hres, hb⟩
      rw [← HRR.out] at hres
      obtain ⟨ra, rc, rfl, hi, -, -⟩ := hres
      have HI := Lib.hid hi
      have HB := Lib.hid hb
      have H1 := Lib.hid (h.out.on hb)
      clear hi hb
      go_wp2_with fail
      refine (nails_any ra rc r _ HI HLr (by omega)).mono ?_
      rw [← HNN.out]
      rintro e w' ⟨rfl, rfl⟩
      go_wp2_with fail
      refine (fallTable_any _ _ xs _ H1 HL (by omega)).mono ?_
      rintro e w2 ⟨rfl, hb⟩
      have HB2 := Lib.hid (HB.out.trans (hb.mono HB.out.size))
      clear hb
      go_wp2_with fail
      refine (mattering_word xs _).mono ?_
      rw [← HMM.out]
      rintro e w3 ⟨rfl, hb⟩
      have HB3 := Lib.hid (HB2.out.trans (hb.mono HB2.out.size))
      clear hb
      go_wp2_with fail
      refine (nailSet_any p q _ hp HP.out).mono ?_
      rintro e w' ⟨rfl, rfl⟩
      cases hv : hidesV xs p with
      | false =>
        rw [hv] at hand
        simp only [Bool.false_eq_true, if_false] at hand
        have HV := Lib.hid hv
        clear hv
        go_wp2_with fail
        go_ret2
        exact val_bb (by rw [HE.out.1, HV.out]) HE.out.2.symm ⟨rfl, HB3.out⟩
      | true =>
        rw [hv] at hand
        simp only [if_true] at hand
        have HV := Lib.hid hv
        clear hv
        go_wp2_with fail
        go_ret2
        exact val_bb (by rw [HE.out.1, HV.out]) HE.out.2.symm ⟨rfl, HB3.out⟩

end Go.Proofs.Ytkooibimeoojeaa
