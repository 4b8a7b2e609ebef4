/- The walk of laws.FnTrees: it returns true and leaves its argument as it was. Condition: the code's bytes lie in memory. -/
import Derived.Test.YtoikehpnpealpaaTreeFacts
import Derived.Test.YtoikehpnpealpaaDrawTree
import Derived.Test.YtoikehpnpealpaaStK
import Derived.Test.YtoikehpnpealpaaRInv
import Derived.Test.YtoikehpnpealpaaTops
import Derived.Test.YtoikehpnpealpaaTopVal
namespace Go.Proofs.Ytoikehpnpealpaa
open Go.ChangeShapes Go.WideShapes Go.ChangeAt Go.RowKit
set_option linter.unusedVariables false

theorem specLength_raw (s : ByteArray) (w : World) : Calls Try.prog 30 #[.string s] w (Val (.tuple #[.int .i64 (rawI s), .bool (wholeB s)]) w) := specTreeLength_any s w
theorem implLength_raw (s : ByteArray) (w : World) (hs : s.size ≤ 9223372036854775807) : Calls Try.prog 29 #[.string s] w (Val (.tuple #[.int .i64 (rawI s), .bool (wholeB s)]) w) := implTreeLength_any s w hs
theorem specShape_raw (s : ByteArray) (w : World) : Calls Try.prog 33 #[.string s] w (Val (.tuple #[.int .i64 (deepI s), .int .i64 (leavesI s), .bool (wholeB s)]) w) := specTreeShape_any s w
theorem implShape_raw (s : ByteArray) (w : World) (hs : s.size ≤ 9223372036854775807) : Calls Try.prog 32 #[.string s] w (Val (.tuple #[.int .i64 (deepI s), .int .i64 (leavesI s), .bool (wholeB s)]) w) := implTreeShape_any s w hs

set_option maxRecDepth 100000 in
set_option maxHeartbeats 8000000 in
theorem fnTrees_walk (a0 : Option Addr) (len0 cap0 : Nat) (w : World) (C0 : Hid (Code8 w a0 len0)) (hlen : len0 ≤ 9223372036854775807) :
    Calls Try.prog 4 #[.slice a0 len0 cap0] w fun e w' => e = .returned (.bool true) ∧ Below w.heap.size w w' := by
  by_cases hbig : 65536 < len0
  · go_enter Try.func4, Try.ntmps4
    go_wp2_with fail
    refine (rBig_any a0 len0 cap0 _ hlen).mono ?_
    rintro e w' ⟨rfl, rfl⟩
    rw [decide_eq_true hbig]
    go_wp2_with fail
    go_ret
    exact ⟨rfl, Below.refl _ _⟩
  · go_enter Try.func4, Try.ntmps4
    go_wp2_with fail
    refine (rBig_any a0 len0 cap0 _ hlen).mono ?_
    rintro e w' ⟨rfl, rfl⟩
    rw [decide_eq_false hbig]
    clear hbig
    go_wp2_with fail
    refine (drawTreeValue_any a0 len0 cap0 _ C0).mono ?_
    rintro e w1 ⟨s, rfl, hs, hb⟩
    have B1 := Lib.hid hb
    clear hb
    have hsm := tree_small s
    have hfine := treeV_fine s
    have hshape := tree_shape (s := s)
    have hle := tree_le (s := s)
    have hwh := tree_whole (s := s)
    obtain ⟨hsw1, hsw2⟩ := tree_swap s
    obtain ⟨V, hV⟩ : ∃ z, z = (treeV s).1 := ⟨_, rfl⟩
    obtain ⟨ok, hok⟩ : ∃ z, z = (treeV s).2 := ⟨_, rfl⟩
    obtain ⟨wb, hwb⟩ : ∃ z, z = wholeB s := ⟨_, rfl⟩
    obtain ⟨R, hR⟩ : ∃ z, z = rawI s := ⟨_, rfl⟩
    obtain ⟨D, hD⟩ : ∃ z, z = deepI s := ⟨_, rfl⟩
    obtain ⟨F, hF⟩ : ∃ z, z = leavesI s := ⟨_, rfl⟩
    obtain ⟨sw, hsw⟩ : ∃ z, z = (swapS s).1 := ⟨_, rfl⟩
    obtain ⟨th, hth⟩ : ∃ z, z = (swapS s).2 := ⟨_, rfl⟩
    rw [← hR, ← hD, ← hF] at hsm
    rw [← hV] at hfine
    rw [← hD, ← hF, ← hR, ← hwb] at hshape
    rw [← hV, ← hok, ← hR] at hle
    rw [← hok, ← hwb] at hwh
    rw [← hth, ← hwb, ← hD] at hsw1
    rw [← hth, ← hsw, ← hR, ← hV, ← hok] at hsw2
    have HV := Lib.hid hV
    have Hok := Lib.hid hok
    have Hwb := Lib.hid hwb
    have HR := Lib.hid hR
    have HD := Lib.hid hD
    have HF := Lib.hid hF
    have Hsw := Lib.hid hsw
    have Hth := Lib.hid hth
    have LV := Lib.hid hfine.2
    have hV64 := hfine.1
    obtain ⟨⟨hR0, hR1⟩, ⟨hD0, hD1⟩, ⟨hF0, hF1⟩⟩ := hsm
    clear hV hok hwb hR hD hF hsw hth hfine
    have G1 := Lib.hid hshape
    have G2 := Lib.hid hle
    have G3 := Lib.hid hwh
    have G4 := Lib.hid hsw1
    have G5 := Lib.hid hsw2
    clear hshape hle hwh hsw1 hsw2
    go_wp2_with fail
    refine (implTreeValue_any s _ (by omega)).mono ?_
    rw [← HV.out, ← Hok.out]
    rintro e w2 ⟨v1, rfl, ⟨a1, c1, rfl, hi, -, -⟩, hb⟩
    have I1 := Lib.hid hi
    have B2 := Lib.hid (B1.out.trans (hb.mono B1.out.size))
    clear hi hb B1
    go_wp2_with fail
    refine (specTreeValue_any s _).mono ?_
    rw [← HV.out, ← Hok.out]
    rintro e w3 ⟨v1, rfl, ⟨a2, c2, rfl, hi, -, -⟩, hb⟩
    have I2 := Lib.hid hi
    have I1b := Lib.hid (I1.out.on hb)
    have B3 := Lib.hid (B2.out.trans (hb.mono B2.out.size))
    clear hi hb B2 I1
    go_wp2_with fail
    refine (rInts_same a1 a2 c1 c2 V _ I1b I2 (by omega)).mono ?_
    rintro e w4 ⟨rfl, hb⟩
    have I1c := Lib.hid (I1b.out.on hb)
    have B4 := Lib.hid (B3.out.trans (hb.mono B3.out.size))
    clear hb B3 I1b I2
    go_wp2_with fail
    refine (implLength_raw s _ (by omega)).mono ?_
    rw [← HR.out, ← Hwb.out]
    rintro e w5 ⟨rfl, hb⟩
    have I1d := Lib.hid (I1c.out.on hb)
    have B5 := Lib.hid (B4.out.trans (hb.mono B4.out.size))
    clear hb B4 I1c
    go_wp2_with fail
    refine (specLength_raw s _).mono ?_
    rw [← HR.out, ← Hwb.out]
    rintro e w6 ⟨rfl, hb⟩
    have I1e := Lib.hid (I1d.out.on hb)
    have B6 := Lib.hid (B5.out.trans (hb.mono B5.out.size))
    clear hb B5 I1d
    go_wp2_with fail
    refine (implIsTree_any s _ (by omega)).mono ?_
    rw [← Hwb.out]
    rintro e w7 ⟨rfl, hb⟩
    have I1f := Lib.hid (I1e.out.on hb)
    have B7 := Lib.hid (B6.out.trans (hb.mono B6.out.size))
    clear hb B6 I1e
    cases ok with
    | false =>
      cases wb with
      | false =>
        go_wp2_with fail
        refine (implShape_raw s _ (by omega)).mono ?_
        rw [← HD.out, ← HF.out, ← Hwb.out]
        rintro e w8 ⟨rfl, hb⟩
        have I1g := Lib.hid (I1f.out.on hb)
        have B8 := Lib.hid (B7.out.trans (hb.mono B7.out.size))
        clear hb B7 I1f
        go_wp2_with fail
        refine (specShape_raw s _).mono ?_
        rw [← HD.out, ← HF.out, ← Hwb.out]
        rintro e w9 ⟨rfl, hb⟩
        have I1h := Lib.hid (I1g.out.on hb)
        have B9 := Lib.hid (B8.out.trans (hb.mono B8.out.size))
        clear hb B8 I1g
        go_wp2_with fail
        refine (implSwapTree_any s _ (by omega)).mono ?_
        rw [← Hsw.out, ← Hth.out]
        rintro e w10 ⟨rfl, hb⟩
        have I1i := Lib.hid (I1h.out.on hb)
        have B10 := Lib.hid (B9.out.trans (hb.mono B9.out.size))
        clear hb B9 I1h
        go_wp2_with fail
        refine (specSwapTree_any s _).mono ?_
        rw [← Hsw.out, ← Hth.out]
        rintro e w11 ⟨rfl, hb⟩
        have I1j := Lib.hid (I1i.out.on hb)
        have B11 := Lib.hid (B10.out.trans (hb.mono B10.out.size))
        clear hb B10 I1i
        have hth : th = false := by have := G4.out; simpa using this
        subst hth
        go_wp2_with fail
        go_ret
        exact ⟨rfl, B11.out⟩
      | true =>
        go_wp2_with fail
        refine (implShape_raw s _ (by omega)).mono ?_
        rw [← HD.out, ← HF.out, ← Hwb.out]
        rintro e w8 ⟨rfl, hb⟩
        have I1g := Lib.hid (I1f.out.on hb)
        have B8 := Lib.hid (B7.out.trans (hb.mono B7.out.size))
        clear hb B7 I1f
        go_wp2_with fail
        refine (specShape_raw s _).mono ?_
        rw [← HD.out, ← HF.out, ← Hwb.out]
        rintro e w9 ⟨rfl, hb⟩
        have I1h := Lib.hid (I1g.out.on hb)
        have B9 := Lib.hid (B8.out.trans (hb.mono B8.out.size))
        clear hb B8 I1g
        go_wp2_with fail
        refine (implSwapTree_any s _ (by omega)).mono ?_
        rw [← Hsw.out, ← Hth.out]
        rintro e w10 ⟨rfl, hb⟩
        have I1i := Lib.hid (I1h.out.on hb)
        have B10 := Lib.hid (B9.out.trans (hb.mono B9.out.size))
        clear hb B9 I1h
        go_wp2_with fail
        refine (specSwapTree_any s _).mono ?_
        rw [← Hsw.out, ← Hth.out]
        rintro e w11 ⟨rfl, hb⟩
        have I1j := Lib.hid (I1i.out.on hb)
        have B11 := Lib.hid (B10.out.trans (hb.mono B10.out.size))
        clear hb B10 I1i
        obtain ⟨hF2, hR2⟩ := G1.out (by first | exact trivial | rfl)
        by_cases hD2 : 0 < D
        · have hth : th = true := by have := G4.out; simpa [hD2] using this
          subst hth
          obtain ⟨t1, t2, t3, t4⟩ := G5.out rfl
          have T1 := Lib.hid t1
          have T2 := Lib.hid t2
          have T3 := Lib.hid t3
          have T4 := Lib.hid t4
          have hsz := (whole_cut t1).2.1
          clear t1 t2 t3 t4
          go_wp2_with fail
          refine (implLength_raw sw _ (by omega)).mono ?_
          rw [T1.out, T2.out]
          rintro e w12 ⟨rfl, hb⟩
          have I1k := Lib.hid (I1j.out.on hb)
          have B12 := Lib.hid (B11.out.trans (hb.mono B11.out.size))
          clear hb B11 I1j
          go_wp2_with fail
          refine (implSwapTree_any sw _ (by omega)).mono ?_
          rw [T3.out]
          rintro e w13 ⟨rfl, hb⟩
          have I1l := Lib.hid (I1k.out.on hb)
          have B13 := Lib.hid (B12.out.trans (hb.mono B12.out.size))
          clear hb B12 I1k
          go_wp2_with fail
          refine (implTreeValue_any sw _ (by omega)).mono ?_
          rw [T4.out]
          rintro e w14 ⟨v1, rfl, ⟨a3, c3, rfl, hi, -, -⟩, hb⟩
          have I3 := Lib.hid hi
          have I1m := Lib.hid (I1l.out.on hb)
          have B14 := Lib.hid (B13.out.trans (hb.mono B13.out.size))
          clear hi hb B13 I1l
          go_wp2_with fail
          go_ret
          exact ⟨rfl, B14.out⟩
        · have hth : th = false := by have := G4.out; simpa [hD2] using this
          subst hth
          go_wp2_with fail
          go_ret
          exact ⟨rfl, B11.out⟩
    | true =>
      obtain rfl : wb = true := G3.out rfl
      go_wp2_with fail
      refine (implShape_raw s _ (by omega)).mono ?_
      rw [← HD.out, ← HF.out, ← Hwb.out]
      rintro e w8 ⟨rfl, hb⟩
      have I1g := Lib.hid (I1f.out.on hb)
      have B8 := Lib.hid (B7.out.trans (hb.mono B7.out.size))
      clear hb B7 I1f
      go_wp2_with fail
      refine (specShape_raw s _).mono ?_
      rw [← HD.out, ← HF.out, ← Hwb.out]
      rintro e w9 ⟨rfl, hb⟩
      have I1h := Lib.hid (I1g.out.on hb)
      have B9 := Lib.hid (B8.out.trans (hb.mono B8.out.size))
      clear hb B8 I1g
      go_wp2_with fail
      refine (implSwapTree_any s _ (by omega)).mono ?_
      rw [← Hsw.out, ← Hth.out]
      rintro e w10 ⟨rfl, hb⟩
      have I1i := Lib.hid (I1h.out.on hb)
      have B10 := Lib.hid (B9.out.trans (hb.mono B9.out.size))
      clear hb B9 I1h
      go_wp2_with fail
      refine (specSwapTree_any s _).mono ?_
      rw [← Hsw.out, ← Hth.out]
      rintro e w11 ⟨rfl, hb⟩
      have I1j := Lib.hid (I1i.out.on hb)
      have B11 := Lib.hid (B10.out.trans (hb.mono B10.out.size))
      clear hb B10 I1i
      obtain ⟨hF2, hR2⟩ := G1.out (by first | exact trivial | rfl)
      by_cases hD2 : 0 < D
      · have hth : th = true := by have := G4.out; simpa [hD2] using this
        subst hth
        obtain ⟨t1, t2, t3, t4⟩ := G5.out rfl
        have T1 := Lib.hid t1
        have T2 := Lib.hid t2
        have T3 := Lib.hid t3
        have T4 := Lib.hid t4
        have hsz := (whole_cut t1).2.1
        clear t1 t2 t3 t4
        go_wp2_with fail
        refine (implLength_raw sw _ (by omega)).mono ?_
        rw [T1.out, T2.out]
        rintro e w12 ⟨rfl, hb⟩
        have I1k := Lib.hid (I1j.out.on hb)
        have B12 := Lib.hid (B11.out.trans (hb.mono B11.out.size))
        clear hb B11 I1j
        go_wp2_with fail
        refine (implSwapTree_any sw _ (by omega)).mono ?_
        rw [T3.out]
        rintro e w13 ⟨rfl, hb⟩
        have I1l := Lib.hid (I1k.out.on hb)
        have B13 := Lib.hid (B12.out.trans (hb.mono B12.out.size))
        clear hb B12 I1k
        go_wp2_with fail
        refine (implTreeValue_any sw _ (by omega)).mono ?_
        rw [T4.out]
        rintro e w14 ⟨v1, rfl, ⟨a3, c3, rfl, hi, -, -⟩, hb⟩
        have I3 := Lib.hid hi
        have I1m := Lib.hid (I1l.out.on hb)
        have B14 := Lib.hid (B13.out.trans (hb.mono B13.out.size))
        clear hi hb B13 I1l
        go_wp2_with fail
        refine (rInverse_any a1 c1 V _ I1m LV (by omega)).mono ?_
        rintro e w15 ⟨v1, rfl, hc⟩
        obtain ⟨⟨a4, c4, rfl, hi, -, -⟩, hb⟩ := coll_res hc
        have I4 := Lib.hid hi
        have I3b := Lib.hid (I3.out.on hb)
        have B15 := Lib.hid (B14.out.trans (hb.mono B14.out.size))
        clear hi hb hc B14 I3
        have hil : (Plain.inv V).length ≤ 64 := by rw [Plain.inv_length]; exact hV64
        go_wp2_with fail
        refine (rInts_same a3 a4 c3 c4 (Plain.inv V) _ I3b I4 (by omega)).mono ?_
        rintro e w16 ⟨rfl, hb⟩
        have B16 := Lib.hid (B15.out.trans (hb.mono B15.out.size))
        clear hb B15 I3b I4
        have hle := G2.out (by first | exact trivial | rfl)
        go_wp2_with fail
        go_ret
        exact ⟨rfl, B16.out⟩
      · have hth : th = false := by have := G4.out; simpa [hD2] using this
        subst hth
        have hle := G2.out (by first | exact trivial | rfl)
        go_wp2_with fail
        go_ret
        exact ⟨rfl, B11.out⟩

end Go.Proofs.Ytoikehpnpealpaa
