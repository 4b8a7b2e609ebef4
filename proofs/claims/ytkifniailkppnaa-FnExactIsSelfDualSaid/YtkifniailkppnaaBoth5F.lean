/- Contracts: spec.IsSelfDual, impl.IsSelfDual, and both side by side. Conditions: numbers of 64 bits, lengths that fit. -/
import Derived.Test.YtkifniailkppnaaBoth5C
import Derived.Test.YtkifniailkppnaaSame
namespace Go.Proofs.Ytkifniailkppnaa
open Go.ChangeShapes Go.WideShapes Go.ChangeAt Go.RowKit
set_option linter.unusedVariables false

/-- What IsSelfDual answers. -/
def selfV (xs : List Int) (n : Int) : Bool := dualB xs n && decide (dualW xs n = xs)
theorem self_no {xs : List Int} {n : Int} (h : dualB xs n = false) : selfV xs n = false ∧ dualB xs n = false := ⟨by rw [selfV, h]; rfl, h⟩
theorem self_yes {xs : List Int} {n : Int} {L : List Int} (h : dualB xs n = true) (hL : dualW xs n = L) : selfV xs n = decide (L = xs) ∧ dualB xs n = true := ⟨by rw [selfV, h, hL]; rfl, h⟩
theorem field_fam (a : Option Addr) (n c : Nat) (w : World) : Sem.run Try.prog (Instr.field 28 (.agg #[.slice a n c]) 0) w = .ok (.slice a n c) w := by
  first | (go_simp; done) | (rfl) | (kernel_rfl)
set_option maxHeartbeats 1600000 in
theorem specIsSelfDual_any (a : Option Addr) (cap : Nat) (xs : List Int) (n : Int) (w : World) (h : Hid (Ints w a xs)) (h64 : Hid (In64 xs)) (hn : xs.length ≤ 1048576) (hr : -9223372036854775808 ≤ n ∧ n ≤ 9223372036854775807) :
    Calls Try.prog 6 #[.agg #[.slice a xs.length cap], .int .i64 n] w (Val (.tuple #[.bool (selfV xs n), .bool (dualB xs n)]) w) := by
  have hb0 := (Below.refl w.heap.size w).alloc (Nat.le_refl _) (.cells #[.slice a xs.length cap] 28)
  have H0 := Lib.hid (And.intro hb0 (And.intro (h.out.on hb0) (famAt_new w (.slice a xs.length cap))))
  have HR := Lib.hid hr
  clear hb0 hr
  cases hs : nB n with
  | false =>
    have HE := Lib.hid (self_no (xs := xs) (n := n) (by simp [dualB, hs]))
    have hd : decide (0 ≤ n ∧ n ≤ 6) = false := hs
    clear hs
    go_enter Try.func6, Try.ntmps6
    go_wp2_with fail
    obtain ⟨W, hW⟩ : ∃ W, W = w.alloc (.cells #[.slice a xs.length cap] 28) := ⟨_, rfl⟩
    rw [← hW] at H0 ⊢
    clear hW
    refine (l1In_any n 0 6 _ HR.out).mono ?_
    rw [hd]
    rintro e w' ⟨rfl, rfl⟩
    clear hd
    go_wp2_with fail
    go_ret2
    exact val_bb HE.out.1.symm HE.out.2.symm ⟨rfl, H0.out.1⟩
  | true =>
    obtain ⟨p, rfl, hp6⟩ := n_nat hs
    have hd : decide (0 ≤ (p : Int) ∧ (p : Int) ≤ 6) = true := hs
    cases hw : withinB xs p with
    | false =>
      have HE := Lib.hid (self_no (xs := xs) (n := (p : Int)) (by simp [dualB, hs, hw]))
      have HN := Lib.hid hw
      clear hs hw
      go_enter Try.func6, Try.ntmps6
      go_wp2_with fail
      obtain ⟨W, hW⟩ : ∃ W, W = w.alloc (.cells #[.slice a xs.length cap] 28) := ⟨_, rfl⟩
      rw [← hW] at H0 ⊢
      clear hW
      refine (l1In_any (p : Int) 0 6 _ HR.out).mono ?_
      rw [hd]
      rintro e w' ⟨rfl, rfl⟩
      clear hd
      have hcf := H0.out.2.2.cell
      go_wp2_with fail
      refine (l5Within_any _ _ xs p _ (Lib.hid H0.out.2.1) h64 hn hp6).mono ?_
      rw [HN.out]
      rintro e w2 ⟨rfl, hb⟩
      have H2 := Lib.hid (And.intro (H0.out.1.trans (hb.mono H0.out.1.size)) (H0.out.2.2.on hb))
      clear hb
      go_wp2_with fail
      go_ret2
      exact val_bb HE.out.1.symm HE.out.2.symm ⟨rfl, H2.out.1⟩
    | true =>
      obtain ⟨m, hm⟩ : ∃ m, m + 1 = 2 ^ p := ⟨2 ^ p - 1, by have := Nat.pow_pos (a := 2) (n := p) (by decide); omega⟩
      have hdb : dualB xs (p : Int) = true := by simp [dualB, hs, hw]
      obtain ⟨L, hL⟩ : ∃ L, L = Plain.edges (fun s => !Plain.hasB xs (Plain.clr m s)) true := ⟨_, rfl⟩
      have HE := Lib.hid (self_yes hdb ((dual_yes hdb hm).1.trans hL.symm))
      have HLn : L.length ≤ 64 := by rw [hL]; exact Plain.edges_le _ _
      have HL := Lib.hid hL
      have HN := Lib.hid hw
      have HM := Lib.hid hm
      have HSB : Hid (Plain.setsB xs = true) := Lib.hid (Plain.fam_sets (by rw [withinB, Bool.and_eq_true] at hw; exact hw.1))
      clear hs hw hdb hL hm
      go_enter Try.func6, Try.ntmps6
      go_wp2_with fail
      obtain ⟨W, hW⟩ : ∃ W, W = w.alloc (.cells #[.slice a xs.length cap] 28) := ⟨_, rfl⟩
      rw [← hW] at H0 ⊢
      clear hW
      refine (l1In_any (p : Int) 0 6 _ HR.out).mono ?_
      rw [hd]
      rintro e w' ⟨rfl, rfl⟩
      clear hd
      have hcf := H0.out.2.2.cell
      go_wp2_with fail
      refine (l5Within_any _ _ xs p _ (Lib.hid H0.out.2.1) h64 hn hp6).mono ?_
      rw [HN.out]
      rintro e w2 ⟨rfl, hb⟩
      have H2 := Lib.hid (And.intro (H0.out.1.trans (hb.mono H0.out.1.size)) (H0.out.2.2.on hb))
      clear hb
      clear hcf
      have hc1 : w2.cell? _ = _ := H2.out.2.cell
      have hc2 : w2.drew.cell? _ = _ := hc1
      have HFd : Hid (FamAt w2.drew w.heap.size _) := Lib.hid H2.out.2
      have HId : Hid (Ints w2.drew a xs) := Lib.hid ((h.out.on H2.out.1).on (Below.refl _ _).drew)
      have HBd : Hid (Below w.heap.size w w2.drew) := Lib.hid H2.out.1.drew
      have HLl : L.length ≤ 9223372036854775807 := by omega
      go_wp2_with fail
      have hff := field_fam
      go_region_law (go_simp; first
        | (go_at_call 16; refine (l5Dual_any _ _ xs p m _ HId HSB hn hp6 HM.out).mono ?_; rw [← HL.out]; rintro e w3 ⟨ma, mc, rfl, hi, ho, hcp, hb⟩; have hc3 := (HFd.out.on hb).cell; have HI3 := Lib.hid (HId.out.on hb); have HB3 := Lib.hid (HBd.out.trans (hb.mono HBd.out.size)); have HM3 := Lib.hid hi; clear hi ho hcp hb)
        | (go_at_call 15; refine (l1Same_any _ _ _ _ L xs _ HM3 HI3 HLl).mono ?_; rintro e w4 ⟨rfl, k4, rfl⟩))
      all_goals
        clear hff
        go_wp2_with fail
        go_ret2
        exact val_bb HE.out.1.symm HE.out.2.symm ⟨rfl, below_drewN HB3.out _⟩
set_option maxHeartbeats 1600000 in
theorem implIsSelfDual_any (a : Option Addr) (cap : Nat) (xs : List Int) (n : Int) (w : World) (h : Hid (Ints w a xs)) (h64 : Hid (In64 xs)) (hn : xs.length ≤ 1048576) (hr : -9223372036854775808 ≤ n ∧ n ≤ 9223372036854775807) :
    Calls Try.prog 8 #[.agg #[.slice a xs.length cap], .int .i64 n] w (Val (.tuple #[.bool (selfV xs n), .bool (dualB xs n)]) w) := by
  have hb0 := (Below.refl w.heap.size w).alloc (Nat.le_refl _) (.cells #[.slice a xs.length cap] 28)
  have H0 := Lib.hid (And.intro hb0 (And.intro (h.out.on hb0) (famAt_new w (.slice a xs.length cap))))
  have HR := Lib.hid hr
  clear hb0 hr
  cases hd : dualB xs n with
  | false =>
    obtain ⟨M, hM⟩ : ∃ M, M = dualW xs n := ⟨_, rfl⟩
    have HMl : M.length ≤ 64 := by rw [hM]; exact dualW_le xs n
    have HLl : M.length ≤ 9223372036854775807 := by omega
    have HE := Lib.hid (self_no hd)
    have HD := Lib.hid hd
    have HMe := Lib.hid hM
    clear hd hM
    go_enter Try.func8, Try.ntmps8
    go_wp2_with fail
    obtain ⟨W, hW⟩ : ∃ W, W = w.alloc (.cells #[.slice a xs.length cap] 28) := ⟨_, rfl⟩
    rw [← hW] at H0 ⊢
    clear hW
    have hcf := H0.out.2.2.cell
    go_wp2_with fail
    refine (implDualFamily_any _ _ xs n _ (Lib.hid H0.out.2.1) h64 hn HR.out).mono ?_
    rw [HD.out, ← HMe.out]
    rintro e w2 ⟨ma, mc, rfl, hi, ho, hcp, hb⟩
    have H2 := Lib.hid (And.intro (H0.out.1.trans (hb.mono H0.out.1.size)) (And.intro (H0.out.2.2.on hb) (And.intro hi (H0.out.2.1.on hb))))
    clear hi ho hcp hb hcf
    have hcf := H2.out.2.1.cell
    have hcA : (w2.alloc (.cells #[.slice ma M.length mc] 28)).cell? _ = _ := (H2.out.2.1.alloc _).cell
    have HBA := Lib.hid ((Below.refl w2.heap.size w2).alloc (Nat.le_refl _) (.cells #[.slice ma M.length mc] 28))
    go_wp2_with fail
    go_ret2
    exact val_bb HE.out.1.symm rfl ⟨rfl, H2.out.1.trans (HBA.out.mono H2.out.1.size)⟩
  | true =>
    obtain ⟨M, hM⟩ : ∃ M, M = dualW xs n := ⟨_, rfl⟩
    have HMl : M.length ≤ 64 := by rw [hM]; exact dualW_le xs n
    have HLl : M.length ≤ 9223372036854775807 := by omega
    have HE := Lib.hid (self_yes hd hM.symm)
    have HD := Lib.hid hd
    have HMe := Lib.hid hM
    clear hd hM
    go_enter Try.func8, Try.ntmps8
    go_wp2_with fail
    obtain ⟨W, hW⟩ : ∃ W, W = w.alloc (.cells #[.slice a xs.length cap] 28) := ⟨_, rfl⟩
    rw [← hW] at H0 ⊢
    clear hW
    have hcf := H0.out.2.2.cell
    go_wp2_with fail
    refine (implDualFamily_any _ _ xs n _ (Lib.hid H0.out.2.1) h64 hn HR.out).mono ?_
    rw [HD.out, ← HMe.out]
    rintro e w2 ⟨ma, mc, rfl, hi, ho, hcp, hb⟩
    have H2 := Lib.hid (And.intro (H0.out.1.trans (hb.mono H0.out.1.size)) (And.intro (H0.out.2.2.on hb) (And.intro hi (H0.out.2.1.on hb))))
    clear hi ho hcp hb hcf
    have hcf := H2.out.2.1.cell
    have hcA : (w2.alloc (.cells #[.slice ma M.length mc] 28)).cell? _ = _ := (H2.out.2.1.alloc _).cell
    have HBA := Lib.hid ((Below.refl w2.heap.size w2).alloc (Nat.le_refl _) (.cells #[.slice ma M.length mc] 28))
    go_wp2_with fail
    refine (slicesEqI_any _ _ _ _ M xs _ (Lib.hid (H2.out.2.2.1.on HBA.out)) (Lib.hid (H2.out.2.2.2.on HBA.out)) HLl).mono ?_
    rintro e w4 ⟨rfl, k4, rfl⟩
    go_wp2_with fail
    go_ret2
    exact val_bb HE.out.1.symm rfl ⟨rfl, below_drewN (H2.out.1.trans (HBA.out.mono H2.out.1.size)) _⟩
theorem bothIsSelfDual (xs : List Int) (h64 : Hid (In64 xs)) (hn : xs.length ≤ 1048576) (n : Int) (h1 : -9223372036854775808 ≤ n) (h2 : n ≤ 9223372036854775807) : ∃ (b c : Bool),
    (∀ a cap w, Hid (Ints w a xs) → Calls Try.prog 6 #[.agg #[.slice a xs.length cap], .int .i64 n] w (Val (.tuple #[.bool b, .bool c]) w)) ∧
    (∀ a cap w, Hid (Ints w a xs) → Calls Try.prog 8 #[.agg #[.slice a xs.length cap], .int .i64 n] w (Val (.tuple #[.bool b, .bool c]) w)) :=
  ⟨_, _, fun a cap w h => specIsSelfDual_any a cap xs n w h h64 hn ⟨h1, h2⟩, fun a cap w h => implIsSelfDual_any a cap xs n w h h64 hn ⟨h1, h2⟩⟩

end Go.Proofs.Ytkifniailkppnaa
