/- Contracts: spec.FamilyOfWord, impl.FamilyOfWord. Conditions: numbers of 64 bits, lengths that fit. -/
import Derived.Test.YtkooibimeoojeaaBoth3
import Derived.Test.YtkooibimeoojeaaFamTab
namespace Go.Proofs.Ytkooibimeoojeaa
open Go.ChangeShapes Go.WideShapes Go.ChangeAt Go.RowKit
set_option linter.unusedVariables false

set_option maxRecDepth 100000 in
set_option maxHeartbeats 2000000 in
theorem specFamilyOfWord_any (a : Option Addr) (cap : Nat) (xs : List Int) (w : World) (h : Hid (Ints w a xs)) (h64 : Hid (In64 xs)) (hn : xs.length ≤ 1048576) :
    Calls Try.prog 36 #[.slice a xs.length cap] w (FB (edgesW xs true) (Plain.wordB xs) w) := by
  have H0 := Lib.hid (And.intro (famAt_new w (.slice none 0 0)) ((Below.refl w.heap.size w).alloc (Nat.le_refl _) (.cells #[.slice none 0 0] 44)))
  cases hw : Plain.wordB xs with
  | false =>
    have HE := Lib.hid (And.intro (edgesW_no (v := true) hw) (rfl : false = false))
    have HW := Lib.hid hw
    clear hw
    go_enter Try.func36, Try.ntmps36
    go_wp2_with fail
    obtain ⟨W, hW⟩ : ∃ W, W = w.alloc (.cells #[.slice none 0 0] 44) := ⟨_, rfl⟩
    rw [← hW] at H0 ⊢
    clear hW
    refine (l2Word_any _ _ xs _ (Lib.hid (h.out.on H0.out.2)) h64 (by omega)).mono ?_
    rw [HW.out]
    rintro e w' ⟨rfl, rfl⟩
    have hB := ((H0.out.2).setCell (p := ⟨w.heap.size, 0, none⟩) (by simp <;> omega) (.slice none 0 0))
    have hF := (H0.out.1).set (.slice none 0 0)
    have hcr := (H0.out.1).cell
    have hfr := (H0.out.1).free
    have HB9 := Lib.hid (And.intro hB hF)
    clear hB hF
    go_wp2_with fail
    refine bodyPost_ret (results_fam2 rfl _ _ (w.heap.size) _ (.bool false) rfl rfl HB9.out.2) rfl (fb_of HE.out.1.symm rfl (fb_nil HB9.out.1))
  | true =>
    have m1 := (Plain.wordB_iff.1 hw).1
    have HL2 := Lib.hid (Plain.wordB_iff.1 hw).2
    have hE := edgesW_yes (v := true) hw
    obtain ⟨L, hL⟩ : ∃ L, L = Plain.edges (Plain.fallsB xs) true := ⟨_, rfl⟩
    rw [← hL] at hE
    have HE := Lib.hid (And.intro hE (rfl : true = true))
    have HL := Lib.hid hL
    have HW := Lib.hid hw
    clear hw hE hL
    go_enter Try.func36, Try.ntmps36
    go_wp2_with fail
    obtain ⟨W, hW⟩ : ∃ W, W = w.alloc (.cells #[.slice none 0 0] 44) := ⟨_, rfl⟩
    rw [← hW] at H0 ⊢
    clear hW
    refine (l2Word_any _ _ xs _ (Lib.hid (h.out.on H0.out.2)) h64 (by omega)).mono ?_
    rw [HW.out]
    rintro e w' ⟨rfl, rfl⟩
    go_wp2_with fail
    refine (l3Table_any _ _ xs _ (Lib.hid (h.out.on H0.out.2)) HL2 (by omega)).mono ?_
    rintro e w2 ⟨rfl, hb2⟩
    have H2 := Lib.hid (And.intro (H0.out.2.trans (hb2.mono H0.out.2.size)) (H0.out.1.on hb2))
    clear hb2
    go_wp2_with fail
    refine (l5Made_any _ _).mono ?_
    rw [← HL.out]
    rintro e w3 ⟨ma, mc, rfl, hi, ho, hcp, hb⟩
    have HS := Lib.hid (fam_stored (W := w2) (B := w2.heap.size) (G := w.heap.size) H2.out.1 (Nat.le_refl _) H2.out.2.lt (Nat.le_refl _) H2.out.2 hi ho hcp hb)
    have hcr := (H2.out.2.on hb).cell
    have hfr := (H2.out.2.on hb).free
    clear hi ho hcp hb
    go_wp2_with fail
    refine bodyPost_ret (results_fam2 rfl _ _ (w.heap.size) _ (.bool true) rfl rfl HS.out.1) rfl (fb_of HE.out.1.symm rfl HS.out.2)
set_option maxRecDepth 100000 in
set_option maxHeartbeats 2000000 in
theorem implFamilyOfWord_any (a : Option Addr) (cap : Nat) (xs : List Int) (w : World) (h : Hid (Ints w a xs)) (h64 : Hid (In64 xs)) (hn : xs.length ≤ 1048576) :
    Calls Try.prog 37 #[.slice a xs.length cap] w (FB (edgesW xs true) (Plain.wordB xs) w) := by
  have H0 := Lib.hid (And.intro (famAt_new w (.slice none 0 0)) ((Below.refl w.heap.size w).alloc (Nat.le_refl _) (.cells #[.slice none 0 0] 44)))
  obtain ⟨L, hL⟩ : ∃ L, L = edgesW xs true := ⟨_, rfl⟩
  rw [← hL]
  have HL := Lib.hid hL
  cases hw : Plain.wordB xs with
  | false =>
    have HE : Hid ([] = L ∧ false = false) := Lib.hid ⟨by rw [hL, edgesW_no hw], rfl⟩
    have HW := Lib.hid hw
    clear hw hL
    go_enter Try.func37, Try.ntmps37
    go_wp2_with fail
    obtain ⟨W, hW⟩ : ∃ W, W = w.alloc (.cells #[.slice none 0 0] 44) := ⟨_, rfl⟩
    rw [← hW] at H0 ⊢
    clear hW
    refine (implLeastFalls_any _ _ xs _ (Lib.hid (h.out.on H0.out.2)) h64 (by omega)).mono ?_
    rw [← HL.out, HW.out]
    rintro e w2 ⟨v, rfl, ⟨la, lc, rfl, -, -, -⟩, hb⟩
    have H2 := Lib.hid (And.intro (H0.out.2.trans (hb.mono H0.out.2.size)) (H0.out.1.on hb))
    clear hb
    have hB := ((H2.out.1).setCell (p := ⟨w.heap.size, 0, none⟩) (by simp <;> omega) (.slice none 0 0))
    have hF := (H2.out.2).set (.slice none 0 0)
    have hcr := (H2.out.2).cell
    have hfr := (H2.out.2).free
    have HB9 := Lib.hid (And.intro hB hF)
    clear hB hF
    go_wp2_with fail
    refine bodyPost_ret (results_fam2 rfl _ _ (w.heap.size) _ (.bool false) rfl rfl HB9.out.2) rfl (fb_of HE.out.1 rfl (fb_nil HB9.out.1))
  | true =>
    have HW := Lib.hid hw
    clear hw hL
    go_enter Try.func37, Try.ntmps37
    go_wp2_with fail
    obtain ⟨W, hW⟩ : ∃ W, W = w.alloc (.cells #[.slice none 0 0] 44) := ⟨_, rfl⟩
    rw [← hW] at H0 ⊢
    clear hW
    refine (implLeastFalls_any _ _ xs _ (Lib.hid (h.out.on H0.out.2)) h64 (by omega)).mono ?_
    rw [← HL.out, HW.out]
    rintro e w2 ⟨v, rfl, ⟨la, lc, rfl, hi, ho, hcp⟩, hb⟩
    have HS := Lib.hid (fam_stored (W := W) (B := W.heap.size) (G := w.heap.size) H0.out.2 (Nat.le_refl _) H0.out.1.lt (Nat.le_refl _) H0.out.1 hi ho hcp hb)
    have hcr := (H0.out.1.on hb).cell
    have hfr := (H0.out.1.on hb).free
    clear hi ho hcp hb
    go_wp2_with fail
    refine bodyPost_ret (results_fam2 rfl _ _ (w.heap.size) _ (.bool true) rfl rfl HS.out.1) rfl HS.out.2
theorem bothFamilyOfWord (xs : List Int) (h64 : Hid (In64 xs)) (hn : xs.length ≤ 1048576) : ∃ (out : List Int) (ok : Bool), out.length ≤ 1048576 ∧
    (∀ a cap w, Hid (Ints w a xs) → Calls Try.prog 36 #[.slice a xs.length cap] w (FB out ok w)) ∧
    (∀ a cap w, Hid (Ints w a xs) → Calls Try.prog 37 #[.slice a xs.length cap] w (FB out ok w)) :=
  ⟨_, _, Nat.le_trans (edgesW_le xs true) (by decide), fun a cap w h => specFamilyOfWord_any a cap xs w h h64 hn, fun a cap w h => implFamilyOfWord_any a cap xs w h h64 hn⟩

end Go.Proofs.Ytkooibimeoojeaa
