/- Contracts: spec.LeastTurn, impl.LeastTurn. Conditions: numbers of 64 bits, lengths that fit. -/
import Derived.Test.YtoikehpnpealpaaLeastWalks
import Derived.Test.YtoikehpnpealpaaFormWalks
namespace Go.Proofs.Ytoikehpnpealpaa
open Go.ChangeShapes Go.WideShapes Go.ChangeAt Go.RowKit
set_option linter.unusedVariables false

theorem run_form3 (w : World) : (Instr.index 85 (.agg #[.func (.func 41) #[] #[], .func (.func 82) #[] #[], .func (.func 86) #[] #[], .func (.func 61) #[] #[]]) (.int .i64 3)).run Try.prog w = .ok (.func (.func 61) #[] #[]) w := by
  simp [Instr.index, run_underlying Try.underlying85, asIntOf, part, go_sem]
set_option maxRecDepth 100000 in
theorem formOf_3 (a : Option Addr) (cap : Nat) (xs : List Int) (w : World) (h : Hid (Ints w a xs)) (h64 : Hid (In64 xs)) (hw : Plain.wordB xs = true) :
    Calls Try.prog 40 #[.slice a xs.length cap, .int .i64 3] w (SB (leastOf xs) true w) := by
  have hl := Plain.wordB_iff.1 hw
  have hn := hl.1
  have HL := Lib.hid hl.2
  have HW := Lib.hid hw
  clear hw hl
  have hrf := run_form3
  go_enter Try.func40, Try.ntmps40
  go_wp2_with (go_at_call 10; refine (isWord_any _ _ xs _ h h64 (by omega)).mono ?_; rw [HW.out]; rintro e w' ⟨rfl, rfl⟩)
  go_wp2_with fail
  refine (forms_any _).mono ?_
  rintro e w1 ⟨rfl, hb1⟩
  have H1 := Lib.hid (h.out.on hb1)
  have B1 := Lib.hid hb1
  clear hb1
  go_wp2_with fail
  refine (leastTurn_any _ _ xs _ H1 HL (by omega)).mono ?_
  rintro e w2 ⟨v, rfl, hr, hb⟩
  have R := Lib.hid (hr.mono B1.out.size)
  have B2 := Lib.hid (B1.out.trans (hb.mono B1.out.size))
  clear hr hb
  go_wp2
  go_ret2
  exact ⟨_, rfl, R.out, B2.out⟩


theorem specLeastTurn_any (a : Option Addr) (cap : Nat) (xs : List Int) (w : World) (h : Hid (Ints w a xs)) (h64 : Hid (In64 xs)) (hn : xs.length ≤ 9223372036854775807) :
    Calls Try.prog 13 #[.slice a xs.length cap] w (SB (ifWord xs (leastOf xs)) (Plain.wordB xs) w) := by
  cases hw : Plain.wordB xs with
  | true =>
    have HE := Lib.hid (ifWord_yes (out := leastOf xs) hw)
    have hl := Plain.wordB_iff.1 hw
    have hn := hl.1
    have HL := Lib.hid hl.2
    have HW := Lib.hid hw
    clear hw hl
    go_enter Try.func13, Try.ntmps13
    go_wp2_with fail
    refine (l2Word_any _ _ xs _ h h64 (by omega)).mono ?_
    rw [HW.out]
    rintro e w' ⟨rfl, rfl⟩
    go_wp2_with fail
    refine (l2Least_any _ _ xs _ h HL (by omega)).mono ?_
    rintro e w2 ⟨v, rfl, hr, hb⟩
    have R := Lib.hid hr
    have B2 := Lib.hid hb
    clear hr hb
    go_wp2
    go_ret2
    exact ⟨_, rfl, by rw [HE.out]; exact R.out, B2.out⟩
  | false =>
    have HE := Lib.hid (ifWord_no (out := leastOf xs) hw)
    have HW := Lib.hid hw
    clear hw
    go_enter Try.func13, Try.ntmps13
    go_wp2_with fail
    refine (l2Word_any _ _ xs _ h h64 hn).mono ?_
    rw [HW.out]
    rintro e w' ⟨rfl, rfl⟩
    go_wp2
    go_ret2
    exact ⟨_, rfl, by rw [HE.out]; exact (coll_res (coll_start w)).1, (coll_start w).2.1⟩
theorem implLeastTurn_any (a : Option Addr) (cap : Nat) (xs : List Int) (w : World) (h : Hid (Ints w a xs)) (h64 : Hid (In64 xs)) (hn : xs.length ≤ 9223372036854775807) :
    Calls Try.prog 12 #[.slice a xs.length cap] w (SB (ifWord xs (leastOf xs)) (Plain.wordB xs) w) := by
  cases hw : Plain.wordB xs with
  | true =>
    have HE := Lib.hid (ifWord_yes (out := leastOf xs) hw)
    go_enter Try.func12, Try.ntmps12
    go_wp2_with fail
    refine (formOf_3 _ _ xs _ h h64 hw).mono ?_
    rintro e w2 ⟨v, rfl, hr, hb⟩
    have R := Lib.hid hr
    have B2 := Lib.hid hb
    clear hr hb
    go_wp2
    go_ret2
    exact ⟨_, rfl, by rw [HE.out]; exact R.out, B2.out⟩
  | false =>
    have HE := Lib.hid (ifWord_no (out := leastOf xs) hw)
    go_enter Try.func12, Try.ntmps12
    go_wp2_with fail
    refine (formOf_no _ _ xs _ _ h h64 hn hw).mono ?_
    rintro e w2 ⟨v, rfl, hr, hb⟩
    have R := Lib.hid hr
    have B2 := Lib.hid hb
    clear hr hb
    go_wp2
    go_ret2
    exact ⟨_, rfl, by rw [HE.out]; exact R.out, B2.out⟩
theorem bothLeastTurn (xs : List Int) (h64 : Hid (In64 xs)) (hn : xs.length ≤ 1048576) : ∃ (out : List Int) (ok : Bool), out.length ≤ 1048576 ∧
    (∀ a cap w, Hid (Ints w a xs) → Calls Try.prog 13 #[.slice a xs.length cap] w (SB out ok w)) ∧
    (∀ a cap w, Hid (Ints w a xs) → Calls Try.prog 12 #[.slice a xs.length cap] w (SB out ok w)) :=
  ⟨_, _, ifWord_le (Nat.le_trans (leastOf_le xs) hn), fun a cap w h => specLeastTurn_any a cap xs w h h64 (by omega), fun a cap w h => implLeastTurn_any a cap xs w h h64 (by omega)⟩
end Go.Proofs.Ytoikehpnpealpaa
