/- Contracts: impl.wordForms, impl.formOf at the first two forms; spec.ReduceWord, impl.ReduceWord, spec.InverseWord, impl.InverseWord. Conditions: numbers of 64 bits, lengths that fit. -/
import Derived.Laws.EntriesVeiled
import Derived.Test.YtoikehpnpealpaaInvWalks
import Derived.Test.YtoikehpnpealpaaWordWalks
import Derived.Test.YtoikehpnpealpaaLawKit
namespace Go.Proofs.Ytoikehpnpealpaa
open Go.ChangeShapes Go.WideShapes Go.ChangeAt Go.RowKit

theorem forms_any (w : World) : Calls Try.prog 75 #[] w fun e w' => e = .returned (.agg #[.func (.func 41) #[] #[], .func (.func 82) #[] #[], .func (.func 86) #[] #[], .func (.func 61) #[] #[]]) ∧ Below w.heap.size w w' := by
  go_enter Try.func75, Try.ntmps75
  go_wp2
  exact bodyPost_ret (v := .agg #[.func (.func 41) #[] #[], .func (.func 82) #[] #[], .func (.func 86) #[] #[], .func (.func 61) #[] #[]]) (by simp [results, Try.results75, go_sem]) rfl ⟨rfl, (Below.refl _ _).alloc (Nat.le_refl _) _⟩

theorem run_form0 (w : World) : (Instr.index 85 (.agg #[.func (.func 41) #[] #[], .func (.func 82) #[] #[], .func (.func 86) #[] #[], .func (.func 61) #[] #[]]) (.int .i64 0)).run Try.prog w = .ok (.func (.func 41) #[] #[]) w := by
  simp [Instr.index, run_underlying Try.underlying85, asIntOf, part, go_sem]
theorem run_form1 (w : World) : (Instr.index 85 (.agg #[.func (.func 41) #[] #[], .func (.func 82) #[] #[], .func (.func 86) #[] #[], .func (.func 61) #[] #[]]) (.int .i64 1)).run Try.prog w = .ok (.func (.func 82) #[] #[]) w := by
  simp [Instr.index, run_underlying Try.underlying85, asIntOf, part, go_sem]

theorem formOf_no (a : Option Addr) (cap : Nat) (xs : List Int) (f : Int) (w : World) (h : Hid (Ints w a xs)) (h64 : Hid (In64 xs)) (hn : xs.length ≤ 9223372036854775807) (hw : Plain.wordB xs = false) :
    Calls Try.prog 40 #[.slice a xs.length cap, .int .i64 f] w (SB [] false w) := by
  have HW := Lib.hid hw
  clear hw
  go_enter Try.func40, Try.ntmps40
  go_wp2_with (go_at_call 10; refine (isWord_any _ _ xs _ h h64 hn).mono ?_; rw [HW.out]; rintro e w' ⟨rfl, rfl⟩)
  go_ret2
  exact ⟨_, rfl, (coll_res (coll_start w)).1, (coll_start w).2.1⟩

set_option maxRecDepth 100000 in
theorem formOf_0 (a : Option Addr) (cap : Nat) (xs : List Int) (w : World) (h : Hid (Ints w a xs)) (h64 : Hid (In64 xs)) (hw : Plain.wordB xs = true) :
    Calls Try.prog 40 #[.slice a xs.length cap, .int .i64 0] w (SB (Plain.red xs) true w) := by
  have hl := Plain.wordB_iff.1 hw
  have hn := hl.1
  have HL := Lib.hid hl.2
  have HW := Lib.hid hw
  clear hw hl
  have hrf := run_form0
  go_enter Try.func40, Try.ntmps40
  go_wp2_with (go_at_call 10; refine (isWord_any _ _ xs _ h h64 (by omega)).mono ?_; rw [HW.out]; rintro e w' ⟨rfl, rfl⟩)
  go_wp2_with fail
  refine (forms_any _).mono ?_
  rintro e w1 ⟨rfl, hb1⟩
  have H1 := Lib.hid (h.out.on hb1)
  have B1 := Lib.hid hb1
  clear hb1
  go_wp2_with fail
  refine (reduced_any _ _ xs _ H1 HL (by omega)).mono ?_
  rintro e w2 ⟨v, rfl, hr, hb⟩
  have R := Lib.hid (hr.mono B1.out.size)
  have B2 := Lib.hid (B1.out.trans (hb.mono B1.out.size))
  clear hr hb
  go_wp2
  go_ret2
  exact ⟨_, rfl, R.out, B2.out⟩

set_option maxRecDepth 100000 in
theorem formOf_1 (a : Option Addr) (cap : Nat) (xs : List Int) (w : World) (h : Hid (Ints w a xs)) (h64 : Hid (In64 xs)) (hw : Plain.wordB xs = true) :
    Calls Try.prog 40 #[.slice a xs.length cap, .int .i64 1] w (SB (Plain.inv xs) true w) := by
  have hl := Plain.wordB_iff.1 hw
  have hn := hl.1
  have HL := Lib.hid hl.2
  have HW := Lib.hid hw
  clear hw hl
  have hrf := run_form1
  go_enter Try.func40, Try.ntmps40
  go_wp2_with (go_at_call 10; refine (isWord_any _ _ xs _ h h64 (by omega)).mono ?_; rw [HW.out]; rintro e w' ⟨rfl, rfl⟩)
  go_wp2_with fail
  refine (forms_any _).mono ?_
  rintro e w1 ⟨rfl, hb1⟩
  have H1 := Lib.hid (h.out.on hb1)
  have B1 := Lib.hid hb1
  clear hb1
  go_wp2_with fail
  refine (inverse_any _ _ xs _ H1 HL (by omega)).mono ?_
  rintro e w2 ⟨v, rfl, hr, hb⟩
  have R := Lib.hid (hr.mono B1.out.size)
  have B2 := Lib.hid (B1.out.trans (hb.mono B1.out.size))
  clear hr hb
  go_wp2
  go_ret2
  exact ⟨_, rfl, R.out, B2.out⟩

/-- What a form comes to: empty for what is no word. -/
def ifWord (xs out : List Int) : List Int := if Plain.wordB xs = true then out else []
theorem ifWord_yes {xs out : List Int} (h : Plain.wordB xs = true) : ifWord xs out = out := if_pos h
theorem ifWord_no {xs out : List Int} (h : Plain.wordB xs = false) : ifWord xs out = [] := if_neg (by rw [h]; simp)
theorem ifWord_le {xs out : List Int} {n : Nat} (h : out.length ≤ n) : (ifWord xs out).length ≤ n := by
  by_cases hw : Plain.wordB xs = true
  · rw [ifWord_yes hw]; exact h
  · rw [ifWord_no (by simpa using hw)]; exact Nat.zero_le _

theorem implReduce_any (a : Option Addr) (cap : Nat) (xs : List Int) (w : World) (h : Hid (Ints w a xs)) (h64 : Hid (In64 xs)) (hn : xs.length ≤ 9223372036854775807) :
    Calls Try.prog 24 #[.slice a xs.length cap] w (SB (ifWord xs (Plain.red xs)) (Plain.wordB xs) w) := by
  cases hw : Plain.wordB xs with
  | true =>
    have HE := Lib.hid (ifWord_yes (out := Plain.red xs) hw)
    go_enter Try.func24, Try.ntmps24
    go_wp2_with fail
    refine (formOf_0 _ _ xs _ h h64 hw).mono ?_
    rintro e w2 ⟨v, rfl, hr, hb⟩
    have R := Lib.hid hr
    have B2 := Lib.hid hb
    clear hr hb
    go_wp2
    go_ret2
    exact ⟨_, rfl, by rw [HE.out]; exact R.out, B2.out⟩
  | false =>
    have HE := Lib.hid (ifWord_no (out := Plain.red xs) hw)
    go_enter Try.func24, Try.ntmps24
    go_wp2_with fail
    refine (formOf_no _ _ xs _ _ h h64 hn hw).mono ?_
    rintro e w2 ⟨v, rfl, hr, hb⟩
    have R := Lib.hid hr
    have B2 := Lib.hid hb
    clear hr hb
    go_wp2
    go_ret2
    exact ⟨_, rfl, by rw [HE.out]; exact R.out, B2.out⟩




end Go.Proofs.Ytoikehpnpealpaa
