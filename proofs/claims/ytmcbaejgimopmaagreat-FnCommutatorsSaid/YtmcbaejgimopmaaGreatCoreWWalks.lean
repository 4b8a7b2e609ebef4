/- Contracts: spec.CoreOf, impl.CoreOf. Conditions: numbers of 64 bits, lengths that fit. -/
import Derived.Test.YtmcbaejgimopmaaGreatBdJoinWWalks
import Derived.Test.YtmcbaejgimopmaaGreatCoreWalks
namespace Go.Proofs.YtmcbaejgimopmaaGreat
open Go.ChangeShapes Go.WideShapes Go.ChangeAt Go.RowKit
set_option linter.unusedVariables false

theorem run_form2 (w : World) : (Instr.index 85 (.agg #[.func (.func 69) #[] #[], .func (.func 75) #[] #[], .func (.func 58) #[] #[], .func (.func 104) #[] #[]]) (.int .i64 2)).run Tryz.prog w = .ok (.func (.func 58) #[] #[]) w := by
  simp [Instr.index, run_underlying Tryz.underlying85, asIntOf, part, go_sem]
set_option maxRecDepth 100000 in
theorem formOf_2 (a : Option Addr) (cap : Nat) (xs : List Int) (w : World) (h : Hid (Ints w a xs)) (h64 : Hid (In64 xs)) (hw : Plain.wordB xs = true) :
    Calls Tryz.prog 68 #[.slice a xs.length cap, .int .i64 2] w (SB (Plain.core (Plain.red xs)) true w) := by
  have hl := Plain.wordB_iff.1 hw
  have hn := hl.1
  have HL := Lib.hid hl.2
  have HW := Lib.hid hw
  clear hw hl
  have hrf := run_form2
  go_enter Tryz.func68, Tryz.ntmps68
  go_wp2_with (go_at_call 35; refine (isWord_any _ _ xs _ h h64 (by omega)).mono ?_; rw [HW.out]; rintro e w' ⟨rfl, rfl⟩)
  go_wp2_with fail
  refine (forms_any _).mono ?_
  rintro e w1 ⟨rfl, hb1⟩
  have H1 := Lib.hid (h.out.on hb1)
  have B1 := Lib.hid hb1
  clear hb1
  go_wp2_with fail
  refine (core_any _ _ xs _ H1 HL (by omega)).mono ?_
  rintro e w2 ⟨v, rfl, hr, hb⟩
  have R := Lib.hid (hr.mono B1.out.size)
  have B2 := Lib.hid (B1.out.trans (hb.mono B1.out.size))
  clear hr hb
  go_wp2
  go_ret2
  exact ⟨_, rfl, R.out, B2.out⟩

theorem ssb_eq {o1 o2 o1' o2' : List Int} {ok ok' : Bool} {w w' : World} {e : Ending} (h1 : o1 = o1') (h2 : o2 = o2') (h3 : ok = ok') (h : SSB o1' o2' ok' w e w') : SSB o1 o2 ok w e w' := by subst h1 h2 h3; exact h
theorem ssb_later {o1 o2 : List Int} {ok : Bool} {w w1 w' : World} {e : Ending} (hb1 : Below w.heap.size w w1) (h : SSB o1 o2 ok w1 e w') : SSB o1 o2 ok w e w' := by
  obtain ⟨a1, c1, a2, c2, rfl, h1, h2, h3, h4, h5, h6, h7, h8⟩ := h
  exact ⟨a1, c1, a2, c2, rfl, h1, h2.mono hb1.size, h3, h4, h5.mono hb1.size, h6, h7, hb1.trans (h8.mono hb1.size)⟩
theorem ssb_none (w : World) (t t' : TypeId) : SSB [] [] false w (.returned (.tuple #[.slice (some ⟨w.heap.size, 0, none⟩) 0 0, .slice (some ⟨w.heap.size + 1, 0, none⟩) 0 0, .bool false])) ((w.alloc (.cells #[] t)).alloc (.cells #[] t')) :=
  ⟨_, 0, _, 0, rfl, Ints.nil _ _, .inl rfl, cap_copy (n := 0) _ (by omega), Ints.nil _ _, .inl rfl, cap_copy (n := 0) _ (by omega), .inl rfl, ((Below.refl _ w).alloc (Nat.le_refl _) _).alloc (by simp) _⟩


/-- The two results of impl.CoreOf. -/
theorem core_two {w w2 w3 : World} {q d c4 : Nat} {C rs : List Int} {a4 a5 : Option Addr} (hi4 : Ints w2 a4 C) (ho4 : Own w.heap.size w2 a4 C.length) (hk4 : Cap a4 C.length c4) (hb2 : Below w.heap.size w w2)
    (hi5 : Ints w3 a5 rs) (ho5 : Own w2.heap.size w3 a5 rs.length) (ha : ∀ x, a5 = some x → ∃ b o, x = ⟨b, o, none⟩) (hb3 : Below w2.heap.size w2 w3) (hd : d ≤ rs.length) (hm : d ≤ 1048576) :
    SSB C (rs.take d) true w (.returned (.tuple #[.slice a4 C.length c4, .slice a5 d d, .bool true])) (w3.drewN q) ∨ a5 = none := by
  cases a5 with
  | none => exact .inr rfl
  | some x =>
    refine .inl ?_
    have hl : (rs.take d).length = d := by simp; omega
    have ho : Own w2.heap.size w3 (some x) (rs.take d).length := by
      rcases ho5 with h0 | h0
      · exact .inl (by simp [List.eq_nil_of_length_eq_zero h0])
      · exact .inr h0
    obtain ⟨b, o, rfl⟩ := ha x rfl
    refine ⟨a4, c4, some ⟨b, o, none⟩, d, by rw [hl], (hi4.on hb3 : Ints w3 a4 C), (ho4.on hb3 : Own _ w3 a4 C.length), hk4, hi5.upto d, ho.mono hb2.size, ?_, apart_of ho4 ho (Nat.le_refl _), below_drewN (hb2.trans (hb3.mono hb2.size)) q⟩
    exact ⟨by omega, by omega, fun h => (by cases h), fun x h => ⟨b, o, by cases h; rfl⟩⟩

set_option maxRecDepth 100000 in
set_option maxHeartbeats 400000 in
theorem implCoreOf_any (a : Option Addr) (cap : Nat) (xs : List Int) (w : World) (h : Hid (Ints w a xs)) (h64 : Hid (In64 xs)) (hn : xs.length ≤ 9223372036854775807) :
    Calls Tryz.prog 27 #[.slice a xs.length cap] w (SSB (ifWord xs (Plain.core (Plain.red xs))) (ifWord xs (Plain.by_ (Plain.red xs))) (Plain.wordB xs) w) := by
  cases hw : Plain.wordB xs with
  | true =>
    have HE1 := Lib.hid (ifWord_yes (out := Plain.core (Plain.red xs)) hw)
    have HE2 := Lib.hid (ifWord_yes (out := Plain.by_ (Plain.red xs)) hw)
    have hl := Plain.wordB_iff.1 hw
    have hn := hl.1
    have HL := Lib.hid hl.2
    have hcl := Plain.core_length hl.2.red
    have hrl := Plain.red_length xs
    have hF := Lib.hid (formOf_2 a cap xs w h h64 hw)
    obtain ⟨rs, hrs⟩ : ∃ rs, rs = Plain.red xs := ⟨_, rfl⟩
    rw [← hrs] at hcl hrl hF
    obtain ⟨d, hd⟩ : ∃ d, d = Plain.depth rs := ⟨_, rfl⟩
    have HB : Hid (Plain.by_ (Plain.red xs) = rs.take d) := Lib.hid (by rw [hd, ← hrs]; rfl)
    rw [← hd] at hcl
    obtain ⟨C, hC⟩ : ∃ C, C = Plain.core rs := ⟨_, rfl⟩
    have HCQ : Hid (Plain.core (Plain.red xs) = C) := Lib.hid (by rw [hC, ← hrs])
    rw [← hC] at hcl hF
    have HR := Lib.hid hrs
    have hq : ((rs.length : Int) - (C.length : Int)) / 2 = (d : Int) := by omega
    have hq0 : (C.length : Int) ≤ (rs.length : Int) := by omega
    have hd0 : (0 : Int) ≤ (d : Int) := by omega
    have hd1 : (d : Int) ≤ (rs.length : Int) := by omega
    have hdn : d ≤ rs.length := by omega
    clear hw hl hd hC hrs hcl
    go_enter Tryz.func27, Tryz.ntmps27
    go_wp2_with fail
    refine hF.out.mono ?_
    rintro e w2 ⟨_, rfl, ⟨a4, c4, rfl, hi4, ho4, hk4⟩, hb2⟩
    have I4 := Lib.hid hi4
    have O4 := Lib.hid ho4
    have K4 := Lib.hid hk4
    have B2 := Lib.hid hb2
    have H2 := Lib.hid (h.out.on hb2)
    clear hi4 ho4 hk4 hb2
    go_wp2_with fail
    refine (reduced_any _ _ xs _ H2 HL (by omega)).mono ?_
    rw [RedPost_def, ← HR.out]
    rintro e w3 ⟨_, rfl, ⟨a5, c5, rfl, hi5, ho5, hk5⟩, hb3⟩
    have hT := fun q => core_two (q := q) I4.out O4.out K4.out B2.out hi5 ho5 hk5.2.2.2 hb3 hdn (by omega)
    have HT := Lib.hid hT
    have hk51 := hk5.1
    have hdc : (d : Int) ≤ (c5 : Int) := by omega
    have hdc2 : d ≤ c5 := by omega
    have HK := Lib.hid hk5
    have HI := Lib.hid hi5
    have HB3 := Lib.hid hb3
    clear hi5 ho5 hk5 hb3 hT
    cases a5 with
    | none =>
      have hz : rs = [] := by
        cases rs with
        | nil => rfl
        | cons x t => obtain ⟨b, o, e, _⟩ := HI.out 0 x rfl; cases e
      subst hz
      obtain rfl := HK.out.2.2.1 rfl
      obtain rfl : d = 0 := by simpa using hdn
      obtain rfl : C = [] := List.eq_nil_of_length_eq_zero (by simp at hq0; omega)
      have R : Hid (∀ q, SSB [] ([] : List Int) true w (.returned (.tuple #[.slice a4 0 c4, .slice none 0 0, .bool true])) (w3.drewN q)) := Lib.hid (fun q => ⟨a4, c4, none, 0, rfl, (I4.out.on HB3.out : Ints w3 a4 _), (O4.out.on HB3.out : Own _ w3 a4 _), K4.out, Ints.nil _ _, .inl rfl, ⟨Nat.le_refl _, by omega, fun _ => rfl, fun x h => by cases h⟩, .inr (.inl rfl), below_drewN (B2.out.trans (HB3.out.mono B2.out.size)) q⟩)
      clear hq hq0 hd0 hd1 hdn hk51 hdc hdc2 HT
      go_wp2
      go_quiet (fail)
      go_wp2
      go_ret3
      exact ssb_eq (HE1.out.trans HCQ.out) (HE2.out.trans HB.out) rfl (R.out _)
    | some x =>
      obtain ⟨b5, o5, rfl⟩ := HK.out.2.2.2 x rfl
      go_wp2
      go_quiet (fail)
      go_wp2
      go_ret3
      exact ssb_eq (HE1.out.trans HCQ.out) (HE2.out.trans HB.out) rfl ((HT.out _).resolve_right (by simp))
  | false =>
    have HE1 := Lib.hid (ifWord_no (out := Plain.core (Plain.red xs)) hw)
    have HE2 := Lib.hid (ifWord_no (out := Plain.by_ (Plain.red xs)) hw)
    have hF := Lib.hid (formOf_no a cap xs 2 w h h64 hn hw)
    clear hw
    go_enter Tryz.func27, Tryz.ntmps27
    go_wp2_with fail
    refine hF.out.mono ?_
    rintro e w2 ⟨_, rfl, ⟨a4, c4, rfl, -, -, -⟩, hb2⟩
    have B2 := Lib.hid hb2
    clear hb2
    go_wp2
    go_ret3
    exact ssb_eq HE1.out HE2.out rfl (ssb_later B2.out (ssb_none w2 _ _))

theorem core_small (xs : List Int) : (Plain.core xs).length ≤ xs.length := by simp [Plain.core, Plain.mid]; omega
theorem by_small (xs : List Int) : (Plain.by_ xs).length ≤ xs.length := by simp [Plain.by_]; omega
end Go.Proofs.YtmcbaejgimopmaaGreat
