/- Contracts: spec.IsFamily, HasMember, FamilyOf; impl.HasMember. Conditions: numbers of 64 bits, lengths that fit. -/
import Derived.Test.YtcmabcdgdfibjaaFamOf
namespace Go.Proofs.Ytcmabcdgdfibjaa
open Go.ChangeShapes Go.WideShapes Go.ChangeAt Go.RowKit
set_option linter.unusedVariables false

theorem specIsFamily_any (a : Option Addr) (cap : Nat) (xs : List Int) (w : World) (h : Hid (Ints w a xs)) (h64 : Hid (In64 xs)) (hn : xs.length ≤ 1048576) :
    Calls Try.prog 16 #[.agg #[.slice a xs.length cap]] w (Val (.bool (Plain.famB xs)) w) := by
  have hb0 := (Below.refl w.heap.size w).alloc (Nat.le_refl _) (.cells #[.slice a xs.length cap] 27)
  have H0 := Lib.hid (And.intro hb0 (And.intro (h.out.on hb0) (famAt_new w (.slice a xs.length cap)).cell))
  have hcf := H0.out.2.2
  clear hb0
  go_enter Try.func16, Try.ntmps16
  go_wp2_with fail
  refine (l5Family_any _ _ xs _ (Lib.hid H0.out.2.1) h64 hn).mono ?_
  rintro e w2 ⟨rfl, hb⟩
  have H2 := Lib.hid (H0.out.1.trans (hb.mono H0.out.1.size))
  clear hb
  go_wp2_with fail
  go_ret
  exact ⟨rfl, H2.out⟩
/-- What HasMember answers. -/
def hasOk (xs : List Int) (n : Int) : Bool := Plain.famB xs && setB n
def hasV (xs : List Int) (n : Int) : Bool := hasOk xs n && Plain.hasB xs n.toNat
theorem has_no {xs : List Int} {n : Int} (h : Plain.famB xs = false ∨ setB n = false) : hasV xs n = false ∧ hasOk xs n = false := by
  have hb : hasOk xs n = false := by rcases h with h | h <;> simp [hasOk, h]
  exact ⟨by rw [hasV, hb]; rfl, hb⟩
theorem has_yes {xs : List Int} {m : Nat} (h : Plain.famB xs = true) (hn : setB (m : Int) = true) : hasV xs (m : Int) = Plain.hasB xs m ∧ hasOk xs (m : Int) = true := by
  have hb : hasOk xs (m : Int) = true := by simp [hasOk, h, hn]
  exact ⟨by rw [hasV, hb]; rfl, hb⟩
set_option maxHeartbeats 800000 in
theorem specHasMember_any (a : Option Addr) (cap : Nat) (xs : List Int) (n : Int) (w : World) (h : Hid (Ints w a xs)) (h64 : Hid (In64 xs)) (hn : xs.length ≤ 1048576) (hr : -9223372036854775808 ≤ n ∧ n ≤ 9223372036854775807) :
    Calls Try.prog 20 #[.agg #[.slice a xs.length cap], .int .i64 n] w (Val (.tuple #[.bool (hasV xs n), .bool (hasOk xs n)]) w) := by
  have hb0 := (Below.refl w.heap.size w).alloc (Nat.le_refl _) (.cells #[.slice a xs.length cap] 27)
  have H0 := Lib.hid (And.intro hb0 (And.intro (h.out.on hb0) (famAt_new w (.slice a xs.length cap))))
  have HR := Lib.hid hr
  clear hb0 hr
  cases hf : Plain.famB xs with
  | false =>
    have HE := Lib.hid (has_no (n := n) (.inl hf))
    have HF := Lib.hid hf
    clear hf
    go_enter Try.func20, Try.ntmps20
    go_wp2_with fail
    obtain ⟨W, hW⟩ : ∃ W, W = w.alloc (.cells #[.slice a xs.length cap] 27) := ⟨_, rfl⟩
    rw [← hW] at H0 ⊢
    clear hW
    refine (l5Family_any _ _ xs _ (Lib.hid H0.out.2.1) h64 hn).mono ?_
    rw [HF.out]
    rintro e w2 ⟨rfl, hb⟩
    have H2 := Lib.hid (And.intro (H0.out.1.trans (hb.mono H0.out.1.size)) (H0.out.2.2.on hb))
    clear hb
    go_wp2_with fail
    go_ret2
    exact val_bb HE.out.1.symm HE.out.2.symm ⟨rfl, H2.out.1⟩
  | true =>
    cases hs : setB n with
    | false =>
      have HE := Lib.hid (has_no (xs := xs) (.inr hs))
      have HF := Lib.hid hf
      have HN := Lib.hid hs
      clear hf hs
      go_enter Try.func20, Try.ntmps20
      go_wp2_with fail
      obtain ⟨W, hW⟩ : ∃ W, W = w.alloc (.cells #[.slice a xs.length cap] 27) := ⟨_, rfl⟩
      rw [← hW] at H0 ⊢
      clear hW
      refine (l5Family_any _ _ xs _ (Lib.hid H0.out.2.1) h64 hn).mono ?_
      rw [HF.out]
      rintro e w2 ⟨rfl, hb⟩
      have H2 := Lib.hid (And.intro (H0.out.1.trans (hb.mono H0.out.1.size)) (H0.out.2.2.on hb))
      clear hb
      go_wp2_with fail
      refine (l3Set_any n _ HR.out).mono ?_
      rw [HN.out]
      rintro e w' ⟨rfl, rfl⟩
      go_wp2_with fail
      go_ret2
      exact val_bb HE.out.1.symm HE.out.2.symm ⟨rfl, H2.out.1⟩
    | true =>
      obtain ⟨m, rfl, hm64⟩ := set_nat hs
      have HE := Lib.hid (has_yes hf hs)
      have HF := Lib.hid hf
      have HSB := Lib.hid (Plain.fam_sets hf)
      have HN := Lib.hid hs
      clear hf hs
      go_enter Try.func20, Try.ntmps20
      go_wp2_with fail
      obtain ⟨W, hW⟩ : ∃ W, W = w.alloc (.cells #[.slice a xs.length cap] 27) := ⟨_, rfl⟩
      rw [← hW] at H0 ⊢
      clear hW
      refine (l5Family_any _ _ xs _ (Lib.hid H0.out.2.1) h64 hn).mono ?_
      rw [HF.out]
      rintro e w2 ⟨rfl, hb⟩
      have H2 := Lib.hid (And.intro (H0.out.1.trans (hb.mono H0.out.1.size)) (H0.out.2.2.on hb))
      clear hb
      go_wp2_with fail
      refine (l3Set_any (m : Int) _ HR.out).mono ?_
      rw [HN.out]
      rintro e w' ⟨rfl, rfl⟩
      have hcf := H2.out.2.cell
      go_wp2_with fail
      refine (l5Has_any _ _ xs m _ (Lib.hid (h.out.on H2.out.1)) HSB (by omega) hm64).mono ?_
      rintro e w3 ⟨rfl, hb⟩
      have H3 := Lib.hid (H2.out.1.trans (hb.mono H2.out.1.size))
      clear hb
      go_wp2_with fail
      go_ret2
      exact val_bb HE.out.1.symm HE.out.2.symm ⟨rfl, H3.out⟩
set_option maxHeartbeats 800000 in
theorem implHasMember_any (a : Option Addr) (cap : Nat) (xs : List Int) (n : Int) (w : World) (h : Hid (Ints w a xs)) (h64 : Hid (In64 xs)) (hn : xs.length ≤ 1048576) (hr : -9223372036854775808 ≤ n ∧ n ≤ 9223372036854775807) :
    Calls Try.prog 21 #[.agg #[.slice a xs.length cap], .int .i64 n] w (Val (.tuple #[.bool (hasV xs n), .bool (hasOk xs n)]) w) := by
  have hb0 := (Below.refl w.heap.size w).alloc (Nat.le_refl _) (.cells #[.slice a xs.length cap] 27)
  have H0 := Lib.hid (And.intro hb0 (And.intro (h.out.on hb0) (famAt_new w (.slice a xs.length cap))))
  have HR := Lib.hid hr
  clear hb0 hr
  cases hf : Plain.famB xs with
  | false =>
    have HE := Lib.hid (has_no (n := n) (.inl hf))
    have HF := Lib.hid hf
    clear hf
    go_enter Try.func21, Try.ntmps21
    go_wp2_with fail
    obtain ⟨W, hW⟩ : ∃ W, W = w.alloc (.cells #[.slice a xs.length cap] 27) := ⟨_, rfl⟩
    rw [← hW] at H0 ⊢
    clear hW
    refine (implIsFamily_any _ _ xs _ (Lib.hid H0.out.2.1) h64 hn).mono ?_
    rw [HF.out]
    rintro e w2 ⟨rfl, hb⟩
    have H2 := Lib.hid (And.intro (H0.out.1.trans (hb.mono H0.out.1.size)) (H0.out.2.2.on hb))
    clear hb
    go_wp2_with fail
    go_ret2
    exact val_bb HE.out.1.symm HE.out.2.symm ⟨rfl, H2.out.1⟩
  | true =>
    cases hs : setB n with
    | false =>
      have HE := Lib.hid (has_no (xs := xs) (.inr hs))
      have HF := Lib.hid hf
      have HN := Lib.hid hs
      clear hf hs
      go_enter Try.func21, Try.ntmps21
      go_wp2_with fail
      obtain ⟨W, hW⟩ : ∃ W, W = w.alloc (.cells #[.slice a xs.length cap] 27) := ⟨_, rfl⟩
      rw [← hW] at H0 ⊢
      clear hW
      refine (implIsFamily_any _ _ xs _ (Lib.hid H0.out.2.1) h64 hn).mono ?_
      rw [HF.out]
      rintro e w2 ⟨rfl, hb⟩
      have H2 := Lib.hid (And.intro (H0.out.1.trans (hb.mono H0.out.1.size)) (H0.out.2.2.on hb))
      clear hb
      go_wp2_with fail
      refine (isSet_any n _ HR.out).mono ?_
      rw [HN.out]
      rintro e w' ⟨rfl, rfl⟩
      go_wp2_with fail
      go_ret2
      exact val_bb HE.out.1.symm HE.out.2.symm ⟨rfl, H2.out.1⟩
    | true =>
      obtain ⟨m, rfl, hm64⟩ := set_nat hs
      have HE := Lib.hid (has_yes hf hs)
      have HF := Lib.hid hf
      have HSB := Lib.hid (Plain.fam_sets hf)
      have HN := Lib.hid hs
      clear hf hs
      go_enter Try.func21, Try.ntmps21
      go_wp2_with fail
      obtain ⟨W, hW⟩ : ∃ W, W = w.alloc (.cells #[.slice a xs.length cap] 27) := ⟨_, rfl⟩
      rw [← hW] at H0 ⊢
      clear hW
      refine (implIsFamily_any _ _ xs _ (Lib.hid H0.out.2.1) h64 hn).mono ?_
      rw [HF.out]
      rintro e w2 ⟨rfl, hb⟩
      have H2 := Lib.hid (And.intro (H0.out.1.trans (hb.mono H0.out.1.size)) (H0.out.2.2.on hb))
      clear hb
      go_wp2_with fail
      refine (isSet_any (m : Int) _ HR.out).mono ?_
      rw [HN.out]
      rintro e w' ⟨rfl, rfl⟩
      have hcf := H2.out.2.cell
      go_wp2_with fail
      refine (has_any _ _ xs m _ (Lib.hid (h.out.on H2.out.1)) HSB (by omega) hm64).mono ?_
      rintro e w3 ⟨rfl, hb⟩
      have H3 := Lib.hid (H2.out.1.trans (hb.mono H2.out.1.size))
      clear hb
      go_wp2_with fail
      go_ret2
      exact val_bb HE.out.1.symm HE.out.2.symm ⟨rfl, H3.out⟩
set_option maxRecDepth 100000 in
set_option maxHeartbeats 2000000 in
theorem specFamilyOf_any (a : Option Addr) (cap : Nat) (xs : List Int) (w : World) (h : Hid (Ints w a xs)) (h64 : Hid (In64 xs)) (hn : xs.length ≤ 1048576) :
    Calls Try.prog 22 #[.slice a xs.length cap] w (FB (ofW xs) (Plain.setsB xs) w) := by
  have hb0 := (Below.refl w.heap.size w).alloc (Nat.le_refl _) (.cells #[.slice none 0 0] 27)
  have H0 := Lib.hid (And.intro hb0 (And.intro (h.out.on hb0) (famAt_new w (.slice none 0 0))))
  clear hb0
  go_enter Try.func22, Try.ntmps22
  go_wp2_with fail
  obtain ⟨W, hW⟩ : ∃ W, W = w.alloc (.cells #[.slice none 0 0] 27) := ⟨_, rfl⟩
  rw [← hW] at H0 ⊢
  clear hW
  go_loop [4] (fun i => ∃ k : Nat, k ≤ xs.length ∧ i = .int .i64 (k : Int) ∧ ∀ (j : Nat) (x : Int), j < k → xs[j]? = some x → Plain.isSet x = true) (fun i => xs.length - (intOf i).toNat)
  case atStart => exact ⟨0, Nat.zero_le _, rfl, fun j x h => by omega⟩
  case round =>
    obtain ⟨k, hk, rfl, hrel⟩ := hrel
    have HA := Lib.hid hrel
    clear hrel
    by_cases hlt : k < xs.length
    · obtain ⟨x, hx0⟩ := at_some xs k hlt
      obtain ⟨b, o, rfl, hc⟩ := H0.out.2.1 k x hx0
      have HX := Lib.hid hx0
      have HR := Lib.hid (h64.out k x hx0)
      have hi : (k : Int) < (xs.length : Int) := by omega
      have hi0 : (0 : Int) ≤ (k : Int) := by omega
      clear hx0
      cases hs : setB x with
      | false =>
        have HE := Lib.hid (ofW_no (Plain.setsB_bad HX.out hs))
        have HS := Lib.hid hs
        have hB := H0.out.1.setCell (p := ⟨w.heap.size, 0, none⟩) (Nat.le_refl _) (.slice none 0 0)
        have hF := H0.out.2.2.set (.slice none 0 0)
        have hcr := H0.out.2.2.cell
        have hfr := H0.out.2.2.free
        have HB9 := Lib.hid (And.intro hB hF)
        clear hB hF hs
        go_wp2_with fail
        refine (l3Set_any x _ HR.out).mono ?_
        rw [HS.out]
        rintro e w' ⟨rfl, rfl⟩
        go_wp2_with fail
        refine bodyPost_ret (results_fam2 rfl _ _ w.heap.size _ (.bool false) rfl rfl HB9.out.2) rfl (fb_of HE.out.1.symm HE.out.2.symm (fb_nil HB9.out.1))
      | true =>
        have HS := Lib.hid hs
        have HA2 : Hid (∀ (j : Nat) (y : Int), j < k + 1 → xs[j]? = some y → Plain.isSet y = true) := Lib.hid (fun j y hj hy => by
          by_cases e : j = k
          · subst e
            rw [HX.out] at hy
            cases hy
            exact hs
          · exact HA.out j y (by omega) hy)
        clear hs HA
        go_wp2_with fail
        refine (l3Set_any x _ HR.out).mono ?_
        rw [HS.out]
        rintro e w' ⟨rfl, rfl⟩
        go_wp2_with fail
        go_round
        case rel => exact ⟨k + 1, by omega, by go_num, HA2.out⟩
        case measure => simp [intOf]; omega
    · obtain rfl : k = xs.length := by omega
      have hsb : Plain.setsB xs = true := Plain.setsB_good fun j x hj => HA.out j x (at_lt hj) hj
      have hE := ofW_yes hsb
      obtain ⟨L, hL⟩ : ∃ L, L = Plain.leastOf xs := ⟨_, rfl⟩
      rw [← hL] at hE
      have HE := Lib.hid hE
      have HL : Hid (L = Plain.edges (Plain.hasB xs) true) := Lib.hid hL
      have HSB := Lib.hid hsb
      clear hE hL hsb HA
      go_wp2_with fail
      refine (l5Members_any _ _ xs _ (Lib.hid H0.out.2.1) HSB (by omega)).mono ?_
      rintro e w2 ⟨rfl, hb2⟩
      have H2 := Lib.hid (And.intro (H0.out.1.trans (hb2.mono H0.out.1.size)) (H0.out.2.2.on hb2))
      clear hb2
      go_wp2_with fail
      refine (l5Made_any _ _).mono ?_
      rw [← HL.out]
      rintro e w3 ⟨ma, mc, rfl, hi, ho, hcp, hb⟩
      have HS := Lib.hid (fam_stored (W := w2) (B := w2.heap.size) (G := w.heap.size) H2.out.1 (Nat.le_refl _) H2.out.2.lt (Nat.le_refl _) H2.out.2 hi ho hcp hb)
      have hcr := (H2.out.2.on hb).cell
      have hfr := (H2.out.2.on hb).free
      clear hi ho hcp hb
      go_wp2_with fail
      refine bodyPost_ret (results_fam2 rfl _ _ (w.heap.size) _ (.bool true) rfl rfl HS.out.1) rfl (fb_of HE.out.1.symm HE.out.2.symm HS.out.2)

end Go.Proofs.Ytcmabcdgdfibjaa
