/- Contracts: impl.OutFamily, FixFamily and their closures. Conditions: numbers of 64 bits, lengths that fit. -/
import Derived.Test.YtcmabcdgdfibjaaFamOf
import Derived.Test.YtcmabcdgdfibjaaFamLaw
import Derived.Test.YtcmabcdgdfibjaaSpecOut
namespace Go.Proofs.Ytcmabcdgdfibjaa
open Go.ChangeShapes Go.WideShapes Go.ChangeAt Go.RowKit
set_option linter.unusedVariables false

/-- A Family's variable, a number's and a result's, in three new blocks. -/
theorem box_int_result (w : World) (v u : Value) : FamAt (((w.alloc (.cells #[v] 27)).alloc (.cells #[u] 3)).alloc (.cells #[.slice none 0 0] 27)) w.heap.size v ∧ At1 3 (((w.alloc (.cells #[v] 27)).alloc (.cells #[u] 3)).alloc (.cells #[.slice none 0 0] 27)) (w.heap.size + 1) u ∧
    FamAt (((w.alloc (.cells #[v] 27)).alloc (.cells #[u] 3)).alloc (.cells #[.slice none 0 0] 27)) (w.heap.size + 1 + 1) (.slice none 0 0) ∧ Below w.heap.size w (((w.alloc (.cells #[v] 27)).alloc (.cells #[u] 3)).alloc (.cells #[.slice none 0 0] 27)) := by
  have h1 : At1 3 ((w.alloc (.cells #[v] 27)).alloc (.cells #[u] 3)) (w.heap.size + 1) u := At1.second w v u
  have h2 := famAt_new ((w.alloc (.cells #[v] 27)).alloc (.cells #[u] 3)) (.slice none 0 0)
  rw [show ((w.alloc (.cells #[v] 27)).alloc (.cells #[u] 3)).heap.size = w.heap.size + 1 + 1 by simp] at h2
  have h0 : FamAt ((w.alloc (.cells #[v] 27)).alloc (.cells #[u] 3)) w.heap.size v := (famAt_new w v).alloc _
  exact ⟨h0.alloc _, (Below.heap_alloc _ _ _ h1.lt).trans h1, h2, (((Below.refl _ _).alloc (Nat.le_refl _) _).alloc (by simp) _).alloc (by simp; omega) _⟩
theorem OutFamily_tells (b : Option Addr) (cap : Nat) (xs : List Int) (m s g1 g2 : Nat) (w : World) (hI : Hid (Ints w b xs)) (hl : Hid (Plain.setsB xs = true)) (hn : xs.length ≤ 1048576) (hlt : s < 64) (hm64 : m < 64) (h1 : FamAt w g1 (.slice b xs.length cap)) (h2 : At1 3 w g2 (.int .i64 (m : Int))) :
    Calls Try.prog 80 #[.int .i64 (s : Int), .pointer (some ⟨g1, 0, none⟩), .pointer (some ⟨g2, 0, none⟩)] w (Val (.bool (Plain.hasB xs (s ||| m))) w) := by
  have c1 := h1.cell
  have c2 := h2.cell
  have hbit := or_small s m hlt hm64
  have hu64 : s ||| m < 64 := Nat.or_lt_two_pow (n := 6) hlt hm64
  obtain ⟨u, hu⟩ : ∃ u, u = s ||| m := ⟨_, rfl⟩
  rw [← hu] at hbit hu64 ⊢
  clear hu h1 h2
  go_enter Try.func80, Try.ntmps80
  go_wp2_with fail
  refine (has_any b cap xs u _ hI hl (by omega) hu64).mono ?_
  rintro e w' ⟨rfl, hb⟩
  have HB := Lib.hid hb
  clear hb
  go_wp2_with fail
  go_ret
  exact ⟨rfl, HB.out⟩
theorem FixFamily_tells (b : Option Addr) (cap : Nat) (xs : List Int) (m s g1 g2 : Nat) (w : World) (hI : Hid (Ints w b xs)) (hl : Hid (Plain.setsB xs = true)) (hn : xs.length ≤ 1048576) (hlt : s < 64) (hm64 : m < 64) (h1 : FamAt w g1 (.slice b xs.length cap)) (h2 : At1 3 w g2 (.int .i64 (m : Int))) :
    Calls Try.prog 81 #[.int .i64 (s : Int), .pointer (some ⟨g1, 0, none⟩), .pointer (some ⟨g2, 0, none⟩)] w (Val (.bool (Plain.hasB xs (Plain.clr s m))) w) := by
  have c1 := h1.cell
  have c2 := h2.cell
  have hbit := clr_small hlt hm64
  have hu64 := clr_lt m hlt
  obtain ⟨u, hu⟩ : ∃ u, u = Plain.clr s m := ⟨_, rfl⟩
  rw [← hu] at hbit hu64 ⊢
  clear hu h1 h2
  go_enter Try.func81, Try.ntmps81
  go_wp2_with fail
  refine (has_any b cap xs u _ hI hl (by omega) hu64).mono ?_
  rintro e w' ⟨rfl, hb⟩
  have HB := Lib.hid hb
  clear hb
  go_wp2_with fail
  go_ret
  exact ⟨rfl, HB.out⟩
set_option maxRecDepth 100000 in
set_option maxHeartbeats 2000000 in
theorem implOutFamily_any (a : Option Addr) (cap : Nat) (xs : List Int) (n : Int) (w : World) (h : Hid (Ints w a xs)) (h64 : Hid (In64 xs)) (hn : xs.length ≤ 1048576) (hr : -9223372036854775808 ≤ n ∧ n ≤ 9223372036854775807) :
    Calls Try.prog 41 #[.agg #[.slice a xs.length cap], .int .i64 n] w (FB (outW xs n) (outB xs n) w) := by
  have H0 := Lib.hid (box_int_result w (.slice a xs.length cap) (.int .i64 n))
  have hcf := H0.out.1.cell
  have HR := Lib.hid hr
  clear hr
  cases hf : Plain.famB xs with
  | false =>
    have HE := Lib.hid (out_no (n := n) (.inl hf))
    have HF := Lib.hid hf
    clear hf
    go_enter Try.func41, Try.ntmps41
    go_wp2_with fail
    obtain ⟨W, hW⟩ : ∃ W, W = ((w.alloc (.cells #[.slice a xs.length cap] 27)).alloc (.cells #[.int .i64 n] 3)).alloc (.cells #[.slice none 0 0] 27) := ⟨_, rfl⟩
    rw [← hW] at H0 ⊢
    clear hW
    refine (implIsFamily_any _ _ xs _ (Lib.hid (h.out.on H0.out.2.2.2)) h64 hn).mono ?_
    rw [HF.out]
    rintro e w2 ⟨rfl, hb⟩
    have H2 := Lib.hid (And.intro (H0.out.1.on hb) (And.intro (H0.out.2.1.on hb) (And.intro (H0.out.2.2.1.on hb) (H0.out.2.2.2.trans (hb.mono H0.out.2.2.2.size)))))
    clear hb
    have hB := ((H2.out.2.2.2).setCell (p := ⟨w.heap.size + 1 + 1, 0, none⟩) (by simp <;> omega) (.slice none 0 0))
    have hF := (H2.out.2.2.1).set (.slice none 0 0)
    have hcr := (H2.out.2.2.1).cell
    have hfr := (H2.out.2.2.1).free
    have HB9 := Lib.hid (And.intro hB hF)
    clear hB hF
    go_wp2_with fail
    refine bodyPost_ret (results_fam2 rfl _ _ (w.heap.size + 1 + 1) _ (.bool false) rfl rfl HB9.out.2) rfl (fb_of HE.out.1.symm HE.out.2.symm (fb_nil HB9.out.1))
  | true =>
    cases hs : setB n with
    | false =>
      have HE := Lib.hid (out_no (xs := xs) (.inr hs))
      have HF := Lib.hid hf
      have HN := Lib.hid hs
      clear hf hs
      go_enter Try.func41, Try.ntmps41
      go_wp2_with fail
      obtain ⟨W, hW⟩ : ∃ W, W = ((w.alloc (.cells #[.slice a xs.length cap] 27)).alloc (.cells #[.int .i64 n] 3)).alloc (.cells #[.slice none 0 0] 27) := ⟨_, rfl⟩
      rw [← hW] at H0 ⊢
      clear hW
      refine (implIsFamily_any _ _ xs _ (Lib.hid (h.out.on H0.out.2.2.2)) h64 hn).mono ?_
      rw [HF.out]
      rintro e w2 ⟨rfl, hb⟩
      have H2 := Lib.hid (And.intro (H0.out.1.on hb) (And.intro (H0.out.2.1.on hb) (And.intro (H0.out.2.2.1.on hb) (H0.out.2.2.2.trans (hb.mono H0.out.2.2.2.size)))))
      clear hb
      have hcn := H2.out.2.1.cell
      go_wp2_with fail
      clear hcn
      refine (isSet_any n _ HR.out).mono ?_
      rw [HN.out]
      rintro e w' ⟨rfl, rfl⟩
      have hB := ((H2.out.2.2.2).setCell (p := ⟨w.heap.size + 1 + 1, 0, none⟩) (by simp <;> omega) (.slice none 0 0))
      have hF := (H2.out.2.2.1).set (.slice none 0 0)
      have hcr := (H2.out.2.2.1).cell
      have hfr := (H2.out.2.2.1).free
      have HB9 := Lib.hid (And.intro hB hF)
      clear hB hF
      go_wp2_with fail
      refine bodyPost_ret (results_fam2 rfl _ _ (w.heap.size + 1 + 1) _ (.bool false) rfl rfl HB9.out.2) rfl (fb_of HE.out.1.symm HE.out.2.symm (fb_nil HB9.out.1))
    | true =>
      obtain ⟨m, rfl, hm64⟩ := set_nat hs
      have hE := out_yes hf hs
      obtain ⟨L, hL⟩ : ∃ L, L = Plain.edges (fun s => Plain.hasB xs (s ||| m)) true := ⟨_, rfl⟩
      rw [← hL] at hE
      have HE := Lib.hid hE
      have HL := Lib.hid hL
      have HF := Lib.hid hf
      have HSB := Lib.hid (Plain.fam_sets hf)
      have HN := Lib.hid hs
      clear hf hs hE hL
      go_enter Try.func41, Try.ntmps41
      go_wp2_with fail
      obtain ⟨W, hW⟩ : ∃ W, W = ((w.alloc (.cells #[.slice a xs.length cap] 27)).alloc (.cells #[.int .i64 (m : Int)] 3)).alloc (.cells #[.slice none 0 0] 27) := ⟨_, rfl⟩
      rw [← hW] at H0 ⊢
      clear hW
      refine (implIsFamily_any _ _ xs _ (Lib.hid (h.out.on H0.out.2.2.2)) h64 hn).mono ?_
      rw [HF.out]
      rintro e w2 ⟨rfl, hb⟩
      have H2 := Lib.hid (And.intro (H0.out.1.on hb) (And.intro (H0.out.2.1.on hb) (And.intro (H0.out.2.2.1.on hb) (H0.out.2.2.2.trans (hb.mono H0.out.2.2.2.size)))))
      clear hb
      have hcn := H2.out.2.1.cell
      go_wp2_with fail
      clear hcn
      refine (isSet_any (m : Int) _ HR.out).mono ?_
      rw [HN.out]
      rintro e w' ⟨rfl, rfl⟩
      go_wp2_with fail
      have hct : Tells 80 #[] #[.pointer (some ⟨w.heap.size, 0, none⟩), .pointer (some ⟨w.heap.size + 1, 0, none⟩)] (fun s => Plain.hasB xs (s ||| m)) w2 := fun s X hs hb => by
        simpa using OutFamily_tells a cap xs m s w.heap.size (w.heap.size + 1) X (Lib.hid (h.out.on (H2.out.2.2.2.trans (hb.mono H2.out.2.2.2.size)))) HSB hn hs hm64 (H2.out.1.on hb) (H2.out.2.1.on hb)
      refine (familyThat_any 80 #[] #[.pointer (some ⟨w.heap.size, 0, none⟩), .pointer (some ⟨w.heap.size + 1, 0, none⟩)] (fun s => Plain.hasB xs (s ||| m)) _ (enters_of Try.func80 (by kernel_rfl) rfl) (Lib.hid hct)).mono ?_
      rw [← HL.out]
      rintro e w5 ⟨ma, mc, rfl, hi, ho, hcp, hb⟩
      have HS := Lib.hid (fam_stored (W := w2) (B := w2.heap.size) (G := w.heap.size + 1 + 1) H2.out.2.2.2 (by omega) H2.out.2.2.1.lt (Nat.le_refl _) H2.out.2.2.1 hi ho hcp hb)
      have hcr := (H2.out.2.2.1.on hb).cell
      have hfr := (H2.out.2.2.1.on hb).free
      clear hi ho hcp hb hct
      go_wp2_with fail
      refine bodyPost_ret (results_fam2 rfl _ _ (w.heap.size + 1 + 1) _ (.bool true) rfl rfl HS.out.1) rfl (fb_of HE.out.1.symm HE.out.2.symm HS.out.2)
set_option maxRecDepth 100000 in
set_option maxHeartbeats 2000000 in
theorem implFixFamily_any (a : Option Addr) (cap : Nat) (xs : List Int) (n : Int) (w : World) (h : Hid (Ints w a xs)) (h64 : Hid (In64 xs)) (hn : xs.length ≤ 1048576) (hr : -9223372036854775808 ≤ n ∧ n ≤ 9223372036854775807) :
    Calls Try.prog 43 #[.agg #[.slice a xs.length cap], .int .i64 n] w (FB (fixW xs n) (fixB xs n) w) := by
  have H0 := Lib.hid (box_int_result w (.slice a xs.length cap) (.int .i64 n))
  have hcf := H0.out.1.cell
  have HR := Lib.hid hr
  clear hr
  cases hf : Plain.famB xs with
  | false =>
    have HE := Lib.hid (fix_no (n := n) (.inl hf))
    have HF := Lib.hid hf
    clear hf
    go_enter Try.func43, Try.ntmps43
    go_wp2_with fail
    obtain ⟨W, hW⟩ : ∃ W, W = ((w.alloc (.cells #[.slice a xs.length cap] 27)).alloc (.cells #[.int .i64 n] 3)).alloc (.cells #[.slice none 0 0] 27) := ⟨_, rfl⟩
    rw [← hW] at H0 ⊢
    clear hW
    refine (implIsFamily_any _ _ xs _ (Lib.hid (h.out.on H0.out.2.2.2)) h64 hn).mono ?_
    rw [HF.out]
    rintro e w2 ⟨rfl, hb⟩
    have H2 := Lib.hid (And.intro (H0.out.1.on hb) (And.intro (H0.out.2.1.on hb) (And.intro (H0.out.2.2.1.on hb) (H0.out.2.2.2.trans (hb.mono H0.out.2.2.2.size)))))
    clear hb
    have hB := ((H2.out.2.2.2).setCell (p := ⟨w.heap.size + 1 + 1, 0, none⟩) (by simp <;> omega) (.slice none 0 0))
    have hF := (H2.out.2.2.1).set (.slice none 0 0)
    have hcr := (H2.out.2.2.1).cell
    have hfr := (H2.out.2.2.1).free
    have HB9 := Lib.hid (And.intro hB hF)
    clear hB hF
    go_wp2_with fail
    refine bodyPost_ret (results_fam2 rfl _ _ (w.heap.size + 1 + 1) _ (.bool false) rfl rfl HB9.out.2) rfl (fb_of HE.out.1.symm HE.out.2.symm (fb_nil HB9.out.1))
  | true =>
    cases hs : setB n with
    | false =>
      have HE := Lib.hid (fix_no (xs := xs) (.inr hs))
      have HF := Lib.hid hf
      have HN := Lib.hid hs
      clear hf hs
      go_enter Try.func43, Try.ntmps43
      go_wp2_with fail
      obtain ⟨W, hW⟩ : ∃ W, W = ((w.alloc (.cells #[.slice a xs.length cap] 27)).alloc (.cells #[.int .i64 n] 3)).alloc (.cells #[.slice none 0 0] 27) := ⟨_, rfl⟩
      rw [← hW] at H0 ⊢
      clear hW
      refine (implIsFamily_any _ _ xs _ (Lib.hid (h.out.on H0.out.2.2.2)) h64 hn).mono ?_
      rw [HF.out]
      rintro e w2 ⟨rfl, hb⟩
      have H2 := Lib.hid (And.intro (H0.out.1.on hb) (And.intro (H0.out.2.1.on hb) (And.intro (H0.out.2.2.1.on hb) (H0.out.2.2.2.trans (hb.mono H0.out.2.2.2.size)))))
      clear hb
      have hcn := H2.out.2.1.cell
      go_wp2_with fail
      clear hcn
      refine (isSet_any n _ HR.out).mono ?_
      rw [HN.out]
      rintro e w' ⟨rfl, rfl⟩
      have hB := ((H2.out.2.2.2).setCell (p := ⟨w.heap.size + 1 + 1, 0, none⟩) (by simp <;> omega) (.slice none 0 0))
      have hF := (H2.out.2.2.1).set (.slice none 0 0)
      have hcr := (H2.out.2.2.1).cell
      have hfr := (H2.out.2.2.1).free
      have HB9 := Lib.hid (And.intro hB hF)
      clear hB hF
      go_wp2_with fail
      refine bodyPost_ret (results_fam2 rfl _ _ (w.heap.size + 1 + 1) _ (.bool false) rfl rfl HB9.out.2) rfl (fb_of HE.out.1.symm HE.out.2.symm (fb_nil HB9.out.1))
    | true =>
      obtain ⟨m, rfl, hm64⟩ := set_nat hs
      have hE := fix_yes hf hs
      obtain ⟨L, hL⟩ : ∃ L, L = Plain.edges (fun s => Plain.hasB xs (Plain.clr s m)) true := ⟨_, rfl⟩
      rw [← hL] at hE
      have HE := Lib.hid hE
      have HL := Lib.hid hL
      have HF := Lib.hid hf
      have HSB := Lib.hid (Plain.fam_sets hf)
      have HN := Lib.hid hs
      clear hf hs hE hL
      go_enter Try.func43, Try.ntmps43
      go_wp2_with fail
      obtain ⟨W, hW⟩ : ∃ W, W = ((w.alloc (.cells #[.slice a xs.length cap] 27)).alloc (.cells #[.int .i64 (m : Int)] 3)).alloc (.cells #[.slice none 0 0] 27) := ⟨_, rfl⟩
      rw [← hW] at H0 ⊢
      clear hW
      refine (implIsFamily_any _ _ xs _ (Lib.hid (h.out.on H0.out.2.2.2)) h64 hn).mono ?_
      rw [HF.out]
      rintro e w2 ⟨rfl, hb⟩
      have H2 := Lib.hid (And.intro (H0.out.1.on hb) (And.intro (H0.out.2.1.on hb) (And.intro (H0.out.2.2.1.on hb) (H0.out.2.2.2.trans (hb.mono H0.out.2.2.2.size)))))
      clear hb
      have hcn := H2.out.2.1.cell
      go_wp2_with fail
      clear hcn
      refine (isSet_any (m : Int) _ HR.out).mono ?_
      rw [HN.out]
      rintro e w' ⟨rfl, rfl⟩
      go_wp2_with fail
      have hct : Tells 81 #[] #[.pointer (some ⟨w.heap.size, 0, none⟩), .pointer (some ⟨w.heap.size + 1, 0, none⟩)] (fun s => Plain.hasB xs (Plain.clr s m)) w2 := fun s X hs hb => by
        simpa using FixFamily_tells a cap xs m s w.heap.size (w.heap.size + 1) X (Lib.hid (h.out.on (H2.out.2.2.2.trans (hb.mono H2.out.2.2.2.size)))) HSB hn hs hm64 (H2.out.1.on hb) (H2.out.2.1.on hb)
      refine (familyThat_any 81 #[] #[.pointer (some ⟨w.heap.size, 0, none⟩), .pointer (some ⟨w.heap.size + 1, 0, none⟩)] (fun s => Plain.hasB xs (Plain.clr s m)) _ (enters_of Try.func81 (by kernel_rfl) rfl) (Lib.hid hct)).mono ?_
      rw [← HL.out]
      rintro e w5 ⟨ma, mc, rfl, hi, ho, hcp, hb⟩
      have HS := Lib.hid (fam_stored (W := w2) (B := w2.heap.size) (G := w.heap.size + 1 + 1) H2.out.2.2.2 (by omega) H2.out.2.2.1.lt (Nat.le_refl _) H2.out.2.2.1 hi ho hcp hb)
      have hcr := (H2.out.2.2.1.on hb).cell
      have hfr := (H2.out.2.2.1.on hb).free
      clear hi ho hcp hb hct
      go_wp2_with fail
      refine bodyPost_ret (results_fam2 rfl _ _ (w.heap.size + 1 + 1) _ (.bool true) rfl rfl HS.out.1) rfl (fb_of HE.out.1.symm HE.out.2.symm HS.out.2)
/-! both programs side by side -/
theorem bothOutFamily (xs : List Int) (h64 : Hid (In64 xs)) (hn : xs.length ≤ 1048576) (n : Int) (h1 : -9223372036854775808 ≤ n) (h2 : n ≤ 9223372036854775807) : ∃ (out : List Int) (ok : Bool), out.length ≤ 1048576 ∧
    (∀ a cap w, Hid (Ints w a xs) → Calls Try.prog 40 #[.agg #[.slice a xs.length cap], .int .i64 n] w (FB out ok w)) ∧
    (∀ a cap w, Hid (Ints w a xs) → Calls Try.prog 41 #[.agg #[.slice a xs.length cap], .int .i64 n] w (FB out ok w)) :=
  ⟨_, _, Nat.le_trans (outW_le xs n) (by decide), fun a cap w h => specOutFamily_any a cap xs n w h h64 hn ⟨h1, h2⟩, fun a cap w h => implOutFamily_any a cap xs n w h h64 hn ⟨h1, h2⟩⟩
theorem bothFixFamily (xs : List Int) (h64 : Hid (In64 xs)) (hn : xs.length ≤ 1048576) (n : Int) (h1 : -9223372036854775808 ≤ n) (h2 : n ≤ 9223372036854775807) : ∃ (out : List Int) (ok : Bool), out.length ≤ 1048576 ∧
    (∀ a cap w, Hid (Ints w a xs) → Calls Try.prog 42 #[.agg #[.slice a xs.length cap], .int .i64 n] w (FB out ok w)) ∧
    (∀ a cap w, Hid (Ints w a xs) → Calls Try.prog 43 #[.agg #[.slice a xs.length cap], .int .i64 n] w (FB out ok w)) :=
  ⟨_, _, Nat.le_trans (fixW_le xs n) (by decide), fun a cap w h => specFixFamily_any a cap xs n w h h64 hn ⟨h1, h2⟩, fun a cap w h => implFixFamily_any a cap xs n w h h64 hn ⟨h1, h2⟩⟩

end Go.Proofs.Ytcmabcdgdfibjaa
