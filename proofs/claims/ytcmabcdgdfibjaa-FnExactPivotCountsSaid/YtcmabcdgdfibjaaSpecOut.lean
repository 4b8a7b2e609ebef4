/- Contracts: spec.OutFamily, FixFamily. Conditions: numbers of 64 bits, lengths that fit. -/
import Derived.Test.YtcmabcdgdfibjaaFamTab
namespace Go.Proofs.Ytcmabcdgdfibjaa
open Go.ChangeShapes Go.WideShapes Go.ChangeAt Go.RowKit
set_option linter.unusedVariables false

/-- What OutFamily answers. -/
def outB (xs : List Int) (n : Int) : Bool := Plain.famB xs && setB n
def outW (xs : List Int) (n : Int) : List Int := if outB xs n = true then Plain.edges (fun s => Plain.hasB xs (s ||| n.toNat)) true else []
theorem out_no {xs : List Int} {n : Int} (h : Plain.famB xs = false ∨ setB n = false) : outW xs n = [] ∧ outB xs n = false := by
  have hb : outB xs n = false := by rcases h with h | h <;> simp [outB, h]
  exact ⟨by rw [outW, hb]; simp, hb⟩
theorem out_yes {xs : List Int} {m : Nat} (h : Plain.famB xs = true) (hn : setB (m : Int) = true) : outW xs (m : Int) = Plain.edges (fun s => Plain.hasB xs (s ||| m)) true ∧ outB xs (m : Int) = true := by
  have hb : outB xs (m : Int) = true := by simp [outB, h, hn]
  exact ⟨by rw [outW, hb]; simp, hb⟩
theorem outW_le (xs : List Int) (n : Int) : (outW xs n).length ≤ 64 := by
  unfold outW
  split
  · exact Plain.edges_le _ _
  · simp
set_option maxRecDepth 100000 in
set_option maxHeartbeats 2000000 in
theorem specOutFamily_any (a : Option Addr) (cap : Nat) (xs : List Int) (n : Int) (w : World) (h : Hid (Ints w a xs)) (h64 : Hid (In64 xs)) (hn : xs.length ≤ 1048576) (hr : -9223372036854775808 ≤ n ∧ n ≤ 9223372036854775807) :
    Calls Try.prog 40 #[.agg #[.slice a xs.length cap], .int .i64 n] w (FB (outW xs n) (outB xs n) w) := by
  have H0 := Lib.hid (box_result w (.slice a xs.length cap))
  have HR := Lib.hid hr
  clear hr
  cases hf : Plain.famB xs with
  | false =>
    have HE := Lib.hid (out_no (n := n) (.inl hf))
    have HF := Lib.hid hf
    clear hf
    go_enter Try.func40, Try.ntmps40
    go_wp2_with (refine wpList_load_fam rfl _ rfl w.heap.size rfl _ H0.out.1 ?_)
    obtain ⟨W, hW⟩ : ∃ W, W = (w.alloc (.cells #[.slice a xs.length cap] 27)).alloc (.cells #[.slice none 0 0] 27) := ⟨_, rfl⟩
    rw [← hW] at H0 ⊢
    clear hW
    refine (l5Family_any _ _ xs _ (Lib.hid (h.out.on H0.out.2.2.1)) h64 hn).mono ?_
    rw [HF.out]
    rintro e w2 ⟨rfl, hb⟩
    have H2 := Lib.hid (And.intro (H0.out.1.on hb) (And.intro (H0.out.2.1.on hb) (And.intro (H0.out.2.2.1.trans (hb.mono H0.out.2.2.1.size)) hb)))
    clear hb
    have hB := ((H2.out.2.2.1).setCell (p := ⟨w.heap.size + 1, 0, none⟩) (by simp <;> omega) (.slice none 0 0))
    have hF := (H2.out.2.1).set (.slice none 0 0)
    have hcr := (H2.out.2.1).cell
    have hfr := (H2.out.2.1).free
    have HB9 := Lib.hid (And.intro hB hF)
    clear hB hF
    go_wp2_with fail
    refine bodyPost_ret (results_fam2 rfl _ _ (w.heap.size + 1) _ (.bool false) rfl rfl HB9.out.2) rfl (fb_of HE.out.1.symm HE.out.2.symm (fb_nil HB9.out.1))
  | true =>
    cases hs : setB n with
    | false =>
      have HE := Lib.hid (out_no (xs := xs) (.inr hs))
      have HF := Lib.hid hf
      have HN := Lib.hid hs
      clear hf hs
      go_enter Try.func40, Try.ntmps40
      go_wp2_with (refine wpList_load_fam rfl _ rfl w.heap.size rfl _ H0.out.1 ?_)
      obtain ⟨W, hW⟩ : ∃ W, W = (w.alloc (.cells #[.slice a xs.length cap] 27)).alloc (.cells #[.slice none 0 0] 27) := ⟨_, rfl⟩
      rw [← hW] at H0 ⊢
      clear hW
      refine (l5Family_any _ _ xs _ (Lib.hid (h.out.on H0.out.2.2.1)) h64 hn).mono ?_
      rw [HF.out]
      rintro e w2 ⟨rfl, hb⟩
      have H2 := Lib.hid (And.intro (H0.out.1.on hb) (And.intro (H0.out.2.1.on hb) (And.intro (H0.out.2.2.1.trans (hb.mono H0.out.2.2.1.size)) hb)))
      clear hb
      go_wp2_with fail
      refine (l3Set_any n _ HR.out).mono ?_
      rw [HN.out]
      rintro e w' ⟨rfl, rfl⟩
      have hB := ((H2.out.2.2.1).setCell (p := ⟨w.heap.size + 1, 0, none⟩) (by simp <;> omega) (.slice none 0 0))
      have hF := (H2.out.2.1).set (.slice none 0 0)
      have hcr := (H2.out.2.1).cell
      have hfr := (H2.out.2.1).free
      have HB9 := Lib.hid (And.intro hB hF)
      clear hB hF
      go_wp2_with fail
      refine bodyPost_ret (results_fam2 rfl _ _ (w.heap.size + 1) _ (.bool false) rfl rfl HB9.out.2) rfl (fb_of HE.out.1.symm HE.out.2.symm (fb_nil HB9.out.1))
    | true =>
      obtain ⟨m, rfl, hm64⟩ := set_nat hs
      have hE := out_yes hf hs
      obtain ⟨L, hL⟩ : ∃ L, L = Plain.edges (fun s => Plain.hasB xs (s ||| m)) true := ⟨_, rfl⟩
      rw [← hL] at hE
      have HE := Lib.hid hE
      have HL := Lib.hid hL
      have HF := Lib.hid hf
      have HSB := Lib.hid (Plain.fam_sets hf)
      have HN := Lib.hid hs
      clear hf hs hE hL
      go_enter Try.func40, Try.ntmps40
      go_wp2_with (refine wpList_load_fam rfl _ rfl w.heap.size rfl _ H0.out.1 ?_)
      obtain ⟨W, hW⟩ : ∃ W, W = (w.alloc (.cells #[.slice a xs.length cap] 27)).alloc (.cells #[.slice none 0 0] 27) := ⟨_, rfl⟩
      rw [← hW] at H0 ⊢
      clear hW
      refine (l5Family_any _ _ xs _ (Lib.hid (h.out.on H0.out.2.2.1)) h64 hn).mono ?_
      rw [HF.out]
      rintro e w2 ⟨rfl, hb⟩
      have H2 := Lib.hid (And.intro (H0.out.1.on hb) (And.intro (H0.out.2.1.on hb) (And.intro (H0.out.2.2.1.trans (hb.mono H0.out.2.2.1.size)) hb)))
      clear hb
      go_wp2_with fail
      refine (l3Set_any (m : Int) _ HR.out).mono ?_
      rw [HN.out]
      rintro e w' ⟨rfl, rfl⟩
      have HT0 := Lib.hid (tab_new w2 (fun _ => false))
      have HTS := Lib.hid (tabOn_start w2)
      go_wp2_with (refine wpList_store_row rfl 58 _ _ rfl w2.heap.size (bools fun _ => false) rfl (by rw [bools_zero]; rfl) 58 (bools fun _ => false) (by rw [← bools_zero]; exact HT0.out) info64 rfl (bools_one _) ?_)
      rw [← bools_zero]
      obtain ⟨WT, hWT⟩ : ∃ WT, WT = ((w2.alloc (.cells (bools fun _ => false) 58)).setRow w2.heap.size (bools fun _ => false)) := ⟨_, rfl⟩
      rw [← hWT] at HTS ⊢
      clear hWT HT0
      go_loopw [7] (fun i wr => ∃ k : Nat, k ≤ 64 ∧ i = .int .i64 k ∧ TabOn w2 wr (upTo (fun s => Plain.hasB xs (s ||| m)) k)) (fun i _ => 64 - (intOf i).toNat)
      case atStart => exact ⟨0, Nat.zero_le _, rfl, by rw [upTo_zero]; exact HTS.out⟩
      case round =>
        obtain ⟨k, hk, rfl, hrel⟩ := hrel
        have HK := Lib.hid hrel
        clear hrel
        by_cases hlt : k < 64
        · have hi : (k : Int) < 64 := by omega
          have hi0 : (0 : Int) ≤ (k : Int) := by omega
          have HI := Lib.hid (h.out.on (H2.out.2.2.1.trans (HK.out.2.mono H2.out.2.2.1.size)))
          have hbx := (H2.out.1.on HK.out.2).cell
          have hbit := or_small k m hlt hm64
          have hu64 : k ||| m < 64 := Nat.or_lt_two_pow (n := 6) hlt hm64
          obtain ⟨u, hu⟩ : ∃ u, u = k ||| m := ⟨_, rfl⟩
          rw [← hu] at hbit hu64
          have HU := Lib.hid hu
          clear hu
          go_wp2_with fail
          refine (l5Has_any a cap xs u _ HI HSB (by omega) hu64).mono ?_
          rw [HU.out]
          rintro e w1 ⟨rfl, hb⟩
          have H1 := Lib.hid (HK.out.later hb)
          have hc : w1.cell? ⟨w2.heap.size, k, none⟩ = some (.bool (upTo (fun s => Plain.hasB xs (s ||| m)) k k)) := H1.out.1.cell hlt
          have hf : w1.frozen? ⟨w2.heap.size, k, none⟩ = false := H1.out.1.free k
          have H2 := Lib.hid (H1.out.set hlt)
          clear hb HK
          go_wp2_with fail
          go_roundw
          case rel => exact ⟨k + 1, by omega, by go_num, H2.out⟩
          case measure => simp [intOf]; omega
        · obtain rfl : k = 64 := by omega
          have T1 := HK.out.1
          rw [Tab, upTo_all] at T1
          have HT := Lib.hid T1
          clear T1
          go_wp2_with (refine wpList_load_row rfl 58 _ rfl w2.heap.size rfl 58 (bools (fun s => Plain.hasB xs (s ||| m))) (0, 0) _ HT.out Try.underlying58 rfl info64 ?_)
          refine (l5Made_any _ _).mono ?_
          rw [← HL.out]
          rintro e w3 ⟨ma, mc, rfl, hi, ho, hcp, hb⟩
          have HS := Lib.hid (fam_stored (W := wr) (B := wr.heap.size) (G := w.heap.size + 1) ((H2.out.2.2.1).trans (HK.out.2.mono (H2.out.2.2.1).size)) (by simp <;> omega) (Nat.lt_of_lt_of_le (H2.out.2.1).lt HK.out.2.size) (Nat.le_refl _) ((H2.out.2.1).on HK.out.2) hi ho hcp hb)
          have hcr := (((H2.out.2.1).on HK.out.2).on hb).cell
          have hfr := (((H2.out.2.1).on HK.out.2).on hb).free
          clear hi ho hcp hb
          go_wp2_with fail
          refine bodyPost_ret (results_fam2 rfl _ _ (w.heap.size + 1) _ (.bool true) rfl rfl HS.out.1) rfl (fb_of HE.out.1.symm HE.out.2.symm HS.out.2)
/-- What FixFamily answers. -/
def fixB (xs : List Int) (n : Int) : Bool := Plain.famB xs && setB n
def fixW (xs : List Int) (n : Int) : List Int := if fixB xs n = true then Plain.edges (fun s => Plain.hasB xs (Plain.clr s n.toNat)) true else []
theorem fix_no {xs : List Int} {n : Int} (h : Plain.famB xs = false ∨ setB n = false) : fixW xs n = [] ∧ fixB xs n = false := by
  have hb : fixB xs n = false := by rcases h with h | h <;> simp [fixB, h]
  exact ⟨by rw [fixW, hb]; simp, hb⟩
theorem fix_yes {xs : List Int} {m : Nat} (h : Plain.famB xs = true) (hn : setB (m : Int) = true) : fixW xs (m : Int) = Plain.edges (fun s => Plain.hasB xs (Plain.clr s m)) true ∧ fixB xs (m : Int) = true := by
  have hb : fixB xs (m : Int) = true := by simp [fixB, h, hn]
  exact ⟨by rw [fixW, hb]; simp, hb⟩
theorem fixW_le (xs : List Int) (n : Int) : (fixW xs n).length ≤ 64 := by
  unfold fixW
  split
  · exact Plain.edges_le _ _
  · simp
set_option maxRecDepth 100000 in
set_option maxHeartbeats 2000000 in
theorem specFixFamily_any (a : Option Addr) (cap : Nat) (xs : List Int) (n : Int) (w : World) (h : Hid (Ints w a xs)) (h64 : Hid (In64 xs)) (hn : xs.length ≤ 1048576) (hr : -9223372036854775808 ≤ n ∧ n ≤ 9223372036854775807) :
    Calls Try.prog 42 #[.agg #[.slice a xs.length cap], .int .i64 n] w (FB (fixW xs n) (fixB xs n) w) := by
  have H0 := Lib.hid (box_result w (.slice a xs.length cap))
  have HR := Lib.hid hr
  clear hr
  cases hf : Plain.famB xs with
  | false =>
    have HE := Lib.hid (fix_no (n := n) (.inl hf))
    have HF := Lib.hid hf
    clear hf
    go_enter Try.func42, Try.ntmps42
    go_wp2_with (refine wpList_load_fam rfl _ rfl w.heap.size rfl _ H0.out.1 ?_)
    obtain ⟨W, hW⟩ : ∃ W, W = (w.alloc (.cells #[.slice a xs.length cap] 27)).alloc (.cells #[.slice none 0 0] 27) := ⟨_, rfl⟩
    rw [← hW] at H0 ⊢
    clear hW
    refine (l5Family_any _ _ xs _ (Lib.hid (h.out.on H0.out.2.2.1)) h64 hn).mono ?_
    rw [HF.out]
    rintro e w2 ⟨rfl, hb⟩
    have H2 := Lib.hid (And.intro (H0.out.1.on hb) (And.intro (H0.out.2.1.on hb) (And.intro (H0.out.2.2.1.trans (hb.mono H0.out.2.2.1.size)) hb)))
    clear hb
    have hB := ((H2.out.2.2.1).setCell (p := ⟨w.heap.size + 1, 0, none⟩) (by simp <;> omega) (.slice none 0 0))
    have hF := (H2.out.2.1).set (.slice none 0 0)
    have hcr := (H2.out.2.1).cell
    have hfr := (H2.out.2.1).free
    have HB9 := Lib.hid (And.intro hB hF)
    clear hB hF
    go_wp2_with fail
    refine bodyPost_ret (results_fam2 rfl _ _ (w.heap.size + 1) _ (.bool false) rfl rfl HB9.out.2) rfl (fb_of HE.out.1.symm HE.out.2.symm (fb_nil HB9.out.1))
  | true =>
    cases hs : setB n with
    | false =>
      have HE := Lib.hid (fix_no (xs := xs) (.inr hs))
      have HF := Lib.hid hf
      have HN := Lib.hid hs
      clear hf hs
      go_enter Try.func42, Try.ntmps42
      go_wp2_with (refine wpList_load_fam rfl _ rfl w.heap.size rfl _ H0.out.1 ?_)
      obtain ⟨W, hW⟩ : ∃ W, W = (w.alloc (.cells #[.slice a xs.length cap] 27)).alloc (.cells #[.slice none 0 0] 27) := ⟨_, rfl⟩
      rw [← hW] at H0 ⊢
      clear hW
      refine (l5Family_any _ _ xs _ (Lib.hid (h.out.on H0.out.2.2.1)) h64 hn).mono ?_
      rw [HF.out]
      rintro e w2 ⟨rfl, hb⟩
      have H2 := Lib.hid (And.intro (H0.out.1.on hb) (And.intro (H0.out.2.1.on hb) (And.intro (H0.out.2.2.1.trans (hb.mono H0.out.2.2.1.size)) hb)))
      clear hb
      go_wp2_with fail
      refine (l3Set_any n _ HR.out).mono ?_
      rw [HN.out]
      rintro e w' ⟨rfl, rfl⟩
      have hB := ((H2.out.2.2.1).setCell (p := ⟨w.heap.size + 1, 0, none⟩) (by simp <;> omega) (.slice none 0 0))
      have hF := (H2.out.2.1).set (.slice none 0 0)
      have hcr := (H2.out.2.1).cell
      have hfr := (H2.out.2.1).free
      have HB9 := Lib.hid (And.intro hB hF)
      clear hB hF
      go_wp2_with fail
      refine bodyPost_ret (results_fam2 rfl _ _ (w.heap.size + 1) _ (.bool false) rfl rfl HB9.out.2) rfl (fb_of HE.out.1.symm HE.out.2.symm (fb_nil HB9.out.1))
    | true =>
      obtain ⟨m, rfl, hm64⟩ := set_nat hs
      have hE := fix_yes hf hs
      obtain ⟨L, hL⟩ : ∃ L, L = Plain.edges (fun s => Plain.hasB xs (Plain.clr s m)) true := ⟨_, rfl⟩
      rw [← hL] at hE
      have HE := Lib.hid hE
      have HL := Lib.hid hL
      have HF := Lib.hid hf
      have HSB := Lib.hid (Plain.fam_sets hf)
      have HN := Lib.hid hs
      clear hf hs hE hL
      go_enter Try.func42, Try.ntmps42
      go_wp2_with (refine wpList_load_fam rfl _ rfl w.heap.size rfl _ H0.out.1 ?_)
      obtain ⟨W, hW⟩ : ∃ W, W = (w.alloc (.cells #[.slice a xs.length cap] 27)).alloc (.cells #[.slice none 0 0] 27) := ⟨_, rfl⟩
      rw [← hW] at H0 ⊢
      clear hW
      refine (l5Family_any _ _ xs _ (Lib.hid (h.out.on H0.out.2.2.1)) h64 hn).mono ?_
      rw [HF.out]
      rintro e w2 ⟨rfl, hb⟩
      have H2 := Lib.hid (And.intro (H0.out.1.on hb) (And.intro (H0.out.2.1.on hb) (And.intro (H0.out.2.2.1.trans (hb.mono H0.out.2.2.1.size)) hb)))
      clear hb
      go_wp2_with fail
      refine (l3Set_any (m : Int) _ HR.out).mono ?_
      rw [HN.out]
      rintro e w' ⟨rfl, rfl⟩
      have HT0 := Lib.hid (tab_new w2 (fun _ => false))
      have HTS := Lib.hid (tabOn_start w2)
      go_wp2_with (refine wpList_store_row rfl 58 _ _ rfl w2.heap.size (bools fun _ => false) rfl (by rw [bools_zero]; rfl) 58 (bools fun _ => false) (by rw [← bools_zero]; exact HT0.out) info64 rfl (bools_one _) ?_)
      rw [← bools_zero]
      obtain ⟨WT, hWT⟩ : ∃ WT, WT = ((w2.alloc (.cells (bools fun _ => false) 58)).setRow w2.heap.size (bools fun _ => false)) := ⟨_, rfl⟩
      rw [← hWT] at HTS ⊢
      clear hWT HT0
      go_loopw [7] (fun i wr => ∃ k : Nat, k ≤ 64 ∧ i = .int .i64 k ∧ TabOn w2 wr (upTo (fun s => Plain.hasB xs (Plain.clr s m)) k)) (fun i _ => 64 - (intOf i).toNat)
      case atStart => exact ⟨0, Nat.zero_le _, rfl, by rw [upTo_zero]; exact HTS.out⟩
      case round =>
        obtain ⟨k, hk, rfl, hrel⟩ := hrel
        have HK := Lib.hid hrel
        clear hrel
        by_cases hlt : k < 64
        · have hi : (k : Int) < 64 := by omega
          have hi0 : (0 : Int) ≤ (k : Int) := by omega
          have HI := Lib.hid (h.out.on (H2.out.2.2.1.trans (HK.out.2.mono H2.out.2.2.1.size)))
          have hbx := (H2.out.1.on HK.out.2).cell
          have hbit := clr_small hlt hm64
          have hu64 := clr_lt m hlt
          obtain ⟨u, hu⟩ : ∃ u, u = Plain.clr k m := ⟨_, rfl⟩
          rw [← hu] at hbit hu64
          have HU := Lib.hid hu
          clear hu
          go_wp2_with fail
          refine (l5Has_any a cap xs u _ HI HSB (by omega) hu64).mono ?_
          rw [HU.out]
          rintro e w1 ⟨rfl, hb⟩
          have H1 := Lib.hid (HK.out.later hb)
          have hc : w1.cell? ⟨w2.heap.size, k, none⟩ = some (.bool (upTo (fun s => Plain.hasB xs (Plain.clr s m)) k k)) := H1.out.1.cell hlt
          have hf : w1.frozen? ⟨w2.heap.size, k, none⟩ = false := H1.out.1.free k
          have H2 := Lib.hid (H1.out.set hlt)
          clear hb HK
          go_wp2_with fail
          go_roundw
          case rel => exact ⟨k + 1, by omega, by go_num, H2.out⟩
          case measure => simp [intOf]; omega
        · obtain rfl : k = 64 := by omega
          have T1 := HK.out.1
          rw [Tab, upTo_all] at T1
          have HT := Lib.hid T1
          clear T1
          go_wp2_with (refine wpList_load_row rfl 58 _ rfl w2.heap.size rfl 58 (bools (fun s => Plain.hasB xs (Plain.clr s m))) (0, 0) _ HT.out Try.underlying58 rfl info64 ?_)
          refine (l5Made_any _ _).mono ?_
          rw [← HL.out]
          rintro e w3 ⟨ma, mc, rfl, hi, ho, hcp, hb⟩
          have HS := Lib.hid (fam_stored (W := wr) (B := wr.heap.size) (G := w.heap.size + 1) ((H2.out.2.2.1).trans (HK.out.2.mono (H2.out.2.2.1).size)) (by simp <;> omega) (Nat.lt_of_lt_of_le (H2.out.2.1).lt HK.out.2.size) (Nat.le_refl _) ((H2.out.2.1).on HK.out.2) hi ho hcp hb)
          have hcr := (((H2.out.2.1).on HK.out.2).on hb).cell
          have hfr := (((H2.out.2.1).on HK.out.2).on hb).free
          clear hi ho hcp hb
          go_wp2_with fail
          refine bodyPost_ret (results_fam2 rfl _ _ (w.heap.size + 1) _ (.bool true) rfl rfl HS.out.1) rfl (fb_of HE.out.1.symm HE.out.2.symm HS.out.2)

end Go.Proofs.Ytcmabcdgdfibjaa
