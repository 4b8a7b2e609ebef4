/- Contracts: FirstWith and CountWith of both. Conditions: the table of greatest lengths lies as the program's text lays it; numbers of 64 bits, lengths that fit. -/
import Derived.Test.YthamckchfhddjaaDoorFirst7
import Derived.Test.YthamckchfhddjaaDoorFamOf
namespace Go.Proofs.YthamckchfhddjaaDoor
open Go.ChangeShapes Go.WideShapes Go.ChangeAt Go.RowKit
set_option linter.unusedVariables false

/-- What FirstWith answers. -/
def fwB (fs : List Int) (n : Int) : Bool := Plain.famB fs && n3B n
def fwW (fs : List Int) (n : Int) : List Int := if fwB fs n = true then (firstOf (likeP n.toNat (Plain.hasB fs)) n.toNat).getD [] else []
def fwOk (fs : List Int) (n : Int) : Bool := fwB fs n && (firstOf (likeP n.toNat (Plain.hasB fs)) n.toNat).isSome
theorem fw_no {fs : List Int} {n : Int} (h : fwB fs n = false) : fwW fs n = [] ∧ fwOk fs n = false := by simp [fwW, fwOk, h]
theorem fw_yes {fs : List Int} {n : Nat} (h : fwB fs (n : Int) = true) : fwW fs (n : Int) = (firstOf (likeP n (Plain.hasB fs)) n).getD [] ∧ fwOk fs (n : Int) = (firstOf (likeP n (Plain.hasB fs)) n).isSome := by simp [fwW, fwOk, h]
theorem fw_le (fs : List Int) (n : Int) : (fwW fs n).length ≤ 8 := by
  unfold fwW
  split
  · rename_i h
    simp only [fwB, n3B, Bool.and_eq_true, decide_eq_true_eq] at h
    exact firstOf_le (by omega) (by omega)
  · simp
theorem n3_nat {n : Int} (h : n3B n = true) : ∃ p : Nat, n = (p : Int) ∧ 1 ≤ p ∧ p ≤ 3 := by
  have h' := of_decide_eq_true h
  exact ⟨n.toNat, by omega, by omega, by omega⟩
set_option maxHeartbeats 1600000 in
theorem specFirstWith_any (a : Option Addr) (c : Nat) (fs : List Int) (n : Int) (w : World) (h1 : Hid (Ints w a fs)) (n1 : Hid (In64 fs)) (hx : fs.length ≤ 1048576) (hr : -9223372036854775808 ≤ n ∧ n ≤ 9223372036854775807) :
    Calls Tryd.prog 21 #[.agg #[.slice a fs.length c], .int .i64 n] w (SB (fwW fs n) (fwOk fs n) w) := by
  have hb0 := (Below.refl w.heap.size w).alloc (Nat.le_refl _) (.cells #[.slice a fs.length c] 35)
  have hf0 := famAt_new w (.slice a fs.length c)
  have hcf := hf0.cell
  have H0 := Lib.hid (And.intro hb0 (And.intro (h1.out.on hb0) hf0))
  clear hb0 hf0
  cases hf : Plain.famB fs with
  | false =>
    have HE := Lib.hid (fw_no (fs := fs) (n := n) (by simp [fwB, hf]))
    have HF := Lib.hid hf
    clear hf
    go_enter Tryd.func21, Tryd.ntmps21
    go_wp2_with fail
    obtain ⟨W, hW⟩ : ∃ W, W = w.alloc (.cells #[.slice a fs.length c] 35) := ⟨_, rfl⟩
    rw [← hW] at H0 ⊢
    clear hW hcf
    refine (l5Family_any _ _ fs _ (Lib.hid H0.out.2.1) n1 (by omega)).mono ?_
    rw [HF.out]
    rintro e w2 ⟨rfl, hb⟩
    have H2 := Lib.hid (H0.out.1.trans (hb.mono H0.out.1.size))
    clear hb
    have HS := Lib.hid (coll_res (coll_start w2))
    go_wp2_with fail
    go_ret2
    exact sb_of HE.out.1.symm HE.out.2.symm ⟨_, rfl, HS.out.1.mono H2.out.size, H2.out.trans (HS.out.2.mono H2.out.size)⟩
  | true =>
    cases h3 : n3B n with
    | false =>
      have HE := Lib.hid (fw_no (fs := fs) (n := n) (by simp [fwB, h3]))
      have HF := Lib.hid hf
      have HN : Hid (decide (1 ≤ n ∧ n ≤ 3) = false) := Lib.hid h3
      clear hf h3
      go_enter Tryd.func21, Tryd.ntmps21
      go_wp2_with fail
      obtain ⟨W, hW⟩ : ∃ W, W = w.alloc (.cells #[.slice a fs.length c] 35) := ⟨_, rfl⟩
      rw [← hW] at H0 ⊢
      clear hW hcf
      refine (l5Family_any _ _ fs _ (Lib.hid H0.out.2.1) n1 (by omega)).mono ?_
      rw [HF.out]
      rintro e w2 ⟨rfl, hb⟩
      have H2 := Lib.hid (H0.out.1.trans (hb.mono H0.out.1.size))
      clear hb
      go_wp2_with fail
      refine (l1In_any n 1 3 _ hr).mono ?_
      rw [HN.out]
      rintro e w' ⟨rfl, rfl⟩
      have HS := Lib.hid (coll_res (coll_start w2))
      go_wp2_with fail
      go_ret2
      exact sb_of HE.out.1.symm HE.out.2.symm ⟨_, rfl, HS.out.1.mono H2.out.size, H2.out.trans (HS.out.2.mono H2.out.size)⟩
    | true =>
      obtain ⟨n, rfl, q1, q3⟩ := n3_nat h3
      have HE := Lib.hid (fw_yes (fs := fs) (n := n) (by simp [fwB, hf, h3]))
      have HF := Lib.hid hf
      have HSB := Lib.hid (Plain.fam_sets hf)
      have HN : Hid (decide ((1 : Int) ≤ (n : Int) ∧ (n : Int) ≤ 3) = true) := Lib.hid h3
      clear hf h3
      go_enter Tryd.func21, Tryd.ntmps21
      go_wp2_with fail
      obtain ⟨W, hW⟩ : ∃ W, W = w.alloc (.cells #[.slice a fs.length c] 35) := ⟨_, rfl⟩
      rw [← hW] at H0 ⊢
      clear hW hcf
      refine (l5Family_any _ _ fs _ (Lib.hid H0.out.2.1) n1 (by omega)).mono ?_
      rw [HF.out]
      rintro e w2 ⟨rfl, hb⟩
      have H2 := Lib.hid (And.intro (H0.out.1.trans (hb.mono H0.out.1.size)) (And.intro (H0.out.2.1.on hb) (H0.out.2.2.on hb)))
      clear hb
      go_wp2_with fail
      refine (l1In_any (n : Int) 1 3 _ hr).mono ?_
      rw [HN.out]
      rintro e w' ⟨rfl, rfl⟩
      have hcg := H2.out.2.2.cell
      go_wp2_with fail
      clear hcg
      refine (l7Rule_any _ _ fs n _ (Lib.hid H2.out.2.1) HSB hx q3).mono ?_
      rintro e w3 ⟨rfl, hb⟩
      have H3 := Lib.hid (H2.out.1.trans (hb.mono H2.out.1.size))
      clear hb
      go_wp2_with fail
      refine (l7First_any (Plain.hasB fs) n _ q1 q3).mono ?_
      rintro e w4 ⟨v3, rfl, hres, hb⟩
      have HR := Lib.hid (And.intro (hres.mono H3.out.size) (H3.out.trans (hb.mono H3.out.size)))
      clear hres hb
      go_wp2_with fail
      go_ret2
      exact sb_of HE.out.1.symm HE.out.2.symm ⟨_, rfl, HR.out.1, HR.out.2⟩
set_option maxHeartbeats 1600000 in
theorem implFirstWith_any (a : Option Addr) (c : Nat) (fs : List Int) (n : Int) (w : World) (h1 : Hid (Ints w a fs)) (hg : Hid (Listed w)) (n1 : Hid (In64 fs)) (hx : fs.length ≤ 1048576) (hr : -9223372036854775808 ≤ n ∧ n ≤ 9223372036854775807) :
    Calls Tryd.prog 22 #[.agg #[.slice a fs.length c], .int .i64 n] w (SB (fwW fs n) (fwOk fs n) w) := by
  have hb0 := (Below.refl w.heap.size w).alloc (Nat.le_refl _) (.cells #[.slice a fs.length c] 35)
  have hf0 := famAt_new w (.slice a fs.length c)
  have hcf := hf0.cell
  have H0 := Lib.hid (And.intro hb0 (And.intro (h1.out.on hb0) (And.intro hf0 (hg.out.on hb0))))
  clear hb0 hf0
  cases hf : Plain.famB fs with
  | false =>
    have HE := Lib.hid (fw_no (fs := fs) (n := n) (by simp [fwB, hf]))
    have HF := Lib.hid hf
    clear hf
    go_enter Tryd.func22, Tryd.ntmps22
    go_wp2_with fail
    obtain ⟨W, hW⟩ : ∃ W, W = w.alloc (.cells #[.slice a fs.length c] 35) := ⟨_, rfl⟩
    rw [← hW] at H0 ⊢
    clear hW hcf
    refine (implIsFamily_any _ _ fs _ (Lib.hid H0.out.2.1) n1 (by omega)).mono ?_
    rw [HF.out]
    rintro e w2 ⟨rfl, hb⟩
    have H2 := Lib.hid (H0.out.1.trans (hb.mono H0.out.1.size))
    clear hb
    have HS := Lib.hid (coll_res (coll_start w2))
    go_wp2_with fail
    go_ret2
    exact sb_of HE.out.1.symm HE.out.2.symm ⟨_, rfl, HS.out.1.mono H2.out.size, H2.out.trans (HS.out.2.mono H2.out.size)⟩
  | true =>
    cases h3 : n3B n with
    | false =>
      have HE := Lib.hid (fw_no (fs := fs) (n := n) (by simp [fwB, h3]))
      have HF := Lib.hid hf
      have HN := Lib.hid h3
      clear hf h3
      go_enter Tryd.func22, Tryd.ntmps22
      go_wp2_with fail
      obtain ⟨W, hW⟩ : ∃ W, W = w.alloc (.cells #[.slice a fs.length c] 35) := ⟨_, rfl⟩
      rw [← hW] at H0 ⊢
      clear hW hcf
      refine (implIsFamily_any _ _ fs _ (Lib.hid H0.out.2.1) n1 (by omega)).mono ?_
      rw [HF.out]
      rintro e w2 ⟨rfl, hb⟩
      have H2 := Lib.hid (H0.out.1.trans (hb.mono H0.out.1.size))
      clear hb
      go_wp2_with fail
      refine (areListed_any n _ hr).mono ?_
      rw [HN.out]
      rintro e w' ⟨rfl, rfl⟩
      have HS := Lib.hid (coll_res (coll_start w2))
      go_wp2_with fail
      go_ret2
      exact sb_of HE.out.1.symm HE.out.2.symm ⟨_, rfl, HS.out.1.mono H2.out.size, H2.out.trans (HS.out.2.mono H2.out.size)⟩
    | true =>
      obtain ⟨n, rfl, q1, q3⟩ := n3_nat h3
      have HE := Lib.hid (fw_yes (fs := fs) (n := n) (by simp [fwB, hf, h3]))
      have HF := Lib.hid hf
      have HSB := Lib.hid (Plain.fam_sets hf)
      have HN := Lib.hid h3
      clear hf h3
      go_enter Tryd.func22, Tryd.ntmps22
      go_wp2_with fail
      obtain ⟨W, hW⟩ : ∃ W, W = w.alloc (.cells #[.slice a fs.length c] 35) := ⟨_, rfl⟩
      rw [← hW] at H0 ⊢
      clear hW hcf
      refine (implIsFamily_any _ _ fs _ (Lib.hid H0.out.2.1) n1 (by omega)).mono ?_
      rw [HF.out]
      rintro e w2 ⟨rfl, hb⟩
      have H2 := Lib.hid (And.intro (H0.out.1.trans (hb.mono H0.out.1.size)) (And.intro (H0.out.2.1.on hb) (And.intro (H0.out.2.2.1.on hb) (H0.out.2.2.2.on hb))))
      clear hb
      go_wp2_with fail
      refine (areListed_any (n : Int) _ hr).mono ?_
      rw [HN.out]
      rintro e w' ⟨rfl, rfl⟩
      have hcg := H2.out.2.2.1.cell
      go_wp2_with fail
      clear hcg
      refine (fallsAs_any 48 #[.agg #[.slice a fs.length c]] #[] (Plain.hasB fs) n _ (enters_of Tryd.func48 (by kernel_rfl) rfl) (by omega) (Lib.hid (fun s W' hs hb => by simpa using has_any a c fs s W' (Lib.hid (H2.out.2.1.on hb)) HSB (by omega) hs))).mono ?_
      rintro e w3 ⟨g1, g2, rfl, hj, hb⟩
      have HJ := Lib.hid hj
      have HG3 := Lib.hid (H2.out.2.2.2.on hb)
      have B3 := Lib.hid (H2.out.1.trans (hb.mono H2.out.1.size))
      clear hj hb
      go_wp2_with fail
      refine (firstThat_any 74 #[] #[.pointer (some ⟨g1, 0, none⟩), .pointer (some ⟨g2, 0, none⟩)] (likeP n (Plain.hasB fs)) n _ (enters_of Tryd.func74 (by kernel_rfl) rfl) HJ HG3 q1 q3).mono ?_
      rintro e w4 ⟨v3, rfl, hres, hb⟩
      have HR := Lib.hid (And.intro (hres.mono B3.out.size) (B3.out.trans (hb.mono B3.out.size)))
      clear hres hb
      go_wp2_with fail
      go_ret2
      exact sb_of HE.out.1.symm HE.out.2.symm ⟨_, rfl, HR.out.1, HR.out.2⟩
theorem bothFirstWith (fs : List Int) (h64 : Hid (In64 fs)) (hn : fs.length ≤ 1048576) (n : Int) (h1 : -9223372036854775808 ≤ n) (h2 : n ≤ 9223372036854775807) : ∃ (out : List Int) (ok : Bool), out.length ≤ 1048576 ∧
    (∀ a cap w, Hid (Ints w a fs) → Hid (Listed w) → Calls Tryd.prog 21 #[.agg #[.slice a fs.length cap], .int .i64 n] w (SB out ok w)) ∧
    (∀ a cap w, Hid (Ints w a fs) → Hid (Listed w) → Calls Tryd.prog 22 #[.agg #[.slice a fs.length cap], .int .i64 n] w (SB out ok w)) :=
  ⟨_, _, Nat.le_trans (fw_le fs n) (by decide), fun a cap w h _ => specFirstWith_any a cap fs n w h h64 hn ⟨h1, h2⟩, fun a cap w h hg => implFirstWith_any a cap fs n w h hg h64 hn ⟨h1, h2⟩⟩

end Go.Proofs.YthamckchfhddjaaDoor
