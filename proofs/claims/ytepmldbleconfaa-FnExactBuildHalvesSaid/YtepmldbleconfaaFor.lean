/- Contracts: spec.l6For, spec.IsWordFor, impl.IsWordFor. Conditions: numbers of 64 bits, lengths that fit. -/
import Derived.Test.YtepmldbleconfaaTabKit
import Derived.Test.YtepmldbleconfaaFalls
import Derived.Test.YtepmldbleconfaaTab
import Derived.Test.YtepmldbleconfaaFamMore
import Derived.Test.YtepmldbleconfaaFamTable
import Derived.Test.YtepmldbleconfaaBuildMath
import Derived.Test.YtepmldbleconfaaLater
namespace Go.Proofs.Ytepmldbleconfaa
open Go.ChangeShapes Go.WideShapes Go.ChangeAt Go.RowKit
set_option linter.unusedVariables false

set_option maxRecDepth 100000 in
set_option maxHeartbeats 800000 in
theorem l6For_any (a : Option Addr) (cap : Nat) (xs : List Int) (t : Nat → Bool) (w : World) (h : Hid (Ints w a xs)) (hl : Hid (Plain.Letters xs)) (hn : xs.length ≤ 1048576) :
    Calls Try.prog 47 #[.slice a xs.length cap, .agg (bools t)] w (Val (.bool (Plain.alike (Plain.fallsB xs) t)) w) := by
  have HT := Lib.hid (tab_new w t)
  have HB := Lib.hid ((Below.refl w.heap.size w).alloc (Nat.le_refl _) (.cells (bools t) 50))
  have HI := Lib.hid (h.out.on HB.out)
  go_enter Try.func47, Try.ntmps47
  go_wp2_with fail
  obtain ⟨W, hW⟩ : ∃ W, W = w.alloc (.cells (bools t) 50) := ⟨_, rfl⟩
  rw [← hW] at HT HB HI ⊢
  clear hW
  have hload : ∀ p : Later W, (loadVar 50 ⟨w.heap.size, 0, none⟩).run Try.prog p.W = .ok (.agg (bools t)) p.W := fun p => tab_load (HT.out.on p.ok)
  have HLD := Lib.hid hload
  have hrun : ∀ p : Later W, Sem.run Try.prog (Op.equalIn 10000 50 (.agg (bools (Plain.fallsB xs))) (.agg (bools t))) p.W = .ok (Plain.alike (Plain.fallsB xs) t) p.W := fun p => run_tabs p.W _ _
  clear hload
  refine wp_region_below (by kernel_rfl) (by kernel_rfl) ?_
  repeat (first
    | (refine later_row rfl 50 _ rfl w.heap.size rfl (bools t) HLD.out ?_)
    | quiet_step ((go_at_call 73; exact later_of (l3Table_any _ _ xs _ (Lib.hid (HI.out.on (Later.ok _))) hl hn))))
  refine wpQuiet_nil ?_
  intro _ hw'
  obtain ⟨⟨wx, hwx⟩, rfl⟩ := hw'
  go_wp2_with fail
  go_ret
  exact ⟨rfl, HB.out.trans (hwx.mono HB.out.size)⟩
/-- What IsWordFor answers. -/
def forB (xs fs : List Int) : Bool := Plain.wordB xs && Plain.famB fs
def forV (xs fs : List Int) : Bool := forB xs fs && Plain.alike (Plain.fallsB xs) (Plain.hasB fs)
theorem for_no {xs fs : List Int} (h : Plain.wordB xs = false ∨ Plain.famB fs = false) : forV xs fs = false ∧ forB xs fs = false := by
  have hb : forB xs fs = false := by rcases h with h | h <;> simp [forB, h]
  simp [forV, hb]
theorem for_yes {xs fs : List Int} (h1 : Plain.wordB xs = true) (h2 : Plain.famB fs = true) : forV xs fs = Plain.alike (Plain.fallsB xs) (Plain.hasB fs) ∧ forB xs fs = true := by simp [forV, forB, h1, h2]
set_option maxRecDepth 100000 in
set_option maxHeartbeats 800000 in
theorem specIsWordFor_any (a1 a2 : Option Addr) (c1 c2 : Nat) (xs fs : List Int) (w : World) (h1 : Hid (Ints w a1 xs)) (n1 : Hid (In64 xs)) (h2 : Hid (Ints w a2 fs)) (n2 : Hid (In64 fs)) (hx : xs.length ≤ 1048576) (hf : fs.length ≤ 1048576) :
    Calls Try.prog 15 #[.slice a1 xs.length c1, .agg #[.slice a2 fs.length c2]] w (Val (.tuple #[.bool (forV xs fs), .bool (forB xs fs)]) w) := by
  have hb0 := (Below.refl w.heap.size w).alloc (Nat.le_refl _) (.cells #[.slice a2 fs.length c2] 29)
  have H0 := Lib.hid (And.intro hb0 (And.intro (h2.out.on hb0) (famAt_new w (.slice a2 fs.length c2))))
  clear hb0
  cases hw1 : Plain.wordB xs with
  | false =>
    have HE := Lib.hid (for_no (fs := fs) (.inl hw1))
    have W1 := Lib.hid hw1
    clear hw1
    go_enter Try.func15, Try.ntmps15
    go_wp2_with fail
    obtain ⟨W, hW⟩ : ∃ W, W = w.alloc (.cells #[.slice a2 fs.length c2] 29) := ⟨_, rfl⟩
    rw [← hW] at H0 ⊢
    clear hW
    refine (l2Word_any _ _ xs _ (Lib.hid (h1.out.on H0.out.1)) n1 (by omega)).mono ?_
    rw [W1.out]
    rintro e w' ⟨rfl, rfl⟩
    go_wp2_with fail
    go_ret2
    exact val_bb HE.out.1.symm HE.out.2.symm ⟨rfl, H0.out.1⟩
  | true =>
    cases hw2 : Plain.famB fs with
    | false =>
      have HE := Lib.hid (for_no (xs := xs) (.inr hw2))
      have W1 := Lib.hid hw1
      have W2 := Lib.hid hw2
      clear hw1 hw2
      go_enter Try.func15, Try.ntmps15
      go_wp2_with fail
      obtain ⟨W, hW⟩ : ∃ W, W = w.alloc (.cells #[.slice a2 fs.length c2] 29) := ⟨_, rfl⟩
      rw [← hW] at H0 ⊢
      clear hW
      refine (l2Word_any _ _ xs _ (Lib.hid (h1.out.on H0.out.1)) n1 (by omega)).mono ?_
      rw [W1.out]
      rintro e w' ⟨rfl, rfl⟩
      have hcf := H0.out.2.2.cell
      go_wp2_with fail
      clear hcf
      refine (l5Family_any _ _ fs _ (Lib.hid H0.out.2.1) n2 (by omega)).mono ?_
      rw [W2.out]
      rintro e w2 ⟨rfl, hb⟩
      have H2 := Lib.hid (And.intro (H0.out.1.trans (hb.mono H0.out.1.size)) (And.intro (H0.out.2.1.on hb) (H0.out.2.2.on hb)))
      clear hb
      go_wp2_with fail
      go_ret2
      exact val_bb HE.out.1.symm HE.out.2.symm ⟨rfl, H2.out.1⟩
    | true =>
      have HE := Lib.hid (for_yes hw1 hw2)
      have L1 := Lib.hid (Plain.wordB_iff.1 hw1).2
      have HSB := Lib.hid (Plain.fam_sets hw2)
      have W1 := Lib.hid hw1
      have W2 := Lib.hid hw2
      clear hw1 hw2
      go_enter Try.func15, Try.ntmps15
      go_wp2_with fail
      obtain ⟨W, hW⟩ : ∃ W, W = w.alloc (.cells #[.slice a2 fs.length c2] 29) := ⟨_, rfl⟩
      rw [← hW] at H0 ⊢
      clear hW
      refine (l2Word_any _ _ xs _ (Lib.hid (h1.out.on H0.out.1)) n1 (by omega)).mono ?_
      rw [W1.out]
      rintro e w' ⟨rfl, rfl⟩
      have hcf := H0.out.2.2.cell
      go_wp2_with fail
      clear hcf
      refine (l5Family_any _ _ fs _ (Lib.hid H0.out.2.1) n2 (by omega)).mono ?_
      rw [W2.out]
      rintro e w2 ⟨rfl, hb⟩
      have H2 := Lib.hid (And.intro (H0.out.1.trans (hb.mono H0.out.1.size)) (And.intro (H0.out.2.1.on hb) (H0.out.2.2.on hb)))
      clear hb
      have hcf := H2.out.2.2.cell
      go_wp2_with fail
      clear hcf
      refine (l5Members_any _ _ fs _ (Lib.hid H2.out.2.1) HSB (by omega)).mono ?_
      rintro e w3 ⟨rfl, hb⟩
      have H3 := Lib.hid (And.intro (H2.out.1.trans (hb.mono H2.out.1.size)) (h1.out.on (H2.out.1.trans (hb.mono H2.out.1.size))))
      clear hb
      go_wp2_with fail
      refine (l6For_any _ _ xs _ _ (Lib.hid H3.out.2) L1 (by omega)).mono ?_
      rintro e w4 ⟨rfl, hb⟩
      have H4 := Lib.hid (H3.out.1.trans (hb.mono H3.out.1.size))
      clear hb
      go_wp2_with fail
      go_ret2
      exact val_bb HE.out.1.symm HE.out.2.symm ⟨rfl, H4.out⟩
set_option maxRecDepth 100000 in
set_option maxHeartbeats 800000 in
theorem implIsWordFor_any (a1 a2 : Option Addr) (c1 c2 : Nat) (xs fs : List Int) (w : World) (h1 : Hid (Ints w a1 xs)) (n1 : Hid (In64 xs)) (h2 : Hid (Ints w a2 fs)) (n2 : Hid (In64 fs)) (hx : xs.length ≤ 1048576) (hf : fs.length ≤ 1048576) :
    Calls Try.prog 18 #[.slice a1 xs.length c1, .agg #[.slice a2 fs.length c2]] w (Val (.tuple #[.bool (forV xs fs), .bool (forB xs fs)]) w) := by
  have hb0 := (Below.refl w.heap.size w).alloc (Nat.le_refl _) (.cells #[.slice a2 fs.length c2] 29)
  have H0 := Lib.hid (And.intro hb0 (And.intro (h2.out.on hb0) (famAt_new w (.slice a2 fs.length c2))))
  clear hb0
  cases hw1 : Plain.wordB xs with
  | false =>
    have HE := Lib.hid (for_no (fs := fs) (.inl hw1))
    have W1 := Lib.hid hw1
    clear hw1
    go_enter Try.func18, Try.ntmps18
    go_wp2_with fail
    obtain ⟨W, hW⟩ : ∃ W, W = w.alloc (.cells #[.slice a2 fs.length c2] 29) := ⟨_, rfl⟩
    rw [← hW] at H0 ⊢
    clear hW
    refine (isWord_any _ _ xs _ (Lib.hid (h1.out.on H0.out.1)) n1 (by omega)).mono ?_
    rw [W1.out]
    rintro e w' ⟨rfl, rfl⟩
    go_wp2_with fail
    go_ret2
    exact val_bb HE.out.1.symm HE.out.2.symm ⟨rfl, H0.out.1⟩
  | true =>
    cases hw2 : Plain.famB fs with
    | false =>
      have HE := Lib.hid (for_no (xs := xs) (.inr hw2))
      have W1 := Lib.hid hw1
      have W2 := Lib.hid hw2
      clear hw1 hw2
      go_enter Try.func18, Try.ntmps18
      go_wp2_with fail
      obtain ⟨W, hW⟩ : ∃ W, W = w.alloc (.cells #[.slice a2 fs.length c2] 29) := ⟨_, rfl⟩
      rw [← hW] at H0 ⊢
      clear hW
      refine (isWord_any _ _ xs _ (Lib.hid (h1.out.on H0.out.1)) n1 (by omega)).mono ?_
      rw [W1.out]
      rintro e w' ⟨rfl, rfl⟩
      have hcf := H0.out.2.2.cell
      go_wp2_with fail
      clear hcf
      refine (implIsFamily_any _ _ fs _ (Lib.hid H0.out.2.1) n2 (by omega)).mono ?_
      rw [W2.out]
      rintro e w2 ⟨rfl, hb⟩
      have H2 := Lib.hid (And.intro (H0.out.1.trans (hb.mono H0.out.1.size)) (And.intro (H0.out.2.1.on hb) (H0.out.2.2.on hb)))
      clear hb
      go_wp2_with fail
      go_ret2
      exact val_bb HE.out.1.symm HE.out.2.symm ⟨rfl, H2.out.1⟩
    | true =>
      have HE := Lib.hid (for_yes hw1 hw2)
      have L1 := Lib.hid (Plain.wordB_iff.1 hw1).2
      have HSB := Lib.hid (Plain.fam_sets hw2)
      have W1 := Lib.hid hw1
      have W2 := Lib.hid hw2
      clear hw1 hw2
      go_enter Try.func18, Try.ntmps18
      go_wp2_with fail
      obtain ⟨W, hW⟩ : ∃ W, W = w.alloc (.cells #[.slice a2 fs.length c2] 29) := ⟨_, rfl⟩
      rw [← hW] at H0 ⊢
      clear hW
      refine (isWord_any _ _ xs _ (Lib.hid (h1.out.on H0.out.1)) n1 (by omega)).mono ?_
      rw [W1.out]
      rintro e w' ⟨rfl, rfl⟩
      have hcf := H0.out.2.2.cell
      go_wp2_with fail
      clear hcf
      refine (implIsFamily_any _ _ fs _ (Lib.hid H0.out.2.1) n2 (by omega)).mono ?_
      rw [W2.out]
      rintro e w2 ⟨rfl, hb⟩
      have H2 := Lib.hid (And.intro (H0.out.1.trans (hb.mono H0.out.1.size)) (And.intro (H0.out.2.1.on hb) (H0.out.2.2.on hb)))
      clear hb
      go_wp2_with fail
      have hcl : ∀ p : Later w2, p.W.cell? ⟨w.heap.size, 0, none⟩ = some (.slice a2 fs.length c2) := fun p => (H2.out.2.2.on p.ok).cell
      have hrun : ∀ p : Later w2, Sem.run Try.prog (Op.equalIn 10000 52 (.agg (bools (Plain.fallsB xs))) (.agg (bools (Plain.hasB fs)))) p.W = .ok (Plain.alike (Plain.fallsB xs) (Plain.hasB fs)) p.W := fun p => run_tabsF p.W _ _
      refine wp_region_below (by kernel_rfl) (by kernel_rfl) ?_
      repeat (quiet_step (first
        | (go_at_call 51; exact later_of (fallTable_any _ _ xs _ (Lib.hid (h1.out.on (H2.out.1.trans ((Later.ok _).mono H2.out.1.size)))) L1 (by omega)))
        | (go_at_call 52; exact later_of (table_any a2 c2 fs _ (Lib.hid (H2.out.2.1.on (Later.ok _))) HSB (by omega)))))
      refine wpQuiet_nil ?_
      intro _ hw'
      obtain ⟨⟨wx, hwx⟩, rfl⟩ := hw'
      go_wp2_with fail
      go_ret2
      exact val_bb HE.out.1.symm HE.out.2.symm ⟨rfl, H2.out.1.trans (hwx.mono H2.out.1.size)⟩
theorem bothIsWordFor (xs : List Int) (n1 : Hid (In64 xs)) (hx : xs.length ≤ 1048576) (fs : List Int) (n2 : Hid (In64 fs)) (hf : fs.length ≤ 1048576) : ∃ (r0 r1 : Bool),
    (∀ a1 c1 a2 c2 w, Hid (Ints w a1 xs) → Hid (Ints w a2 fs) → Calls Try.prog 15 #[.slice a1 xs.length c1, .agg #[.slice a2 fs.length c2]] w (Val (.tuple #[.bool r0, .bool r1]) w)) ∧
    (∀ a1 c1 a2 c2 w, Hid (Ints w a1 xs) → Hid (Ints w a2 fs) → Calls Try.prog 18 #[.slice a1 xs.length c1, .agg #[.slice a2 fs.length c2]] w (Val (.tuple #[.bool r0, .bool r1]) w)) :=
  ⟨_, _, fun a1 c1 a2 c2 w h1 h2 => specIsWordFor_any a1 a2 c1 c2 xs fs w h1 n1 h2 n2 hx hf, fun a1 c1 a2 c2 w h1 h2 => implIsWordFor_any a1 a2 c1 c2 xs fs w h1 n1 h2 n2 hx hf⟩

end Go.Proofs.Ytepmldbleconfaa
