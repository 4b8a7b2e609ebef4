/- Contracts: (impl.word).without, impl.TakeOut, impl.DoesFall: what is left of a word when a set is taken out. Conditions: letters, sets from 0 to 63, lengths that fit. -/
import Derived.Test.YtldomcinlngmlaaImpl3B
namespace Go.Proofs.Ytldomcinlngmlaa
open Go.ChangeShapes Go.WideShapes Go.ChangeAt Go.RowKit
set_option linter.unusedVariables false

set_option maxRecDepth 100000 in
set_option maxHeartbeats 800000 in
theorem without_any (a : Option Addr) (cap : Nat) (xs : List Int) (s : Nat) (w : World) (h : Hid (Ints w a xs)) (hl : Hid (Plain.Letters xs)) (hn : xs.length ≤ 1048576) (hs : s < 64) :
    Calls Try.prog 50 #[.slice a xs.length cap, .int .i64 (s : Int)] w (ListPost (Plain.takeOut xs s) w) := by
  have hb0 := (Below.refl w.heap.size w).alloc (Nat.le_refl _) (.cells #[.int .i64 (s : Int)] 3)
  have HI := Lib.hid (h.out.on hb0)
  have HB := Lib.hid hb0
  have hc0 : (w.alloc (.cells #[.int .i64 (s : Int)] 3)).cell? ⟨w.heap.size, 0, none⟩ = some (.int .i64 (s : Int)) := by simp
  have HC := Lib.hid hc0
  have hsz : (w.alloc (.cells #[.int .i64 (s : Int)] 3)).heap.size = w.heap.size + 1 := by simp
  have HZ := Lib.hid hsz
  have hle := Plain.without_le xs s
  have HL := Lib.hid (hl.out.without s)
  clear hb0 hc0 hsz
  go_enter Try.func50, Try.ntmps50
  go_wp2_with fail
  obtain ⟨W, hW⟩ : ∃ W, W = w.alloc (.cells #[.int .i64 (s : Int)] 3) := ⟨_, rfl⟩
  rw [← hW] at HI HB HC HZ ⊢
  clear hW
  refine (clone_any a cap xs _ HI hn).mono ?_
  rintro e w1 ⟨v, rfl, hown, hb1⟩
  have HO : Hid (w1.ownsRow (w.heap.size + 1) 3 1 v xs.length (nums xs)) := Lib.hid (by rw [← HZ.out]; exact hown)
  have HB1 := Lib.hid (HB.out.trans (hb1.mono (by rw [HZ.out]; omega)))
  have HC1 : Hid (w1.cell? ⟨w.heap.size, 0, none⟩ = some (.int .i64 (s : Int))) := Lib.hid (cell_later hb1 HC.out)
  clear hown hb1
  go_wp2_with fail
  refine (delete_any v xs s w.heap.size (w.heap.size + 1) _ HO.out hl hn hs HC1 (by omega)).mono ?_
  rintro e w2 ⟨a2, c2, rfl, hi2, hb2⟩
  have HI2 := Lib.hid hi2
  have HB2 := Lib.hid (HB1.out.trans (hb2.mono (by omega)))
  clear hi2 hb2
  obtain ⟨L, hL⟩ : ∃ L, L = Plain.without xs s := ⟨_, rfl⟩
  have HT : Hid (Plain.red L = Plain.takeOut xs s) := Lib.hid (by rw [hL]; rfl)
  rw [← hL] at HI2 HL hle ⊢
  clear hL
  go_wp2_with fail
  refine (reduced_any a2 c2 L _ HI2 HL (by omega)).mono ?_
  rintro e w3 ⟨v3, rfl, hr, hb3⟩
  have HO3 := Lib.hid (And.intro (hr.mono HB2.out.size) (HB2.out.trans (hb3.mono HB2.out.size)))
  rw [HT.out] at HO3
  clear hr hb3
  go_wp2_with fail
  go_ret
  exact ⟨_, rfl, HO3.out.1, HO3.out.2⟩

set_option maxHeartbeats 400000 in
theorem implTakeOut_any (a : Option Addr) (cap : Nat) (xs : List Int) (n : Int) (w : World) (h : Hid (Ints w a xs)) (h64 : Hid (In64 xs)) (hn : xs.length ≤ 9223372036854775807) (hr : -9223372036854775808 ≤ n ∧ n ≤ 9223372036854775807) :
    Calls Try.prog 17 #[.slice a xs.length cap, .int .i64 n] w (SB (takeW xs n) (takeB xs n) w) := by
  have HS := Lib.hid (coll_res (coll_start w))
  cases hw : Plain.wordB xs with
  | false =>
    have HE := Lib.hid (take_no (n := n) (.inl hw))
    have HW := Lib.hid hw
    clear hw hr
    go_enter Try.func17, Try.ntmps17
    go_wp2_with fail
    refine (isWord_any _ _ xs _ h h64 hn).mono ?_
    rw [HW.out]
    rintro e w' ⟨rfl, rfl⟩
    go_wp2_with fail
    go_ret2
    exact sb_of HE.out.1.symm HE.out.2.symm ⟨_, rfl, HS.out.1, HS.out.2⟩
  | true =>
    have m1 := (Plain.wordB_iff.1 hw).1
    have HL := Lib.hid (Plain.wordB_iff.1 hw).2
    have HW := Lib.hid hw
    cases hs : setB n with
    | false =>
      have HE := Lib.hid (take_no (xs := xs) (.inr hs))
      have HN := Lib.hid hs
      have HR := Lib.hid hr
      clear hw hs hr
      go_enter Try.func17, Try.ntmps17
      go_wp2_with fail
      refine (isWord_any _ _ xs _ h h64 hn).mono ?_
      rw [HW.out]
      rintro e w' ⟨rfl, rfl⟩
      go_wp2_with fail
      refine (isSet_any n _ HR.out).mono ?_
      rw [HN.out]
      rintro e w' ⟨rfl, rfl⟩
      go_wp2_with fail
      go_ret2
      exact sb_of HE.out.1.symm HE.out.2.symm ⟨_, rfl, HS.out.1, HS.out.2⟩
    | true =>
      obtain ⟨s, rfl, hs64⟩ := set_nat hs
      have HE := Lib.hid (take_yes hw hs)
      have HN := Lib.hid hs
      have HR := Lib.hid hr
      clear hw hs hr
      go_enter Try.func17, Try.ntmps17
      go_wp2_with fail
      refine (isWord_any _ _ xs _ h h64 hn).mono ?_
      rw [HW.out]
      rintro e w' ⟨rfl, rfl⟩
      go_wp2_with fail
      refine (isSet_any (s : Int) _ HR.out).mono ?_
      rw [HN.out]
      rintro e w' ⟨rfl, rfl⟩
      go_wp2_with fail
      refine (without_any _ _ xs s _ h HL (by omega) hs64).mono ?_
      rintro e w1 ⟨v, rfl, hr, hb⟩
      have HO := Lib.hid (And.intro hr hb)
      clear hr hb
      go_wp2_with fail
      go_ret2
      exact sb_of HE.out.1.symm HE.out.2.symm ⟨_, rfl, HO.out.1, HO.out.2⟩

theorem fallW_eq (xs : List Int) (n : Int) : fallW xs n = (takeB xs n && decide ((takeW xs n).length = 0)) := by
  cases hb : takeB xs n with
  | false => simp [fallW, hb]
  | true => simp [fallW, takeW, hb, Plain.fallsB]
set_option maxHeartbeats 400000 in
theorem implDoesFall_any (a : Option Addr) (cap : Nat) (xs : List Int) (n : Int) (w : World) (h : Hid (Ints w a xs)) (h64 : Hid (In64 xs)) (hn : xs.length ≤ 9223372036854775807) (hr : -9223372036854775808 ≤ n ∧ n ≤ 9223372036854775807) :
    Calls Try.prog 22 #[.slice a xs.length cap, .int .i64 n] w (Val (.tuple #[.bool (fallW xs n), .bool (takeB xs n)]) w) := by
  have HE := Lib.hid (fallW_eq xs n)
  have HN := Lib.hid hn
  have HR := Lib.hid hr
  have hle := takeW_le xs n
  clear hr
  go_enter Try.func22, Try.ntmps22
  go_wp2_with fail
  refine (implTakeOut_any _ _ xs n _ h h64 HN.out HR.out).mono ?_
  obtain ⟨L, hL⟩ : ∃ L, L = takeW xs n := ⟨_, rfl⟩
  rw [← hL] at HE hle ⊢
  clear hL
  rintro e w1 ⟨v, rfl, ⟨a2, c2, rfl, -, -, -⟩, hb⟩
  have HB := Lib.hid hb
  clear hb
  cases hb : takeB xs n with
  | false =>
    have HT := Lib.hid hb
    have HF : Hid (fallW xs n = false) := Lib.hid (by rw [HE.out, hb]; rfl)
    clear hb
    go_wp2_with fail
    go_ret2
    exact val_bb HF.out.symm HT.out.symm ⟨rfl, HB.out⟩
  | true =>
    have HT := Lib.hid hb
    by_cases h0 : L.length = 0
    · have HF : Hid (fallW xs n = true) := Lib.hid (by rw [HE.out, hb]; simp [h0])
      have hq : ((L.length : Int) == 0) = true := by simp [h0]
      clear h0 hb
      go_wp2_with fail
      go_ret2
      exact val_bb HF.out.symm HT.out.symm ⟨rfl, HB.out⟩
    · have HF : Hid (fallW xs n = false) := Lib.hid (by rw [HE.out, hb]; simp [h0])
      have hq : ((L.length : Int) == 0) = false := by simpa using h0
      clear h0 hb
      go_wp2_with fail
      go_ret2
      exact val_bb HF.out.symm HT.out.symm ⟨rfl, HB.out⟩

end Go.Proofs.Ytldomcinlngmlaa
