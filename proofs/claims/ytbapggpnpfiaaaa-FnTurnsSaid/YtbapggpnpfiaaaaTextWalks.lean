/- Contracts: spec.WordText, impl.WordText return the text of a word. Conditions: numbers of 64 bits, a length that fits. -/
import Derived.Test.YtbapggpnpfiaaaaLessWalks
import Derived.Test.YtbapggpnpfiaaaaWordWalks
import Derived.Test.YtbapggpnpfiaaaaBuilderWalks
import Derived.Test.YtbapggpnpfiaaaaLawKit
import Derived.Test.YtbapggpnpfiaaaaShelf
namespace Go.Proofs.Ytbapggpnpfiaaaa
open Go.ChangeShapes Go.WideShapes Go.ChangeAt Go.RowKit
set_option linter.unusedVariables false

/-- The byte of a letter. -/
def signNat (x : Int) : Nat := if x < 0 then (65 - x - 1).toNat else (97 + x - 1).toNat
def signB (x : Int) : UInt8 := UInt8.ofNat (signNat x)
theorem sign_six {x : Int} (hx : x ≠ 0 ∧ -6 ≤ x ∧ x ≤ 6) : x = 1 ∨ x = -1 ∨ x = 2 ∨ x = -2 ∨ x = 3 ∨ x = -3 ∨ x = 4 ∨ x = -4 ∨ x = 5 ∨ x = -5 ∨ x = 6 ∨ x = -6 := by omega
def textB (l : List Int) : List UInt8 := l.map signB
def textOf (l : List Int) : ByteArray := ⟨(textB l).toArray⟩
theorem textOf_nil : textOf [] = ⟨#[]⟩ := rfl
theorem textOf_snoc (l : List Int) (x : Int) : textOf (l ++ [x]) = textOf l ++ ⟨#[signB x]⟩ := by
  apply ByteArray.ext
  simp [textOf, textB]
theorem textOf_size (l : List Int) : (textOf l).size = l.length := by simp [textOf, textB, ByteArray.size]

theorem signOf_any (x : Int) (w : World) (hx : x ≠ 0 ∧ -6 ≤ x ∧ x ≤ 6) : Calls Try.prog 87 #[.int .i64 x] w fun e w' => e = .returned (.int .u8 ((signB x).toNat : Int)) ∧ w = w' := by
  rcases sign_six hx with rfl | rfl | rfl | rfl | rfl | rfl | rfl | rfl | rfl | rfl | rfl | rfl
  all_goals
    go_enter Try.func87, Try.ntmps87
    go_wp2
    go_ret
    exact ⟨by rfl, rfl⟩
theorem cp1 : Plain.codeOf (1) = 0 := by decide
theorem cm1 : Plain.codeOf (-1) = 1 := by decide
theorem cp2 : Plain.codeOf (2) = 2 := by decide
theorem cm2 : Plain.codeOf (-2) = 3 := by decide
theorem cp3 : Plain.codeOf (3) = 4 := by decide
theorem cm3 : Plain.codeOf (-3) = 5 := by decide
theorem cp4 : Plain.codeOf (4) = 6 := by decide
theorem cm4 : Plain.codeOf (-4) = 7 := by decide
theorem cp5 : Plain.codeOf (5) = 8 := by decide
theorem cm5 : Plain.codeOf (-5) = 9 := by decide
theorem cp6 : Plain.codeOf (6) = 10 := by decide
theorem cm6 : Plain.codeOf (-6) = 11 := by decide
theorem l2Code_left (x : Int) (w : World) (h : -6 ≤ x ∧ x ≤ 6) : Calls Try.prog 113 #[.int .i64 x] w fun e w' => e = .returned (.int .i64 (Plain.codeOf x)) ∧ w = w' := (l2Code_any x w h).mono fun _ _ h => ⟨h.1, h.2.symm⟩
set_option maxRecDepth 100000 in
set_option maxHeartbeats 1000000 in
theorem l2Text_any (a : Option Addr) (cap : Nat) (xs : List Int) (w : World) (h : Hid (Ints w a xs)) (hl : Hid (Plain.Letters xs)) (hn : xs.length ≤ 1048576) :
    Calls Try.prog 89 #[.slice a xs.length cap] w fun e w' => e = .returned (.string (textOf xs)) ∧ w = w' := by
  go_enter Try.func89, Try.ntmps89
  go_wp2
  go_loop [3, 4] (fun s i => ∃ k : Nat, k ≤ xs.length ∧ i = .int .i64 k ∧ s = .string (textOf (xs.take k))) (fun _ i => xs.length - (intOf i).toNat)
  case atStart => exact ⟨0, Nat.zero_le _, rfl, rfl⟩
  case round =>
    obtain ⟨k, hk, rfl, rfl⟩ := hrel
    by_cases hlt : k < xs.length
    · obtain ⟨x, hx⟩ := at_some xs k hlt
      obtain ⟨b, o, rfl, hc⟩ := h.out k x hx
      have hx6 := hl.out.at hx
      have HT : Hid (textOf (xs.take (k + 1)) = textOf (xs.take k) ++ ⟨#[signB x]⟩) := Lib.hid (by rw [Plain.take_snoc hx, textOf_snoc])
      have hsz : ((textOf (xs.take k)).size : Int) ≤ 1048576 := by rw [textOf_size]; simp; omega
      generalize textOf (xs.take k) = t at HT hsz ⊢
      clear hx
      rcases sign_six hx6 with rfl | rfl | rfl | rfl | rfl | rfl | rfl | rfl | rfl | rfl | rfl | rfl
      all_goals clear hx6
      all_goals
        go_wp2_with fail
        refine (l2Code_left _ _ (by omega)).mono ?_
        simp only [cp1, cm1, cp2, cm2, cp3, cm3, cp4, cm4, cp5, cm5, cp6, cm6]
        rintro e w' ⟨rfl, rfl⟩
        go_wp2
        go_round
        case rel => exact ⟨k + 1, by omega, by go_num, by rw [HT.out]; rfl⟩
        case measure => simp [intOf]; omega
    · obtain rfl : k = xs.length := by omega
      rw [List.take_length]
      go_wp2
      go_ret
      exact ⟨rfl, rfl⟩

theorem ret_sb {a b : ByteArray} {c d : Bool} (h1 : a = b) (h2 : c = d) : Ending.returned (.tuple #[.string a, .bool c]) = .returned (.tuple #[.string b, .bool d]) := by rw [h1, h2]
def wordText (xs : List Int) : ByteArray := if Plain.wordB xs = true then textOf xs else ⟨#[]⟩
theorem wordText_yes {xs : List Int} (h : Plain.wordB xs = true) : wordText xs = textOf xs := if_pos h
theorem wordText_no {xs : List Int} (h : Plain.wordB xs = false) : wordText xs = ⟨#[]⟩ := if_neg (by rw [h]; simp)

theorem specText_any (a : Option Addr) (cap : Nat) (xs : List Int) (w : World) (h : Hid (Ints w a xs)) (h64 : Hid (In64 xs)) (hn : xs.length ≤ 9223372036854775807) :
    Calls Try.prog 33 #[.slice a xs.length cap] w (Val (.tuple #[.string (wordText xs), .bool (Plain.wordB xs)]) w) := by
  cases hw : Plain.wordB xs with
  | true =>
    have HE := Lib.hid (wordText_yes hw)
    have m1 := (Plain.wordB_iff.1 hw).1
    have HL := Lib.hid (Plain.wordB_iff.1 hw).2
    have HW := Lib.hid hw
    clear hw
    go_enter Try.func33, Try.ntmps33
    go_wp2_with fail
    refine (l2Word_any _ _ xs _ h h64 hn).mono ?_
    rw [HW.out]
    rintro e w' ⟨rfl, rfl⟩
    go_wp2_with fail
    refine (l2Text_any _ _ xs _ h HL (by omega)).mono ?_
    rintro e w' ⟨rfl, rfl⟩
    go_wp2
    go_ret2
    exact ⟨ret_sb HE.out.symm rfl, Below.refl _ _⟩
  | false =>
    have HE := Lib.hid (wordText_no hw)
    have HW := Lib.hid hw
    clear hw
    go_enter Try.func33, Try.ntmps33
    go_wp2_with fail
    refine (l2Word_any _ _ xs _ h h64 hn).mono ?_
    rw [HW.out]
    rintro e w' ⟨rfl, rfl⟩
    go_wp2
    go_ret2
    exact ⟨ret_sb HE.out.symm rfl, Below.refl _ _⟩

theorem byteCells_snoc (l : List UInt8) (c : UInt8) : Lib.byteCells (l ++ [c]) = Lib.byteCells l ++ [.int .u8 (c.toNat : Int)] := by simp [Lib.byteCells]
theorem byteCells_len (l : List UInt8) : (Lib.byteCells l).length = l.length := by simp [Lib.byteCells]

set_option maxRecDepth 100000 in
set_option maxHeartbeats 400000 in
theorem implText_any (a : Option Addr) (cap : Nat) (xs : List Int) (w : World) (h : Hid (Ints w a xs)) (h64 : Hid (In64 xs)) (hn : xs.length ≤ 9223372036854775807) :
    Calls Try.prog 32 #[.slice a xs.length cap] w (Val (.tuple #[.string (wordText xs), .bool (Plain.wordB xs)]) w) := by
  cases hw : Plain.wordB xs with
  | true =>
    have HE := Lib.hid (wordText_yes hw)
    have m1 := (Plain.wordB_iff.1 hw).1
    have hl := Lib.hid (Plain.wordB_iff.1 hw).2
    have HW := Lib.hid hw
    clear hw
    have HI : Hid (Lib.IsBuilder 70 5 w.heap.size w.heap.size (Lib.byteCells (textB (xs.take 0))) (w.alloc (.cells #[.pointer none, .slice none 0 0] 70))) := Lib.hid (Lib.fresh_isBuilder _ _ w)
    have HB := Lib.hid ((Below.refl w.heap.size w).alloc (Nat.le_refl _) (.cells #[.pointer none, .slice none 0 0] 70))
    go_enter Try.func32, Try.ntmps32
    go_wp2_with fail
    refine (isWord_any _ _ xs _ h h64 hn).mono ?_
    rw [HW.out]
    rintro e w' ⟨rfl, rfl⟩
    go_wp2
    go_loopw [12] (fun i wr => ∃ k : Nat, k ≤ xs.length ∧ i = .int .i64 k ∧ Lib.IsBuilder 70 5 w.heap.size w.heap.size (Lib.byteCells (textB (xs.take k))) wr ∧ Below w.heap.size w wr) (fun i _ => xs.length - (intOf i).toNat)
    case atStart => exact ⟨0, Nat.zero_le _, rfl, HI.out, HB.out⟩
    case round =>
      obtain ⟨k, hk, rfl, hI, hB⟩ := hrel
      have JI := Lib.hid hI
      have JB := Lib.hid hB
      clear hI hB
      by_cases hlt : k < xs.length
      · obtain ⟨x, hx⟩ := at_some xs k hlt
        obtain ⟨b, o, rfl, hc⟩ := (h.out.on JB.out) k x hx
        have HX := Lib.hid (hl.out.at hx)
        have HT : Hid (Lib.byteCells (textB (xs.take (k + 1))) = Lib.byteCells (textB (xs.take k)) ++ [.int .u8 ((signB x).toNat : Int)]) := Lib.hid (by rw [Plain.take_snoc hx, textB, List.map_append, ← textB]; exact byteCells_snoc _ _)
        have hbl : (Lib.byteCells (textB (xs.take k))).length ≤ 1048576 := by rw [byteCells_len]; simp [textB]; omega
        clear hx
        go_wp2_with fail
        refine (signOf_any x _ HX.out).mono ?_
        rintro e w' ⟨rfl, rfl⟩
        go_wp2_with fail
        refine (writeByte_any _ _ _ _ _ JI.out hbl JB.out.size).mono ?_
        rintro e w2 ⟨rfl, hA, hB2⟩
        have KI : Hid (Lib.IsBuilder 70 5 w.heap.size w.heap.size (Lib.byteCells (textB (xs.take (k + 1)))) w2) := Lib.hid (by rw [HT.out]; exact .inr hA)
        have KB := Lib.hid (JB.out.trans hB2)
        clear hA hB2
        go_wp2
        go_roundw
        case rel => exact ⟨k + 1, by omega, by go_num, KI.out, KB.out⟩
        case measure => simp [intOf]; omega
      · obtain rfl : k = xs.length := by omega
        rw [List.take_length] at JI
        go_wp2_with fail
        refine (Try.Builder_String_any _ _ _ _ JI.out JB.out.size).mono ?_
        rintro e w2 ⟨rfl, hB2⟩
        have KB := Lib.hid (JB.out.trans hB2)
        clear hB2
        go_wp2
        go_ret2
        exact ⟨ret_sb HE.out.symm rfl, KB.out⟩
  | false =>
    have HE := Lib.hid (wordText_no hw)
    have HW := Lib.hid hw
    clear hw
    go_enter Try.func32, Try.ntmps32
    go_wp2_with fail
    refine (isWord_any _ _ xs _ h h64 hn).mono ?_
    rw [HW.out]
    rintro e w' ⟨rfl, rfl⟩
    go_wp2
    go_ret2
    exact ⟨ret_sb HE.out.symm rfl, Below.refl _ _⟩
theorem bothWordText (xs : List Int) (h64 : Hid (In64 xs)) (hn : xs.length ≤ 1048576) : ∃ (t : ByteArray) (c : Bool),
    (∀ a cap w, Hid (Ints w a xs) → Calls Try.prog 33 #[.slice a xs.length cap] w (Val (.tuple #[.string t, .bool c]) w)) ∧
    (∀ a cap w, Hid (Ints w a xs) → Calls Try.prog 32 #[.slice a xs.length cap] w (Val (.tuple #[.string t, .bool c]) w)) :=
  ⟨_, _, fun a cap w h => specText_any a cap xs w h h64 (by omega), fun a cap w h => implText_any a cap xs w h h64 (by omega)⟩
end Go.Proofs.Ytbapggpnpfiaaaa
