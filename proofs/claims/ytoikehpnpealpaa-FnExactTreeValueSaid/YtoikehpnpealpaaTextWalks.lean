/- Contracts: spec.WordText, impl.WordText return the text of a word. Conditions: numbers of 64 bits, a length that fits. -/
import Derived.Test.YtoikehpnpealpaaLessWalks
import Derived.Test.YtoikehpnpealpaaTextSpec
import Derived.Test.YtoikehpnpealpaaWordWalks
import Derived.Test.YtoikehpnpealpaaBuilderWalks
import Derived.Test.YtoikehpnpealpaaLawKit
import Derived.Test.YtoikehpnpealpaaShelf
namespace Go.Proofs.Ytoikehpnpealpaa
open Go.ChangeShapes Go.WideShapes Go.ChangeAt Go.RowKit
set_option linter.unusedVariables false

theorem signOf_any (x : Int) (w : World) (hx : x ≠ 0 ∧ -6 ≤ x ∧ x ≤ 6) : Calls Try.prog 106 #[.int .i64 x] w fun e w' => e = .returned (.int .u8 ((signB x).toNat : Int)) ∧ w = w' := by
  rcases sign_six hx with rfl | rfl | rfl | rfl | rfl | rfl | rfl | rfl | rfl | rfl | rfl | rfl
  all_goals
    go_enter Try.func106, Try.ntmps106
    go_wp2
    go_ret
    exact ⟨by rfl, rfl⟩
theorem ret_sb {a b : ByteArray} {c d : Bool} (h1 : a = b) (h2 : c = d) : Ending.returned (.tuple #[.string a, .bool c]) = .returned (.tuple #[.string b, .bool d]) := by rw [h1, h2]
def wordText (xs : List Int) : ByteArray := if Plain.wordB xs = true then textOf xs else ⟨#[]⟩
theorem wordText_yes {xs : List Int} (h : Plain.wordB xs = true) : wordText xs = textOf xs := if_pos h
theorem wordText_no {xs : List Int} (h : Plain.wordB xs = false) : wordText xs = ⟨#[]⟩ := if_neg (by rw [h]; simp)


theorem byteCells_snoc (l : List UInt8) (c : UInt8) : Lib.byteCells (l ++ [c]) = Lib.byteCells l ++ [.int .u8 (c.toNat : Int)] := by simp [Lib.byteCells]
theorem byteCells_len (l : List UInt8) : (Lib.byteCells l).length = l.length := by simp [Lib.byteCells]

set_option maxRecDepth 100000 in
set_option maxHeartbeats 400000 in
theorem implText_any (a : Option Addr) (cap : Nat) (xs : List Int) (w : World) (h : Hid (Ints w a xs)) (h64 : Hid (In64 xs)) (hn : xs.length ≤ 9223372036854775807) :
    Calls Try.prog 96 #[.slice a xs.length cap] w (Val (.tuple #[.string (wordText xs), .bool (Plain.wordB xs)]) w) := by
  cases hw : Plain.wordB xs with
  | true =>
    have HE := Lib.hid (wordText_yes hw)
    have m1 := (Plain.wordB_iff.1 hw).1
    have hl := Lib.hid (Plain.wordB_iff.1 hw).2
    have HW := Lib.hid hw
    clear hw
    have HI : Hid (Lib.IsBuilder 107 5 w.heap.size w.heap.size (Lib.byteCells (textB (xs.take 0))) (w.alloc (.cells #[.pointer none, .slice none 0 0] 107))) := Lib.hid (Lib.fresh_isBuilder _ _ w)
    have HB := Lib.hid ((Below.refl w.heap.size w).alloc (Nat.le_refl _) (.cells #[.pointer none, .slice none 0 0] 107))
    go_enter Try.func96, Try.ntmps96
    go_wp2_with fail
    refine (isWord_any _ _ xs _ h h64 hn).mono ?_
    rw [HW.out]
    rintro e w' ⟨rfl, rfl⟩
    go_wp2
    go_loopw [12] (fun i wr => ∃ k : Nat, k ≤ xs.length ∧ i = .int .i64 k ∧ Lib.IsBuilder 107 5 w.heap.size w.heap.size (Lib.byteCells (textB (xs.take k))) wr ∧ Below w.heap.size w wr) (fun i _ => xs.length - (intOf i).toNat)
    case atStart => exact ⟨0, Nat.zero_le _, rfl, HI.out, HB.out⟩
    case round =>
      obtain ⟨k, hk, rfl, hI, hB⟩ := hrel
      have JI := Lib.hid hI
      have JB := Lib.hid hB
      clear hI hB
      by_cases hlt : k < xs.length
      · obtain ⟨x, hx⟩ := at_some xs k hlt
        obtain ⟨b, o, rfl, hc⟩ := (h.out.on JB.out) k x hx
        have HX := Lib.hid (hl.out.at hx)
        have HT : Hid (Lib.byteCells (textB (xs.take (k + 1))) = Lib.byteCells (textB (xs.take k)) ++ [.int .u8 ((signB x).toNat : Int)]) := Lib.hid (by rw [Plain.take_snoc hx, textB, List.map_append, ← textB]; exact byteCells_snoc _ _)
        have hbl : (Lib.byteCells (textB (xs.take k))).length ≤ 1048576 := by rw [byteCells_len]; simp [textB]; omega
        clear hx
        go_wp2_with fail
        refine (signOf_any x _ HX.out).mono ?_
        rintro e w' ⟨rfl, rfl⟩
        go_wp2_with fail
        refine (writeByte_any _ _ _ _ _ JI.out hbl JB.out.size).mono ?_
        rintro e w2 ⟨rfl, hA, hB2⟩
        have KI : Hid (Lib.IsBuilder 107 5 w.heap.size w.heap.size (Lib.byteCells (textB (xs.take (k + 1)))) w2) := Lib.hid (by rw [HT.out]; exact .inr hA)
        have KB := Lib.hid (JB.out.trans hB2)
        clear hA hB2
        go_wp2
        go_roundw
        case rel => exact ⟨k + 1, by omega, by go_num, KI.out, KB.out⟩
        case measure => simp [intOf]; omega
      · obtain rfl : k = xs.length := by omega
        rw [List.take_length] at JI
        go_wp2_with fail
        refine (Try.Builder_String_any _ _ _ _ JI.out JB.out.size).mono ?_
        rintro e w2 ⟨rfl, hB2⟩
        have KB := Lib.hid (JB.out.trans hB2)
        clear hB2
        go_wp2
        go_ret2
        exact ⟨ret_sb HE.out.symm rfl, KB.out⟩
  | false =>
    have HE := Lib.hid (wordText_no hw)
    have HW := Lib.hid hw
    clear hw
    go_enter Try.func96, Try.ntmps96
    go_wp2_with fail
    refine (isWord_any _ _ xs _ h h64 hn).mono ?_
    rw [HW.out]
    rintro e w' ⟨rfl, rfl⟩
    go_wp2
    go_ret2
    exact ⟨ret_sb HE.out.symm rfl, Below.refl _ _⟩
end Go.Proofs.Ytoikehpnpealpaa
