/- Contract: spec.JoinStrings joins texts, or fails. Condition: sizes of at most 2^20. -/
import Derived.Test.YthcggmjgecdfgaaStrsWalks
import Derived.Test.YthcggmjgecdfgaaStandWalks
import Derived.Test.YthcggmjgecdfgaaJoin
namespace Go.Proofs.Ythcggmjgecdfgaa
open Go.ChangeShapes Go.WideShapes Go.ChangeAt Go.RowKit

def NoJoin (w : World) (e : Ending) (w' : World) : Prop := e = .returned (.tuple #[.string ByteArray.empty, .bool false]) ∧ Below w.heap.size w w'
theorem noJoin {w w' : World} (h : Below w.heap.size w w') : NoJoin w (.returned (.tuple #[.string ByteArray.empty, .bool false])) w' := ⟨rfl, h⟩

theorem specJoin_sep (a : Option Addr) (n cap : Nat) (sep : ByteArray) (w : World) (h : ¬ sep.size = 1) :
    Calls Try.prog 13 #[.slice a n cap, .string sep] w (NoJoin w) := by
  have hq : ((sep.size : Int) == 1) = false := by rw [beq_eq_false_iff_ne]; omega
  have hq2 : ((sep.size : Int) != 1) = true := by rw [bne, hq]; rfl
  clear h
  go_enter Try.func13, Try.ntmps13
  go_wp2_with fail
  go_ret2
  exact noJoin (Below.refl _ _)

theorem specJoin_nil (a : Option Addr) (cap : Nat) (c : UInt8) (w : World) :
    Calls Try.prog 13 #[.slice a 0 cap, .string ⟨#[c]⟩] w (NoJoin w) := by
  go_enter Try.func13, Try.ntmps13
  go_wp2_with fail
  go_ret2
  exact noJoin (Below.refl _ _)

theorem index_sep (c : UInt8) (w : World) : (Instr.index 9 (.string ⟨#[c]⟩) (.int .i64 0)).run Try.prog w = .ok (.int .u8 (c.toNat : Int)) w := by
  go_simp
  rfl

/-- What the join of a list that is not empty comes to. -/
def JoinPost (c : UInt8) (ss : List ByteArray) (w : World) (e : Ending) (w' : World) : Prop :=
  ((Plain.joinOk c ss = true ∧ e = .returned (.tuple #[.string (Plain.jn ⟨#[c]⟩ ss), .bool true])) ∨ (Plain.joinOk c ss = false ∧ e = .returned (.tuple #[.string ByteArray.empty, .bool false]))) ∧ Below w.heap.size w w'
theorem join_no {c : UInt8} {ss : List ByteArray} {w w' : World} (h : Plain.joinOk c ss = false) (hb : Below w.heap.size w w') : JoinPost c ss w (.returned (.tuple #[.string ByteArray.empty, .bool false])) w' := ⟨.inr ⟨h, rfl⟩, hb⟩
theorem join_yes {c : UInt8} {ss : List ByteArray} {w w' : World} {o : ByteArray} (h : Plain.joinOk c ss = true) (ho : o = Plain.jn ⟨#[c]⟩ ss) (hb : Below w.heap.size w w') : JoinPost c ss w (.returned (.tuple #[.string o, .bool true])) w' := ⟨.inl ⟨h, by rw [ho]⟩, hb⟩

theorem stands_is {x : ByteArray} {c : UInt8} {t : Bool} (hx : x.size ≤ maxLen) (h : Plain.has x c = t) (w : World) :
    Calls Try.prog 34 #[.string x, .int .u8 (c.toNat : Int)] w fun e w' => e = .returned (.bool t) ∧ w' = w := by
  refine (l1Stands_any x c w hx).mono ?_
  rintro e w' ⟨rfl, rfl⟩
  exact ⟨ret_bool h, rfl⟩

set_option maxHeartbeats 800000 in
theorem specJoin_any (a : Option Addr) (cap : Nat) (c : UInt8) (ss : List ByteArray) (w : World) (h : Hid (Strs w a ss)) (hn0 : 0 < ss.length) (hn : ss.length + Plain.tot ss ≤ 1048576) :
    Calls Try.prog 13 #[.slice a ss.length cap, .string ⟨#[c]⟩] w (JoinPost c ss w) := by
  have hidx := index_sep c
  have b2 : ((⟨#[c]⟩ : ByteArray).size : Int) ≤ 8388608 := by show ((1 : Nat) : Int) ≤ _; omega
  go_enter Try.func13, Try.ntmps13
  go_wp2_with fail
  go_loopw [6, 7] (fun out i wr => ∃ k : Nat, k ≤ ss.length ∧ i = .int .i64 k ∧ out = .string (Plain.jn ⟨#[c]⟩ (ss.take k)) ∧ (Plain.jn ⟨#[c]⟩ (ss.take k)).size ≤ 4000 ∧ (∀ y ∈ ss.take k, Plain.has y c = false) ∧ Below w.heap.size w wr) (fun _ i _ => ss.length - (intOf i).toNat)
  case atStart => exact ⟨0, Nat.zero_le _, rfl, by rw [List.take_zero, Plain.jn_nil], by rw [List.take_zero, Plain.jn_nil]; exact Nat.zero_le _, by simp, Below.refl _ _⟩
  case round =>
    obtain ⟨k, hk, rfl, rfl, hsz, hno, hrel⟩ := hrel
    by_cases hlt : k < ss.length
    · obtain ⟨x, hx⟩ := Plain.some_at ss k hlt
      obtain ⟨b, o, rfl, hc0⟩ := h.out k x hx
      have hc : wr.cell? ⟨b, o + k, none⟩ = some (.string x) := cell_later hrel hc0
      have hxs := Plain.le_tot ss k x hx
      have hxl : x.size ≤ maxLen := by unfold maxLen; omega
      have hi : (k : Int) < (ss.length : Int) := by omega
      have hi0 : (0 : Int) ≤ (k : Int) := by omega
      have HR := Lib.hid hrel
      clear hc0 hrel
      cases hh : Plain.has x c with
      | true =>
        have HN := Lib.hid (Plain.joinOk_has hx hh)
        have HST := Lib.hid (stands_is hxl hh)
        clear hno hx hh
        go_wp2
        go_quiet ((go_at_call 34; exact Calls.quiet_of_same (HST.out _)))
        go_wp2
        go_ret2
        exact join_no HN.out (below_drewN HR.out _)
      | false =>
        have HA := Lib.hid (Plain.none_snoc hno hx hh)
        have HM := Lib.hid (Plain.jn_mono c ss k hlt)
        have HST := Lib.hid (stands_is hxl hh)
        have b1 : ((Plain.jn ⟨#[c]⟩ (ss.take k)).size : Int) ≤ 8388608 := by omega
        have b3 : (x.size : Int) ≤ 8388608 := by omega
        by_cases hk0 : 0 < k
        · have HJ := Lib.hid (Plain.jn_next ⟨#[c]⟩ ss k x hk0 hx)
          generalize Plain.jn ⟨#[c]⟩ (ss.take k) = out at HJ hsz b1 ⊢
          have b4 : ((out ++ ⟨#[c]⟩).size : Int) ≤ 8388608 := by rw [ByteArray.size_append]; show ((out.size + 1 : Nat) : Int) ≤ _; omega
          have hz : ((out ++ ⟨#[c]⟩) ++ x).size = out.size + 1 + x.size := by rw [ByteArray.size_append, ByteArray.size_append]; rfl
          have HZ := Lib.hid hz
          clear hno hx hh hz
          by_cases hbig : 4000 < out.size + 1 + x.size
          · have HN : Hid (Plain.joinOk c ss = false) := Lib.hid (Plain.joinOk_long (by have := HM.out; rw [HJ.out, HZ.out] at this; omega))
            go_wp2
            go_quiet ((go_at_call 34; exact Calls.quiet_of_same (HST.out _)))
            go_wp2
            go_ret2
            exact join_no HN.out (below_drewN HR.out _)
          · go_wp2
            go_quiet ((go_at_call 34; exact Calls.quiet_of_same (HST.out _)))
            go_wp2
            go_roundw
            case rel => exact ⟨k + 1, by omega, by go_num, by rw [HJ.out], by rw [HJ.out, HZ.out]; omega, HA.out, below_drewN HR.out _⟩
            case measure => simp [intOf]; omega
        · obtain ⟨k0, rfl⟩ : ∃ k0 : Nat, k = k0 := ⟨k, rfl⟩
          have HJ : Hid (Plain.jn ⟨#[c]⟩ (ss.take (k + 1)) = Plain.jn ⟨#[c]⟩ (ss.take k) ++ x) := Lib.hid (by
            obtain rfl : k = 0 := by omega
            exact Plain.jn_first ⟨#[c]⟩ ss x hx)
          generalize Plain.jn ⟨#[c]⟩ (ss.take k) = out at HJ hsz b1 ⊢
          have HZ : Hid ((out ++ x).size = out.size + x.size) := Lib.hid (by rw [ByteArray.size_append])
          clear hno hx hh
          by_cases hbig : 4000 < out.size + x.size
          · have HN : Hid (Plain.joinOk c ss = false) := Lib.hid (Plain.joinOk_long (by have := HM.out; rw [HJ.out, HZ.out] at this; omega))
            go_wp2
            go_quiet ((go_at_call 34; exact Calls.quiet_of_same (HST.out _)))
            go_wp2
            go_ret2
            exact join_no HN.out (below_drewN HR.out _)
          · go_wp2
            go_quiet ((go_at_call 34; exact Calls.quiet_of_same (HST.out _)))
            go_wp2
            go_roundw
            case rel => exact ⟨k + 1, by omega, by go_num, by rw [HJ.out], by rw [HJ.out, HZ.out]; omega, HA.out, below_drewN HR.out _⟩
            case measure => simp [intOf]; omega
    · obtain rfl : k = ss.length := by omega
      have HN := Lib.hid (Plain.joinOk_yes (by rw [List.take_of_length_le (Nat.le_refl _)] at hsz; exact hsz) (Plain.none_all (Nat.le_refl _) hno))
      have HR := Lib.hid hrel
      clear hno hrel
      go_wp2
      go_ret2
      exact join_yes HN.out (by rw [List.take_of_length_le (Nat.le_refl _)]) HR.out

end Go.Proofs.Ythcggmjgecdfgaa
