/- Contracts: spec.IsReduced and impl.IsReduced tell whether a word is reduced. Conditions: numbers of 64 bits, a length that fits. -/
import Derived.Test.YthamckchfhddjaaFormWalks
namespace Go.Proofs.Ythamckchfhddjaa
open Go.ChangeShapes Go.WideShapes Go.ChangeAt Go.RowKit

theorem ret_bb {a b c : Bool} (h : a = b) : Ending.returned (.tuple #[.bool a, .bool c]) = .returned (.tuple #[.bool b, .bool c]) := by rw [h]
def redB (xs : List Int) : Bool := decide ((Plain.red xs).length = xs.length)
theorem red_iff {xs : List Int} : redB xs = true ↔ Plain.Reduced xs := by rw [redB, decide_eq_true_iff, Plain.red_length_eq]
/-- No letter up to place k is behind its opposite. -/
theorem reduced_take_succ {xs : List Int} {k : Nat} {x y : Int} (hx : xs[k]? = some x) (hy : xs[k + 1]? = some y) : Plain.Reduced (xs.take (k + 2)) ↔ Plain.Reduced (xs.take (k + 1)) ∧ x ≠ -y := by
  rw [Plain.take_snoc hy, Plain.reduced_append, Plain.take_snoc hx]
  simp [Plain.Reduced]
theorem reduced_all {xs : List Int} {k : Nat} (h : xs.length ≤ k) : xs.take k = xs := List.take_of_length_le h
theorem reduced_part {xs : List Int} {k : Nat} (h : Plain.Reduced xs) : Plain.Reduced (xs.take k) := by
  have := h
  rw [← List.take_append_drop k xs, Plain.reduced_append] at this
  exact this.1
theorem reduced_one (xs : List Int) : Plain.Reduced (xs.take 1) := by
  cases xs with
  | nil => trivial
  | cons x t => simp [Plain.Reduced]

set_option maxHeartbeats 400000 in
theorem l2Reduced_any (a : Option Addr) (cap : Nat) (xs : List Int) (w : World) (h : Hid (Ints w a xs)) (hl : Hid (Plain.Letters xs)) (hn : xs.length ≤ 1048576) :
    Calls Try.prog 45 #[.slice a xs.length cap] w fun e w' => e = .returned (.bool (redB xs)) ∧ Below w.heap.size w w' := by
  go_enter Try.func45, Try.ntmps45
  go_wp2
  go_loopw [3] (fun i wr => ∃ k : Nat, k ≤ xs.length ∧ i = .int .i64 ((k : Int) + 1) ∧ Plain.Reduced (xs.take (k + 1)) ∧ ∃ n, wr = w.drewN n) (fun i _ => xs.length + 1 - (intOf i).toNat)
  case atStart => exact ⟨0, Nat.zero_le _, rfl, reduced_one xs, 0, rfl⟩
  case round =>
    obtain ⟨k, hk, rfl, hred, n, rfl⟩ := hrel
    have HR := Lib.hid hred
    clear hred
    by_cases hlt : k + 1 < xs.length
    · obtain ⟨x, hx⟩ := at_some xs k (by omega)
      obtain ⟨y, hy⟩ := at_some xs (k + 1) hlt
      obtain ⟨b, o, rfl, hc⟩ := h.out k x hx
      obtain ⟨b2, o2, e2, hd⟩ := h.out (k + 1) y hy
      simp only [Option.some.injEq, Addr.mk.injEq, and_true] at e2
      obtain ⟨rfl, rfl⟩ := e2
      obtain ⟨hx0, hx1, hx2⟩ := hl.out.at hx
      have HX := Lib.hid hx
      have HY := Lib.hid hy
      have hi : (k : Int) + 1 < (xs.length : Int) := by omega
      have hi0 : (0 : Int) ≤ (k : Int) := by omega
      have hi1 : (0 : Int) ≤ (k : Int) + 1 := by omega
      have hi2 : (k : Int) < (xs.length : Int) := by omega
      have ht1 : ((k : Int) + 1).toNat = k + 1 := by omega
      clear hx hy
      by_cases he : y = -x
      · have hq : (y == -x) = true := by simpa using he
        have HD : Hid (redB xs = false) := Lib.hid (by
          rw [← Bool.not_eq_true, red_iff]
          intro hr
          have := (reduced_take_succ HX.out HY.out).1 (reduced_part (k := k + 2) hr)
          exact this.2 (by omega))
        clear he
        go_wp2
        go_quiet (fail)
        go_wp2
        go_ret
        exact ⟨ret_bool HD.out.symm, below_drewN (below_drewN (Below.refl _ _) _) _⟩
      · have hq : (y == -x) = false := by simpa using he
        have HN := Lib.hid ((reduced_take_succ HX.out HY.out).2 ⟨HR.out, by omega⟩)
        clear he
        go_wp2
        go_quiet (fail)
        go_wp2
        go_roundw
        case rel => exact ⟨k + 1, by omega, by go_num, HN.out, _, rfl⟩
        case measure => simp [intOf]; omega
    · have HD : Hid (redB xs = true) := Lib.hid (by rw [red_iff, ← reduced_all (xs := xs) (k := k + 1) (by omega)]; exact HR.out)
      have hi : ¬ (k : Int) + 1 < (xs.length : Int) := by omega
      go_wp2
      go_ret
      exact ⟨ret_bool HD.out.symm, below_drewN (Below.refl _ _) _⟩

/-- Whether a word is reduced; false for what is no word. -/
def isRedB (xs : List Int) : Bool := Plain.wordB xs && redB xs
theorem isRed_yes {xs : List Int} (h : Plain.wordB xs = true) : isRedB xs = redB xs := by rw [isRedB, h]; rfl
theorem isRed_no {xs : List Int} (h : Plain.wordB xs = false) : isRedB xs = false := by rw [isRedB, h]; rfl

theorem implIsReduced_any (a : Option Addr) (cap : Nat) (xs : List Int) (w : World) (h : Hid (Ints w a xs)) (h64 : Hid (In64 xs)) (hn : xs.length ≤ 9223372036854775807) :
    Calls Try.prog 47 #[.slice a xs.length cap] w (Val (.tuple #[.bool (isRedB xs), .bool (Plain.wordB xs)]) w) := by
  cases hw : Plain.wordB xs with
  | true =>
    have HE := Lib.hid (isRed_yes hw)
    have hl := Plain.wordB_iff.1 hw
    have hn := hl.1
    have HL := Lib.hid hl.2
    have HW := Lib.hid hw
    clear hw hl
    go_enter Try.func47, Try.ntmps47
    go_wp2_with fail
    refine (isWord_any _ _ xs _ h h64 (by omega)).mono ?_
    rw [HW.out]
    rintro e w' ⟨rfl, rfl⟩
    go_wp2_with fail
    refine (reduced_any _ _ xs _ h HL (by omega)).mono ?_
    rintro e w2 ⟨v, rfl, ⟨a2, c2, rfl, -⟩, hb⟩
    have B2 := Lib.hid hb
    clear hb
    by_cases he : (Plain.red xs).length = xs.length
    · have HD : Hid (redB xs = true) := Lib.hid (by simp [redB, he])
      have hq : (((Plain.red xs).length : Int) == (xs.length : Int)) = true := by simp [he]
      clear he
      go_wp2
      go_ret2
      exact ⟨ret_bb (HE.out.trans HD.out).symm, B2.out⟩
    · have HD : Hid (redB xs = false) := Lib.hid (by simp [redB, he])
      have hq : (((Plain.red xs).length : Int) == (xs.length : Int)) = false := by simp; omega
      clear he
      go_wp2
      go_ret2
      exact ⟨ret_bb (HE.out.trans HD.out).symm, B2.out⟩
  | false =>
    have HE := Lib.hid (isRed_no hw)
    have HW := Lib.hid hw
    clear hw
    go_enter Try.func47, Try.ntmps47
    go_wp2_with fail
    refine (isWord_any _ _ xs _ h h64 hn).mono ?_
    rw [HW.out]
    rintro e w' ⟨rfl, rfl⟩
    go_wp2
    go_ret2
    exact ⟨ret_bb HE.out.symm, Below.refl _ _⟩

end Go.Proofs.Ythamckchfhddjaa
