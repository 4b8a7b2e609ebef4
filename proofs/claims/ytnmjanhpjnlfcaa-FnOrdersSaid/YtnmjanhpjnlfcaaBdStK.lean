/- Contracts of the helpers of FnWords and FnTurns: laws.rBig, laws.rInts, laws.rReduce. Conditions: lengths that fit. -/
import Derived.Test.YtnmjanhpjnlfcaaCurW
import Derived.Test.YtnmjanhpjnlfcaaIntsWalks
import Derived.Test.YtnmjanhpjnlfcaaLawKit
import Derived.Test.YtnmjanhpjnlfcaaReduceWalks
import Derived.Deep.DeepCutAuto
import Derived.LoopTactic
namespace Go.Proofs.Ytnmjanhpjnlfcaa
open Go.ChangeShapes Go.WideShapes Go.ChangeAt Go.RowKit
set_option linter.unusedVariables false

theorem rBig_any (a : Option Addr) (len cap : Nat) (w : World) (h : len ≤ 9223372036854775807) : Calls Try.prog 4 #[.slice a len cap] w fun e w' => e = .returned (.bool (decide (65536 < len))) ∧ w = w' := by
  by_cases hb : 65536 < len
  · go_enter Try.func4, Try.ntmps4
    go_wp2
    go_ret
    exact ⟨by simp [hb]; omega, rfl⟩
  · go_enter Try.func4, Try.ntmps4
    go_wp2
    go_ret
    exact ⟨by simp [hb]; omega, rfl⟩

set_option maxHeartbeats 400000 in
theorem rInts_any (a b : Option Addr) (ca cb : Nat) (xs ys : List Int) (w : World) (ha : Hid (Ints w a xs)) (hb : Hid (Ints w b ys)) (hn : xs.length ≤ 9223372036854775807) :
    Calls Try.prog 11 #[.slice a xs.length ca, .slice b ys.length cb] w (EqPost (decide (xs = ys)) w) := by
  by_cases hl : xs.length = ys.length
  · have HL := Lib.hid hl
    have hll : ((xs.length : Int) != (ys.length : Int)) = false := by rw [hl]; simp
    have hll2 : ((xs.length : Int) == (ys.length : Int)) = true := by rw [hl]; simp
    clear hl
    go_enter Try.func11, Try.ntmps11
    go_wp2_with fail
    go_loopw [5] (fun i wr => ∃ k : Nat, k ≤ xs.length ∧ i = .int .i64 k ∧ Agree xs ys k ∧ ∃ n, wr = w.drewN n) (fun i _ => xs.length - (intOf i).toNat)
    case atStart => exact ⟨0, Nat.zero_le _, rfl, agree_zero _ _, 0, rfl⟩
    case round =>
      obtain ⟨k, hk, rfl, hag, n, rfl⟩ := hrel
      have HA := Lib.hid hag
      clear hag
      by_cases hlt : k < xs.length
      · obtain ⟨x, hx⟩ := at_some xs k hlt
        obtain ⟨y, hy⟩ := at_some ys k (by have := HL.out; omega)
        obtain ⟨b, o, rfl, hc⟩ := ha.out k x hx
        obtain ⟨b2, o2, rfl, hd⟩ := hb.out k y hy
        have HX := Lib.hid hx
        have HY := Lib.hid hy
        have hlt2 : k < ys.length := at_lt hy
        have hi : (k : Int) < (xs.length : Int) := by omega
        have hi2 : (k : Int) < (ys.length : Int) := by omega
        have hi0 : (0 : Int) ≤ (k : Int) := by omega
        clear hx hy
        by_cases he : x = y
        · subst he
          go_wp2
          go_quiet (fail)
          go_wp2
          go_roundw
          case rel => exact ⟨k + 1, by omega, by go_num, agree_succ HA.out HX.out HY.out, _, rfl⟩
          case measure => simp [intOf]; omega
        · have hne : (x == y) = false := by simpa using he
          have hne2 : (x != y) = true := by simpa using he
          have HD := Lib.hid (eq_differ HX.out HY.out he)
          clear he
          go_wp2
          go_quiet (fail)
          go_wp2
          go_ret
          exact ⟨ret_bool HD.out.symm, _, World.drewN_drewN _ _ _⟩
      · have HD := Lib.hid (eq_agree HL.out (fun j x y hj => HA.out j x y (by omega)))
        have hi : ¬ (k : Int) < (xs.length : Int) := by omega
        go_wp2
        go_ret
        exact ⟨ret_bool HD.out.symm, n, rfl⟩
  · have hll : ((xs.length : Int) != (ys.length : Int)) = true := by simp; omega
    have hll2 : ((xs.length : Int) == (ys.length : Int)) = false := by simp; omega
    have HD : Hid (decide (xs = ys) = false) := Lib.hid (by rw [decide_eq_false_iff_not]; rintro rfl; exact hl rfl)
    clear hl
    go_enter Try.func11, Try.ntmps11
    go_wp2_with fail
    go_ret
    exact ⟨ret_bool HD.out.symm, 0, rfl⟩
/-- Equal lists. -/
theorem rInts_same (a b : Option Addr) (ca cb : Nat) (xs : List Int) (w : World) (ha : Hid (Ints w a xs)) (hb : Hid (Ints w b xs)) (hn : xs.length ≤ 9223372036854775807) :
    Calls Try.prog 11 #[.slice a xs.length ca, .slice b xs.length cb] w fun e w' => e = .returned (.bool true) ∧ Below w.heap.size w w' := by
  refine (rInts_any a b ca cb xs xs w ha hb hn).mono fun e w' h => ?_
  obtain ⟨rfl, hb⟩ := h.on
  exact ⟨by simp, hb⟩



end Go.Proofs.Ytnmjanhpjnlfcaa

/- What a walk over drawn lists carries along: the code's bytes, the memory that is kept, the lists so far. No condition. -/
namespace Go.Proofs.Ytnmjanhpjnlfcaa
open Go.ChangeShapes Go.WideShapes Go.ChangeAt Go.RowKit
set_option linter.unusedVariables false

/-- The code's bytes, what has been kept, and the lists so far. -/
def St (w0 w : World) (a0 : Option Addr) (len0 : Nat) (ls : List (Option Addr × List Int)) : Prop := Code8 w a0 len0 ∧ Below w0.heap.size w0 w ∧ ∀ p ∈ ls, Ints w p.1 p.2
theorem St.on {w0 w w' : World} {a0 : Option Addr} {len0 : Nat} {ls : List (Option Addr × List Int)} (h : St w0 w a0 len0 ls) (hb : Below w.heap.size w w') : St w0 w' a0 len0 ls :=
  ⟨h.1.on hb, h.2.1.trans (hb.mono h.2.1.size), fun p hp => (h.2.2 p hp).on hb⟩
theorem St.add {w0 w : World} {a0 a : Option Addr} {len0 : Nat} {xs : List Int} {ls : List (Option Addr × List Int)} (h : St w0 w a0 len0 ls) (hi : Ints w a xs) : St w0 w a0 len0 ((a, xs) :: ls) :=
  ⟨h.1, h.2.1, fun p hp => by
    rcases List.mem_cons.1 hp with rfl | hp
    · exact hi
    · exact h.2.2 p hp⟩
theorem St.get {w0 w : World} {a0 a : Option Addr} {len0 : Nat} {xs : List Int} {ls : List (Option Addr × List Int)} (h : Hid (St w0 w a0 len0 ls)) (hp : (a, xs) ∈ ls) : Hid (Ints w a xs) := Lib.hid (h.out.2.2 _ hp)
theorem eqr {w w' : World} {e : Ending} {xs : List Int} (h : EqPost (decide (xs = xs)) w e w') : e = .returned (.bool true) ∧ Below w.heap.size w w' := by
  obtain ⟨rfl, hb⟩ := h.on
  exact ⟨by simp, hb⟩

end Go.Proofs.Ytnmjanhpjnlfcaa
