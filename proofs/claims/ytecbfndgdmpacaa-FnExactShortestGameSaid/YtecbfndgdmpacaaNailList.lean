/- Contracts: spec.l1Has, l4Nails, LeftWord, LeftLength, l4Length, BalancedLength. Conditions: numbers of 64 bits, lengths that fit. -/
import Derived.Test.YtecbfndgdmpacaaCommSpec
namespace Go.Proofs.Ytecbfndgdmpacaa
open Go.ChangeShapes Go.WideShapes Go.ChangeAt Go.RowKit
set_option linter.unusedVariables false

theorem hasB_take {l : List Int} {k : Nat} {x y : Int} (h : l[k]? = some y) : Plain.memB (l.take (k + 1)) x = (Plain.memB (l.take k) x || decide (y = x)) := by
  rw [Plain.take_snoc h]
  simp [Plain.memB]
theorem hasB_hit {l : List Int} {k : Nat} {x : Int} (h : l[k]? = some x) : Plain.memB l x = true := by
  rw [Plain.memB, List.any_eq_true]
  exact ⟨x, List.mem_of_getElem? h, by simp⟩
set_option maxHeartbeats 400000 in
theorem l1Has_any (a : Option Addr) (cap n : Nat) (l : List Int) (x : Int) (w : World) (hl : l.length = n) (h : Hid (Ints w a l)) (hn : n ≤ 9223372036854775807) :
    Calls Try.prog 80 #[.slice a n cap, .int .i64 x] w fun e w' => e = .returned (.bool (Plain.memB l x)) ∧ w = w' := by
  subst hl
  go_enter Try.func80, Try.ntmps80
  go_wp2_with fail
  go_loop [5] (fun i => ∃ k : Nat, k ≤ l.length ∧ i = .int .i64 (k : Int) ∧ Plain.memB (l.take k) x = false) (fun i => l.length - (intOf i).toNat)
  case atStart => exact ⟨0, Nat.zero_le _, rfl, by simp [Plain.memB]⟩
  case round =>
    obtain ⟨k, hk, rfl, hrel⟩ := hrel
    have HR := Lib.hid hrel
    clear hrel
    by_cases hlt : k < l.length
    · obtain ⟨y, hy⟩ := at_some l k hlt
      obtain ⟨b, o, rfl, hc⟩ := h.out k y hy
      have hi : (k : Int) < (l.length : Int) := by omega
      have hi0 : (0 : Int) ≤ (k : Int) := by omega
      by_cases he : y = x
      · subst he
        have HH := Lib.hid (hasB_hit hy)
        clear hy
        go_wp2_with fail
        go_ret
        exact ⟨ret_bool HH.out.symm, rfl⟩
      · have hq : (y == x) = false := by simpa using he
        have HN : Hid (Plain.memB (l.take (k + 1)) x = false) := Lib.hid (by rw [hasB_take hy, HR.out]; simpa using he)
        clear hy he
        go_wp2_with fail
        go_round
        case rel => exact ⟨k + 1, by omega, by go_num, HN.out⟩
        case measure => simp [intOf]; omega
    · obtain rfl : k = l.length := by omega
      have HH : Hid (Plain.memB l x = false) := Lib.hid (by have := HR.out; rwa [List.take_length] at this)
      go_wp2_with fail
      go_ret
      exact ⟨ret_bool HH.out.symm, rfl⟩

theorem quiet_of_left {f : FuncId} {args : Array Value} {w : World} {n : Nat} {v : Value} (h : Calls Try.prog f args (w.drewN n) fun e w' => e = .returned v ∧ w.drewN n = w') : Calls Try.prog f args (w.drewN n) fun e w'' => e = .returned v ∧ ∃ m, w'' = w.drewN m :=
  h.mono fun _ _ ⟨he, hm⟩ => ⟨he, n, hm.symm⟩
theorem nailAt_of {ns : List Int} {k : Nat} {x : Int} (h : ns[k]? = some x) : Plain.nailAt ns k = (decide (1 ≤ x ∧ x ≤ 6) && !Plain.memB (ns.take k) x) := by
  rw [Plain.nailAt, List.getD_eq_getElem?_getD, h]
  rfl
theorem nailsOk_bad {ns : List Int} {k : Nat} (hk : k < ns.length) (h : Plain.nailAt ns k = false) : Plain.nailsOk ns = false := by
  rw [Plain.nailsOk, Plain.goodTo_no h _ hk, Bool.and_false]

end Go.Proofs.Ytecbfndgdmpacaa
