/- Contract: spec.DrawPowerWord hands back a list of at most 100 numbers, in memory of its own, and an exponent. Condition: the code's bytes lie in memory. -/
import Derived.Test.YteidddagpnfalaaDrawWs
namespace Go.Proofs.Yteidddagpnfalaa
open Go.ChangeShapes Go.WideShapes Go.ChangeAt Go.RowKit
set_option linter.unusedVariables false

theorem pickTens (B len cap m N : Nat) (a : Option Addr) (W : World) (hN : N = W.heap.size) (h : Hid (Held W B a len cap m)) (hm : m + 1 ≤ 999999) :
    Calls Try.prog 92 #[.pointer (some ⟨B, 0, none⟩), .slice (some ⟨N, 0, none⟩) 10 10] (W.alloc (.cells #[.int .i64 2, .int .i64 (-1), .int .i64 3, .int .i64 0, .int .i64 1, .int .i64 (-2), .int .i64 8, .int .i64 (-8), .int .i64 9, .int .i64 (-9)] 3)) fun e W' => ∃ x : Int, e = .returned (.int .i64 x) ∧ -1000 ≤ x ∧ x ≤ 1000 ∧ Held W' B a len cap (m + 2) ∧ W.grownBy W' (some B) := by
  subst hN
  have k := pickInt B len cap m a [2, -1, 3, 0, 1, -2, 8, -8, 9, -9] W 3 h (by simp) hm (by simp)
  simp only [intVals, List.map_cons, List.map_nil, List.length_cons, List.length_nil] at k
  refine Calls.mono k ?_
  rintro e W1 ⟨j, n, rfl, hn, hH, hg⟩
  have hmem : n ∈ [2, -1, 3, 0, 1, -2, 8, -8, 9, -9] := List.mem_of_getElem? hn
  have hnr : -1000 ≤ n ∧ n ≤ 1000 := by simp at hmem; omega
  exact ⟨n, rfl, hnr.1, hnr.2, hH, hg⟩

set_option maxRecDepth 100000 in
set_option maxHeartbeats 2000000 in
theorem drawPower_any (a : Option Addr) (len cap : Nat) (W : World) (h : Hid (Code8 W a len)) :
    Calls Try.prog 43 #[.slice a len cap] W (NumDraw W) := by
  go_enter Try.func43, Try.ntmps43
  go_wp2_with fail
  refine (pickTens W.heap.size len cap 0 _ a _ (by simp) (Lib.hid (Held.fresh cap h.out)) (by omega)).mono ?_
  rintro e W1 ⟨n, rfl, hn0, hn1, hH, hg⟩
  have HH := Lib.hid hH
  have HG := Lib.hid hg
  clear hH hg
  go_wp2_with fail
  refine (word_any W.heap.size len cap _ a _ HH (by omega)).mono ?_
  intro e W2 hp
  obtain ⟨v, xs, rfl, h1⟩ := word_one' HG.out hp
  have H1 := Lib.hid h1
  clear h1 hp
  go_wp2
  go_ret2
  exact ⟨_, _, _, rfl, H1.out.1, H1.out.2.1, hn0, hn1, H1.out.2.2⟩


end Go.Proofs.Yteidddagpnfalaa
