/- Contract: slices.Backward over a word hands each place and what lies there to a loop's body, from the last on. Condition: a length that fits. -/
import Derived.Test.YthamckchfhddjaaInts
import Derived.RangeFuncNested
import Derived.RangeFuncBound
import Derived.RangeFuncBox
import Derived.RangeFuncCalls
import Derived.RangeFuncLeaves
import Derived.Shelf.Abstract
import Derived.Shelf.RegionOpen
import Derived.OwnWalkIn
import Derived.TacticsInMore
import Derived.LoopNIn
import Derived.LoopIn
namespace Go.Proofs.Ythamckchfhddjaa
open Go.RowKit Go.Shelf
attribute [local go_sem] Oper.semAt_some

/-- A place of a list and what lies there. -/
abbrev Spot (xs : List Int) := { p : Nat × Int // xs[p.1]? = some p.2 }
/-- The last k places of L, from the last on. -/
def down (L : Nat) : Nat → List Nat
  | 0 => []
  | k + 1 => down L k ++ [L - 1 - k]
theorem down_len (L k : Nat) : (down L k).length = k := by
  induction k with
  | zero => rfl
  | succ k ih => rw [down, List.length_append, ih]; rfl
def places {xs : List Int} (ys : List (Spot xs)) : List Nat := ys.map fun y => y.1.1
theorem places_snoc {xs : List Int} (ys : List (Spot xs)) (y : Spot xs) : places (ys ++ [y]) = places ys ++ [y.1.1] := by simp [places]
theorem places_len {xs : List Int} (ys : List (Spot xs)) : (places ys).length = ys.length := by simp [places]

theorem backW_made (a : Option Addr) (cap : Nat) (n : Nat) (w : World) :
    Calls Try.prog 52 #[.slice a n cap] w fun e w' => e = .returned (.func (.func 59) #[] #[.pointer (some ⟨w.heap.size, 0, none⟩)]) ∧ w' = w.alloc (.cells #[.slice a n cap] 47) := by
  have hmf : ∀ (fn : Fn) (first cap : Array Value) (w : World), (Instr.makeFunc fn first cap).run Try.prog w = .ok (.func fn first cap) w := fun _ _ _ _ => rfl
  go_enter Try.func52, Try.ntmps52
  go_wp2
  go_ret
  exact ⟨rfl, rfl⟩
set_option maxRecDepth 100000 in
set_option maxHeartbeats 1000000 in
theorem backW1_in (n : Nat) (hn : 1 ≤ n) (l Bs : Nat) (a : Option Addr) (cap : Nat) (xs : List Int) (hx : xs.length ≤ 1048576) (w : World) (hI : Hid (Ints w a xs)) (hc : Hid (w.cell? ⟨Bs, 0, none⟩ = some (.slice a xs.length cap))) (hBs : Bs < w.heap.size) (J Jx : List (Spot xs) → World → Prop)
    (hY : ∀ pre x W, J pre W → pre.length < xs.length → YieldAt Fence.wide (n - 1) Try.prog l #[.int .i64 (x.1.1 : Int), .int .i64 x.1.2] W fun e W' =>
      (e = .returned (.bool true) ∧ J (pre ++ [x]) W' ∧ Below w.heap.size W W') ∨ (e = .returned (.bool false) ∧ Jx (pre ++ [x]) W'))
    (W : World) (hW : Below w.heap.size w W) (h0 : J [] W) :
    CallsIn Fence.wide n Try.prog 59 #[.func (.yield l) #[] #[], .pointer (some ⟨Bs, 0, none⟩)] W fun e W' => (∃ v, e = .returned v) ∧
      ((∃ ys, places ys = down xs.length xs.length ∧ J ys W') ∨ (∃ pre, (∃ k, k ≤ xs.length ∧ places pre = down xs.length k) ∧ Jx pre W')) := by
  refine callsIn_of_wp Try.func59 rfl trivial ?_ rfl
  simp only [Try.ntmps59, List.size_toArray, List.length_cons, List.length_nil, Nat.reduceAdd, Nat.reduceSub, Array.replicate_succ, Array.replicate_zero, List.push_toArray, List.append_toArray, List.nil_append, List.cons_append]
  have HY := Lib.hid hY
  clear hY
  have hc0 : W.cell? ⟨Bs, 0, none⟩ = some (.slice a xs.length cap) := (hW.cell (p := ⟨Bs, 0, none⟩) hBs).trans hc.out
  have H0 := Lib.hid (And.intro h0 hW)
  clear h0 hW
  gi_wp2
  clear hc0
  gi_loopw [3] (fun i wr => ∃ (k : Nat) (iv : Int), i = .int .i64 iv ∧ iv = (xs.length : Int) - 1 - k ∧ k ≤ xs.length ∧ (∃ q, places q = down xs.length k ∧ J q wr) ∧ Below w.heap.size w wr) (fun i _ => (intOf i + 1).toNat)
  case atStart => exact ⟨0, _, rfl, by omega, Nat.zero_le _, ⟨[], rfl, H0.out.1⟩, H0.out.2⟩
  case round =>
    clear H0
    obtain ⟨k, iv, rfl, hiv, hk, ⟨q, hq, hJ⟩, hb⟩ := hrel
    have HQ := Lib.hid hq
    have hql : q.length = k := by rw [← places_len, hq, down_len]
    by_cases hlt : k < xs.length
    · obtain ⟨j, hj⟩ : ∃ j, j = xs.length - 1 - k := ⟨_, rfl⟩
      have hjl : j < xs.length := by omega
      obtain rfl : iv = (j : Int) := by omega
      obtain ⟨x, hxj⟩ := at_some xs j hjl
      have HST : Hid (down xs.length (k + 1) = down xs.length k ++ [j]) := Lib.hid (by rw [down, hj])
      obtain ⟨b, o, rfl, hcx⟩ := (hI.out.on hb) j x hxj
      have hcs : wr.cell? ⟨Bs, 0, none⟩ = some (.slice (some ⟨b, o, none⟩) xs.length cap) := (hb.cell (p := ⟨Bs, 0, none⟩) hBs).trans hc.out
      obtain ⟨fn, tmps, assign, body, hy, hR⟩ := HY.out q ⟨(j, x), hxj⟩ wr hJ (by omega)
      dsimp only at hy
      have hi : (j : Int) < (xs.length : Int) := by omega
      have hi0 : (0 : Int) ≤ (j : Int) := by omega
      have HB := Lib.hid hb
      have HK := Lib.hid (And.intro hj hlt)
      clear hb hJ hq hql hiv hj
      gi_wp2
      refine hR.mono ?_
      rintro e W3 (⟨rfl, hJ3, hk3⟩ | ⟨rfl, hJx3⟩)
      · have HB3 := Lib.hid (HB.out.trans hk3)
        have HJ3 : Hid (∃ q, places q = down xs.length (k + 1) ∧ J q W3) := Lib.hid ⟨_, by rw [places_snoc, HQ.out, HST.out], hJ3⟩
        clear hJ3 hk3
        gi_wp2
        go_roundw
        case rel => exact ⟨k + 1, _, rfl, by have := HK.out; omega, by have := HK.out; omega, HJ3.out, HB3.out⟩
        case measure => first | (simp [intOf]; done) | (simp [intOf]; omega)
      · gi_wp2
        refine bodyPost_ret (results_none rfl _ _ _) rfl ?_
        exact ⟨⟨_, rfl⟩, .inr ⟨_, ⟨k + 1, by have := HK.out; omega, by rw [places_snoc, HQ.out, HST.out]⟩, hJx3⟩⟩
    · obtain rfl : k = xs.length := by omega
      have hneg : ¬ (0 : Int) ≤ iv := by omega
      have HJ := Lib.hid hJ
      clear hJ hq hql hiv hb
      gi_wp2
      go_end0
      exact ⟨⟨_, rfl⟩, .inl ⟨q, HQ.out, HJ.out⟩⟩
/-- The function value, as a range over it takes it. -/
theorem backW_stops (n : Nat) (hn : 1 ≤ n) (Bs : Nat) (a : Option Addr) (cap : Nat) (xs : List Int) (hx : xs.length ≤ 1048576) (w : World) (hI : Hid (Ints w a xs)) (hc : Hid (w.cell? ⟨Bs, 0, none⟩ = some (.slice a xs.length cap))) (hBs : Bs < w.heap.size) :
    SeqStopsK Fence.wide n Try.prog 59 #[.pointer (some ⟨Bs, 0, none⟩)] (fun x : Spot xs => #[Value.int .i64 (x.1.1 : Int), Value.int .i64 x.1.2]) (Below w.heap.size) (fun ys => places ys = down xs.length xs.length) (fun pre => ∃ k, k ≤ xs.length ∧ places pre = down xs.length k) xs.length w := fun l J Jx W hW _ _ hY h0 =>
  backW1_in n hn l Bs a cap xs hx w hI hc hBs J Jx hY W hW h0

end Go.Proofs.Ythamckchfhddjaa
