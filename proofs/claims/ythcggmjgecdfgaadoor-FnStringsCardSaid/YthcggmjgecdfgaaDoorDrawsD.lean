/- Contracts: spec.DrawFormatInt returns a number from -1000000 to 1000000, spec.DrawParseInt and spec.DrawAppendChecksum short texts. Condition: the code's bytes lie in memory. -/
import Derived.Test.YthcggmjgecdfgaaDoorZeros
import Derived.Test.YthcggmjgecdfgaaDoorNumWalks
namespace Go.Proofs.YthcggmjgecdfgaaDoor
open Go.ChangeShapes Go.WideShapes Go.ChangeAt Go.RowKit

def Ints (w : World) (a : Option Addr) (zs : List Int) : Prop := ∀ (j : Nat) (x : Int), zs[j]? = some x → ∃ b o, a = some ⟨b, o, none⟩ ∧ w.cell? ⟨b, o + j, none⟩ = some (.int .i64 x)
def intVals (zs : List Int) : List Value := zs.map (Value.int .i64)
theorem Ints.made (W : World) (zs : List Int) (t : TypeId) : Ints (W.alloc (.cells (intVals zs).toArray t)) (some ⟨W.heap.size, 0, none⟩) zs := by
  intro j x hx
  refine ⟨W.heap.size, 0, rfl, ?_⟩
  have hv : (intVals zs)[j]? = some (.int .i64 x) := by simp [intVals, hx]
  rw [World.cell?_alloc_mark]
  simpa using hv

set_option maxHeartbeats 400000 in
theorem among_any (B len cap m lc : Nat) (a la : Option Addr) (zs : List Int) (W : World) (h : Hid (Held W B a len cap m)) (hl : Hid (Ints W la zs)) (hne : Hid (∀ p, la = some p → p.block ≠ B)) (h0 : 0 < zs.length) (hm : m + 1 ≤ 999999) (hn : zs.length ≤ 65536) :
    Calls Tryd.prog 21 #[.pointer (some ⟨B, 0, none⟩), .slice la zs.length lc] W fun e W' => ∃ (k : Nat) (x : Int), e = .returned (.int .i64 x) ∧ zs[k]? = some x ∧ Held W' B a len cap (m + 2) ∧ W.grownBy W' (some B) := by
  go_enter Tryd.func21, Tryd.ntmps21
  go_wp2_with fail
  refine (pick_any B len cap m zs.length a _ h hm hn).mono ?_
  rintro e W1 ⟨k, rfl, hk, hH, hg⟩
  have hk1 : k < zs.length := by omega
  have hk2 : (k : Int) < (zs.length : Int) := by omega
  have hk0 : (0 : Int) ≤ (k : Int) := by omega
  obtain ⟨x, hs⟩ : ∃ x, zs[k]? = some x := ⟨_, List.getElem?_eq_getElem hk1⟩
  obtain ⟨b, o, rfl, hc⟩ := hl.out k x hs
  have hc1 : W1.cell? ⟨b, o + k, none⟩ = some (.int .i64 x) := by
    have e := hg.block b (World.block_lt_of_cell? _ _ hc) (by simpa using hne.out _ rfl)
    rw [← hc]
    simp [World.cell?, e]
  have hHH := Lib.hid hH
  have hgg := Lib.hid hg
  clear hH hg hc
  go_wp2
  go_ret
  exact ⟨k, x, rfl, hs, hHH.out, hgg.out⟩

theorem pickInt (B len cap m : Nat) (a : Option Addr) (zs : List Int) (W : World) (t : TypeId) (h : Hid (Held W B a len cap m)) (h0 : 0 < zs.length) (hm : m + 1 ≤ 999999) (hn : zs.length ≤ 65536) :
    Calls Tryd.prog 21 #[.pointer (some ⟨B, 0, none⟩), .slice (some ⟨W.heap.size, 0, none⟩) zs.length zs.length] (W.alloc (.cells (intVals zs).toArray t)) fun e W' => ∃ (k : Nat) (x : Int), e = .returned (.int .i64 x) ∧ zs[k]? = some x ∧ Held W' B a len cap (m + 2) ∧ W.grownBy W' (some B) := by
  have hl := h.out.lt
  refine (among_any B len cap m zs.length a _ zs _ (Lib.hid (h.out.alloc _)) (Lib.hid (Ints.made W zs t)) (Lib.hid fun p hp => ?_) h0 hm hn).mono ?_
  · cases hp
    exact Nat.ne_of_gt hl
  · rintro e W' ⟨k, s, rfl, hs, hH, hg⟩
    exact ⟨k, s, rfl, hs, hH, alloc_grown hg⟩

set_option maxHeartbeats 400000 in
theorem drawFormat_any (a : Option Addr) (len cap : Nat) (W : World) (h : Hid (Code8 W a len)) :
    Calls Tryd.prog 9 #[.slice a len cap] W fun e W' => ∃ n : Int, e = .returned (.int .i64 n) ∧ -1000000 ≤ n ∧ n ≤ 1000000 ∧ Below W.heap.size W W' := by
  go_enter Tryd.func9, Tryd.ntmps9
  go_wp2_with fail
  refine (pick_any W.heap.size len cap 0 1000 a _ (Lib.hid (Held.fresh cap h.out)) (by omega) (by omega)).mono ?_
  rintro e W1 ⟨k, rfl, hk, hH, hg⟩
  have hHH := Lib.hid hH
  have hgg := Lib.hid hg
  have hk1 : k < 1000 := by omega
  clear hH hg hk
  go_wp2_with fail
  refine (pickInt W.heap.size len cap 2 a [0, 1, -1, 10, 999999, -999999, 1000000, -1000000, (k : Int) - 500] W1 _ hHH (by simp) (by omega) (by simp)).mono ?_
  rintro e W2 ⟨j, n, rfl, hn, hH, hg⟩
  have hB := Lib.hid (below_of (hgg.out.trans hg))
  have hm : n ∈ [0, 1, -1, 10, 999999, -999999, 1000000, -1000000, (k : Int) - 500] := List.mem_of_getElem? hn
  have hr : -1000000 ≤ n ∧ n ≤ 1000000 := by simp at hm; omega
  clear hH hg hn hm
  go_wp2
  go_ret
  exact ⟨n, rfl, hr.1, hr.2, hB.out⟩

def readS : List ByteArray := [⟨#[]⟩, ⟨#[45]⟩, ⟨#[45, 48]⟩, ⟨#[48, 48]⟩, ⟨#[48, 49]⟩, ⟨#[45, 45, 49]⟩, ⟨#[49, 120]⟩, ⟨#[57, 57, 57, 57, 57, 57]⟩, ⟨#[49, 48, 48, 48, 48, 48, 48]⟩, ⟨#[45, 57, 57, 57, 57, 57, 57]⟩, ⟨#[49, 56, 52, 52, 54, 55, 52, 52, 48, 55, 51, 55, 48, 57, 53, 53, 49, 54, 49, 55]⟩]
theorem readS_small : ∀ s ∈ readS, s.size ≤ 30 := by decide
theorem intS_small (n : Int) (h0 : -999999 ≤ n) (h1 : n ≤ 999999) : (Plain.intS n).size ≤ 30 := by
  by_cases h : 0 ≤ n
  · obtain ⟨u, rfl⟩ : ∃ u : Nat, n = u := ⟨n.toNat, by omega⟩
    rw [Plain.intS_nat]
    have := Plain.numS_size u (by omega)
    omega
  · obtain ⟨u, rfl⟩ : ∃ u : Nat, n = -(u : Int) := ⟨(-n).toNat, by omega⟩
    rw [Plain.intS_neg u (by omega), ByteArray.size_append]
    have := Plain.numS_size u (by omega)
    show 1 + _ ≤ _
    omega

set_option maxHeartbeats 400000 in
theorem drawParse_any (a : Option Addr) (len cap : Nat) (W : World) (h : Hid (Code8 W a len)) :
    Calls Tryd.prog 12 #[.slice a len cap] W fun e W' => ∃ s : ByteArray, e = .returned (.string s) ∧ s.size ≤ 30 ∧ Below W.heap.size W W' := by
  go_enter Tryd.func12, Tryd.ntmps12
  go_wp2_with fail
  refine (one_any W.heap.size len cap 0 2 a _ (Lib.hid (Held.fresh cap h.out)) (by omega) (by omega)).mono ?_
  rintro e W1 ⟨b, rfl, hH, hg⟩
  have hHH := Lib.hid hH
  have hgg := Lib.hid hg
  clear hH hg
  cases b
  · go_wp2_with fail
    refine (pick_any W.heap.size len cap 2 2000 a _ hHH (by omega) (by omega)).mono ?_
    rintro e W2 ⟨k, rfl, hk, hH, hg⟩
    have hB := Lib.hid (below_of (hgg.out.trans hg))
    have hk1 : k < 2000 := by omega
    clear hH hg hk
    have hz := intS_small ((k : Int) - 1000) (by omega) (by omega)
    go_wp2_with fail
    refine (l1Num_any ((k : Int) - 1000) (by omega) (by omega) _).mono ?_
    rintro e W3 ⟨rfl, q, rfl⟩
    go_wp2
    go_ret
    exact ⟨_, rfl, hz, below_drewN hB.out q⟩
  · go_wp2_with fail
    refine (pickText W.heap.size len cap 2 a readS W1 _ hHH (by decide) (by omega) (by decide)).mono ?_
    rintro e W2 ⟨k, s, rfl, hs, hH, hg⟩
    have hz := readS_small s (List.mem_of_getElem? hs)
    have hB := Lib.hid (below_of (hgg.out.trans hg))
    clear hH hg hs
    go_wp2
    go_ret
    exact ⟨s, rfl, hz, hB.out⟩

set_option maxHeartbeats 400000 in
theorem drawAppend_any (a : Option Addr) (len cap : Nat) (W : World) (h : Hid (Code8 W a len)) :
    Calls Tryd.prog 15 #[.slice a len cap] W fun e W' => ∃ s : ByteArray, e = .returned (.string s) ∧ s.size ≤ 5000 ∧ Below W.heap.size W W' := by
  go_enter Tryd.func15, Tryd.ntmps15
  go_wp2_with fail
  refine (one_any W.heap.size len cap 0 20 a _ (Lib.hid (Held.fresh cap h.out)) (by omega) (by omega)).mono ?_
  rintro e W1 ⟨b, rfl, hH, hg⟩
  have hHH := Lib.hid hH
  have hgg := Lib.hid hg
  clear hH hg
  cases b
  · go_wp2_with fail
    refine (any1_any W.heap.size len cap 2 a _ hHH (by omega)).mono ?_
    rintro e W2 ⟨s, rfl, hs, hH, hg⟩
    have hB := Lib.hid (below_of (hgg.out.trans hg))
    clear hH hg
    go_wp2
    go_ret
    exact ⟨s, rfl, Nat.le_trans hs (by decide), hB.out⟩
  · go_wp2_with fail
    refine (pick_any W.heap.size len cap 2 10 a _ hHH (by omega) (by omega)).mono ?_
    rintro e W2 ⟨k, rfl, hk, hH, hg⟩
    have hB0 := below_of (hgg.out.trans hg)
    have hk1 : k < 10 := by omega
    clear hH hg hk
    obtain ⟨N, zs, z, hzz, hmk, hcv⟩ := zeros_any k (by omega)
    have hB := Lib.hid (hB0.alloc hB0.size (.cells zs 5))
    clear hB0
    go_wp2
    go_ret
    exact ⟨z, rfl, hzz, hB.out⟩

end Go.Proofs.YthcggmjgecdfgaaDoor
