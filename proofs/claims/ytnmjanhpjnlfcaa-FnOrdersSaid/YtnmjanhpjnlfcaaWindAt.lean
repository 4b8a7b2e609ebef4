/- Contracts: slices.Reverse at a row of at most three numbers; impl.listAt. Condition: a place. -/
import Derived.Test.YtnmjanhpjnlfcaaInvWalks
import Derived.Test.YtnmjanhpjnlfcaaReduceWalks
import Derived.Test.YtnmjanhpjnlfcaaWindLM
import Derived.BigRegion
namespace Go.Proofs.Ytnmjanhpjnlfcaa
open Go.ChangeShapes Go.WideShapes Go.ChangeAt Go.RowKit
set_option linter.unusedVariables false

theorem take_set_ints {cur : Array Value} {L : List Int} {n k : Nat} {x : Int} (h : cur.toList.take n = nums L) (hk : k < n) : (cur.setIfInBounds k (.int .i64 x)).toList.take n = nums (L.set k x) := by
  rw [Array.toList_setIfInBounds, List.take_set, h]
  simp [nums, List.map_set]
theorem coll_set {L : List Int} {B : Nat} {w wr : World} {g n cap k : Nat} (x : Int) (h : Coll L B w (.slice (some ⟨g, 0, none⟩) n cap) wr) (hk : k < L.length) : Coll (L.set k x) B w (.slice (some ⟨g, 0, none⟩) n cap) (wr.setCell ⟨g, k, none⟩ (.int .i64 x)) := by
  obtain ⟨⟨e1, e2⟩, hb, hB⟩ := h
  rcases e2 with ⟨e3, _⟩ | ⟨g2, cap2, cur, e3, e4, e5, e6, e7, e8, e9⟩
  · cases e3
  · cases e3
    have hsz : (wr.setCell ⟨g, k, none⟩ (.int .i64 x)).heap.size = wr.heap.size := by have := hb.setCell (p := ⟨g, k, none⟩) e4 (.int .i64 x); simp [World.setCell]
    refine ⟨⟨by simp [nums], .inr ⟨g, cap, cur.setIfInBounds k (.int .i64 x), by simp, e4, heap_setCell_same wr g k _ _ _ e5, by simpa using e6, e7, by simpa using e8, ?_⟩⟩, hb.setCell (p := ⟨g, k, none⟩) e4 _, by rw [hsz]; exact hB⟩
    have := take_set_ints (x := x) (n := L.length * 1) e9 (by simpa using hk)
    simpa using this
theorem coll_cell {L : List Int} {B : Nat} {w wr : World} {g n cap k : Nat} {x : Int} (h : Coll L B w (.slice (some ⟨g, 0, none⟩) n cap) wr) (hk : L[k]? = some x) : wr.cell? ⟨g, k, none⟩ = some (.int .i64 x) := by
  have hn : n = L.length := by
    obtain ⟨⟨_, e2⟩, _⟩ := h
    rcases e2 with ⟨e, _⟩ | ⟨_, _, _, e, _⟩
    · cases e
    · cases e; rfl
  subst hn
  rw [World.ownsRow.cellAt h.1 k (by simpa using at_lt hk)]
  exact nums_at hk
theorem coll_free {L : List Int} {B : Nat} {w wr : World} {g n cap : Nat} (h : Coll L B w (.slice (some ⟨g, 0, none⟩) n cap) wr) (k : Nat) : wr.frozen? ⟨g, k, none⟩ = false := by
  obtain ⟨⟨e1, e2⟩, hb, hB⟩ := h
  rcases e2 with ⟨e3, _⟩ | ⟨g2, cap2, cur, e3, e4, e5, _⟩
  · cases e3
  · cases e3
    exact frozen_of_row wr g k _ _ e5
theorem swap_two (x y : Int) : (([x, y].set 0 y).set 1 x) = [x, y].reverse := rfl
theorem swap_three (x y z : Int) : (([x, y, z].set 0 z).set 2 x) = [x, y, z].reverse := rfl

/-- Two places of a row are changed for one another. -/
theorem reverse_swap (m : Nat) (L L' : List Int) (x y : Int) (B : Nat) (w0 w : World) (g cap : Nat) (hm : m = 1 ∨ m = 2) (hl : L.length = m + 1) (h : Hid (Coll L B w0 (.slice (some ⟨g, 0, none⟩) (m + 1) cap) w)) (hx : Hid (L[0]? = some x)) (hy : Hid (L[m]? = some y)) (hL : Hid ((L.set 0 y).set m x = L')) :
    Calls Try.prog 51 #[.slice (some ⟨g, 0, none⟩) (m + 1) cap] w fun e w' => e = .returned (.tuple #[]) ∧ Coll L' B w0 (.slice (some ⟨g, 0, none⟩) (m + 1) cap) w' := by
  have hm2 : m ≤ 2 := by omega
  have hm1 : 1 ≤ m := by omega
  clear hm
  have hmi : IntKind.i64.wrap ((m : Int) + 1 - 1) = (m : Int) := by rw [show (m : Int) + 1 - 1 = (m : Int) by omega]; exact Go.IntWalk.i64_in _ ⟨by omega, by omega⟩
  have hmi2 : IntKind.i64.wrap (m : Int) = (m : Int) := Go.IntWalk.i64_in _ ⟨by omega, by omega⟩
  have H2 : Hid (Coll L' B w0 (.slice (some ⟨g, 0, none⟩) (m + 1) cap) ((w.drew.setCell ⟨g, 0, none⟩ (.int .i64 y)).setCell ⟨g, m, none⟩ (.int .i64 x))) := Lib.hid (by
    rw [← hL.out]
    exact coll_set x (coll_set y (h.out.drewN 1) (by omega)) (by rw [List.length_set]; omega))
  go_enter Try.func51, Try.ntmps51
  go_wp2_with fail
  go_loopw [2, 3] (fun i j wr => (i = .int .i64 0 ∧ j = .int .i64 (m : Int) ∧ wr = w) ∨ (i = .int .i64 1 ∧ j = .int .i64 ((m : Int) - 1) ∧ Coll L' B w0 (.slice (some ⟨g, 0, none⟩) (m + 1) cap) wr)) (fun i _ _ => 2 - (intOf i).toNat)
  case atStart => exact .inl ⟨rfl, rfl, rfl⟩
  case round =>
    rcases hrel with ⟨rfl, rfl, rfl⟩ | ⟨rfl, rfl, hrel⟩
    · have d1 : wr.drew.cell? ⟨g, 0, none⟩ = some (.int .i64 x) := coll_cell (h.out.drewN 1) hx.out
      have d2 : wr.drew.cell? ⟨g, m, none⟩ = some (.int .i64 y) := coll_cell (h.out.drewN 1) hy.out
      have d3 : wr.drew.frozen? ⟨g, 0, none⟩ = false := coll_free h.out 0
      have d4 : wr.drew.frozen? ⟨g, m, none⟩ = false := coll_free h.out m
      have hm0 : (0 : Int) < (m : Int) := by omega
      have hmn : ¬ (m = 0) := by omega
      have hml : (m : Int) < (m : Int) + 1 := by omega
      have hs1 := coll_set (k := 0) y h.out (by omega)
      have hs2 := coll_set (k := m) x h.out (by omega)
      have d5 : (wr.setCell ⟨g, 0, none⟩ (.int .i64 y)).drew.cell? ⟨g, m, none⟩ = some (.int .i64 y) := coll_cell (x := y) (hs1.drewN 1) (by rw [List.getElem?_set_ne (by omega)]; exact hy.out)
      have d6 : (wr.setCell ⟨g, 0, none⟩ (.int .i64 y)).drew.frozen? ⟨g, m, none⟩ = false := coll_free hs1 m
      have d7 : (wr.setCell ⟨g, m, none⟩ (.int .i64 x)).drew.cell? ⟨g, 0, none⟩ = some (.int .i64 x) := coll_cell (x := x) (hs2.drewN 1) (by rw [List.getElem?_set_ne (by omega)]; exact hx.out)
      have d8 : (wr.setCell ⟨g, m, none⟩ (.int .i64 x)).drew.frozen? ⟨g, 0, none⟩ = false := coll_free hs2 0
      clear hs1 hs2
      go_wp2_with fail
      go_region
      all_goals
        go_wp2_with fail
        go_roundw
        case rel => exact .inr ⟨rfl, rfl, H2.out⟩
        case measure => simp [intOf]
    · have HR := Lib.hid hrel
      clear hrel
      go_wp2_with fail
      go_end0
      exact ⟨rfl, HR.out⟩
theorem reverse_none (n : Nat) (hn : n ≤ 1) (a : Option Addr) (cap : Nat) (w : World) :
    Calls Try.prog 51 #[.slice a n cap] w fun e w' => e = .returned (.tuple #[]) ∧ w' = w := by
  have hw : IntKind.i64.wrap ((n : Int) - 1) = (n : Int) - 1 := Go.IntWalk.i64_in _ ⟨by omega, by omega⟩
  go_enter Try.func51, Try.ntmps51
  go_wp2_with fail
  go_loopw [2, 3] (fun i j wr => i = .int .i64 0 ∧ j = .int .i64 ((n : Int) - 1) ∧ wr = w) (fun i _ _ => 2 - (intOf i).toNat)
  case atStart => exact ⟨rfl, rfl, rfl⟩
  case round =>
    obtain ⟨rfl, rfl, rfl⟩ := hrel
    have hlt : ¬ ((0 : Int) < (n : Int) - 1) := by omega
    go_wp2_with fail
    go_end0
    exact ⟨rfl, rfl⟩
theorem reverse_any (L : List Int) (hl : L.length ≤ 3) (B : Nat) (w0 w : World) (v : Value) (h : Hid (Coll L B w0 v w)) :
    Calls Try.prog 51 #[v] w fun e w' => e = .returned (.tuple #[]) ∧ Coll L.reverse B w0 v w' := by
  obtain ⟨⟨a, cap, rfl, -, -, -⟩, -⟩ := coll_res h.out
  match L, hl, h with
  | [], _, h => exact (reverse_none 0 (by omega) a cap w).mono fun e w' ⟨he, hw⟩ => ⟨he, by subst hw; exact h.out⟩
  | [x], _, h => exact (reverse_none 1 (by omega) a cap w).mono fun e w' ⟨he, hw⟩ => ⟨he, by subst hw; exact h.out⟩
  | [x, y], _, h =>
    have h2 := h.out
    obtain ⟨⟨_, e2⟩, _⟩ := h2
    rcases e2 with ⟨e, _⟩ | ⟨g, cap2, _, e, _⟩
    · cases e
    · cases e
      exact reverse_swap 1 [x, y] [x, y].reverse x y B w0 w g cap (.inl rfl) rfl h (Lib.hid rfl) (Lib.hid rfl) (Lib.hid rfl)
  | [x, y, z], _, h =>
    have h2 := h.out
    obtain ⟨⟨_, e2⟩, _⟩ := h2
    rcases e2 with ⟨e, _⟩ | ⟨g, cap2, _, e, _⟩
    · cases e
    · cases e
      exact reverse_swap 2 [x, y, z] [x, y, z].reverse x z B w0 w g cap (.inr rfl) rfl h (Lib.hid rfl) (Lib.hid rfl) (Lib.hid rfl)
set_option maxRecDepth 100000 in
set_option maxHeartbeats 1600000 in
theorem listAt_any (q : Nat) (w : World) (hq : q < 259) :
    Calls Try.prog 30 #[.int .i64 (q : Int)] w (fun e w' => ∃ v, e = .returned v ∧ Coll (Plain.listP q) w.heap.size w v w') := by
  obtain ⟨i1, hi1, hy0, hy1, hy2⟩ := info_parts infoInt
  go_enter Try.func30, Try.ntmps30
  go_wp2_with fail
  go_loopw [0, 3] (fun i v wr => ∃ (p : Nat) (rs : List Int), p < 259 ∧ i = .int .i64 (p : Int) ∧ Plain.listP q = Plain.listP p ++ rs.reverse ∧ Coll rs w.heap.size w v wr) (fun i _ _ => (intOf i).toNat)
  case atStart => exact ⟨q, [], hq, rfl, by simp, coll_start w⟩
  case round =>
    obtain ⟨p, rs, hp, rfl, hrs, hrel⟩ := hrel
    have hlen : rs.length ≤ 3 := by
      have h1 := Plain.listP_len hq
      rw [hrs, List.length_append, List.length_reverse] at h1
      omega
    by_cases hp0 : 0 < p
    · obtain ⟨s, rfl⟩ : ∃ s, p = s + 1 := ⟨p - 1, by omega⟩
      obtain ⟨T, hT⟩ : ∃ T, T = s % 6 := ⟨_, rfl⟩
      obtain ⟨D, hD⟩ : ∃ D, D = s / 6 := ⟨_, rfl⟩
      have htm : Int.tmod (s : Int) 6 = (T : Int) := by rw [hT]; rfl
      have htd : Int.tdiv (s : Int) 6 = (D : Int) := by rw [hD]; rfl
      have hst : Plain.listP (s + 1) = Plain.listP D ++ [(T : Int) + 1] := by
        rw [Plain.listP_at hp (by omega), show Plain.parQ (s + 1) = D by rw [hD]; unfold Plain.parQ; rfl, show (s + 1 - 1) % 6 + 1 = T + 1 by rw [hT]; rfl]
        rfl
      have HN : Hid (Plain.listP q = Plain.listP D ++ (rs ++ [(T : Int) + 1]).reverse) := Lib.hid (by rw [hrs, hst]; simp)
      have hDl : D < 43 := by omega
      have hTl : T < 6 := by omega
      have hDs : D ≤ s := by omega
      have HK := Lib.hid hrel
      clear hT hD hst hrs hrel
      have hpi : (0 : Int) < ((s + 1 : Nat) : Int) := by omega
      have hsi : IntKind.i64.wrap (((s + 1 : Nat) : Int) - 1) = (s : Int) := by rw [show ((s + 1 : Nat) : Int) - 1 = (s : Int) by omega]; exact Go.IntWalk.i64_in _ ⟨by omega, by omega⟩
      have hsi2 : IntKind.i64.wrap (s : Int) = (s : Int) := Go.IntWalk.i64_in _ ⟨by omega, by omega⟩
      go_wp2_with (at_builtin; refine wpList_append_own _ rfl _ _ 24 rfl w.heap.size 3 i1 (.int .i64 0) 1 8 Try.underlying24 hi1 hy0 hy1 hy2 rfl (by decide) _ _ _ rfl (HK.out.1.alloc _) ⟨wr.heap.size, 0, none⟩ 1 1 [.int .i64 ((T : Int) + 1)] rfl rfl ?d1 ?d2 ?d3 ?d4 ?d5 ?_)
      case d1 => exact cell_one_new _ _ _
      case d2 => simp [Value.oneCell']
      case d3 => unfold maxLen; omega
      case d4 => omega
      case d5 => exact Nat.le_trans HK.out.2.2 (by simp)
      intro v3 w3 hown3 hgrow3 _
      have HC3 := Lib.hid (coll_push (x := (T : Int) + 1) HK.out hown3 hgrow3)
      clear hown3 hgrow3
      go_wp2_with fail
      go_roundw
      case rel => exact ⟨D, _, by omega, by go_num, HN.out, HC3.out⟩
      case measure => simp [intOf]; omega
    · obtain rfl : p = 0 := by omega
      have HR : Hid (rs.reverse = Plain.listP q) := Lib.hid (by rw [hrs, Plain.listP_zero]; rfl)
      have HK := Lib.hid hrel
      clear hrs hrel
      go_wp2_with fail
      refine (reverse_any rs hlen _ _ _ _ HK).mono ?_
      rintro e w1 ⟨rfl, hC⟩
      have HC : Hid (Coll (Plain.listP q) w.heap.size w u3 w1) := Lib.hid (by rw [← HR.out]; exact hC)
      clear hC
      go_wp2_with fail
      go_ret
      exact ⟨_, rfl, HC.out⟩

end Go.Proofs.Ytnmjanhpjnlfcaa
