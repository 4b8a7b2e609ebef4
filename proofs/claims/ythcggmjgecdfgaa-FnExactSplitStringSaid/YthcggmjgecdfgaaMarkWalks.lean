/- Contracts: laws.markStringS writes its marks into a list that the call owns; laws.heldStringS finds them there. Condition: small numbers. -/
import Derived.Test.YthcggmjgecdfgaaStrsWalks
import Derived.Test.YthcggmjgecdfgaaMark
import Derived.Deep.RegionWith
namespace Go.Proofs.Ythcggmjgecdfgaa
open Go.ChangeShapes Go.WideShapes Go.ChangeAt Go.RowKit

/-- The first i texts are marks from k on. -/
def marked (k i : Nat) (ss : List ByteArray) : List ByteArray := (List.range i).map (fun j => markS (k + j)) ++ ss.drop i
theorem marked_length (k i : Nat) (ss : List ByteArray) (h : i ≤ ss.length) : (marked k i ss).length = ss.length := by simp [marked]; omega
theorem marked_zero (k : Nat) (ss : List ByteArray) : marked k 0 ss = ss := by simp [marked]
theorem marked_set (k i : Nat) (ss : List ByteArray) (h : i < ss.length) : (strVals (marked k i ss)).set i (.string (markS (k + i))) = strVals (marked k (i + 1) ss) := by
  unfold strVals marked
  rw [← List.map_set]
  congr 1
  have hl : ((List.range i).map (fun j => markS (k + j))).length = i := by simp
  rw [List.set_append_right _ _ (by omega), hl, Nat.sub_self, List.drop_eq_getElem_cons h, List.set_cons_zero, List.range_succ, List.map_append, List.append_assoc]
  rfl
theorem marked_at (k n : Nat) (ss : List ByteArray) (j : Nat) (hj : j < n) : (marked k n ss)[j]? = some (markS (k + j)) := by
  unfold marked
  rw [List.getElem?_append_left (by simp; omega)]
  simp [hj]

/-- Worlds that differ in new blocks and in one row. -/
theorem grownBy_refl (w : World) (row : Option Nat) : w.grownBy w row := ⟨rfl, rfl, rfl, Nat.le_refl _, fun _ _ _ => rfl⟩
theorem grownBy_then {w wr w1 : World} {g : Nat} (h : w.grownBy wr (some g)) (hb : Below wr.heap.size wr w1) (i : Nat) (u : Value) : w.grownBy (w1.setCell ⟨g, i, none⟩ u) (some g) := by
  have hs := h.size
  have hs1 := hb.size
  have e := Below.refl 0 w1
  refine ⟨hb.os.trans h.os, hb.tape.trans h.tape, hb.output.trans h.output, ?_, fun j hj hne => ?_⟩
  · have := ((Below.refl 0 w1).setCell (p := ⟨g, i, none⟩) (Nat.zero_le _) u).size
    omega
  · rw [Below.heap_setCell _ _ _ _ (by simpa using hne), hb.block j (by omega), h.block j hj hne]

def MarkAt (base g n cap k : Nat) (ss : List ByteArray) (w : World) (i : Nat) (wr : World) : Prop :=
  wr.ownsRow base 9 1 (.slice (some ⟨g, 0, none⟩) n cap) n (strVals (marked k i ss)) ∧ w.grownBy wr (some g)
theorem MarkAt.step {base g n cap k i : Nat} {ss : List ByteArray} {w wr w1 : World} (h : MarkAt base g n cap k ss w i wr) (hi : i < ss.length) (hb : Below wr.heap.size wr w1) :
    MarkAt base g n cap k ss w (i + 1) (w1.setCell ⟨g, i, none⟩ (.string (markS (k + i)))) := by
  refine ⟨?_, grownBy_then h.2 hb i _⟩
  rw [← marked_set k i ss hi]
  exact (World.ownsRow.stored (h.1.kept (row := none) ⟨hb.os, hb.tape, hb.output, hb.size, fun j hj _ => hb.block j hj⟩ (.inr (by simp [Value.ownBlock]))) i _).1

set_option maxHeartbeats 400000 in
theorem markS_any (base g cap k : Nat) (ss : List ByteArray) (w : World) (h : Hid (w.ownsRow base 9 1 (.slice (some ⟨g, 0, none⟩) ss.length cap) ss.length (strVals ss))) (hk : 1 ≤ k) (hn : k + ss.length ≤ 9999999) :
    Calls Try.prog 19 #[.slice (some ⟨g, 0, none⟩) ss.length cap, .int .i64 k] w fun e w' => e = .returned (.int .i64 ((k + ss.length : Nat) : Int)) ∧ MarkAt base g ss.length cap k ss w ss.length w' := by
  go_enter Try.func19, Try.ntmps19
  go_wp2_with fail
  go_loopw [1, 5] (fun q j wr => ∃ i : Nat, i ≤ ss.length ∧ j = .int .i64 i ∧ q = .int .i64 ((k + i : Nat) : Int) ∧ MarkAt base g ss.length cap k ss w i wr) (fun _ j _ => ss.length - (intOf j).toNat)
  case atStart => exact ⟨0, Nat.zero_le _, rfl, rfl, by rw [marked_zero]; exact h.out, grownBy_refl _ _⟩
  case round =>
    obtain ⟨i, hi, rfl, rfl, hM⟩ := hrel
    by_cases hlt : i < ss.length
    · obtain ⟨q, hq⟩ : ∃ q : Nat, q = k + i := ⟨_, rfl⟩
      have hq2 : q < 9999999 := by omega
      have hq1 : 1 ≤ q := by omega
      have HQ := Lib.hid hq
      rw [← hq]
      clear hq
      obtain ⟨x, hx⟩ : ∃ x, (marked k i ss)[i]? = some x := Plain.some_at _ _ (by rw [marked_length k i ss (by omega)]; exact hlt)
      have hd : wr.cell? ⟨g, i, none⟩ = some (.string x) := by rw [World.ownsRow.cellAt hM.1 i (by omega), strVals_at hx]
      have hf : wr.frozen? ⟨g, i, none⟩ = false := World.ownsRow.frozenAt hM.1 i
      have HM := Lib.hid hM
      clear hM hx
      go_wp2_with fail
      refine (mark_any q hq1 (by omega) _).mono ?_
      rintro e w1 ⟨rfl, hb1⟩
      have hd1 : w1.cell? ⟨g, i, none⟩ = some (.string x) := cell_later hb1 hd
      have hf1 : w1.frozen? ⟨g, i, none⟩ = false := (hb1.frozen (p := ⟨g, i, none⟩) (World.block_lt_of_cell? _ _ hd)).trans hf
      have HR := Lib.hid (HM.out.step hlt hb1)
      rw [← HQ.out] at HR
      clear hd hf hb1
      go_wp2
      go_roundw
      case rel => exact ⟨i + 1, by omega, by go_num, by rw [HQ.out]; go_num, HR.out⟩
      case measure => simp [intOf]; omega
    · obtain rfl : i = ss.length := by omega
      have HM := Lib.hid hM
      clear hM
      go_wp2
      go_ret
      exact ⟨rfl, HM.out⟩

set_option maxHeartbeats 800000 in
theorem heldS_any (a : Option Addr) (cap k n : Nat) (ms : List ByteArray) (w : World) (h : Hid (Strs w a ms)) (hms : Hid (∀ j, j < n → ms[j]? = some (markS (k + j)))) (hk : 1 ≤ k) (hkn : k + n ≤ 9999999) :
    Calls Try.prog 20 #[.slice a n cap, .int .i64 k] w fun e w' => e = .returned (.int .i64 ((k + n : Nat) : Int)) ∧ Below w.heap.size w w' := by
  go_enter Try.func20, Try.ntmps20
  go_wp2_with fail
  go_loopw [1, 5] (fun q j wr => ∃ i : Nat, i ≤ n ∧ j = .int .i64 i ∧ q = .int .i64 ((k + i : Nat) : Int) ∧ Below w.heap.size w wr) (fun _ j _ => n - (intOf j).toNat)
  case atStart => exact ⟨0, Nat.zero_le _, rfl, rfl, Below.refl _ _⟩
  case round =>
    obtain ⟨i, hi, rfl, rfl, hB⟩ := hrel
    by_cases hlt : i < n
    · obtain ⟨q, hq⟩ : ∃ q : Nat, q = k + i := ⟨_, rfl⟩
      have hq2 : q < 9999999 := by omega
      have hq1 : 1 ≤ q := by omega
      have HQ := Lib.hid hq
      have hx := hms.out i hlt
      rw [← hq] at hx ⊢
      clear hq
      obtain ⟨b, o, rfl, hc0⟩ := h.out i _ hx
      have hc : wr.cell? ⟨b, o + i, none⟩ = some (.string (markS q)) := cell_later hB hc0
      have hsame := str_same (markS q)
      have HB := Lib.hid hB
      have hi2 : (i : Int) < (n : Int) := by omega
      have hi0 : (0 : Int) ≤ (i : Int) := by omega
      clear hc0 hx hB
      go_wp2
      go_region_with (go_at_call 36; refine (mark_any q hq1 (by omega) _).mono ?_; rintro e w1 ⟨rfl, hb1⟩; have hc1 : w1.cell? ⟨b, o + i, none⟩ = some (.string (markS q)) := cell_later hb1 hc)
      all_goals
        have hB1 : Hid (Below w.heap.size w w1) := Lib.hid (HB.out.trans (((Below.refl _ wr).drew.trans hb1).mono HB.out.size))
        clear hb1
        go_wp2
        go_roundw
        case rel => exact ⟨i + 1, by omega, by go_num, by rw [HQ.out]; go_num, hB1.out⟩
        case measure => simp [intOf]; omega
    · obtain rfl : i = n := by omega
      have HB := Lib.hid hB
      clear hB
      go_wp2
      go_ret
      exact ⟨rfl, HB.out⟩

end Go.Proofs.Ythcggmjgecdfgaa
