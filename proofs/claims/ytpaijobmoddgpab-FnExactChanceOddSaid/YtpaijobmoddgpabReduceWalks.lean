/- Contract: spec.l2Reduce returns what a list of letters is reduced to, in new memory. Condition: letters, a length that fits. -/
import Derived.Test.YtpaijobmoddgpabInts
import Derived.Test.YtpaijobmoddgpabWord
namespace Go.Proofs.Ytpaijobmoddgpab
open Go.ChangeShapes Go.WideShapes Go.ChangeAt Go.RowKit

/-- The loop's relation: what has been kept of the first numbers. -/
def Kept (st : List Int) (B : Nat) (w : World) (v : Value) (wr : World) : Prop :=
  ∃ g cap, v = .slice (some ⟨g, 0, none⟩) st.length cap ∧ wr.ownsRow B 3 1 v st.length (nums st.reverse) ∧ Below B w wr ∧ B ≤ wr.heap.size
theorem kept_start (w : World) : Kept [] w.heap.size w (.slice (some ⟨w.heap.size, 0, none⟩) 0 0) (w.alloc (.cells #[] 3)) :=
  ⟨_, 0, rfl, World.ownsRow_made w #[] 0 (Nat.le_refl _) (Nat.zero_le _) rfl, (Below.refl _ w).alloc (Nat.le_refl _) _, by simp⟩
theorem kept_pop {y : Int} {t : List Int} {B : Nat} {w wr : World} {g cap : Nat} (h : Kept (y :: t) B w (.slice (some ⟨g, 0, none⟩) (t.length + 1) cap) wr) (n : Nat) : Kept t B w (.slice (some ⟨g, 0, none⟩) t.length cap) (wr.drewN n) := by
  obtain ⟨g', cap', e, ho, hb, hB⟩ := h
  refine ⟨g, cap, rfl, ?_, below_drewN hb n, hB⟩
  have : nums (y :: t).reverse = nums t.reverse ++ [.int .i64 y] := by simp [nums]
  rw [this] at ho
  exact ownsRow_pop (w := wr) (by simp [nums]) ho
theorem kept_push {x : Int} {st : List Int} {B m : Nat} {L : List Value} {w wr w1 : World} {v v' : Value} {o : Obj} (n : Nat) (h : Kept st B w v wr) (hm : m = st.length + 1) (hL : L = nums st.reverse ++ [.int .i64 x])
    (hown : w1.ownsRow B 3 1 v' m L) (hgrow : ((wr.drewN n).alloc o).grownBy w1 v.ownBlock) : Kept (x :: st) B w v' w1 := by
  subst hm hL
  obtain ⟨g, cap, e, ho, hb, hB⟩ := h
  have ho1 : w1.ownsRow B 3 1 v' (x :: st).length (nums (x :: st).reverse) := by simpa [nums] using hown
  have hl := ho.lt
  obtain ⟨-, ⟨-, h0⟩ | ⟨g', cap', cur, rfl, -⟩⟩ := ho1
  · simp at h0
  · exact ⟨g', cap', rfl, by simpa [nums] using hown, ((below_drewN hb n).alloc hB o).grown hgrow (by simp; omega) (fun j hj => (hl j hj).1), by have := hgrow.size; simp at this; omega⟩
theorem kept_cell {y : Int} {t : List Int} {B : Nat} {w wr : World} {g cap : Nat} (h : Kept (y :: t) B w (.slice (some ⟨g, 0, none⟩) (t.length + 1) cap) wr) : wr.cell? ⟨g, t.length, none⟩ = some (.int .i64 y) := by
  obtain ⟨g', cap', e, ho, hb, hB⟩ := h
  rw [World.ownsRow.cellAt ho t.length (by simp)]
  simp [nums]
theorem kept_res {st : List Int} {B : Nat} {w wr : World} {v : Value} (h : Kept st B w v wr) : Res B wr v st.reverse := by
  obtain ⟨g, cap, rfl, ho, hb, hB⟩ := h
  exact owns_ints (by simpa using ho)
theorem kept_len {st : List Int} {B : Nat} {w wr : World} {v : Value} (h : Kept st B w v wr) : ∃ g cap, v = .slice (some ⟨g, 0, none⟩) st.length cap := by
  obtain ⟨g, cap, rfl, _⟩ := h
  exact ⟨g, cap, rfl⟩
theorem kept_owns {st : List Int} {B : Nat} {w wr : World} {v : Value} (h : Kept st B w v wr) (n : Nat) : (wr.drewN n).ownsRow B 3 1 v st.length (nums st.reverse) ∧ B ≤ (wr.drewN n).heap.size := by
  obtain ⟨g, cap, rfl, ho, hb, hB⟩ := h
  exact ⟨ho, hB⟩
theorem kept_cap {st : List Int} {B n g cap : Nat} {w wr : World} (h : Kept st B w (.slice (some ⟨g, 0, none⟩) n cap) wr) : st.length ≤ cap ∧ cap ≤ 9223372036854775807 := by
  obtain ⟨g', cap', e, ⟨-, ⟨e2, -⟩ | ⟨g2, cap2, cur, e2, -, -, h1, h2, -⟩⟩, -⟩ := h
  · cases e2
  · cases e2
    cases e
    unfold maxLen at h2
    exact ⟨h1, by omega⟩
/-- Behind a reduction. -/
def RedPost (xs : List Int) (w : World) (e : Ending) (w' : World) : Prop := ∃ v, e = .returned v ∧ Res w.heap.size w' v (Plain.red xs) ∧ Below w.heap.size w w'

set_option maxRecDepth 100000 in
set_option maxHeartbeats 800000 in
theorem l2Reduce_any (a : Option Addr) (cap : Nat) (xs : List Int) (w : World) (h : Hid (Ints w a xs)) (hl : Hid (Plain.Letters xs)) (hn : xs.length ≤ 1048576) :
    Calls Try.prog 74 #[.slice a xs.length cap] w (RedPost xs w) := by
  obtain ⟨i0, hi0, hz0, hz1, hz2⟩ := info_parts infoInt
  go_enter Try.func74, Try.ntmps74
  go_wp2
  go_loopw [3, 4] (fun v i wr => ∃ k : Nat, k ≤ xs.length ∧ i = .int .i64 k ∧ Kept (Plain.stack [] (xs.take k)) w.heap.size w v wr) (fun _ i _ => xs.length - (intOf i).toNat)
  case atStart => exact ⟨0, Nat.zero_le _, rfl, kept_start w⟩
  case round =>
    obtain ⟨k, hk, rfl, hrel⟩ := hrel
    have hsl := Plain.stack_length (xs.take k) []
    have htl : (xs.take k).length ≤ k := List.length_take_le _ _
    by_cases hlt : k < xs.length
    · obtain ⟨x, hx⟩ := at_some xs k hlt
      obtain ⟨b, o, rfl, hc0⟩ := h.out k x hx
      obtain ⟨hx0, hx1, hx2⟩ := hl.out.at hx
      have HS := Lib.hid (Plain.red_take hx)
      obtain ⟨st, hst⟩ : ∃ st, st = Plain.stack [] (xs.take k) := ⟨_, rfl⟩
      rw [← hst] at HS hrel hsl
      clear hst hx
      obtain ⟨g, cp, rfl⟩ := kept_len hrel
      have hi : (k : Int) < (xs.length : Int) := by omega
      have hi0' : (0 : Int) ≤ (k : Int) := by omega
      have hb0 : Below w.heap.size w wr := hrel.choose_spec.choose_spec.2.2.1
      have hc : wr.cell? ⟨b, o + k, none⟩ = some (.int .i64 x) := cell_later hb0 hc0
      clear hb0 hc0
      cases st with
      | nil =>
        have hd : decide ((0 : Int) < 0) = false := by decide
        have HK := Lib.hid hrel
        have HO := Lib.hid (kept_owns hrel)
        clear hrel
        have HP : Hid (Plain.push [] x = [x]) := Lib.hid rfl
        go_wp2
        go_quiet (fail)
        go_wp2_with (at_builtin; refine wpList_append_own _ rfl _ _ 22 rfl w.heap.size 3 i0 (.int .i64 0) 1 8 Try.underlying22 hi0 hz0 hz1 hz2 rfl (by decide) _ _ _ rfl ((HO.out _).1.alloc _) ⟨wr.heap.size, 0, none⟩ 1 1 [.int .i64 x] rfl rfl ?c1 ?c2 ?c3 ?c4 ?c5 ?_)
        case c1 => exact cell_one_new _ _ _
        case c2 => simp [Value.oneCell']
        case c3 => unfold maxLen; simp
        case c4 => simp
        case c5 => exact Nat.le_trans (HO.out 0).2 (by simp)
        intro v' w1 hown' hgrow _
        have hR := Lib.hid (kept_push (x := x) _ HK.out (by simp) (by simp) hown' hgrow)
        clear hown' hgrow
        go_wp2
        go_roundw
        case rel => exact ⟨k + 1, by omega, by go_num, by rw [HS.out, HP.out]; exact hR.out⟩
        case measure => simp [intOf]; omega
      | cons y t =>
        have ht : t.length + 1 ≤ 1048576 := by simp at hsl; omega
        clear hsl htl
        have hcy := kept_cell hrel
        obtain ⟨hcap1, hcap2⟩ := kept_cap hrel
        simp only [List.length_cons] at hcap1
        have hcap3 : (t.length : Int) ≤ (cp : Int) := by omega
        have hd : decide ((0 : Int) < (t.length : Int) + 1) = true := by rw [decide_eq_true_iff]; omega
        have hj1 : (0 : Int) ≤ (t.length : Int) := by omega
        have HK := Lib.hid hrel
        have HO := Lib.hid (kept_owns hrel)
        clear hrel
        by_cases he : y = -x
        · have hq : (y == -x) = true := by simpa using he
          have HP := Lib.hid (Plain.push_hit (st := y :: t) (x := x) (by rw [he]))
          clear he
          go_wp2
          go_quiet (fail)
          go_wp2
          go_roundw
          case rel => exact ⟨k + 1, by omega, by go_num, by rw [HS.out, HP.out]; exact kept_pop HK.out _⟩
          case measure => simp [intOf]; omega
        · have hq : (y == -x) = false := by simpa using he
          have HP := Lib.hid (Plain.push_miss (st := y :: t) (x := x) (fun u hu => he (by injection hu)))
          clear he
          go_wp2
          go_quiet (fail)
          go_wp2_with (at_builtin; refine wpList_append_own _ rfl _ _ 22 rfl w.heap.size 3 i0 (.int .i64 0) 1 8 Try.underlying22 hi0 hz0 hz1 hz2 rfl (by decide) _ _ _ rfl ((HO.out _).1.alloc _) ⟨wr.heap.size, 0, none⟩ 1 1 [.int .i64 x] rfl rfl ?d1 ?d2 ?d3 ?d4 ?d5 ?_)
          case d1 => exact cell_one_new _ _ _
          case d2 => simp [Value.oneCell']
          case d3 => unfold maxLen; simp; omega
          case d4 => simp; omega
          case d5 => exact Nat.le_trans (HO.out 0).2 (by simp)
          intro v' w1 hown' hgrow _
          have hR := Lib.hid (kept_push (x := x) _ HK.out (by simp) (by simp) hown' hgrow)
          clear hown' hgrow
          go_wp2
          go_roundw
          case rel => exact ⟨k + 1, by omega, by go_num, by rw [HS.out, HP.out]; exact hR.out⟩
          case measure => simp [intOf]; omega
    · obtain rfl : k = xs.length := by omega
      rw [List.take_length] at hrel
      obtain ⟨g, cp, rfl⟩ := kept_len hrel
      have hR : Hid (Res w.heap.size wr _ (Plain.red xs)) := Lib.hid (kept_res hrel)
      have hb : Hid (Below w.heap.size w wr) := Lib.hid hrel.choose_spec.choose_spec.2.2.1
      clear hrel
      go_wp2
      go_ret
      exact ⟨_, rfl, hR.out, hb.out⟩

end Go.Proofs.Ytpaijobmoddgpab
