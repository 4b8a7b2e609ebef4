/- Contract: (impl.word).reduced returns what a list of letters is reduced to, in new memory. Condition: letters, a length that fits. -/
import Derived.Test.YtpaijobmoddgpabReduceWalks
import Derived.Test.YtpaijobmoddgpabIntsWalks
namespace Go.Proofs.Ytpaijobmoddgpab
open Go.ChangeShapes Go.WideShapes Go.ChangeAt Go.RowKit

/-- The loop's relation: the first cells hold what has been kept; there is room. -/
def Stacked (n : Nat) (st : List Int) (B : Nat) (w : World) (wr : World) : Prop :=
  ∃ zs : List Int, zs.length = n ∧ wr.ownsRow B 3 1 (.slice (some ⟨B, 0, none⟩) n n) n (nums zs) ∧ zs.take st.length = st.reverse ∧ Below B w wr
theorem Stacked.pop {n : Nat} {y : Int} {t : List Int} {B : Nat} {w wr : World} (h : Stacked n (y :: t) B w wr) : Stacked n t B w wr := by
  obtain ⟨zs, hl, ho, ht, hb⟩ := h
  refine ⟨zs, hl, ho, ?_, hb⟩
  have : (zs.take (t.length + 1)).take t.length = (t.reverse ++ [y]).take t.length := by rw [show zs.take (t.length + 1) = t.reverse ++ [y] by simpa using ht]
  rw [List.take_take, Nat.min_eq_left (by omega)] at this
  rw [this, List.take_left' (by simp)]
theorem Stacked.push {n : Nat} {x : Int} {st : List Int} {B : Nat} {w wr : World} (h : Stacked n st B w wr) (hlt : st.length < n) : Stacked n (x :: st) B w (wr.setCell ⟨B, st.length, none⟩ (.int .i64 x)) := by
  obtain ⟨zs, hl, ho, ht, hb⟩ := h
  refine ⟨zs.set st.length x, by simpa using hl, ?_, ?_, hb.setCell (p := ⟨B, st.length, none⟩) (Nat.le_refl _) _⟩
  · rw [← nums_set]
    exact (World.ownsRow.stored ho st.length (.int .i64 x)).1
  · rw [List.length_cons, List.take_add_one, List.getElem?_set_self (by omega), List.take_set_of_le (Nat.le_refl _), ht]
    simp
theorem Stacked.top {n : Nat} {y : Int} {t : List Int} {B : Nat} {w wr : World} (h : Stacked n (y :: t) B w wr) (hlt : t.length < n) : wr.cell? ⟨B, t.length, none⟩ = some (.int .i64 y) := by
  obtain ⟨zs, hl, ho, ht, hb⟩ := h
  rw [World.ownsRow.cellAt ho t.length (by omega)]
  refine nums_at ?_
  have : (zs.take (t.length + 1))[t.length]? = (t.reverse ++ [y])[t.length]? := by rw [show zs.take (t.length + 1) = t.reverse ++ [y] by simpa using ht]
  rw [List.getElem?_take_of_lt (by omega)] at this
  rw [this]
  simp
theorem Stacked.room {n : Nat} {st : List Int} {B : Nat} {w wr : World} (h : Stacked n st B w wr) (hlt : st.length < n) : (∃ u, wr.cell? ⟨B, st.length, none⟩ = some (.int .i64 u)) ∧ wr.frozen? ⟨B, st.length, none⟩ = false := by
  obtain ⟨zs, hl, ho, ht, hb⟩ := h
  obtain ⟨u, hu⟩ := at_some zs st.length (by omega)
  exact ⟨⟨u, by rw [World.ownsRow.cellAt ho st.length (by omega), nums_at hu]⟩, World.ownsRow.frozenAt ho _⟩
theorem Stacked.res {n : Nat} {st : List Int} {B : Nat} {w wr : World} (h : Stacked n st B w wr) (hle : st.length ≤ n) : Res B wr (.slice (some ⟨B, 0, none⟩) st.length st.length) st.reverse := by
  obtain ⟨zs, hl, ho, ht, hb⟩ := h
  obtain ⟨a, cap, e, h1, h2, -, h3, -, -⟩ := owns_ints ho
  simp only [Value.slice.injEq] at e
  obtain ⟨rfl, -, rfl⟩ := e
  refine ⟨_, st.length, by simp, fun j x hx => h1 j x ?_, ?_, by simp, by omega, fun h => (by cases h), fun x h => ⟨B, 0, by cases h; rfl⟩⟩
  · have hj := at_lt hx
    rw [← ht] at hx
    rwa [List.getElem?_take_of_lt (by simpa using hj)] at hx
  · rw [List.length_reverse]
    rcases h2 with h2 | h2
    · exact .inl (by omega)
    · exact .inr h2

set_option maxRecDepth 100000 in
set_option maxHeartbeats 800000 in
theorem reduced_any (a : Option Addr) (cap : Nat) (xs : List Int) (w : World) (h : Hid (Ints w a xs)) (hl : Hid (Plain.Letters xs)) (hn : xs.length ≤ 1048576) :
    Calls Try.prog 86 #[.slice a xs.length cap] w (RedPost xs w) := by
  obtain ⟨i0, hi0, hz0, hz1, hz2⟩ := info_parts infoInt
  go_enter Try.func86, Try.ntmps86
  go_wp2_with (at_make; refine wpList_make_full _ rfl _ _ 70 rfl w.heap.size 3 i0 (.int .i64 0) 1 Try.underlying70 hi0 hz0 hz1 .i64 .i64 _ _ xs.length rfl rfl rfl rfl (by rw [hz2]; omega) (by unfold maxLen; omega) (Nat.le_refl _) ?_; intro w1 hown hg)
  have HF : Hid (Stacked xs.length [] w.heap.size w w1) := Lib.hid (by
    refine ⟨List.replicate xs.length 0, by simp, ?_, by simp, (Below.refl _ w).grown hg (Nat.le_refl _) (fun j hj => by cases hj)⟩
    simpa [toList_madeCells_one, Value.cells, nums] using hown)
  clear hown hg
  go_wp2
  go_loopw [4, 12] (fun s i wr => ∃ k : Nat, k ≤ xs.length ∧ i = .int .i64 k ∧ s = .int .i64 ((Plain.stack [] (xs.take k)).length : Nat) ∧ Stacked xs.length (Plain.stack [] (xs.take k)) w.heap.size w wr) (fun _ i _ => xs.length - (intOf i).toNat)
  case atStart => exact ⟨0, Nat.zero_le _, rfl, rfl, HF.out⟩
  case round =>
    obtain ⟨k, hk, rfl, rfl, hrel⟩ := hrel
    have hsl := Plain.stack_length (xs.take k) []
    have htl : (xs.take k).length ≤ k := List.length_take_le _ _
    simp only [List.length_nil, Nat.zero_add] at hsl
    by_cases hlt : k < xs.length
    · obtain ⟨x, hx⟩ := at_some xs k hlt
      obtain ⟨b, o, rfl, hc0⟩ := h.out k x hx
      obtain ⟨hx0, hx1, hx2⟩ := hl.out.at hx
      have HS := Lib.hid (Plain.red_take hx)
      obtain ⟨st, hst⟩ : ∃ st, st = Plain.stack [] (xs.take k) := ⟨_, rfl⟩
      rw [← hst] at HS hrel hsl ⊢
      clear hst hx
      have hb0 : Below w.heap.size w wr := hrel.choose_spec.2.2.2
      have hc : wr.cell? ⟨b, o + k, none⟩ = some (.int .i64 x) := cell_later hb0 hc0
      clear hb0 hc0
      cases st with
      | nil =>
        have hd : decide ((0 : Int) < 0) = false := by decide
        obtain ⟨⟨u, hcu⟩, hfu⟩ := hrel.room (by show 0 < _; omega)
        have HR := Lib.hid (hrel.push (x := x) (by show 0 < _; omega))
        clear hrel hsl
        simp only [List.length_nil] at hcu hfu HR
        have HP : Hid (Plain.push [] x = [x]) := Lib.hid rfl
        go_wp2
        go_roundw
        case rel => exact ⟨k + 1, by omega, by go_num, by rw [HS.out, HP.out]; rfl, by rw [HS.out, HP.out]; exact HR.out⟩
        case measure => simp [intOf]; omega
      | cons y t =>
        simp only [List.length_cons] at hsl
        have ht : t.length + 1 ≤ 1048576 := by omega
        have ht2 : t.length + 1 < xs.length := by omega
        have hcy := hrel.top (by omega)
        have hd : decide ((0 : Int) < (t.length : Int) + 1) = true := by rw [decide_eq_true_iff]; omega
        have hj1 : (0 : Int) ≤ (t.length : Int) := by omega
        by_cases he : y = -x
        · have hq : (y == -x) = true := by simpa using he
          have HP := Lib.hid (Plain.push_hit (st := y :: t) (x := x) (by rw [he]))
          have HR := Lib.hid hrel.pop
          clear he hrel hsl
          go_wp2
          go_roundw
          case rel => exact ⟨k + 1, by omega, by go_num, by rw [HS.out, HP.out], by rw [HS.out, HP.out]; exact HR.out⟩
          case measure => simp [intOf]; omega
        · have hq : (y == -x) = false := by simpa using he
          have HP := Lib.hid (Plain.push_miss (st := y :: t) (x := x) (fun u hu => he (by injection hu)))
          obtain ⟨⟨u, hcu⟩, hfu⟩ := hrel.room (by show t.length + 1 < _; omega)
          have HR := Lib.hid (hrel.push (x := x) (by show t.length + 1 < _; omega))
          simp only [List.length_cons] at hcu hfu HR
          clear he hrel hsl
          go_wp2
          go_roundw
          case rel => exact ⟨k + 1, by omega, by go_num, by rw [HS.out, HP.out]; go_num, by rw [HS.out, HP.out]; exact HR.out⟩
          case measure => simp [intOf]; omega
    · obtain rfl : k = xs.length := by omega
      rw [List.take_length] at hrel hsl ⊢
      have hR := Lib.hid (hrel.res hsl)
      have hb : Hid (Below w.heap.size w wr) := Lib.hid hrel.choose_spec.2.2.2
      have hle : ((Plain.stack [] xs).length : Int) ≤ (xs.length : Int) := by omega
      have hle0 : (0 : Int) ≤ ((Plain.stack [] xs).length : Int) := by omega
      clear hrel
      go_wp2
      go_ret
      exact ⟨_, rfl, hR.out, hb.out⟩

end Go.Proofs.Ytpaijobmoddgpab
