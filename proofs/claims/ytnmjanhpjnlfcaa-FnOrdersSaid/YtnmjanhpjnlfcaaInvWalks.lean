/- Contracts: spec.l2Inverse and (impl.word).inverse return the inverse of a list of letters, spec.l1Own a copy, spec.l2Join a product, in new memory. Conditions: letters, lengths that fit. -/
import Derived.Test.YtnmjanhpjnlfcaaBdSetKit
import Derived.Test.YtnmjanhpjnlfcaaReducedWalks
namespace Go.Proofs.Ytnmjanhpjnlfcaa
open Go.ChangeShapes Go.WideShapes Go.ChangeAt Go.RowKit

/-- The opposites of what stands from place j on, from the last one on. -/
def invTo (xs : List Int) (j : Nat) : List Int := Plain.inv (xs.drop j)
theorem invTo_end (xs : List Int) : invTo xs xs.length = [] := by simp [invTo, Plain.inv]
theorem invTo_zero (xs : List Int) : invTo xs 0 = Plain.inv xs := by simp [invTo]
theorem invTo_step {xs : List Int} {j : Nat} {x : Int} (h : xs[j]? = some x) : invTo xs j = invTo xs (j + 1) ++ [-x] := by
  have hj := at_lt h
  have : xs.drop j = x :: xs.drop (j + 1) := by
    rw [List.drop_eq_getElem_cons hj]
    congr 1
    rw [List.getElem?_eq_getElem hj] at h
    simpa using h
  rw [invTo, this, Plain.inv_cons]
  rfl
theorem invTo_length (xs : List Int) (j : Nat) : (invTo xs j).length ≤ xs.length := by simp [invTo, Plain.inv]

theorem RedPost_def (xs : List Int) (w : World) : RedPost xs w = ListPost (Plain.red xs) w := rfl

set_option maxRecDepth 100000 in
set_option maxHeartbeats 800000 in
theorem l2Inverse_any (a : Option Addr) (cap : Nat) (xs : List Int) (w : World) (h : Hid (Ints w a xs)) (hl : Hid (Plain.Letters xs)) (hn : xs.length ≤ 1048576) :
    Calls Try.prog 57 #[.slice a xs.length cap] w (ListPost (Plain.inv xs) w) := by
  obtain ⟨i0, hi0, hz0, hz1, hz2⟩ := info_parts infoInt
  go_enter Try.func57, Try.ntmps57
  go_wp2
  go_loopw [3, 4] (fun v i wr => ∃ z : Int, -1 ≤ z ∧ z < (xs.length : Int) ∧ i = .int .i64 z ∧ Coll (invTo xs (z + 1).toNat) w.heap.size w v wr) (fun _ i _ => (intOf i + 1).toNat)
  case atStart => exact ⟨(xs.length : Int) - 1, by omega, by omega, rfl, by rw [show ((xs.length : Int) - 1 + 1).toNat = xs.length by omega, invTo_end]; exact coll_start w⟩
  case round =>
    obtain ⟨z, hz1', hz2', rfl, hrel⟩ := hrel
    by_cases hneg : 0 ≤ z
    · obtain ⟨m, rfl⟩ := Int.eq_ofNat_of_zero_le hneg
      have hm : m < xs.length := by omega
      obtain ⟨x, hx⟩ := at_some xs m hm
      obtain ⟨b, o, rfl, hc0⟩ := h.out m x hx
      obtain ⟨hx0, hx1, hx2⟩ := hl.out.at hx
      rw [show ((m : Int) + 1).toNat = m + 1 by omega] at hrel
      have HS := Lib.hid (invTo_step hx)
      have hc : wr.cell? ⟨b, o + m, none⟩ = some (.int .i64 x) := cell_later hrel.2.1 hc0
      have hll := invTo_length xs (m + 1)
      generalize invTo xs (m + 1) = L at HS hrel hll
      have HK := Lib.hid hrel
      have HO := Lib.hid hrel.1
      have HB := Lib.hid hrel.2.2
      clear hrel hc0 hx
      go_wp2_with (at_builtin; refine wpList_append_own _ rfl _ _ 24 rfl w.heap.size 3 i0 (.int .i64 0) 1 8 Try.underlying24 hi0 hz0 hz1 hz2 rfl (by decide) _ _ _ rfl (HO.out.alloc _) ⟨wr.heap.size, 0, none⟩ 1 1 [.int .i64 (-x)] rfl rfl ?c1 ?c2 ?c3 ?c4 ?c5 ?_)
      case c1 => exact cell_one_new _ _ _
      case c2 => simp [Value.oneCell']
      case c3 => unfold maxLen; omega
      case c4 => omega
      case c5 => exact Nat.le_trans HB.out (by simp)
      intro v' w1 hown' hgrow _
      have hR := Lib.hid (coll_push (x := -x) HK.out hown' hgrow)
      clear hown' hgrow
      go_wp2
      go_roundw
      case rel => exact ⟨(m : Int) - 1, by omega, by omega, rfl, by rw [show ((m : Int) - 1 + 1).toNat = m by omega, HS.out]; exact hR.out⟩
      case measure => simp [intOf]; try omega
    · obtain rfl : z = -1 := by omega
      rw [show ((-1 : Int) + 1).toNat = 0 from rfl, invTo_zero] at hrel
      have hR := Lib.hid hrel
      clear hrel
      go_wp2
      go_ret
      exact ⟨_, rfl, (coll_res hR.out).1, (coll_res hR.out).2⟩

/-- The loop's relation: the last k cells hold the opposites of the first k numbers. -/
def Turned (xs : List Int) (k : Nat) (B : Nat) (w : World) (wr : World) : Prop :=
  ∃ zs : List Int, zs.length = xs.length ∧ wr.ownsRow B 3 1 (.slice (some ⟨B, 0, none⟩) xs.length xs.length) xs.length (nums zs) ∧ zs.drop (xs.length - k) = Plain.inv (xs.take k) ∧ Below B w wr
theorem Turned.step {xs : List Int} {k m B : Nat} {x : Int} {w wr : World} (h : Turned xs k B w wr) (hx : xs[k]? = some x) (hm : xs.length = k + 1 + m) : Turned xs (k + 1) B w (wr.setCell ⟨B, m, none⟩ (.int .i64 (-x))) := by
  obtain ⟨zs, hl, ho, ht, hb⟩ := h
  refine ⟨zs.set m (-x), by simpa using hl, ?_, ?_, hb.setCell (p := ⟨B, m, none⟩) (Nat.le_refl _) _⟩
  · rw [← nums_set]
    exact (World.ownsRow.stored ho m (.int .i64 (-x))).1
  · rw [show xs.length - (k + 1) = m by omega, Plain.take_snoc hx, Plain.inv_append]
    have hml : m < (zs.set m (-x)).length := by simp; omega
    rw [List.drop_eq_getElem_cons hml, List.getElem_set_self]
    rw [show xs.length - k = m + 1 by omega] at ht
    rw [List.drop_set_of_lt (by omega), ht]
    rfl
theorem Turned.room {xs : List Int} {k m B : Nat} {w wr : World} (h : Turned xs k B w wr) (hm : m < xs.length) : (∃ u, wr.cell? ⟨B, m, none⟩ = some (.int .i64 u)) ∧ wr.frozen? ⟨B, m, none⟩ = false := by
  obtain ⟨zs, hl, ho, ht, hb⟩ := h
  obtain ⟨u, hu⟩ := at_some zs m (by omega)
  exact ⟨⟨u, by rw [World.ownsRow.cellAt ho m (by omega), nums_at hu]⟩, World.ownsRow.frozenAt ho _⟩
theorem Turned.res {xs : List Int} {B : Nat} {w wr : World} (h : Turned xs xs.length B w wr) : Res B wr (.slice (some ⟨B, 0, none⟩) xs.length xs.length) (Plain.inv xs) ∧ Below B w wr := by
  obtain ⟨zs, hl, ho, ht, hb⟩ := h
  simp at ht
  subst ht
  exact ⟨owns_ints ho, hb⟩

set_option maxRecDepth 100000 in
set_option maxHeartbeats 800000 in
theorem inverse_any (a : Option Addr) (cap : Nat) (xs : List Int) (w : World) (h : Hid (Ints w a xs)) (hl : Hid (Plain.Letters xs)) (hn : xs.length ≤ 1048576) :
    Calls Try.prog 59 #[.slice a xs.length cap] w (ListPost (Plain.inv xs) w) := by
  obtain ⟨i0, hi0, hz0, hz1, hz2⟩ := info_parts infoInt
  go_enter Try.func59, Try.ntmps59
  go_wp2_with (at_make; refine wpList_make_full _ rfl _ _ 43 rfl w.heap.size 3 i0 (.int .i64 0) 1 Try.underlying43 hi0 hz0 hz1 .i64 .i64 _ _ xs.length rfl rfl rfl rfl (by rw [hz2]; omega) (by unfold maxLen; omega) (Nat.le_refl _) ?_; intro w1 hown hg)
  have HF : Hid (Turned xs 0 w.heap.size w w1) := Lib.hid (by
    refine ⟨List.replicate xs.length 0, by simp, ?_, by simp [Plain.inv], (Below.refl _ w).grown hg (Nat.le_refl _) (fun j hj => by cases hj)⟩
    simpa [toList_madeCells_one, Value.cells, nums] using hown)
  clear hown hg
  go_wp2
  go_loopw [11] (fun i wr => ∃ k : Nat, k ≤ xs.length ∧ i = .int .i64 k ∧ Turned xs k w.heap.size w wr) (fun i _ => xs.length - (intOf i).toNat)
  case atStart => exact ⟨0, Nat.zero_le _, rfl, HF.out⟩
  case round =>
    obtain ⟨k, hk, rfl, hrel⟩ := hrel
    by_cases hlt : k < xs.length
    · obtain ⟨x, hx⟩ := at_some xs k hlt
      obtain ⟨b, o, rfl, hc0⟩ := h.out k x hx
      obtain ⟨hx0, hx1, hx2⟩ := hl.out.at hx
      have hc : wr.cell? ⟨b, o + k, none⟩ = some (.int .i64 x) := cell_later hrel.choose_spec.2.2.2 hc0
      obtain ⟨m, hm⟩ : ∃ m, xs.length = k + 1 + m := ⟨xs.length - k - 1, by omega⟩
      obtain ⟨⟨u, hcu⟩, hfu⟩ := hrel.room (m := m) (by omega)
      have HR := Lib.hid (hrel.step hx hm)
      have hme : (xs.length : Int) - 1 - (k : Int) = (m : Int) := by omega
      have hm0 : (0 : Int) ≤ (m : Int) := by omega
      have hm1 : (m : Int) < (xs.length : Int) := by omega
      have HM := Lib.hid hm
      clear hrel hc0 hx hm
      go_wp2
      go_roundw
      case rel => exact ⟨k + 1, by omega, by go_num, HR.out⟩
      case measure => simp [intOf]; have := HM.out; omega
    · obtain rfl : k = xs.length := by omega
      have hR := Lib.hid hrel.res
      clear hrel
      go_wp2
      go_ret
      have := hR.out.1
      exact ⟨_, rfl, hR.out.1, hR.out.2⟩

theorem l1Own_any (a : Option Addr) (cap : Nat) (xs : List Int) (w : World) (h : Hid (Ints w a xs)) (hcp : Hid (Cap a xs.length cap)) (hn : xs.length ≤ 1048576) :
    Calls Try.prog 52 #[.slice a xs.length cap] w fun e w' => ∃ v, e = .returned v ∧ Coll xs w.heap.size w v w' ∧ v ≠ .slice none 0 0 := by
  obtain ⟨i0, hi0, hz0, hz1, hz2⟩ := info_parts infoInt
  go_enter Try.func52, Try.ntmps52
  have HC := Lib.hid (coll_start w)
  have HI := Lib.hid (h.out.on ((Below.refl w.heap.size w).alloc (Nat.le_refl _) (.cells #[] 3)))
  go_wp2_with (at_builtin; refine wpList_append_ints rfl _ _ 24 i0 rfl Try.underlying24 hi0 hz0 hz1 hz2 w.heap.size _ 0 [] rfl HC.out.1 a xs.length cap xs rfl rfl HI.out hcp.out (by omega) HC.out.2.2 ?_)
  intro v' w1 hown hgrow hnil
  have HR := Lib.hid (coll_more HC.out rfl (by simpa using hown) hgrow)
  have HN : Hid (v' ≠ .slice none 0 0) := Lib.hid (fun e => by have := hnil e; simp at this)
  clear hown hgrow hnil
  go_wp2
  go_ret
  exact ⟨_, rfl, by simpa using HR.out, HN.out⟩

end Go.Proofs.Ytnmjanhpjnlfcaa
