/- Contracts: spec.l3Set, l3In, l3Take, TakeOut, l3Falls, DoesFall: what is left of a word when nails are taken out. Conditions: letters, sets from 0 to 63, lengths that fit. -/
import Derived.Test.YtpaijobmoddgpabNailOf
import Derived.Test.YtpaijobmoddgpabNailsWalks
import Derived.Test.YtpaijobmoddgpabWord
import Derived.Test.YtpaijobmoddgpabInvWalks
import Derived.Test.YtpaijobmoddgpabWordWalks
import Derived.Test.YtpaijobmoddgpabLawKit
import Derived.Test.YtpaijobmoddgpabSetKit
namespace Go.Proofs.Ytpaijobmoddgpab
open Go.ChangeShapes Go.WideShapes Go.ChangeAt Go.RowKit
set_option linter.unusedVariables false

/-- A letter's nail is in a set. -/
theorem l3In_nail (s : Nat) (x : Int) (w : World) (hs : s < 64) (hx : x ≠ 0 ∧ -6 ≤ x ∧ x ≤ 6) : Calls Try.prog 63 #[.int .i64 (s : Int), .int .i64 (Plain.nail x)] w fun e w' => e = .returned (.bool (Plain.inB s x)) ∧ w = w' := by
  obtain ⟨p, q, hp, hp5, -, -, -⟩ := nail_parts hx
  rw [hp, Plain.inB, hp]
  rw [show ((p : Int) + 1).toNat - 1 = p by omega]
  exact l3In_any s p w hs hp5

set_option maxRecDepth 100000 in
set_option maxHeartbeats 800000 in
theorem l3Take_any (a : Option Addr) (cap : Nat) (xs : List Int) (s : Nat) (w : World) (h : Hid (Ints w a xs)) (hl : Hid (Plain.Letters xs)) (hn : xs.length ≤ 1048576) (hs : s < 64) :
    Calls Try.prog 62 #[.slice a xs.length cap, .int .i64 (s : Int)] w (ListPost (Plain.takeOut xs s) w) := by
  obtain ⟨i0, hi0, hz0, hz1, hz2⟩ := info_parts infoInt
  go_enter Try.func62, Try.ntmps62
  go_wp2_with fail
  go_loopw [5, 6] (fun v i wr => ∃ k : Nat, k ≤ xs.length ∧ i = .int .i64 k ∧ Coll (Plain.without (xs.take k) s) w.heap.size w v wr) (fun _ i _ => xs.length - (intOf i).toNat)
  case atStart => exact ⟨0, Nat.zero_le _, rfl, coll_start w⟩
  case round =>
    obtain ⟨k, hk, rfl, hrel⟩ := hrel
    have hll := Plain.without_le (xs.take k) s
    have htl : (xs.take k).length ≤ k := List.length_take_le _ _
    by_cases hlt : k < xs.length
    · obtain ⟨x, hx⟩ := at_some xs k hlt
      obtain ⟨b, o, rfl, hc0⟩ := h.out k x hx
      have HX := Lib.hid (hl.out.at hx)
      have HS := Lib.hid (Plain.without_take s hx)
      have hc : wr.cell? ⟨b, o + k, none⟩ = some (.int .i64 x) := cell_later hrel.2.1 hc0
      obtain ⟨L, hL⟩ : ∃ L, L = Plain.without (xs.take k) s := ⟨_, rfl⟩
      rw [← hL] at HS hrel hll
      have HK := Lib.hid hrel
      have hLl : L.length ≤ 1048576 := by omega
      have hi : (k : Int) < (xs.length : Int) := by omega
      have hi0' : (0 : Int) ≤ (k : Int) := by omega
      clear hrel hc0 hx hL hll htl
      go_wp2_with fail
      refine (l2Nail_any x _ HX.out.2).mono ?_
      rintro e w' ⟨rfl, rfl⟩
      go_wp2_with fail
      refine (l3In_nail s x _ hs HX.out).mono ?_
      rintro e w' ⟨rfl, rfl⟩
      cases hb : Plain.inB s x with
      | true =>
        rw [hb] at HS
        have HS2 := Lib.hid (HS.out.trans (if_pos rfl))
        clear HS hb
        go_wp2_with fail
        go_roundw
        case rel => exact ⟨k + 1, by omega, by go_num, by rw [HS2.out]; exact HK.out⟩
        case measure => simp [intOf]; omega
      | false =>
        rw [hb] at HS
        have HS2 := Lib.hid (HS.out.trans (if_neg (by simp)))
        clear HS hb
        go_wp2_with (at_builtin; refine wpList_append_own _ rfl _ _ 22 rfl w.heap.size 3 i0 (.int .i64 0) 1 8 Try.underlying22 hi0 hz0 hz1 hz2 rfl (by decide) _ _ _ rfl (HK.out.1.alloc _) ⟨wr.heap.size, 0, none⟩ 1 1 [.int .i64 x] rfl rfl ?c1 ?c2 ?c3 ?c4 ?c5 ?_)
        case c1 => exact cell_one_new _ _ _
        case c2 => simp [Value.oneCell']
        case c3 => unfold maxLen; omega
        case c4 => omega
        case c5 => exact Nat.le_trans HK.out.2.2 (by simp)
        intro v' w1 hown' hgrow _
        have hR := Lib.hid (coll_push (x := x) HK.out hown' hgrow)
        clear hown' hgrow
        go_wp2_with fail
        go_roundw
        case rel => exact ⟨k + 1, by omega, by go_num, by rw [HS2.out]; exact hR.out⟩
        case measure => simp [intOf]; omega
    · obtain rfl : k = xs.length := by omega
      rw [List.take_length] at hrel
      have HR := Lib.hid (coll_res hrel)
      have hL2 := Plain.without_le xs s
      have HL := Lib.hid (hl.out.without s)
      obtain ⟨L, hL⟩ : ∃ L, L = Plain.without xs s := ⟨_, rfl⟩
      have HT : Hid (Plain.red L = Plain.takeOut xs s) := Lib.hid (by rw [hL]; rfl)
      rw [← hL] at HR HL hL2
      obtain ⟨a2, c2, rfl, hi2, -, -⟩ := HR.out.1
      have HI := Lib.hid hi2
      have HB := Lib.hid HR.out.2
      clear hL hi2 hrel hll htl HR
      go_wp2_with fail
      refine (l2Reduce_any a2 c2 L _ HI HL (by omega)).mono ?_
      rintro e w1 ⟨v, rfl, hr, hb⟩
      have HO := Lib.hid (And.intro (hr.mono HB.out.size) (HB.out.trans (hb.mono HB.out.size)))
      rw [HT.out] at HO
      clear hr hb
      go_wp2_with fail
      go_ret
      exact ⟨_, rfl, HO.out.1, HO.out.2⟩

/-- What TakeOut answers. -/
def takeB (xs : List Int) (n : Int) : Bool := Plain.wordB xs && setB n
def takeW (xs : List Int) (n : Int) : List Int := if takeB xs n = true then Plain.takeOut xs n.toNat else []
theorem takeW_le (xs : List Int) (n : Int) : (takeW xs n).length ≤ xs.length := by
  unfold takeW
  split
  · exact Plain.takeOut_le xs _
  · simp
theorem take_yes {xs : List Int} {s : Nat} (h : Plain.wordB xs = true) (hs : setB (s : Int) = true) : takeW xs (s : Int) = Plain.takeOut xs s ∧ takeB xs (s : Int) = true := by
  have hb : takeB xs (s : Int) = true := by simp [takeB, h, hs]
  exact ⟨by rw [takeW, if_pos hb]; rfl, hb⟩
theorem take_no {xs : List Int} {n : Int} (h : Plain.wordB xs = false ∨ setB n = false) : takeW xs n = [] ∧ takeB xs n = false := by
  have hb : takeB xs n = false := by rcases h with h | h <;> simp [takeB, h]
  exact ⟨by rw [takeW, if_neg (by rw [hb]; simp)], hb⟩

set_option maxHeartbeats 400000 in
theorem l3Falls_any (a : Option Addr) (cap : Nat) (xs : List Int) (s : Nat) (w : World) (h : Hid (Ints w a xs)) (hl : Hid (Plain.Letters xs)) (hn : xs.length ≤ 1048576) (hs : s < 64) :
    Calls Try.prog 46 #[.slice a xs.length cap, .int .i64 (s : Int)] w (Val (.bool (Plain.fallsB xs s)) w) := by
  have hle := Plain.takeOut_le xs s
  obtain ⟨L, hL⟩ : ∃ L, L = Plain.takeOut xs s := ⟨_, rfl⟩
  have HF : Hid (Plain.fallsB xs s = decide (L.length = 0)) := Lib.hid (by rw [hL]; rfl)
  rw [← hL] at hle
  have HL := Lib.hid hL
  clear hL
  go_enter Try.func46, Try.ntmps46
  go_wp2_with fail
  refine (l3Take_any a cap xs s _ h hl hn hs).mono ?_
  rw [← HL.out]
  rintro e w1 ⟨v, rfl, ⟨a2, c2, rfl, -, -, -⟩, hb⟩
  have HB := Lib.hid hb
  clear hb
  by_cases h0 : L.length = 0
  · have HF2 : Hid (Plain.fallsB xs s = true) := Lib.hid (by rw [HF.out]; simp [h0])
    have hq : ((L.length : Int) == 0) = true := by simp [h0]
    have HQ := Lib.hid h0
    clear h0
    go_wp2_with fail
    go_ret
    exact ⟨ret_bool HF2.out.symm, HB.out⟩
  · have HF2 : Hid (Plain.fallsB xs s = false) := Lib.hid (by rw [HF.out]; simp [h0])
    have hq : ((L.length : Int) == 0) = false := by simpa using h0
    clear h0
    go_wp2_with fail
    go_ret
    exact ⟨ret_bool HF2.out.symm, HB.out⟩

def fallW (xs : List Int) (n : Int) : Bool := takeB xs n && Plain.fallsB xs n.toNat
theorem fall_yes {xs : List Int} {s : Nat} (h : Plain.wordB xs = true) (hs : setB (s : Int) = true) : fallW xs (s : Int) = Plain.fallsB xs s ∧ takeB xs (s : Int) = true := by
  have hb := (take_yes h hs).2
  exact ⟨by rw [fallW, hb]; rfl, hb⟩
theorem fall_no {xs : List Int} {n : Int} (h : Plain.wordB xs = false ∨ setB n = false) : fallW xs n = false ∧ takeB xs n = false := by
  have hb := (take_no h).2
  exact ⟨by rw [fallW, hb]; rfl, hb⟩

end Go.Proofs.Ytpaijobmoddgpab
