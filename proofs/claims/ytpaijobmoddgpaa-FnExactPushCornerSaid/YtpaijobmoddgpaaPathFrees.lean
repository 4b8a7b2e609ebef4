/- Contracts: FreeCorners of both programs. Condition: texts that fit. -/
import Derived.Test.YtpaijobmoddgpaaPathFree
namespace Go.Proofs.Ytpaijobmoddgpaa
open Go.ChangeShapes Go.WideShapes Go.ChangeAt Go.RowKit
set_option linter.unusedVariables false
set_option linter.unusedSimpArgs false

/-- Whether i is a corner that is free. -/
def frB (l : List UInt8) (i : Nat) : Bool := Plain.cornB l i && Plain.sqFree (Plain.sqP l i)
def freeTo (l : List UInt8) (k : Nat) : List Int := ((List.range k).filter (frB l)).map fun i : Nat => (i : Int)
theorem freeTo_zero (l : List UInt8) : freeTo l 0 = [] := rfl
theorem freeTo_step (l : List UInt8) (k : Nat) : freeTo l (k + 1) = if frB l k = true then freeTo l k ++ [(k : Int)] else freeTo l k := by
  unfold freeTo
  rw [List.range_succ, List.filter_append, List.map_append]
  cases h : frB l k <;> simp [h]
theorem freeTo_le (l : List UInt8) (k : Nat) : (freeTo l k).length ≤ k := by
  unfold freeTo
  have := List.length_filter_le (frB l) (List.range k)
  simpa using this
theorem freeTo_more {l : List UInt8} {k : Nat} (h : l.length ≤ k + 1) : ∀ m, freeTo l (k + m) = freeTo l k
  | 0 => rfl
  | m + 1 => by
    have e : frB l (k + m) = false := by
      unfold frB
      cases hc : Plain.cornB l (k + m) with
      | false => rfl
      | true => have := Plain.cornB_lt hc; omega
    rw [← Nat.add_assoc, freeTo_step, e, if_neg (by simp), freeTo_more h m]
def freeL (l : List UInt8) : List Int := if Plain.pathB l = true then freeTo l (l.length + 1) else []
theorem freeL_le (l : List UInt8) : (freeL l).length ≤ 401 := by
  unfold freeL
  split
  · rename_i h
    have := freeTo_le l (l.length + 1)
    have := (Plain.path_ok h).1
    omega
  · exact Nat.zero_le _
theorem square_any (l : List UInt8) (g cap i : Nat) (w : World) (hp : Hid (Plain.pathB l = true)) (hi : i ≤ 1000) (h : Hid (Pts w (some ⟨g, 0, none⟩) (Plain.pts l))) (hg : g < w.heap.size) :
    Calls Try.prog 73 #[.slice (some ⟨g, 0, none⟩) (l.length + 1) cap, .int .i64 i] w (SquarePost l i w) := by
  by_cases h2 : i + 2 ≤ l.length
  · exact squareIn_any l g cap i w hp h2 h hg
  · have hl := (Plain.path_ok hp.out).1
    have hz : Plain.squareV l (i : Int) = ((0, 0), false) := by
      unfold Plain.squareV
      rw [Int.toNat_natCast]
      cases hc : Plain.cornB l i with
      | false => rw [if_neg (by simp)]
      | true => have := Plain.cornB_lt hc; omega
    unfold SquarePost
    rw [hz]
    exact squareOut_any (some ⟨g, 0, none⟩) cap (l.length + 1) (i : Int) w (by omega) (by omega) (by omega)
set_option maxRecDepth 100000 in
set_option maxHeartbeats 6400000 in
theorem implFreeCorners_any (s : ByteArray) (l : List UInt8) (hl0 : Hid (l = s.data.toList)) (w : World) (hs : s.size ≤ 9223372036854775807) : Calls Try.prog 43 #[.string s] w (SB (freeL l) (Plain.pathB l) w) := by
  obtain ⟨i0, hi0, hz0, hz1, hz2⟩ := info_parts infoInt
  cases hp : Plain.pathB l with
  | false =>
    have HP := Lib.hid hp
    have HL : Hid (freeL l = []) := Lib.hid (by unfold freeL; rw [hp]; rfl)
    rw [HL.out]
    clear hp
    go_enter Try.func43, Try.ntmps43
    go_wp2_with fail
    refine (trailOf_any s l hl0 _ hs).mono ?_
    rintro e w1 ⟨v, rfl, hr, hb⟩
    obtain ⟨a, cap, rfl⟩ := trail_none hr HP.out
    rw [HP.out]
    have HB1 := Lib.hid hb
    have HS := Lib.hid (coll_start w1)
    clear hr hb
    go_wp2_with fail
    refine wp_loop_rounds 1 ?_
    rw [rounds_succ]
    go_wp2_with fail
    go_ret2
    exact ⟨_, rfl, (coll_res (coll_back HS.out HB1.out)).1, (coll_back HS.out HB1.out).2.1⟩
  | true =>
    have HP := Lib.hid hp
    have HL : Hid (freeL l = freeTo l (l.length + 1)) := Lib.hid (by unfold freeL; rw [hp]; rfl)
    rw [HL.out]
    obtain ⟨n, hn⟩ : ∃ n, n = l.length := ⟨_, rfl⟩
    have hn4 : n ≤ 400 := by rw [hn]; exact (Plain.path_ok hp).1
    have HN := Lib.hid hn
    rw [← hn]
    clear hp hn
    go_enter Try.func43, Try.ntmps43
    go_wp2_with fail
    refine (trailOf_any s l hl0 _ hs).mono ?_
    rintro e w1 ⟨v, rfl, hr, hb⟩
    obtain ⟨g, cap, rfl, hg1, hg2, hpts, hcap, hcapm⟩ := trail_pts hr HP.out
    rw [HP.out]
    rw [← HN.out]
    have HB1 := Lib.hid hb
    have h := Lib.hid hpts
    have HG := Lib.hid hg2
    have HS := Lib.hid (coll_start w1)
    clear hr hb hpts hg1 hg2 hcap hcapm
    go_wp2_with fail
    go_loopw [6, 18] (fun v i wr => ∃ k : Nat, k ≤ n + 1 ∧ i = .int .i64 k ∧ Coll (freeTo l k) w1.heap.size w1 v wr) (fun _ i _ => n + 1 - (intOf i).toNat)
    case atStart => exact ⟨0, Nat.zero_le _, rfl, HS.out⟩
    case round =>
      obtain ⟨k, hk, rfl, hrel⟩ := hrel
      have HK := Lib.hid hrel
      have hll := freeTo_le l k
      obtain ⟨L, hL⟩ : ∃ L, L = freeTo l k := ⟨_, rfl⟩
      rw [← hL] at HK hll
      have HL := Lib.hid hL
      clear hrel hL
      by_cases hlt : k < n + 1
      · have HST := Lib.hid (freeTo_step l k)
        rw [← HL.out] at HST
        have HSQ : Hid (∀ W, Hid (Below w1.heap.size w1 W) → Calls Try.prog 73 #[.slice (some ⟨g, 0, none⟩) (n + 1) cap, .int .i64 k] W (SquarePost l k W)) := Lib.hid (fun W hW => by
          rw [HN.out]
          exact square_any l g cap k W HP (by omega) (Lib.hid (h.out.on hW.out)) (Nat.lt_of_lt_of_le HG.out hW.out.size))
        have HSV : Hid (Plain.squareV l (k : Int) = if Plain.cornB l k = true then (Plain.sqP l k, true) else ((0, 0), false)) := Lib.hid (by unfold Plain.squareV; rw [Int.toNat_natCast]; simp)
        cases hc : Plain.cornB l k with
        | false =>
          have HF : Hid (frB l k = false) := Lib.hid (by unfold frB; rw [hc]; rfl)
          have HSV2 : Hid (Plain.squareV l (k : Int) = ((0, 0), false)) := Lib.hid (by rw [HSV.out, hc]; rfl)
          have HNX : Hid (freeTo l (k + 1) = L) := Lib.hid (by rw [HST.out, HF.out]; rfl)
          clear hc
          go_wp2_with fail
          refine (HSQ.out _ (Lib.hid HK.out.2.1)).mono ?_
          unfold SquarePost
          rw [HSV2.out]
          rintro e w2 ⟨rfl, hb⟩
          have HK2 := Lib.hid (HK.out.later hb)
          have HK3 := Lib.hid (HK2.out.later ((Below.refl w2.heap.size w2).alloc (Nat.le_refl _) (.cells #[.int .i64 0, .int .i64 0] 63)))
          clear hb
          go_wp2_with fail
          go_roundw
          case rel => exact ⟨k + 1, by omega, by go_num, by rw [HNX.out]; exact HK3.out⟩
          case measure => simp [intOf]; omega
        | true =>
          obtain ⟨sx, sy, hsq⟩ : ∃ sx sy, Plain.sqP l k = (sx, sy) := ⟨_, _, rfl⟩
          have HSV2 : Hid (Plain.squareV l (k : Int) = ((sx, sy), true)) := Lib.hid (by rw [HSV.out, hc, hsq]; rfl)
          have HFB : Hid (frB l k = Plain.sqFree (sx, sy)) := Lib.hid (by unfold frB; rw [hc, hsq]; rfl)
          have HIF : Hid (∀ W, Calls Try.prog 76 #[.agg #[.int .i64 sx, .int .i64 sy]] W (Val (.bool (frB l k)) W)) := Lib.hid (fun W => by rw [HFB.out]; exact isFree_any sx sy W)
          clear hc hsq
          cases hf : frB l k with
          | false =>
            rw [hf] at HIF
            have HNX : Hid (freeTo l (k + 1) = L) := Lib.hid (by rw [HST.out, hf]; rfl)
            clear hf
            go_wp2_with fail
            refine (HSQ.out _ (Lib.hid HK.out.2.1)).mono ?_
            unfold SquarePost
            rw [HSV2.out]
            rintro e w2 ⟨rfl, hb⟩
            have HK2 := Lib.hid (HK.out.later hb)
            have HK3 := Lib.hid (HK2.out.later ((Below.refl w2.heap.size w2).alloc (Nat.le_refl _) (.cells #[.int .i64 sx, .int .i64 sy] 63)))
            clear hb
            go_wp2_with fail
            refine (HIF.out _).mono ?_
            rintro e w3 ⟨rfl, hb⟩
            have HK4 := Lib.hid (HK3.out.later hb)
            clear hb
            go_wp2_with fail
            go_roundw
            case rel => exact ⟨k + 1, by omega, by go_num, by rw [HNX.out]; exact HK4.out⟩
            case measure => simp [intOf]; omega
          | true =>
            rw [hf] at HIF
            have HNX : Hid (freeTo l (k + 1) = L ++ [(k : Int)]) := Lib.hid (by rw [HST.out, hf]; rfl)
            clear hf
            go_wp2_with fail
            refine (HSQ.out _ (Lib.hid HK.out.2.1)).mono ?_
            unfold SquarePost
            rw [HSV2.out]
            rintro e w2 ⟨rfl, hb⟩
            have HK2 := Lib.hid (HK.out.later hb)
            have HK3 := Lib.hid (HK2.out.later ((Below.refl w2.heap.size w2).alloc (Nat.le_refl _) (.cells #[.int .i64 sx, .int .i64 sy] 63)))
            clear hb
            go_wp2_with fail
            refine (HIF.out _).mono ?_
            rintro e w3 ⟨rfl, hb⟩
            have HK4 := Lib.hid (HK3.out.later hb)
            clear hb
            go_wp2_with (at_builtin; refine wpList_append_own _ rfl _ _ 29 rfl w1.heap.size 3 i0 (.int .i64 0) 1 8 Try.underlying29 hi0 hz0 hz1 hz2 rfl (by decide) _ _ _ rfl (HK4.out.1.alloc _) ⟨w3.heap.size, 0, none⟩ 1 1 [.int .i64 (k : Int)] rfl rfl ?c1 ?c2 ?c3 ?c4 ?c5 ?_)
            case c1 => exact one_new10 _ _ _
            case c2 => simp [Value.oneCell']
            case c3 => unfold maxLen; omega
            case c4 => omega
            case c5 => exact Nat.le_trans HK4.out.2.2 (by simp)
            intro v' w4 hown' hgrow _
            have hR := Lib.hid (coll_push (x := (k : Int)) HK4.out hown' hgrow)
            clear hown' hgrow
            go_wp2_with fail
            go_roundw
            case rel => exact ⟨k + 1, by omega, by go_num, by rw [HNX.out]; exact hR.out⟩
            case measure => simp [intOf]; omega
      · obtain rfl : k = n + 1 := by omega
        rw [HL.out] at HK
        have HR := Lib.hid (coll_res (coll_back HK.out HB1.out))
        clear hlt
        go_wp2_with fail
        go_ret2
        exact ⟨_, rfl, HR.out.1, HR.out.2⟩
set_option maxRecDepth 100000 in
set_option maxHeartbeats 6400000 in
theorem specFreeCorners_any (s : ByteArray) (l : List UInt8) (hl0 : Hid (l = s.data.toList)) (w : World) (hs : s.size ≤ 1048576) : Calls Try.prog 42 #[.string s] w (SB (freeL l) (Plain.pathB l) w) := by
  obtain ⟨i0, hi0, hz0, hz1, hz2⟩ := info_parts infoInt
  have HS := Lib.hid (coll_start w)
  cases hp : Plain.pathB l with
  | false =>
    have HP := Lib.hid hp
    have HL : Hid (freeL l = []) := Lib.hid (by unfold freeL; rw [hp]; rfl)
    rw [HL.out]
    clear hp
    go_enter Try.func42, Try.ntmps42
    go_wp2_with fail
    refine (specIsPath_any s l hl0 _ (by omega)).mono ?_
    rw [HP.out]
    rintro e w1 ⟨rfl, hb⟩
    have HS1 := Lib.hid (HS.out.later hb)
    clear hb
    go_wp2_with fail
    go_ret2
    exact ⟨_, rfl, (coll_res HS1.out).1, HS1.out.2.1⟩
  | true =>
    have HP := Lib.hid hp
    have HL : Hid (freeL l = freeTo l (l.length + 1)) := Lib.hid (by unfold freeL; rw [hp]; rfl)
    rw [HL.out]
    have hlen : Hid (l.length = s.size) := Lib.hid (by rw [hl0.out]; simp)
    obtain ⟨n, hn⟩ : ∃ n, n = s.size := ⟨_, rfl⟩
    have hn4 : n ≤ 400 := by rw [hn, ← hlen.out]; exact (Plain.path_ok hp).1
    have HN := Lib.hid hn
    have hns : (s.size : Int) = (n : Int) := by rw [hn]
    clear hp hn
    go_enter Try.func42, Try.ntmps42
    go_wp2_with fail
    refine (specIsPath_any s l hl0 _ (by omega)).mono ?_
    rw [HP.out]
    rintro e w1 ⟨rfl, hb⟩
    have HS1 := Lib.hid (HS.out.later hb)
    clear hb
    go_wp2_with fail
    go_loopw [4, 5] (fun v i wr => ∃ k : Nat, k ≤ n ∧ i = .int .i64 k ∧ Coll (freeTo l k) w.heap.size w v wr) (fun _ i _ => n - (intOf i).toNat)
    case atStart => exact ⟨0, Nat.zero_le _, rfl, HS1.out⟩
    case round =>
      obtain ⟨k, hk, rfl, hrel⟩ := hrel
      have HK := Lib.hid hrel
      have hll := freeTo_le l k
      obtain ⟨L, hL⟩ : ∃ L, L = freeTo l k := ⟨_, rfl⟩
      rw [← hL] at HK hll
      have HL := Lib.hid hL
      clear hrel hL
      by_cases hlt : k + 1 < n
      · have hlt2 : (k : Int) + 1 < (n : Int) := by omega
        have HST := Lib.hid (freeTo_step l k)
        rw [← HL.out] at HST
        have HCN : Hid (∀ W, Calls Try.prog 71 #[.string s, .int .i64 k] W (Val (.bool (Plain.cornB l k)) W)) := Lib.hid (fun W => by
          have := l10Corner_any s l hl0 (k : Int) W hs (by omega)
          unfold cornerB at this
          rw [HP.out, Int.toNat_natCast] at this
          simpa using this)
        cases hc : Plain.cornB l k with
        | false =>
          rw [hc] at HCN
          have HF : Hid (frB l k = false) := Lib.hid (by unfold frB; rw [hc]; rfl)
          have HNX : Hid (freeTo l (k + 1) = L) := Lib.hid (by rw [HST.out, HF.out]; rfl)
          clear hc
          go_wp2_with fail
          refine (HCN.out _).mono ?_
          rintro e w2 ⟨rfl, hb⟩
          have HK2 := Lib.hid (HK.out.later hb)
          clear hb
          go_wp2_with fail
          go_roundw
          case rel => exact ⟨k + 1, by omega, by go_num, by rw [HNX.out]; exact HK2.out⟩
          case measure => simp [intOf]; omega
        | true =>
          rw [hc] at HCN
          have HFB : Hid (frB l k = Plain.sqFree (Plain.sqP l k)) := Lib.hid (by unfold frB; rw [hc]; rfl)
          have HFR : Hid (∀ W, Calls Try.prog 72 #[.string s, .int .i64 k] W (Val (.bool (frB l k)) W)) := Lib.hid (fun W => by
            rw [HFB.out]
            exact l10Free_any s l hl0 k W hs HP (by rw [hlen.out, ← HN.out]; omega))
          clear hc
          cases hf : frB l k with
          | false =>
            rw [hf] at HFR
            have HNX : Hid (freeTo l (k + 1) = L) := Lib.hid (by rw [HST.out, hf]; rfl)
            clear hf
            go_wp2_with fail
            refine (HCN.out _).mono ?_
            rintro e w2 ⟨rfl, hb⟩
            have HK2 := Lib.hid (HK.out.later hb)
            clear hb
            go_wp2_with fail
            refine (HFR.out _).mono ?_
            rintro e w3 ⟨rfl, hb⟩
            have HK3 := Lib.hid (HK2.out.later hb)
            clear hb
            go_wp2_with fail
            go_roundw
            case rel => exact ⟨k + 1, by omega, by go_num, by rw [HNX.out]; exact HK3.out⟩
            case measure => simp [intOf]; omega
          | true =>
            rw [hf] at HFR
            have HNX : Hid (freeTo l (k + 1) = L ++ [(k : Int)]) := Lib.hid (by rw [HST.out, hf]; rfl)
            clear hf
            go_wp2_with fail
            refine (HCN.out _).mono ?_
            rintro e w2 ⟨rfl, hb⟩
            have HK2 := Lib.hid (HK.out.later hb)
            clear hb
            go_wp2_with fail
            refine (HFR.out _).mono ?_
            rintro e w3 ⟨rfl, hb⟩
            have HK4 := Lib.hid (HK2.out.later hb)
            clear hb
            go_wp2_with (at_builtin; refine wpList_append_own _ rfl _ _ 29 rfl w.heap.size 3 i0 (.int .i64 0) 1 8 Try.underlying29 hi0 hz0 hz1 hz2 rfl (by decide) _ _ _ rfl (HK4.out.1.alloc _) ⟨w3.heap.size, 0, none⟩ 1 1 [.int .i64 (k : Int)] rfl rfl ?c1 ?c2 ?c3 ?c4 ?c5 ?_)
            case c1 => exact one_new10 _ _ _
            case c2 => simp [Value.oneCell']
            case c3 => unfold maxLen; omega
            case c4 => omega
            case c5 => exact Nat.le_trans HK4.out.2.2 (by simp)
            intro v' w4 hown' hgrow _
            have hR := Lib.hid (coll_push (x := (k : Int)) HK4.out hown' hgrow)
            clear hown' hgrow
            go_wp2_with fail
            go_roundw
            case rel => exact ⟨k + 1, by omega, by go_num, by rw [HNX.out]; exact hR.out⟩
            case measure => simp [intOf]; omega
      · have hlt2 : ¬ ((k : Int) + 1 < (n : Int)) := by omega
        have HE : Hid (L = freeTo l (l.length + 1)) := Lib.hid (by
          have := freeTo_more (l := l) (k := k) (by rw [hlen.out, ← HN.out]; omega) (l.length + 1 - k)
          rw [HL.out, ← this]
          congr 1
          have := hlen.out
          have := HN.out
          omega)
        rw [HE.out] at HK
        have HR := Lib.hid (coll_res HK.out)
        clear hlt
        go_wp2_with fail
        go_ret2
        exact ⟨_, rfl, HR.out.1, HR.out.2⟩
end Go.Proofs.Ytpaijobmoddgpaa
