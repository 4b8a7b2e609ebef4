/- Contracts of the helpers of FnWords and FnTurns: laws.rBig, laws.rInts, laws.rReduce. Conditions: lengths that fit. -/
import Derived.Test.YteidddagpnfalaaReduceWalks
import Derived.Test.YteidddagpnfalaaIntsWalks
namespace Go.Proofs.Yteidddagpnfalaa
open Go.ChangeShapes Go.WideShapes Go.ChangeAt Go.RowKit
set_option linter.unusedVariables false

theorem rBig_any (a : Option Addr) (len cap : Nat) (w : World) (h : len ≤ 9223372036854775807) : Calls Try.prog 31 #[.slice a len cap] w fun e w' => e = .returned (.bool (decide (65536 < len))) ∧ w = w' := by
  by_cases hb : 65536 < len
  · go_enter Try.func31, Try.ntmps31
    go_wp2
    go_ret
    exact ⟨by simp [hb]; omega, rfl⟩
  · go_enter Try.func31, Try.ntmps31
    go_wp2
    go_ret
    exact ⟨by simp [hb]; omega, rfl⟩

set_option maxHeartbeats 400000 in
theorem rInts_any (a b : Option Addr) (ca cb : Nat) (xs ys : List Int) (w : World) (ha : Hid (Ints w a xs)) (hb : Hid (Ints w b ys)) (hn : xs.length ≤ 9223372036854775807) :
    Calls Try.prog 35 #[.slice a xs.length ca, .slice b ys.length cb] w (EqPost (decide (xs = ys)) w) := by
  by_cases hl : xs.length = ys.length
  · have HL := Lib.hid hl
    have hll : ((xs.length : Int) != (ys.length : Int)) = false := by rw [hl]; simp
    have hll2 : ((xs.length : Int) == (ys.length : Int)) = true := by rw [hl]; simp
    clear hl
    go_enter Try.func35, Try.ntmps35
    go_wp2_with fail
    go_loopw [5] (fun i wr => ∃ k : Nat, k ≤ xs.length ∧ i = .int .i64 k ∧ Agree xs ys k ∧ ∃ n, wr = w.drewN n) (fun i _ => xs.length - (intOf i).toNat)
    case atStart => exact ⟨0, Nat.zero_le _, rfl, agree_zero _ _, 0, rfl⟩
    case round =>
      obtain ⟨k, hk, rfl, hag, n, rfl⟩ := hrel
      have HA := Lib.hid hag
      clear hag
      by_cases hlt : k < xs.length
      · obtain ⟨x, hx⟩ := at_some xs k hlt
        obtain ⟨y, hy⟩ := at_some ys k (by have := HL.out; omega)
        obtain ⟨b, o, rfl, hc⟩ := ha.out k x hx
        obtain ⟨b2, o2, rfl, hd⟩ := hb.out k y hy
        have HX := Lib.hid hx
        have HY := Lib.hid hy
        have hlt2 : k < ys.length := at_lt hy
        have hi : (k : Int) < (xs.length : Int) := by omega
        have hi2 : (k : Int) < (ys.length : Int) := by omega
        have hi0 : (0 : Int) ≤ (k : Int) := by omega
        clear hx hy
        by_cases he : x = y
        · subst he
          go_wp2
          go_quiet (fail)
          go_wp2
          go_roundw
          case rel => exact ⟨k + 1, by omega, by go_num, agree_succ HA.out HX.out HY.out, _, rfl⟩
          case measure => simp [intOf]; omega
        · have hne : (x == y) = false := by simpa using he
          have hne2 : (x != y) = true := by simpa using he
          have HD := Lib.hid (eq_differ HX.out HY.out he)
          clear he
          go_wp2
          go_quiet (fail)
          go_wp2
          go_ret
          exact ⟨ret_bool HD.out.symm, _, World.drewN_drewN _ _ _⟩
      · have HD := Lib.hid (eq_agree HL.out (fun j x y hj => HA.out j x y (by omega)))
        have hi : ¬ (k : Int) < (xs.length : Int) := by omega
        go_wp2
        go_ret
        exact ⟨ret_bool HD.out.symm, n, rfl⟩
  · have hll : ((xs.length : Int) != (ys.length : Int)) = true := by simp; omega
    have hll2 : ((xs.length : Int) == (ys.length : Int)) = false := by simp; omega
    have HD : Hid (decide (xs = ys) = false) := Lib.hid (by rw [decide_eq_false_iff_not]; rintro rfl; exact hl rfl)
    clear hl
    go_enter Try.func35, Try.ntmps35
    go_wp2_with fail
    go_ret
    exact ⟨ret_bool HD.out.symm, 0, rfl⟩
/-- Equal lists. -/
theorem rInts_same (a b : Option Addr) (ca cb : Nat) (xs : List Int) (w : World) (ha : Hid (Ints w a xs)) (hb : Hid (Ints w b xs)) (hn : xs.length ≤ 9223372036854775807) :
    Calls Try.prog 35 #[.slice a xs.length ca, .slice b xs.length cb] w fun e w' => e = .returned (.bool true) ∧ Below w.heap.size w w' := by
  refine (rInts_any a b ca cb xs xs w ha hb hn).mono fun e w' h => ?_
  obtain ⟨rfl, hb⟩ := h.on
  exact ⟨by simp, hb⟩

set_option maxRecDepth 100000 in
set_option maxHeartbeats 800000 in
theorem rReduce_any (a : Option Addr) (cap : Nat) (xs : List Int) (w : World) (h : Hid (Ints w a xs)) (hl : Hid (Plain.Letters xs)) (hn : xs.length ≤ 1048576) :
    Calls Try.prog 57 #[.slice a xs.length cap] w (RedPost xs w) := by
  obtain ⟨i0, hi0, hz0, hz1, hz2⟩ := info_parts infoInt
  go_enter Try.func57, Try.ntmps57
  go_wp2
  go_loopw [3, 4] (fun v i wr => ∃ k : Nat, k ≤ xs.length ∧ i = .int .i64 k ∧ Kept (Plain.stack [] (xs.take k)) w.heap.size w v wr) (fun _ i _ => xs.length - (intOf i).toNat)
  case atStart => exact ⟨0, Nat.zero_le _, rfl, kept_start w⟩
  case round =>
    obtain ⟨k, hk, rfl, hrel⟩ := hrel
    have hsl := Plain.stack_length (xs.take k) []
    have htl : (xs.take k).length ≤ k := List.length_take_le _ _
    by_cases hlt : k < xs.length
    · obtain ⟨x, hx⟩ := at_some xs k hlt
      obtain ⟨b, o, rfl, hc0⟩ := h.out k x hx
      obtain ⟨hx0, hx1, hx2⟩ := hl.out.at hx
      have HS := Lib.hid (Plain.red_take hx)
      obtain ⟨st, hst⟩ : ∃ st, st = Plain.stack [] (xs.take k) := ⟨_, rfl⟩
      rw [← hst] at HS hrel hsl
      clear hst hx
      obtain ⟨g, cp, rfl⟩ := kept_len hrel
      have hi : (k : Int) < (xs.length : Int) := by omega
      have hi0' : (0 : Int) ≤ (k : Int) := by omega
      have hb0 : Below w.heap.size w wr := hrel.choose_spec.choose_spec.2.2.1
      have hc : wr.cell? ⟨b, o + k, none⟩ = some (.int .i64 x) := cell_later hb0 hc0
      clear hb0 hc0
      cases st with
      | nil =>
        have hd : decide ((0 : Int) < 0) = false := by decide
        have HK := Lib.hid hrel
        have HO := Lib.hid (kept_owns hrel)
        clear hrel
        have HP : Hid (Plain.push [] x = [x]) := Lib.hid rfl
        go_wp2
        go_quiet (fail)
        go_wp2_with (at_builtin; refine wpList_append_own _ rfl _ _ 24 rfl w.heap.size 3 i0 (.int .i64 0) 1 8 Try.underlying24 hi0 hz0 hz1 hz2 rfl (by decide) _ _ _ rfl ((HO.out _).1.alloc _) ⟨wr.heap.size, 0, none⟩ 1 1 [.int .i64 x] rfl rfl ?c1 ?c2 ?c3 ?c4 ?c5 ?_)
        case c1 => exact cell_one_new _ _ _
        case c2 => simp [Value.oneCell']
        case c3 => unfold maxLen; simp
        case c4 => simp
        case c5 => exact Nat.le_trans (HO.out 0).2 (by simp)
        intro v' w1 hown' hgrow _
        have hR := Lib.hid (kept_push (x := x) _ HK.out (by simp) (by simp) hown' hgrow)
        clear hown' hgrow
        go_wp2
        go_roundw
        case rel => exact ⟨k + 1, by omega, by go_num, by rw [HS.out, HP.out]; exact hR.out⟩
        case measure => simp [intOf]; omega
      | cons y t =>
        have ht : t.length + 1 ≤ 1048576 := by simp at hsl; omega
        clear hsl htl
        have hcy := kept_cell hrel
        obtain ⟨hcap1, hcap2⟩ := kept_cap hrel
        simp only [List.length_cons] at hcap1
        have hcap3 : (t.length : Int) ≤ (cp : Int) := by omega
        have hd : decide ((0 : Int) < (t.length : Int) + 1) = true := by rw [decide_eq_true_iff]; omega
        have hj1 : (0 : Int) ≤ (t.length : Int) := by omega
        have HK := Lib.hid hrel
        have HO := Lib.hid (kept_owns hrel)
        clear hrel
        by_cases he : y = -x
        · have hq : (y == -x) = true := by simpa using he
          have HP := Lib.hid (Plain.push_hit (st := y :: t) (x := x) (by rw [he]))
          clear he
          go_wp2
          go_quiet (fail)
          go_wp2
          go_roundw
          case rel => exact ⟨k + 1, by omega, by go_num, by rw [HS.out, HP.out]; exact kept_pop HK.out _⟩
          case measure => simp [intOf]; omega
        · have hq : (y == -x) = false := by simpa using he
          have HP := Lib.hid (Plain.push_miss (st := y :: t) (x := x) (fun u hu => he (by injection hu)))
          clear he
          go_wp2
          go_quiet (fail)
          go_wp2_with (at_builtin; refine wpList_append_own _ rfl _ _ 24 rfl w.heap.size 3 i0 (.int .i64 0) 1 8 Try.underlying24 hi0 hz0 hz1 hz2 rfl (by decide) _ _ _ rfl ((HO.out _).1.alloc _) ⟨wr.heap.size, 0, none⟩ 1 1 [.int .i64 x] rfl rfl ?d1 ?d2 ?d3 ?d4 ?d5 ?_)
          case d1 => exact cell_one_new _ _ _
          case d2 => simp [Value.oneCell']
          case d3 => unfold maxLen; simp; omega
          case d4 => simp; omega
          case d5 => exact Nat.le_trans (HO.out 0).2 (by simp)
          intro v' w1 hown' hgrow _
          have hR := Lib.hid (kept_push (x := x) _ HK.out (by simp) (by simp) hown' hgrow)
          clear hown' hgrow
          go_wp2
          go_roundw
          case rel => exact ⟨k + 1, by omega, by go_num, by rw [HS.out, HP.out]; exact hR.out⟩
          case measure => simp [intOf]; omega
    · obtain rfl : k = xs.length := by omega
      rw [List.take_length] at hrel
      obtain ⟨g, cp, rfl⟩ := kept_len hrel
      have hR : Hid (Res w.heap.size wr _ (Plain.red xs)) := Lib.hid (kept_res hrel)
      have hb : Hid (Below w.heap.size w wr) := Lib.hid hrel.choose_spec.choose_spec.2.2.1
      clear hrel
      go_wp2
      go_ret
      exact ⟨_, rfl, hR.out, hb.out⟩


end Go.Proofs.Yteidddagpnfalaa
