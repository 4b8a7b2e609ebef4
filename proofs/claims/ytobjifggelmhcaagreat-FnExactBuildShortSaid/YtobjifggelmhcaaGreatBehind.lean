/- Contract: impl.lettersBehind. Conditions: letters, a length that fits, at most six nails. -/
import Derived.Test.YtobjifggelmhcaaGreatBehindMath
import Derived.Test.YtobjifggelmhcaaGreatSetKit
import Derived.Test.YtobjifggelmhcaaGreatLists
namespace Go.Proofs.YtobjifggelmhcaaGreat
open Go.ChangeShapes Go.WideShapes Go.ChangeAt Go.RowKit
set_option linter.unusedVariables false

theorem pair_letter (t : Nat) {j : Nat} (hj : j < 2) : [(t : Int) + 1, -((t : Int) + 1)][j]? = some (Plain.letterAt (2 * t + j)) := by
  have : j = 0 ∨ j = 1 := by omega
  rcases this with rfl | rfl
  · simp only [List.getElem?_cons_zero, Plain.letterAt, Option.some.injEq]
    rw [if_pos (by omega)]; omega
  · simp only [List.getElem?_cons_succ, List.getElem?_cons_zero, Plain.letterAt, Option.some.injEq]
    rw [if_neg (by omega)]; omega
/-- A list that is appended to, beside another one in a block of its own. -/
theorem pushed_beside {L ys : List Int} {x : Int} {B G : Nat} {w wr w1 : World} {v v' : Value} {o : Obj} (h : Coll L B w v wr) (hi : Ints wr (some ⟨G, 0, none⟩) ys) (hg : G < wr.heap.size) (hn : ∀ g, v.ownBlock = some g → g ≠ G)
    (hown : w1.ownsRow B 3 1 v' (L.length + 1) (nums L ++ [.int .i64 x])) (hgrow : (wr.alloc o).grownBy w1 v.ownBlock) (hat : v'.ownBlock = v.ownBlock ∨ v'.ownBlock = some (wr.heap.size + 1)) :
    Ints w1 (some ⟨G, 0, none⟩) ys ∧ Coll (L ++ [x]) B w v' w1 ∧ G < w1.heap.size ∧ ∀ g, v'.ownBlock = some g → g ≠ G := by
  have hs : (wr.alloc o).heap.size = wr.heap.size + 1 := by simp
  refine ⟨fun j y hy => ?_, coll_push h hown hgrow, by have := hgrow.size; omega, fun g hg' => ?_⟩
  · obtain ⟨b, o', e, hc⟩ := (hi.on ((Below.refl _ wr).alloc (Nat.le_refl _) o)) j y hy
    cases e
    exact ⟨_, _, rfl, hgrow.cell hc (fun e => hn G e.symm rfl)⟩
  · rcases hat with e | e
    · exact hn g (by rw [← e]; exact hg')
    · rw [hg'] at e
      simp only [Option.some.injEq] at e
      omega
set_option maxRecDepth 100000 in
set_option maxHeartbeats 2000000 in
theorem behindC_any (a : Option Addr) (len cap : Nat) (xs : List Int) (n : Nat) (w : World) (h : Hid (Ints w a xs)) (hl : Hid (Plain.Letters xs)) (hlen : Hid (xs.length = len)) (hn : len ≤ 1048576) (h6 : n ≤ 6) :
    Calls Tryz.prog 107 #[.slice a len cap, .int .i64 (n : Int)] w (fun e w' => ∃ v, e = .returned v ∧ Coll (Plain.behind xs (2 * n)) w.heap.size w v w') := by
  obtain ⟨i0, hi0, hz0, hz1, hz2⟩ := info_parts infoInt
  go_enter Tryz.func107, Tryz.ntmps107
  go_wp2_with fail
  go_loopw [5, 6] (fun v i wr => ∃ t : Nat, t ≤ n ∧ i = .int .i64 ((t : Int) + 1) ∧ Coll (Plain.behind xs (2 * t)) w.heap.size w v wr) (fun _ i _ => n + 1 - (intOf i).toNat)
  case atStart => exact ⟨0, Nat.zero_le _, rfl, coll_start w⟩
  case round =>
    obtain ⟨t, ht, rfl, hrel⟩ := hrel
    by_cases hlt : t < n
    · have HK := Lib.hid hrel
      have hi : (t : Int) + 1 ≤ (n : Int) := by omega
      have hi0' : (0 : Int) ≤ (t : Int) := by omega
      have ht6 : t < 6 := by omega
      clear hrel
      go_wp2_with fail
      have hpk := (facOk_lit wr [(t : Int) + 1, -((t : Int) + 1)] (by simp)).mono HK.out.2.2
      have hka := HK.out.later ((Below.refl _ wr).alloc (Nat.le_refl _) (.cells (nums [(t : Int) + 1, -((t : Int) + 1)]).toArray 3))
      have hnb : ∀ g, u5.ownBlock = some g → g < wr.heap.size := fun g hg => (HK.out.1.lt g hg).2
      have HP := Lib.hid (And.intro hpk.1 (And.intro hka hnb))
      clear hpk hka hnb
      obtain ⟨W1, hW1⟩ : ∃ W1, W1 = wr.alloc (.cells #[.int .i64 ((t : Int) + 1), .int .i64 (-((t : Int) + 1))] 3) := ⟨_, rfl⟩
      have hW1s : wr.heap.size < W1.heap.size := by rw [hW1]; simp
      obtain ⟨G, hG⟩ : ∃ G, G = wr.heap.size := ⟨_, rfl⟩
      have HP2 : Hid (Ints W1 (some ⟨G, 0, none⟩) [(t : Int) + 1, -((t : Int) + 1)] ∧ Coll (Plain.behind xs (2 * t)) w.heap.size w u5 W1 ∧ G < W1.heap.size ∧ ∀ g, u5.ownBlock = some g → g ≠ G) := Lib.hid (by rw [hW1, hG]; exact ⟨HP.out.1, HP.out.2.1, by simp, fun g hg => by have := HP.out.2.2 g hg; omega⟩)
      rw [← hW1]
      clear hW1 HP HK hW1s
      rw [← hG] at ⊢
      clear hG
      go_loopw [5, 20] (fun v i wr => ∃ j : Nat, j ≤ 2 ∧ i = .int .i64 j ∧ Ints wr (some ⟨G, 0, none⟩) [(t : Int) + 1, -((t : Int) + 1)] ∧ Coll (Plain.behind xs (2 * t + j)) w.heap.size w v wr ∧ G < wr.heap.size ∧ ∀ g, v.ownBlock = some g → g ≠ G) (fun _ i _ => 2 - (intOf i).toNat)
      case atStart => exact ⟨0, Nat.zero_le _, rfl, HP2.out⟩
      case round =>
        clear HP2
        obtain ⟨j, hj, rfl, hpr, hrel, hgs, hgn⟩ := hrel
        by_cases hlt2 : j < 2
        · have hle := Plain.behind_le xs (2 * t + j)
          have HR2 := Lib.hid (Plain.behind_step xs (2 * t + j))
          have hxr := Plain.letterAt_ok (2 * t + j) (by omega)
          have hxa := pair_letter t hlt2
          obtain ⟨x, hx⟩ : ∃ x, x = Plain.letterAt (2 * t + j) := ⟨_, rfl⟩
          rw [← hx] at HR2 hxr hxa
          obtain ⟨bb, oo, ee, hcx⟩ := hpr j x hxa
          cases ee
          rw [Nat.zero_add] at hcx
          have HK := Lib.hid hrel
          have HP := Lib.hid (And.intro hpr (And.intro hgs hgn))
          have HB := Lib.hid hrel.2.1
          have hi3 : (j : Int) < 2 := by omega
          have hi3' : (0 : Int) ≤ (j : Int) := by omega
          obtain ⟨L, hL⟩ : ∃ L, L = Plain.behind xs (2 * t + j) := ⟨_, rfl⟩
          rw [← hL] at hle HR2 HK
          clear hrel hpr hx hxa hgs hgn hL
          have hll : L.length ≤ 12 := by omega
          by_cases hs : Plain.stays xs x = true
          · have HR3 : Hid (Plain.behind xs (2 * t + j + 1) = L ++ [x]) := Lib.hid (by rw [HR2.out, if_pos hs])
            clear HR2
            cases len with
            | zero =>
              clear hs
              go_wp2_with (at_builtin; refine wpList_append_own_at _ rfl _ _ 22 rfl w.heap.size 3 i0 (.int .i64 0) 1 8 Tryz.underlying22 hi0 hz0 hz1 hz2 rfl (by decide) _ _ _ rfl (HK.out.1.alloc _) ⟨wr.heap.size, 0, none⟩ 1 1 [.int .i64 x] rfl rfl ?c1 ?c2 ?c3 ?c4 ?c5 ?_)
              case c1 => exact cell_one_new _ _ _
              case c2 => simp [Value.oneCell']
              case c3 => unfold maxLen; omega
              case c4 => omega
              case c5 => exact Nat.le_trans HK.out.2.2 (by simp)
              intro v' w5 hown' hgrow _ hat
              have hR := Lib.hid (pushed_beside HK.out HP.out.1 HP.out.2.1 HP.out.2.2 hown' hgrow hat)
              clear hown' hgrow hat
              go_wp2_with fail
              go_roundw
              case rel => exact ⟨j + 1, by omega, by go_num, hR.out.1, by rw [← Nat.add_assoc, HR3.out]; exact hR.out.2⟩
              case measure => simp [intOf]; omega
            | succ m =>
              obtain ⟨y, hy⟩ := at_some xs m (by have := hlen.out; omega)
              obtain ⟨b, o, rfl, hc⟩ := (h.out.on HB.out) m y hy
              have hyx : y ≠ -x := by
                have h2 := Plain.stays_some (w := xs) (y := y) (by rw [hlen.out]; exact hy) x
                rw [hs] at h2
                simpa using h2.symm
              have hq : (y != -x) = true := by simpa using hyx
              clear hs hy hyx
              go_wp2_with (at_builtin; refine wpList_append_own_at _ rfl _ _ 22 rfl w.heap.size 3 i0 (.int .i64 0) 1 8 Tryz.underlying22 hi0 hz0 hz1 hz2 rfl (by decide) _ _ _ rfl (HK.out.1.alloc _) ⟨wr.heap.size, 0, none⟩ 1 1 [.int .i64 x] rfl rfl ?c1 ?c2 ?c3 ?c4 ?c5 ?_)
              case c1 => exact cell_one_new _ _ _
              case c2 => simp [Value.oneCell']
              case c3 => unfold maxLen; omega
              case c4 => omega
              case c5 => exact Nat.le_trans HK.out.2.2 (by simp)
              intro v' w5 hown' hgrow _ hat
              have hR := Lib.hid (pushed_beside HK.out HP.out.1 HP.out.2.1 HP.out.2.2 hown' hgrow hat)
              clear hown' hgrow hat
              go_wp2_with fail
              go_roundw
              case rel => exact ⟨j + 1, by omega, by go_num, hR.out.1, by rw [← Nat.add_assoc, HR3.out]; exact hR.out.2⟩
              case measure => simp [intOf]; omega
          · have HR3 : Hid (Plain.behind xs (2 * t + j + 1) = L) := Lib.hid (by rw [HR2.out, if_neg hs])
            clear HR2
            cases len with
            | zero => exact absurd (by obtain rfl := List.eq_nil_of_length_eq_zero hlen.out; exact Plain.stays_nil x) hs
            | succ m =>
              obtain ⟨y, hy⟩ := at_some xs m (by have := hlen.out; omega)
              obtain ⟨b, o, rfl, hc⟩ := (h.out.on HB.out) m y hy
              have hyx : y = -x := by
                have h2 := Plain.stays_some (w := xs) (y := y) (by rw [hlen.out]; exact hy) x
                rw [Bool.eq_false_iff.2 hs] at h2
                simpa using h2.symm
              have hq : (y != -x) = false := by simpa using hyx
              clear hs hy hyx
              go_wp2_with fail
              go_roundw
              case rel => exact ⟨j + 1, by omega, by go_num, HP.out.1, by rw [← Nat.add_assoc, HR3.out]; exact HK.out, HP.out.2⟩
              case measure => simp [intOf]; omega
        · obtain rfl : j = 2 := by omega
          have HK := Lib.hid hrel
          clear hrel hpr hgs hgn
          go_wp2_with fail
          go_roundw
          case rel => exact ⟨t + 1, by omega, by go_num, HK.out⟩
          case measure => simp [intOf]; omega
    · obtain rfl : t = n := by omega
      have HR := Lib.hid hrel
      have hi2 : ¬ ((t : Int) + 1 ≤ (t : Int)) := by omega
      clear hrel
      go_wp2_with fail
      go_ret
      exact ⟨_, rfl, HR.out⟩
theorem behind_any (a : Option Addr) (len cap : Nat) (xs : List Int) (n : Nat) (w : World) (h : Hid (Ints w a xs)) (hl : Hid (Plain.Letters xs)) (hlen : Hid (xs.length = len)) (hn : len ≤ 1048576) (h6 : n ≤ 6) :
    Calls Tryz.prog 107 #[.slice a len cap, .int .i64 (n : Int)] w (ListPost (Plain.behind xs (2 * n)) w) :=
  (behindC_any a len cap xs n w h hl hlen hn h6).mono fun e w' ⟨v, e1, hc⟩ => ⟨v, e1, (coll_res hc).1, (coll_res hc).2⟩

end Go.Proofs.YtobjifggelmhcaaGreat
