/- Contract: spec's l10Points: the points of a path. Condition: texts of at most 2^40 bytes. -/
import Derived.Test.YtpaijobmoddgpaaPathBase
namespace Go.Proofs.Ytpaijobmoddgpaa
open Go.ChangeShapes Go.WideShapes Go.ChangeAt Go.RowKit
set_option linter.unusedVariables false
set_option linter.unusedSimpArgs false

theorem infoPtA : (Try.prog.info? 23).map (fun i => (i.zero, i.size, i.bytes)) = some (some (.agg #[.int .i64 0, .int .i64 0]), 2, 16) := by kernel_rfl
/-- What a text's points come to. -/
def PointsPost (l : List UInt8) (w : World) (e : Ending) (w' : World) : Prop := ∃ v L, e = .returned (.tuple #[v, .bool (Plain.pathB l)]) ∧ PtsRes 23 w.heap.size w' v L ∧ (Plain.pathB l = true → L = Plain.pts l) ∧ Below w.heap.size w w'
theorem PointsPost.no {l : List UInt8} {w w' : World} {e : Ending} {L : List Plain.Pt} {v : Value} (h : Plain.pathB l = false) (he : e = .returned (.tuple #[v, .bool false])) (hc : Coll2 23 L w.heap.size w v w') : PointsPost l w e w' :=
  ⟨v, L, by rw [he, h], hc.1, (fun e => by rw [h] at e; cases e), hc.2.1⟩
theorem PointsPost.yes {l : List UInt8} {w w' : World} {e : Ending} {v : Value} (h : Plain.pathB l = true) (he : e = .returned (.tuple #[v, .bool true])) (hc : Coll2 23 (Plain.pts l) w.heap.size w v w') : PointsPost l w e w' :=
  ⟨v, _, by rw [he, h], hc.1, fun _ => rfl, hc.2.1⟩
theorem bytes_at {s : ByteArray} {l : List UInt8} (hl : l = s.data.toList) {k : Nat} (h : k < s.size) : l[k]? = some s[k] := by
  subst hl
  have : k < s.data.toList.length := by simpa using h
  rw [List.getElem?_eq_getElem this]; rfl
set_option maxRecDepth 100000 in
set_option maxHeartbeats 4000000 in
theorem l10Points_any (s : ByteArray) (l : List UInt8) (hl0 : Hid (l = s.data.toList)) (w : World) (hs : s.size ≤ 9223372036854775807) : Calls Try.prog 54 #[.string s] w (PointsPost l w) := by
  obtain ⟨i0, hi0, hz0, hz1, hz2⟩ := info_parts infoPtA
  have hlen : Hid (l.length = s.size) := Lib.hid (by rw [hl0.out]; simp)
  have HSt := Lib.hid (coll2_one 23 w (0, 0))
  by_cases h4 : 400 < s.size
  · have HN : Hid (Plain.pathB l = false) := Lib.hid (by unfold Plain.pathB; rw [hlen.out]; simp; omega)
    go_enter Try.func54, Try.ntmps54
    go_wp2_with fail
    go_ret2
    exact PointsPost.no HN.out rfl HSt.out
  · have HPB : Hid (Plain.pathB l = Plain.okTo l s.size) := Lib.hid (by unfold Plain.pathB; rw [hlen.out]; simp; omega)
    go_enter Try.func54, Try.ntmps54
    go_wp2_with fail
    go_loopw [4, 5, 6, 7] (fun v x y i wr => ∃ k : Nat, k ≤ s.size ∧ i = .int .i64 k ∧ Plain.okTo l k = true ∧ x = .int .i64 (Plain.atP l k).1 ∧ y = .int .i64 (Plain.atP l k).2 ∧ Coll2 23 (Plain.ptsTo l k) w.heap.size w v wr) (fun _ _ _ i _ => s.size - (intOf i).toNat)
    case atStart => exact ⟨0, Nat.zero_le _, rfl, rfl, rfl, rfl, by rw [Plain.ptsTo_zero]; exact HSt.out⟩
    case round =>
      obtain ⟨k, hk, rfl, hok, rfl, rfl, hrel⟩ := hrel
      have HC := Lib.hid hrel
      have HOK := Lib.hid hok
      obtain ⟨px, py, hP⟩ : ∃ px py, Plain.atP l k = (px, py) := ⟨_, _, rfl⟩
      have hbd := Plain.at_bd hok (Nat.le_refl k)
      rw [hP] at hbd
      simp only [hP]
      obtain ⟨hb1, hb2, hb3, hb4⟩ := hbd
      simp only [] at hb1 hb2 hb3 hb4
      clear hrel hok
      by_cases hlt : k < s.size
      · have hb := bytes_at hl0.out hlt
        have hd := Plain.dx_bd s[k]
        obtain ⟨hd1, hd2, hd3, hd4⟩ := hd
        have HX := Lib.hid (Plain.atP_step hb)
        have HY := Lib.hid (Plain.okTo_get hb)
        rw [hP] at HX HY
        have HPS := Lib.hid (Plain.ptsTo_step l k)
        rw [HX.out] at HPS
        have HP := Lib.hid hP
        clear hb hP
        cases hst : Plain.isStepB s[k] with
        | false =>
          have HN : Hid (Plain.pathB l = false) := Lib.hid (by rw [HPB.out]; exact Plain.okTo_no (by rw [HY.out, hst]; simp) hlt)
          have HCL : Hid (∀ W, Calls Try.prog 87 #[.int .u8 s[k].toNat] W fun e w' => e = .returned (.tuple #[.int .i64 (Plain.dxB s[k]), .int .i64 (Plain.dyB s[k]), .bool false]) ∧ W = w') := Lib.hid (fun W => by have := l10Step_any s[k] W; unfold StepPost at this; rw [hst] at this; exact this)
          clear hst
          go_wp2_with fail
          refine (HCL.out _).mono ?_
          rintro e w' ⟨rfl, rfl⟩
          go_wp2_with fail
          go_ret2
          exact PointsPost.no HN.out rfl HC.out
        | true =>
          rw [hst] at HY
          have HCL : Hid (∀ W, Calls Try.prog 87 #[.int .u8 s[k].toNat] W fun e w' => e = .returned (.tuple #[.int .i64 (Plain.dxB s[k]), .int .i64 (Plain.dyB s[k]), .bool true]) ∧ W = w') := Lib.hid (fun W => by have := l10Step_any s[k] W; unfold StepPost at this; rw [hst] at this; exact this)
          clear hst
          cases hx : decide (-12 ≤ px + Plain.dxB s[k] ∧ px + Plain.dxB s[k] ≤ 12) with
          | false =>
            have HN : Hid (Plain.pathB l = false) := Lib.hid (by
              rw [HPB.out]; refine Plain.okTo_no ?_ hlt; rw [HY.out]
              have : Plain.inGrid (Plain.nextP (px, py) s[k]) = false := by
                cases hg : Plain.inGrid (Plain.nextP (px, py) s[k]) with
                | false => rfl
                | true => have := Plain.grid_bd hg; simp [Plain.nextP] at this; simp at hx; omega
              rw [this]; simp)
            have HCX : Hid (∀ W, Calls Try.prog 84 #[.int .i64 (px + Plain.dxB s[k]), .int .i64 (-12), .int .i64 12] W fun e w' => e = .returned (.bool false) ∧ W = w') := Lib.hid (fun W => by have := l1In_any (px + Plain.dxB s[k]) (-12) 12 W (by omega); rw [hx] at this; exact this)
            clear hx
            go_wp2_with fail
            refine (HCL.out _).mono ?_
            rintro e w' ⟨rfl, rfl⟩
            go_wp2_with fail
            refine (HCX.out _).mono ?_
            rintro e w' ⟨rfl, rfl⟩
            go_wp2_with fail
            go_ret2
            exact PointsPost.no HN.out rfl HC.out
          | true =>
            have HCX : Hid (∀ W, Calls Try.prog 84 #[.int .i64 (px + Plain.dxB s[k]), .int .i64 (-12), .int .i64 12] W fun e w' => e = .returned (.bool true) ∧ W = w') := Lib.hid (fun W => by have := l1In_any (px + Plain.dxB s[k]) (-12) 12 W (by omega); rw [hx] at this; exact this)
            have hx2 : -12 ≤ px + Plain.dxB s[k] ∧ px + Plain.dxB s[k] ≤ 12 := by simpa using hx
            clear hx
            cases hy : decide (-12 ≤ py + Plain.dyB s[k] ∧ py + Plain.dyB s[k] ≤ 12) with
            | false =>
              have HN : Hid (Plain.pathB l = false) := Lib.hid (by
                rw [HPB.out]; refine Plain.okTo_no ?_ hlt; rw [HY.out]
                have : Plain.inGrid (Plain.nextP (px, py) s[k]) = false := by
                  cases hg : Plain.inGrid (Plain.nextP (px, py) s[k]) with
                  | false => rfl
                  | true => have := Plain.grid_bd hg; simp [Plain.nextP] at this; simp at hy; omega
                rw [this]; simp)
              have HCY : Hid (∀ W, Calls Try.prog 84 #[.int .i64 (py + Plain.dyB s[k]), .int .i64 (-12), .int .i64 12] W fun e w' => e = .returned (.bool false) ∧ W = w') := Lib.hid (fun W => by have := l1In_any (py + Plain.dyB s[k]) (-12) 12 W (by omega); rw [hy] at this; exact this)
              clear hy hx2
              go_wp2_with fail
              refine (HCL.out _).mono ?_
              rintro e w' ⟨rfl, rfl⟩
              go_wp2_with fail
              refine (HCX.out _).mono ?_
              rintro e w' ⟨rfl, rfl⟩
              go_wp2_with fail
              refine (HCY.out _).mono ?_
              rintro e w' ⟨rfl, rfl⟩
              go_wp2_with fail
              go_ret2
              exact PointsPost.no HN.out rfl HC.out
            | true =>
              have HCY : Hid (∀ W, Calls Try.prog 84 #[.int .i64 (py + Plain.dyB s[k]), .int .i64 (-12), .int .i64 12] W fun e w' => e = .returned (.bool true) ∧ W = w') := Lib.hid (fun W => by have := l1In_any (py + Plain.dyB s[k]) (-12) 12 W (by omega); rw [hy] at this; exact this)
              have hy2 : -12 ≤ py + Plain.dyB s[k] ∧ py + Plain.dyB s[k] ≤ 12 := by simpa using hy
              have HK : Hid (Plain.okTo l (k + 1) = true) := Lib.hid (by
                rw [HY.out, HOK.out]
                have : Plain.inGrid (Plain.nextP (px, py) s[k]) = true := decide_eq_true ⟨hx2.1, hx2.2, hy2.1, hy2.2⟩
                rw [this]; rfl)
              clear hy hx2 hy2
              obtain ⟨L, hL⟩ : ∃ L, L = Plain.ptsTo l k := ⟨_, rfl⟩
              have hLn : L.length = k + 1 := by rw [hL, Plain.ptsTo_length]
              rw [← hL] at HC HPS
              have HLn := Lib.hid hLn
              have hLn2 : L.length ≤ 401 := by omega
              clear hL hLn
              go_wp2_with fail
              refine (HCL.out _).mono ?_
              rintro e w' ⟨rfl, rfl⟩
              go_wp2_with fail
              refine (HCX.out _).mono ?_
              rintro e w' ⟨rfl, rfl⟩
              go_wp2_with fail
              refine (HCY.out _).mono ?_
              rintro e w' ⟨rfl, rfl⟩
              go_wp2_with (at_builtin; refine wpList_append_own _ rfl _ _ 55 rfl w.heap.size 23 i0 (.agg #[.int .i64 0, .int .i64 0]) 2 16 Try.underlying55 hi0 hz0 hz1 hz2 rfl (by decide) _ _ _ rfl (World.ownsRow.alloc HC.out.1 _) ⟨wr.heap.size, 0, none⟩ 1 1 [.int .i64 (px + Plain.dxB s[k]), .int .i64 (py + Plain.dyB s[k])] rfl rfl ?c1 ?c2 ?c3 ?c4 ?c5 ?_)
              case c1 => exact two_new _ _ _ _
              case c2 => simp [Value.oneCell']
              case c3 => unfold maxLen; omega
              case c4 => omega
              case c5 => exact Nat.le_trans HC.out.2.2 (by simp)
              intro v' w2 hown' hgrow _
              have hR := Lib.hid (Coll2.push (p := Plain.nextP (px, py) s[k]) HC.out hown' hgrow)
              clear hown' hgrow
              go_wp2_with fail
              go_roundw
              case rel => exact ⟨k + 1, by omega, by go_num, HK.out, by rw [HX.out]; rfl, by rw [HX.out]; rfl, by rw [HPS.out]; exact hR.out⟩
              case measure => simp [intOf]; omega
      · obtain rfl : k = s.size := by omega
        have HY : Hid (Plain.pathB l = true) := Lib.hid (by rw [HPB.out]; exact HOK.out)
        have HR : Hid (Coll2 23 (Plain.pts l) w.heap.size w u4 wr) := Lib.hid (by unfold Plain.pts; rw [hlen.out]; exact HC.out)
        clear hlt hP
        go_wp2_with fail
        go_ret2
        exact PointsPost.yes HY.out rfl HR.out
end Go.Proofs.Ytpaijobmoddgpaa
