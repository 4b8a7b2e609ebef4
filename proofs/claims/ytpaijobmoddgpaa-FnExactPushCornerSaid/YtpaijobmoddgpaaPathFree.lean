/- Contracts: spec's l10Corner, l10Free; FreeCorners of both programs. Conditions: texts that fit; numbers of 64 bits. -/
import Derived.Test.YtpaijobmoddgpaaPathCorn
import Derived.Test.YtpaijobmoddgpaaPathBox
namespace Go.Proofs.Ytpaijobmoddgpaa
open Go.ChangeShapes Go.WideShapes Go.ChangeAt Go.RowKit
set_option linter.unusedVariables false
set_option linter.unusedSimpArgs false

/-- Whether a number is a corner of a text that is a path. -/
def cornerB (l : List UInt8) (i : Int) : Bool := Plain.pathB l && (decide (0 ≤ i) && Plain.cornB l i.toNat)
theorem corner_square {l : List UInt8} {i : Int} (hp : Plain.pathB l = true) : (Plain.squareV l i).2 = cornerB l i := by
  unfold Plain.squareV cornerB
  rw [hp]
  by_cases h : 0 ≤ i
  · cases hc : Plain.cornB l i.toNat <;> simp [h]
  · simp [h]
set_option maxRecDepth 100000 in
set_option maxHeartbeats 3200000 in
theorem l10Corner_any (s : ByteArray) (l : List UInt8) (hl0 : Hid (l = s.data.toList)) (i : Int) (w : World) (hs : s.size ≤ 1048576) (hi64 : -9223372036854775808 ≤ i ∧ i ≤ 9223372036854775807) : Calls Try.prog 71 #[.string s, .int .i64 i] w (Val (.bool (cornerB l i)) w) := by
  cases hp : Plain.pathB l with
  | false =>
    have HP := Lib.hid hp
    have HV : Hid (cornerB l i = false) := Lib.hid (by unfold cornerB; rw [hp]; rfl)
    rw [HV.out]
    clear hp
    go_enter Try.func71, Try.ntmps71
    go_wp2_with fail
    refine (specIsPath_any s l hl0 _ (by omega)).mono ?_
    rw [HP.out]
    rintro e w1 ⟨rfl, hb⟩
    have HB1 := Lib.hid hb
    clear hb
    go_wp2_with fail
    go_ret
    exact ⟨rfl, HB1.out⟩
  | true =>
    have HP := Lib.hid hp
    have hlen : Hid (l.length = s.size) := Lib.hid (by rw [hl0.out]; simp)
    by_cases hr : 0 ≤ i ∧ i ≤ (s.size : Int) - 2
    · obtain ⟨k, rfl⟩ : ∃ k : Nat, i = (k : Int) := ⟨i.toNat, by omega⟩
      have hk1 : k < s.size := by omega
      have hk2 : k + 1 < s.size := by omega
      have hb1 := bytes_at hl0.out hk1
      have hb2 := bytes_at hl0.out hk2
      have HV : Hid (cornerB l (k : Int) = ((Plain.dyB s[k] == 0) != (Plain.dyB s[k + 1] == 0))) := Lib.hid (by unfold cornerB; rw [hp, Int.toNat_natCast, Plain.cornB_is hb1 hb2]; simp)
      have HIN : Hid (∀ W, Calls Try.prog 84 #[.int .i64 (k : Int), .int .i64 0, .int .i64 ((s.size : Int) - 2)] W fun e w' => e = .returned (.bool true) ∧ W = w') := Lib.hid (fun W => by have := l1In_any (k : Int) 0 ((s.size : Int) - 2) W (by omega); rw [show decide (0 ≤ (k : Int) ∧ (k : Int) ≤ (s.size : Int) - 2) = true from decide_eq_true hr] at this; exact this)
      have HSA : Hid (∀ W, Calls Try.prog 87 #[.int .u8 s[k].toNat] W (StepPost s[k] W)) := Lib.hid (fun W => l10Step_any s[k] W)
      have HSB : Hid (∀ W, Calls Try.prog 87 #[.int .u8 s[k + 1].toNat] W (StepPost s[k + 1] W)) := Lib.hid (fun W => l10Step_any s[k + 1] W)
      obtain ⟨da, hda⟩ : ∃ da, da = (Plain.dyB s[k] == 0) := ⟨_, rfl⟩
      obtain ⟨db, hdb⟩ : ∃ db, db = (Plain.dyB s[k + 1] == 0) := ⟨_, rfl⟩
      rw [← hda, ← hdb] at HV
      rw [HV.out]
      have hda2 := hda.symm
      have hdb2 := hdb.symm
      clear hp hb1 hb2 hr hda hdb
      cases da
      all_goals
        cases db
        all_goals
          go_enter Try.func71, Try.ntmps71
          go_wp2_with fail
          refine (specIsPath_any s l hl0 _ (by omega)).mono ?_
          rw [HP.out]
          rintro e w1 ⟨rfl, hb⟩
          have HB1 := Lib.hid hb
          clear hb
          go_wp2_with fail
          refine (HIN.out _).mono ?_
          rintro e w' ⟨rfl, rfl⟩
          go_wp2_with fail
          refine (HSA.out _).mono ?_
          rintro e w' ⟨rfl, rfl⟩
          go_wp2_with fail
          refine (HSB.out _).mono ?_
          rintro e w' ⟨rfl, rfl⟩
          go_wp2_with fail
          go_ret
          exact ⟨rfl, HB1.out⟩
    · have HV : Hid (cornerB l i = false) := Lib.hid (by
        unfold cornerB
        by_cases h0 : 0 ≤ i
        · cases hc : Plain.cornB l i.toNat with
          | false => simp
          | true => have := Plain.cornB_lt hc; rw [hlen.out] at this; omega
        · simp [h0])
      have HIN : Hid (∀ W, Calls Try.prog 84 #[.int .i64 i, .int .i64 0, .int .i64 ((s.size : Int) - 2)] W fun e w' => e = .returned (.bool false) ∧ W = w') := Lib.hid (fun W => by have := l1In_any i 0 ((s.size : Int) - 2) W hi64; rw [show decide (0 ≤ i ∧ i ≤ (s.size : Int) - 2) = false from decide_eq_false hr] at this; exact this)
      rw [HV.out]
      clear hp hr
      go_enter Try.func71, Try.ntmps71
      go_wp2_with fail
      refine (specIsPath_any s l hl0 _ (by omega)).mono ?_
      rw [HP.out]
      rintro e w1 ⟨rfl, hb⟩
      have HB1 := Lib.hid hb
      clear hb
      go_wp2_with fail
      refine (HIN.out _).mono ?_
      rintro e w' ⟨rfl, rfl⟩
      go_wp2_with fail
      go_ret
      exact ⟨rfl, HB1.out⟩
set_option maxRecDepth 100000 in
set_option maxHeartbeats 6400000 in
theorem l10Free_any (s : ByteArray) (l : List UInt8) (hl0 : Hid (l = s.data.toList)) (i : Nat) (w : World) (hs : s.size ≤ 1048576) (hp : Hid (Plain.pathB l = true)) (hi : i + 2 ≤ l.length) : Calls Try.prog 72 #[.string s, .int .i64 i] w (Val (.bool (Plain.sqFree (Plain.sqP l i))) w) := by
  obtain ⟨n, hn⟩ : ∃ n, n = l.length := ⟨_, rfl⟩
  have hn4 : n ≤ 400 := by rw [hn]; exact (Plain.path_ok hp.out).1
  have HN := Lib.hid hn
  rw [← hn] at hi
  have hb1 := Plain.at_bd (Plain.path_ok hp.out).2 (show i ≤ l.length by omega)
  have hb2 := Plain.at_bd (Plain.path_ok hp.out).2 (show i + 2 ≤ l.length by omega)
  obtain ⟨px, py, hP⟩ : ∃ px py, Plain.atP l i = (px, py) := ⟨_, _, rfl⟩
  obtain ⟨qx, qy, hQ⟩ : ∃ qx qy, Plain.atP l (i + 2) = (qx, qy) := ⟨_, _, rfl⟩
  have HSV : Hid (Plain.sqP l i = (min px qx, min py qy)) := Lib.hid (by unfold Plain.sqP; rw [hP, hQ])
  rw [HSV.out]
  rw [hP] at hb1
  rw [hQ] at hb2
  obtain ⟨b1, b2, b3, b4⟩ := hb1
  obtain ⟨b5, b6, b7, b8⟩ := hb2
  simp only [] at b1 b2 b3 b4 b5 b6 b7 b8
  have HP := Lib.hid hP
  have HQ := Lib.hid hQ
  clear hn hP hQ
  obtain ⟨sx, hsx⟩ : ∃ sx, sx = min px qx := ⟨_, rfl⟩
  obtain ⟨sy, hsy⟩ : ∃ sy, sy = min py qy := ⟨_, rfl⟩
  rw [← hsx, ← hsy]
  obtain ⟨F, hF⟩ : ∃ F, F = Plain.sqFree (sx, sy) := ⟨_, rfl⟩
  rw [← hF]
  have HF := Lib.hid hF
  clear hF
  have hsb : -12 ≤ sx ∧ sx ≤ 12 ∧ -12 ≤ sy ∧ sy ≤ 12 := by omega
  obtain ⟨s1, s2, s3, s4⟩ := hsb
  have HSX := Lib.hid hsx
  have HSY := Lib.hid hsy
  clear hsx hsy
  go_enter Try.func72, Try.ntmps72
  go_wp2_with fail
  refine (l10Points_any s l hl0 _ (by omega)).mono ?_
  rintro e W ⟨v, L, rfl, hr, hL, hb⟩
  obtain rfl := hL hp.out
  have HB := Lib.hid hb
  obtain ⟨a, cap, rfl, hpts, hne, hcap, hcapm⟩ := hr.form
  have hLn := Plain.pts_length l
  obtain ⟨g, rfl, hg1, hg2, hg3⟩ := hne (by intro e; rw [e] at hLn; cases hLn)
  rw [← HN.out] at hLn
  rw [hLn] at hcap ⊢
  have hc1 := hpts.cells (Plain.pts_get (show i ≤ l.length by rw [← HN.out]; omega))
  have hc2 := hpts.cells (Plain.pts_get (show i + 2 ≤ l.length by rw [← HN.out]; omega))
  rw [HP.out, Nat.zero_add] at hc1
  rw [HQ.out, Nat.zero_add] at hc2
  have HC1 := Lib.hid hc1
  have HC2 := Lib.hid hc2
  have HG := Lib.hid hg2
  clear hr hL hb hpts hne hg1 hg2 hg3 hLn hc1 hc2
  go_upto_region 2 with fail
  go_cut [7, 8] from 16 to 24 (fun u v wx => TwoPts 23 W (px, py) (qx, qy) u v wx)
  case first =>
    have hgW : g < W.heap.size := HG.out
    have hgW1 : g < W.heap.size + 1 := by omega
    have hgW2 : ¬ (g = W.heap.size) := by omega
    have hgW3 : ¬ (g = W.heap.size + 1) := by omega
    have c1 := HC1.out.1
    have c2 := HC1.out.2
    have c3 := HC2.out.1
    have c4 := HC2.out.2
    have d1 := cell_later (Below.refl W.heap.size W).drew HC1.out.1
    have d2 := cell_later (Below.refl W.heap.size W).drew HC1.out.2
    have d3 := cell_later (Below.refl W.heap.size W).drew HC2.out.1
    have d4 := cell_later (Below.refl W.heap.size W).drew HC2.out.2
    have hj1 : (i : Int) < (n : Int) + 1 := by omega
    have hj2 : (0 : Int) ≤ (i : Int) := by omega
    have hj3 : (0 : Int) ≤ (i : Int) + 2 := by omega
    have hj4 : (i : Int) + 2 < (n : Int) + 1 := by omega
    have hj5 : IntKind.i64.wrap ((i : Int) + 2) = (i : Int) + 2 := Go.IntWalk.i64_in _ (by omega)
    have hj6 : ((i : Int) + 2).toNat = i + 2 := by omega
    go_region
    all_goals
      go_wp2_with fail
      go_meet
      case rel => first | exact ⟨_, _, rfl, rfl, (two_heap W _ _).1, (two_heap W _ _).2, two_below W _ _⟩ | exact ⟨_, _, rfl, rfl, (two_heap W _ _).2, (two_heap W _ _).1, two_below W _ _⟩
  case rest =>
    obtain ⟨g1, g2, rfl, rfl, h1, h2, hbw⟩ := hcut
    have HB2 := Lib.hid (HB.out.trans (hbw.mono HB.out.size))
    have HM1 := Lib.hid (PairAt.cells (p := (px, py)) h1)
    have HM2 := Lib.hid (PairAt.cells (p := (qx, qy)) h2)
    generalize wc = W2 at HB2 HM1 HM2 ⊢
    clear hbw h1 h2
    go_upto_region 3 with fail
    go_cut [9, 10] from 25 to 34 (fun u v wx => u = .int .i64 (min px qx) ∧ v = .int .i64 (min py qy) ∧ wx = W2.drew)
    case first =>
      have z1 : W2.drew.cell? _ = _ := HM1.out.1
      have z2 : W2.drew.cell? _ = _ := HM1.out.2
      have z3 : W2.drew.cell? _ = _ := HM2.out.1
      have z4 : W2.drew.cell? _ = _ := HM2.out.2
      go_region_law (go_simp; ((with_reducible refine (least10_any _ _ _ (by omega) (by omega)).mono ?_); rintro e w' ⟨rfl, rfl⟩))
      all_goals
        go_wp2_with fail
        go_meet
        case rel => exact ⟨rfl, rfl, rfl⟩
    case rest =>
      obtain ⟨rfl, rfl, rfl⟩ := hcut
      rw [← HSX.out, ← HSY.out]
      have HB3 := Lib.hid HB2.out.drew
      generalize W2.drew = W3 at HB3 ⊢
      by_cases hy : sy = 0
      · subst hy
        cases hd : decide (1 ≤ sx ∧ sx ≤ 6)
        all_goals
          have HNL : Hid (∀ W, Calls Try.prog 84 #[.int .i64 sx, .int .i64 1, .int .i64 6] W fun e w' => e = .returned (.bool (decide (1 ≤ sx ∧ sx ≤ 6))) ∧ W = w') := Lib.hid (fun W => l1In_any sx 1 6 W (by omega))
          have HV : Hid (F = !(decide (1 ≤ sx ∧ sx ≤ 6))) := Lib.hid (by rw [HF.out]; rfl)
          rw [hd] at HNL HV
          clear hd
          go_wp2_with fail
          refine (HNL.out _).mono ?_
          rintro e w' ⟨rfl, rfl⟩
          go_wp2_with fail
          go_ret
          exact ⟨ret_bool HV.out.symm, HB3.out⟩
      · have HV : Hid (F = true) := Lib.hid (by rw [HF.out]; simp [Plain.sqFree, hy])
        have hyd : (sy != 0) = true := by simpa using hy
        go_wp2_with fail
        go_ret
        exact ⟨ret_bool HV.out.symm, HB3.out⟩
end Go.Proofs.Ytpaijobmoddgpaa
