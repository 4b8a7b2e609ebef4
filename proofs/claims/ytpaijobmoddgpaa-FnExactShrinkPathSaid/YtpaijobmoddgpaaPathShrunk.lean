/- Contract: impl's trail.shrunk: steps there and back taken out. Condition: a path's points. -/
import Derived.Test.YtpaijobmoddgpaaPathShrMath
import Derived.Test.YtpaijobmoddgpaaPathDel
import Derived.ScopeJumps
namespace Go.Proofs.Ytpaijobmoddgpaa
open Go.ChangeShapes Go.WideShapes Go.ChangeAt Go.RowKit
set_option linter.unusedVariables false
set_option linter.unusedSimpArgs false

/-- A trail of steps that come to the same as the path's. -/
def ShrAt (l us : List UInt8) (g cap : Nat) (w wr : World) : Prop := Plain.AllSteps us ∧ Near us ∧ us.length ≤ 400 ∧ Plain.shrinkL us = Plain.shrinkL l ∧ Coll2 63 (Plain.pts us) w.heap.size w (.slice (some ⟨g, 0, none⟩) (us.length + 1) cap) wr
/-- What holds at each jump back. -/
def ShrJump (l : List UInt8) (v0 : Value) (w : World) (a : Act) (wr : World) : Prop := ∃ us g cap N, (∃ u1 u2 u4 u5 u6 u7 u8 u9 u10 u11 u12 u13 u14 u15 u16 u17 u18 u19 u20 u21 u22 u23 u24 u25 u26 u27 u28 u29 u30, a = { tmps := #[v0, u1, u2, .slice (some ⟨g, 0, none⟩) N cap, u4, u5, u6, u7, u8, u9, u10, u11, u12, u13, u14, u15, u16, u17, u18, u19, u20, u21, u22, u23, u24, u25, u26, u27, u28, u29, u30], defers := [] }) ∧ N = us.length + 1 ∧ ShrAt l us g cap w wr
theorem shr_red {us : List UInt8} {k : Nat} (hs : Plain.AllSteps us) (h : ∀ j, j < k → Plain.atP us j ≠ Plain.atP us (j + 2)) (hk : us.length ≤ k + 1) : Plain.shrinkL us = us :=
  Plain.shrink_same hs fun j a b ha hb e => by
    have hj : j + 1 < us.length := (List.getElem?_eq_some_iff.1 hb).1
    exact h j (by omega) ((Plain.same_iff hs ha hb).2 e)
theorem shr_cut {l us : List UInt8} {g cap k : Nat} {w wr : World} {a : UInt8} (h : ShrAt l us g cap w wr) (ha : us[k]? = some a) (hb : us[k + 1]? = some (Plain.backB a)) :
    Plain.AllSteps (Plain.cutL us k) ∧ Near (Plain.cutL us k) ∧ (Plain.cutL us k).length + 2 = us.length ∧ Plain.shrinkL (Plain.cutL us k) = Plain.shrinkL l ∧ cutTwo (Plain.pts us) k = Plain.pts (Plain.cutL us k) := by
  obtain ⟨h1, h2, h3, h4, -⟩ := h
  have hk : k + 1 < us.length := (List.getElem?_eq_some_iff.1 hb).1
  have hl := Plain.cut_length (us := us) (k := k) (by omega)
  refine ⟨Plain.cut_steps k h1, fun j hj => ?_, hl, (Plain.cut_shrink h1 ha hb).trans h4, ?_⟩
  · rw [Plain.cut_atP h1 ha hb j (by omega)]
    split
    · exact h2 j (by omega)
    · exact h2 (j + 2) (by omega)
  · apply List.ext_getElem?
    intro j
    unfold cutTwo
    by_cases hj : j ≤ (Plain.cutL us k).length
    · rw [Plain.pts_get hj, Plain.cut_atP h1 ha hb j (by omega)]
      by_cases hjk : j ≤ k
      · rw [if_pos hjk, List.getElem?_append_left (by rw [List.length_take, Plain.pts_length]; omega), List.getElem?_take_of_lt (by omega), Plain.pts_get (by omega)]
      · rw [if_neg hjk, List.getElem?_append_right (by rw [List.length_take, Plain.pts_length]; omega), List.length_take, Plain.pts_length, List.getElem?_drop, show k + 3 + (j - min (k + 1) (us.length + 1)) = j + 2 by omega, Plain.pts_get (by omega)]
    · rw [List.getElem?_eq_none (by rw [List.length_append, List.length_take, List.length_drop, Plain.pts_length]; omega), List.getElem?_eq_none (by rw [Plain.pts_length]; omega)]
def sliceN : Value → Nat
  | .slice _ n _ => n
  | _ => 0
set_option maxRecDepth 100000 in
set_option maxHeartbeats 6400000 in
theorem shrunk_any (l : List UInt8) (g cap : Nat) (w : World) (hp : Hid (Plain.pathB l = true)) (h : Hid (Pts w (some ⟨g, 0, none⟩) (Plain.pts l))) :
    Calls Try.prog 69 #[.slice (some ⟨g, 0, none⟩) (l.length + 1) cap] w (MadePost (Plain.pts (Plain.shrinkL l)) w) := by
  obtain ⟨n, hn⟩ : ∃ n, n = l.length := ⟨_, rfl⟩
  have hn4 : n ≤ 400 := by rw [hn]; exact (Plain.path_ok hp.out).1
  have HN := Lib.hid hn
  have HML : Hid ((Plain.pts l).length = n + 1) := Lib.hid (by rw [hn, Plain.pts_length])
  have HOK := Lib.hid (ok_near (Plain.path_ok hp.out).2)
  rw [← hn]
  clear hn
  go_enter Try.func69, Try.ntmps69
  go_wp2_with fail
  refine wp_scope_jumps 0 (ShrJump l (.slice (some ⟨g, 0, none⟩) (n + 1) cap) w) (fun a' _ => sliceN (a'.tmps.getD 3 undef)) rfl ?_ ?_
  · go_wp2_with fail
    refine (clone10_any g cap n (Plain.pts l) _ HML.out hn4 h).mono ?_
    rintro e W ⟨v, rfl, hC⟩
    obtain ⟨g2, cap2, rfl, -, -⟩ := made_form hC HML.out
    have HC := Lib.hid hC
    clear hC
    go_wp2_with fail
    have HS : Hid (ShrAt l l g2 cap2 w W) := Lib.hid ⟨HOK.out.2, HOK.out.1, by rw [← HN.out]; exact hn4, rfl, by rw [← HN.out]; exact HC.out⟩
    obtain ⟨us, hus⟩ : ∃ us, us = l := ⟨_, rfl⟩
    have HNU : Hid (n = us.length) := Lib.hid (by rw [hus]; exact HN.out)
    have HS2 : Hid (ShrAt l us g2 cap2 w W) := Lib.hid (by rw [hus]; exact HS.out)
    clear HS hus
    have HS := HS2
    clear HS2
    have hs400 : n ≤ 400 := hn4
    have HNN : Hid (n = us.length) := HNU
    go_step3
    go_wp2_with fail
    go_loopw [3, 10] (fun v3 i wr => ∃ k m : Nat, k ≤ n ∧ v3 = .slice (some ⟨g2, 0, none⟩) (n + 1) cap2 ∧ i = .int .i64 k ∧ (∀ j, j < k → Plain.atP us j ≠ Plain.atP us (j + 2)) ∧ wr = W.drewN m) (fun _ i _ => n + 1 - (intOf i).toNat)
    case atStart => exact ⟨0, 0, Nat.zero_le _, rfl, rfl, fun j hj => absurd hj (Nat.not_lt_zero j), rfl⟩
    case round =>
      obtain ⟨k, m, hk, rfl, rfl, hnb, rfl⟩ := hrel
      have HNB := Lib.hid hnb
      have HC := Lib.hid (HS.out.2.2.2.2.drewN m)
      obtain ⟨WR, hWR⟩ : ∃ WR, WR = W.drewN m := ⟨_, rfl⟩
      rw [← hWR] at HC ⊢
      have HWR := Lib.hid hWR
      clear hnb hWR
      by_cases hlt : k + 2 ≤ n
      · obtain ⟨a, ha⟩ := at_some us k (by rw [← HNN.out]; omega)
        obtain ⟨b, hb⟩ := at_some us (k + 1) (by rw [← HNN.out]; omega)
        have HSI := Lib.hid (Plain.same_iff HS.out.1 ha hb)
        have hPL : (Plain.pts us).length = n + 1 := by rw [Plain.pts_length, HNN.out]
        have HC1 : Hid (Coll2 63 (Plain.pts us) w.heap.size w (.slice (some ⟨g2, 0, none⟩) (n + 1) cap2) WR) := Lib.hid (by have := HC.out; rw [← HNN.out] at this; exact this)
        have hc1 := (coll2_cells HC1.out hPL (Plain.pts_get (show k ≤ us.length by rw [← HNN.out]; omega))).1
        have hc2 := (coll2_cells HC1.out hPL (Plain.pts_get (show k + 2 ≤ us.length by rw [← HNN.out]; omega))).1
        have hn1 := HS.out.2.1 k (by rw [← HNN.out]; omega)
        have hn2 := HS.out.2.1 (k + 2) (by rw [← HNN.out]; omega)
        have HST : Hid (∀ j, j < k + 1 → j < k ∨ j = k) := Lib.hid (fun j hj => by omega)
        obtain ⟨px, py, hP⟩ : ∃ px py, Plain.atP us k = (px, py) := ⟨_, _, rfl⟩
        obtain ⟨qx, qy, hQ⟩ : ∃ qx qy, Plain.atP us (k + 2) = (qx, qy) := ⟨_, _, rfl⟩
        rw [hP] at hc1 hn1
        rw [hQ] at hc2 hn2
        have HP := Lib.hid hP
        have HQ := Lib.hid hQ
        have HA := Lib.hid ha
        have HB := Lib.hid hb
        have HPL := Lib.hid hPL
        have HC2 := Lib.hid hc1
        have HC3 := Lib.hid hc2
        have HEQ : Hid (∀ w, Sem.run Try.prog (Op.equalIn 10000 63 (.agg #[.int .i64 px, .int .i64 py]) (.agg #[.int .i64 qx, .int .i64 qy])) w = .ok (decide ((px, py) = (qx, qy))) w) := Lib.hid (fun w => run_ptP w (p := (px, py)) (q := (qx, qy)) (by unfold Pt100; simp only [] at hn1 ⊢; omega) (by unfold Pt100; simp only [] at hn2 ⊢; omega))
        clear ha hb hPL hc1 hc2 hn1 hn2 hP hQ
        obtain ⟨c, hc⟩ : ∃ c, c = decide ((px, py) = (qx, qy)) := ⟨_, rfl⟩
        rw [← hc] at HEQ
        have HCC := Lib.hid hc
        clear hc
        have hlt2 : decide ((k : Int) < (n : Int) + 1 - 2) = true := by simp; omega
        go_upto_region 5 with fail
        go_cut [22] from 13 to 21 (fun s wx => s = .bool c ∧ wx = WR.drew)
        case first =>
          have h1 : WR.drew.cell? _ = _ := HC2.out.1
          have h2 : WR.drew.cell? _ = _ := HC2.out.2
          have h3 : WR.drew.cell? _ = _ := HC3.out.1
          have h4 : WR.drew.cell? _ = _ := HC3.out.2
          have hi : (k : Int) < (n : Int) + 1 := by omega
          have hi00 : (0 : Int) ≤ (k : Int) := by omega
          have hi1 : (0 : Int) ≤ (k : Int) + 2 := by omega
          have hi2 : (k : Int) + 2 < (n : Int) + 1 := by omega
          have hi3 : IntKind.i64.wrap ((k : Int) + 2) = (k : Int) + 2 := Go.IntWalk.i64_in _ (by omega)
          have hi4 : ((k : Int) + 2).toNat = k + 2 := by omega
          have hE := HEQ.out
          go_region_law (go_simp; fail)
          all_goals
            go_wp2_with fail
            go_meet
            case rel => exact ⟨rfl, rfl⟩
        case rest =>
          obtain ⟨rfl, rfl⟩ := hcut
          cases c with
          | true =>
            have HPQ : Hid (b = Plain.backB a) := Lib.hid (HSI.out.1 (by rw [HP.out, HQ.out]; exact of_decide_eq_true HCC.out.symm))
            have HCT := Lib.hid (shr_cut HS.out HA.out (by rw [HB.out, HPQ.out]))
            obtain ⟨r, hr⟩ : ∃ r, n = r + 1 := ⟨n - 1, by omega⟩
            subst hr
            have HC4 : Hid (Coll2 63 (Plain.pts us) w.heap.size w (.slice (some ⟨g2, 0, none⟩) (r + 2) cap2) WR.drew) := Lib.hid (HC1.out.drewN 1)
            have hr399 : r ≤ 399 := by omega
            go_wp2_with fail
            refine (delete10_any w.heap.size g2 cap2 r k (Plain.pts us) w _ HPL.out hr399 (by omega) HC4).mono ?_
            rintro e w5 ⟨rfl, hC⟩
            have HC5 : Hid (ShrAt l (Plain.cutL us k) g2 cap2 w w5) := Lib.hid ⟨HCT.out.1, HCT.out.2.1, by have := HCT.out.2.2.1; have := HNN.out; omega, HCT.out.2.2.2.1, by
              have h1 := HCT.out.2.2.1
              have h2 := HNN.out
              rw [← HCT.out.2.2.2.2, show (Plain.cutL us k).length + 1 = r by omega]
              exact hC⟩
            have HLN : Hid (r = (Plain.cutL us k).length + 1) := Lib.hid (by have := HCT.out.2.2.1; have := HNN.out; omega)
            clear hC
            go_wp2_with fail
            go_step3
            exact ⟨rfl, ⟨Plain.cutL us k, g2, cap2, r, ⟨_, _, _, _, _, _, _, _, _, _, _, _, _, _, _, _, _, _, _, _, _, _, _, _, _, _, _, _, _, rfl⟩, HLN.out, HC5.out⟩⟩
          | false =>
            have HNE : Hid (Plain.atP us k ≠ Plain.atP us (k + 2)) := Lib.hid (by rw [HP.out, HQ.out]; exact of_decide_eq_false HCC.out.symm)
            go_wp2_with fail
            go_roundw
            case rel => exact ⟨k + 1, m + 1, by omega, rfl, by go_num, fun j hj => (HST.out j hj).elim (HNB.out j) (fun e => by rw [e]; exact HNE.out), by rw [HWR.out]; rfl⟩
            case measure => simp [intOf]; omega
      · have HSH : Hid (Plain.pts us = Plain.pts (Plain.shrinkL l)) := Lib.hid (by rw [← HS.out.2.2.2.1, shr_red HS.out.1 HNB.out (by rw [← HNN.out]; omega)])
        have HC1 : Hid (Coll2 63 (Plain.pts (Plain.shrinkL l)) w.heap.size w (.slice (some ⟨g2, 0, none⟩) (n + 1) cap2) WR) := Lib.hid (by rw [← HSH.out]; have := HC.out; rw [← HNN.out] at this; exact this)
        have hlt2 : decide ((k : Int) < (n : Int) + 1 - 2) = false := by simp; omega
        clear hlt
        go_wp2_with fail
        simp only [Exit.jump]
        go_ret
        exact ⟨_, rfl, HC1.out⟩
  · rintro a' w' ⟨us, g2, cap2, N', ⟨u1, u2, u4, u5, u6, u7, u8, u9, u10, u11, u12, u13, u14, u15, u16, u17, u18, u19, u20, u21, u22, u23, u24, u25, u26, u27, u28, u29, u30, rfl⟩, hS⟩
    obtain ⟨rfl, hS⟩ := hS
    have HS := Lib.hid hS
    clear hS
    have hs400 := HS.out.2.2.1
    obtain ⟨N, hN⟩ : ∃ N, N = us.length := ⟨_, rfl⟩
    have HNN := Lib.hid hN
    rw [← hN] at hs400 ⊢
    clear hN
    go_wp2_with fail
    go_loopw [3, 10] (fun v3 i wr => ∃ k m : Nat, k ≤ N ∧ v3 = .slice (some ⟨g2, 0, none⟩) (N + 1) cap2 ∧ i = .int .i64 k ∧ (∀ j, j < k → Plain.atP us j ≠ Plain.atP us (j + 2)) ∧ wr = w'.drewN m) (fun _ i _ => N + 1 - (intOf i).toNat)
    case atStart => exact ⟨0, 0, Nat.zero_le _, rfl, rfl, fun j hj => absurd hj (Nat.not_lt_zero j), rfl⟩
    case round =>
      obtain ⟨k, m, hk, rfl, rfl, hnb, rfl⟩ := hrel
      have HNB := Lib.hid hnb
      have HC := Lib.hid (HS.out.2.2.2.2.drewN m)
      obtain ⟨WR, hWR⟩ : ∃ WR, WR = w'.drewN m := ⟨_, rfl⟩
      rw [← hWR] at HC ⊢
      have HWR := Lib.hid hWR
      clear hnb hWR
      by_cases hlt : k + 2 ≤ N
      · obtain ⟨a, ha⟩ := at_some us k (by rw [← HNN.out]; omega)
        obtain ⟨b, hb⟩ := at_some us (k + 1) (by rw [← HNN.out]; omega)
        have HSI := Lib.hid (Plain.same_iff HS.out.1 ha hb)
        have hPL : (Plain.pts us).length = N + 1 := by rw [Plain.pts_length, HNN.out]
        have HC1 : Hid (Coll2 63 (Plain.pts us) w.heap.size w (.slice (some ⟨g2, 0, none⟩) (N + 1) cap2) WR) := Lib.hid (by have := HC.out; rw [← HNN.out] at this; exact this)
        have hc1 := (coll2_cells HC1.out hPL (Plain.pts_get (show k ≤ us.length by rw [← HNN.out]; omega))).1
        have hc2 := (coll2_cells HC1.out hPL (Plain.pts_get (show k + 2 ≤ us.length by rw [← HNN.out]; omega))).1
        have hn1 := HS.out.2.1 k (by rw [← HNN.out]; omega)
        have hn2 := HS.out.2.1 (k + 2) (by rw [← HNN.out]; omega)
        have HST : Hid (∀ j, j < k + 1 → j < k ∨ j = k) := Lib.hid (fun j hj => by omega)
        obtain ⟨px, py, hP⟩ : ∃ px py, Plain.atP us k = (px, py) := ⟨_, _, rfl⟩
        obtain ⟨qx, qy, hQ⟩ : ∃ qx qy, Plain.atP us (k + 2) = (qx, qy) := ⟨_, _, rfl⟩
        rw [hP] at hc1 hn1
        rw [hQ] at hc2 hn2
        have HP := Lib.hid hP
        have HQ := Lib.hid hQ
        have HA := Lib.hid ha
        have HB := Lib.hid hb
        have HPL := Lib.hid hPL
        have HC2 := Lib.hid hc1
        have HC3 := Lib.hid hc2
        have HEQ : Hid (∀ w, Sem.run Try.prog (Op.equalIn 10000 63 (.agg #[.int .i64 px, .int .i64 py]) (.agg #[.int .i64 qx, .int .i64 qy])) w = .ok (decide ((px, py) = (qx, qy))) w) := Lib.hid (fun w => run_ptP w (p := (px, py)) (q := (qx, qy)) (by unfold Pt100; simp only [] at hn1 ⊢; omega) (by unfold Pt100; simp only [] at hn2 ⊢; omega))
        clear ha hb hPL hc1 hc2 hn1 hn2 hP hQ
        obtain ⟨c, hc⟩ : ∃ c, c = decide ((px, py) = (qx, qy)) := ⟨_, rfl⟩
        rw [← hc] at HEQ
        have HCC := Lib.hid hc
        clear hc
        have hlt2 : decide ((k : Int) < (N : Int) + 1 - 2) = true := by simp; omega
        go_upto_region 5 with fail
        go_cut [22] from 13 to 21 (fun s wx => s = .bool c ∧ wx = WR.drew)
        case first =>
          have h1 : WR.drew.cell? _ = _ := HC2.out.1
          have h2 : WR.drew.cell? _ = _ := HC2.out.2
          have h3 : WR.drew.cell? _ = _ := HC3.out.1
          have h4 : WR.drew.cell? _ = _ := HC3.out.2
          have hi : (k : Int) < (N : Int) + 1 := by omega
          have hi00 : (0 : Int) ≤ (k : Int) := by omega
          have hi1 : (0 : Int) ≤ (k : Int) + 2 := by omega
          have hi2 : (k : Int) + 2 < (N : Int) + 1 := by omega
          have hi3 : IntKind.i64.wrap ((k : Int) + 2) = (k : Int) + 2 := Go.IntWalk.i64_in _ (by omega)
          have hi4 : ((k : Int) + 2).toNat = k + 2 := by omega
          have hE := HEQ.out
          go_region_law (go_simp; fail)
          all_goals
            go_wp2_with fail
            go_meet
            case rel => exact ⟨rfl, rfl⟩
        case rest =>
          obtain ⟨rfl, rfl⟩ := hcut
          cases c with
          | true =>
            have HPQ : Hid (b = Plain.backB a) := Lib.hid (HSI.out.1 (by rw [HP.out, HQ.out]; exact of_decide_eq_true HCC.out.symm))
            have HCT := Lib.hid (shr_cut HS.out HA.out (by rw [HB.out, HPQ.out]))
            obtain ⟨r, hr⟩ : ∃ r, N = r + 1 := ⟨N - 1, by omega⟩
            subst hr
            have HC4 : Hid (Coll2 63 (Plain.pts us) w.heap.size w (.slice (some ⟨g2, 0, none⟩) (r + 2) cap2) WR.drew) := Lib.hid (HC1.out.drewN 1)
            have hr399 : r ≤ 399 := by omega
            go_wp2_with fail
            refine (delete10_any w.heap.size g2 cap2 r k (Plain.pts us) w _ HPL.out hr399 (by omega) HC4).mono ?_
            rintro e w5 ⟨rfl, hC⟩
            have HC5 : Hid (ShrAt l (Plain.cutL us k) g2 cap2 w w5) := Lib.hid ⟨HCT.out.1, HCT.out.2.1, by have := HCT.out.2.2.1; have := HNN.out; omega, HCT.out.2.2.2.1, by
              have h1 := HCT.out.2.2.1
              have h2 := HNN.out
              rw [← HCT.out.2.2.2.2, show (Plain.cutL us k).length + 1 = r by omega]
              exact hC⟩
            have HLN : Hid (r = (Plain.cutL us k).length + 1) := Lib.hid (by have := HCT.out.2.2.1; have := HNN.out; omega)
            clear hC
            go_wp2_with fail
            go_step3
            refine ⟨rfl, ⟨Plain.cutL us k, g2, cap2, r, ⟨_, _, _, _, _, _, _, _, _, _, _, _, _, _, _, _, _, _, _, _, _, _, _, _, _, _, _, _, _, rfl⟩, HLN.out, HC5.out⟩, ?_⟩
            show sliceN (.slice _ r _) < sliceN (.slice _ (r + 1 + 1) _)
            simp only [sliceN]
            omega
          | false =>
            have HNE : Hid (Plain.atP us k ≠ Plain.atP us (k + 2)) := Lib.hid (by rw [HP.out, HQ.out]; exact of_decide_eq_false HCC.out.symm)
            go_wp2_with fail
            go_roundw
            case rel => exact ⟨k + 1, m + 1, by omega, rfl, by go_num, fun j hj => (HST.out j hj).elim (HNB.out j) (fun e => by rw [e]; exact HNE.out), by rw [HWR.out]; rfl⟩
            case measure => simp [intOf]; omega
      · have HSH : Hid (Plain.pts us = Plain.pts (Plain.shrinkL l)) := Lib.hid (by rw [← HS.out.2.2.2.1, shr_red HS.out.1 HNB.out (by rw [← HNN.out]; omega)])
        have HC1 : Hid (Coll2 63 (Plain.pts (Plain.shrinkL l)) w.heap.size w (.slice (some ⟨g2, 0, none⟩) (N + 1) cap2) WR) := Lib.hid (by rw [← HSH.out]; have := HC.out; rw [← HNN.out] at this; exact this)
        have hlt2 : decide ((k : Int) < (N : Int) + 1 - 2) = false := by simp; omega
        clear hlt
        go_wp2_with fail
        simp only [Exit.jump]
        go_ret
        exact ⟨_, rfl, HC1.out⟩
end Go.Proofs.Ytpaijobmoddgpaa
