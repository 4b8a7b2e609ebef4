/- Contracts: spec.l9Odd. Conditions: numbers of 64 bits, lengths that fit. -/
import Derived.Test.YtpaijobmoddgpabGameMSpec
namespace Go.Proofs.Ytpaijobmoddgpab
open Go.ChangeShapes Go.WideShapes Go.ChangeAt Go.RowKit
set_option linter.unusedVariables false

open Lean in
set_option hygiene false in
macro "odd_seven " i:num : tactic => match i.getNat with
  | 0 => `(tactic| (have hld := tab_load (HTB.out.on HK.out); with_reducible (refine wstep_load ?_ 37 (.tmp 3) ?_ W.heap.size ?_ (bools t) hld ?_); (case _ => exact rfl); (case _ => exact rfl); (case _ => first | (go_simp; done) | exact rfl); with_reducible (refine hK _ _ ?_); clear hK K hld))
  | 6 => `(tactic| (have hcx := cell_later HK.out HCELL.out; go_simp; refine hK _ _ ?_; clear hK K hcx))
  | 7 => `(tactic| (go_simp; go_at_call 48; refine (HOUT.out _).mono ?_; rintro e w' ⟨rfl, rfl⟩; try go_simp; refine hK _ _ ?_; clear hK K))
  | 8 => `(tactic| (go_simp; go_at_call 27; refine (HI.out _).mono ?_; rintro e w' ⟨rfl, hb⟩; try go_simp; refine hK _ _ ?_; clear hK K; (try have HA := Lib.hid (HA.out.on hb)); have HK := Lib.hid (HK.out.trans (hb.mono HK.out.size)); clear hb))
  | 9 => `(tactic| (refine wstep_pair rfl rfl ?_; intro ga wn hbn han hgn; refine hK _ _ ?_; clear hK K; have HA := Lib.hid han; have HG := Lib.hid (Nat.le_trans HK.out.size hgn); have HK := Lib.hid (HK.out.trans (hbn.mono HK.out.size)); clear hbn han hgn))
  | _ => `(tactic| (refine wstep_store rfl 23 _ _ rfl ga #[.int .i64 (X : Int), .int .i64 (Y : Int)] rfl rfl 23 _ HA.out (by kernel_rfl) rfl (by simp [Value.oneCell']) (hK _ _ ?_); clear hK K))
open Lean Elab Tactic in
elab "odd_walk_seven" : tactic => walkOrders [] (fun _ => pure ()) (fun i => do evalTactic (← `(tactic| odd_seven $(quote i):num)))
open Lean in
set_option hygiene false in
macro "odd_eight " i:num : tactic => match i.getNat with
  | 0 => `(tactic| (refine wstep_load rfl 23 _ rfl W2.heap.size rfl #[.int .i64 (A1 : Int), .int .i64 (A2 : Int)] (pair_load HR.out) (hK _ _ ?_); clear hK K))
  | 4 => `(tactic| (have hcx := HA.out.cells.1; go_simp; refine hK _ _ ?_; clear hK K hcx))
  | 2 => `(tactic| (have hcx := HA.out.cells.2; go_simp; refine hK _ _ ?_; clear hK K hcx))
  | 7 => `(tactic| (have hcx := HA.out.cells.2; go_simp; refine hK _ _ ?_; clear hK K hcx))
  | 10 => `(tactic| refine wpAny_take (i := 10) (v := .int .i64 (Z : Int)) rfl (by kernel_rfl) (by kernel_rfl) (by kernel_rfl) (fun _ _ _ h => h) (.inl ⟨by kernel_rfl, fun w => by go_simp⟩) ?_)
  | 5 => `(tactic| refine wpAny_take (i := 5) (v := .int .i64 (U : Int)) rfl (by kernel_rfl) (by kernel_rfl) (by kernel_rfl) (fun _ _ _ h => h) (.inl ⟨by kernel_rfl, fun w => by go_simp⟩) ?_)
  | 11 => `(tactic| (go_simp; go_at_call 50; refine (HCUT.out _).mono ?_; rintro e w' ⟨rfl, hb⟩; try go_simp; refine hK _ _ ?_; clear hK K; have HA := Lib.hid (HA.out.on hb); have HR := Lib.hid (HR.out.on hb); have HK := Lib.hid (HK.out.trans (hb.mono HK.out.size)); clear hb))
  | 12 => `(tactic| (go_simp; go_at_call 49; refine (HPLUS.out _).mono ?_; rintro e w' ⟨rfl, hb⟩; try go_simp; refine hK _ _ ?_; clear hK K; have HR := Lib.hid (HR.out.on hb); have HK := Lib.hid (HK.out.trans (hb.mono HK.out.size)); clear hb))
  | _ => `(tactic| (refine wstep_store rfl 23 _ _ rfl W2.heap.size #[.int .i64 (B1 : Int), .int .i64 (B2 : Int)] rfl rfl 23 _ HR.out (by kernel_rfl) rfl (by simp [Value.oneCell']) (hK _ _ ?_); clear hK K))
open Lean Elab Tactic in
elab "odd_walk_eight" : tactic => walkOrders [5, 10] (fun i => do evalTactic (← `(tactic| odd_eight $(quote i):num))) (fun i => do evalTactic (← `(tactic| odd_eight $(quote i):num)))
set_option maxRecDepth 100000 in
set_option maxHeartbeats 6400000 in
theorem l9Odd_step (t : Nat → Bool) (n m : Nat) (hn : n ≤ 6) (hm : Hid (m = 2 ^ n - 1)) (hm64 : m < 64) (hmo : Hid (Plain.Mono t)) (htm : t m = true) (c s : Nat) (hc : Plain.cnt m s ≤ c) (hs : s < 64) (hsub : Plain.sub s m = true) (W : World)
    (REC : Hid (∀ c', c' < c → ∀ s, Plain.cnt m s ≤ c' → s < 64 → Plain.sub s m = true → ∀ W : World, Calls Try.prog 27 #[.agg (bools t), .int .i64 (n : Int), .int .i64 (s : Int)] W (Val (frC (Plain.low (Plain.oddN t m s) (Plain.fact (Plain.cnt m s)))) W))) :
    Calls Try.prog 27 #[.agg (bools t), .int .i64 (n : Int), .int .i64 (s : Int)] W (Val (frC (Plain.low (Plain.oddN t m s) (Plain.fact (Plain.cnt m s)))) W) := by
  obtain ⟨W9, hW9⟩ : ∃ W9, W9 = W.alloc (.cells (bools t) 37) := ⟨_, rfl⟩
  obtain ⟨W0, hW0⟩ : ∃ W0, W0 = W9.alloc (.cells #[.int .i64 0, .int .i64 0] 23) := ⟨_, rfl⟩
  obtain ⟨t1, t2⟩ := tab_box W t
  rw [← hW9] at t1 t2
  have hsz : W9.heap.size = W.heap.size + 1 := by rw [hW9]; exact size_alloc _ _
  have HT0 : Hid (Tab W0 W.heap.size t) := Lib.hid (by rw [hW0]; exact t1.on ((Below.refl _ _).alloc (Nat.le_refl _) _))
  have HP0 : Hid (Pair W0 (W.heap.size + 1) 0 0) := Lib.hid (by rw [hW0, ← hsz]; exact pair_new W9 0 0)
  have HB0 : Hid (Below W.heap.size W W0) := Lib.hid (by rw [hW0]; exact t2.alloc (by omega) _)
  have q0 := HT0.out.cell hs
  rw [hW9] at hW0
  have HPE : Hid (Pair ((W.alloc (.cells (bools t) 37)).alloc (.cells #[.int .i64 0, .int .i64 0] 23)) (W.heap.size + 1) 0 0) := Lib.hid (by rw [← hW0]; exact HP0.out)
  rw [hW0] at q0
  have hi : (s : Int) < 64 := by omega
  have hi0 : (0 : Int) ≤ (s : Int) := by omega
  clear t1 t2 hsz hW9
  cases hts : t s with
  | true =>
    have HE : Hid (frC (Plain.low (Plain.oddN t m s) (Plain.fact (Plain.cnt m s))) = .agg #[.int .i64 0, .int .i64 1]) := Lib.hid (by rw [Plain.oddN_fallen hmo.out hs hsub hts, Plain.low_zero (Plain.fact_pos _)]; rfl)
    rw [hts] at q0
    rw [HE.out]
    clear hts
    obtain ⟨WR, hWR⟩ : ∃ WR, WR = W0.setRow (W.heap.size + 1) #[.int .i64 0, .int .i64 1] := ⟨_, rfl⟩
    have HWR : Hid (Pair WR (W.heap.size + 1) 0 1) := Lib.hid (by rw [hWR]; exact HP0.out.set 0 1)
    have HBW : Hid (Below W.heap.size W WR) := Lib.hid (by rw [hWR]; exact below_setRow HB0.out (by omega) _)
    rw [hW0] at hWR
    go_enter Try.func27, Try.ntmps27
    go_wp2_with (first | (refine wpList_store_row rfl 23 _ _ rfl (W.heap.size + 1) #[.int .i64 0, .int .i64 1] rfl rfl 23 _ HPE.out (by kernel_rfl) rfl (by simp [Value.oneCell']) ?_))
    rw [← hWR]
    exact bodyPost_ret (results_cell_row rfl _ _ (W.heap.size + 1) 23 _ (0, 0) _ rfl HWR.out Try.underlying23 rfl (by kernel_rfl)) rfl ⟨rfl, HBW.out⟩
  | false =>
    obtain ⟨l, hl⟩ : ∃ l, l = Plain.inP m s := ⟨_, rfl⟩
    obtain ⟨f, hf⟩ : ∃ f : Nat → Nat, f = fun p => Plain.oddN t m (s ||| 2 ^ p) := ⟨_, rfl⟩
    obtain ⟨F, hF⟩ : ∃ F, F = Plain.fact (Plain.cnt m s) := ⟨_, rfl⟩
    obtain ⟨F1, hF1e⟩ : ∃ F1, F1 = Plain.fact (Plain.cnt m s - 1) := ⟨_, rfl⟩
    obtain ⟨g, hg⟩ : ∃ g : Nat → Nat, g = fun p => F1 - f p := ⟨_, rfl⟩
    have hne : Plain.inP m s ≠ [] := Plain.some_in hm64 hs hsub htm hts
    have hcp : 0 < Plain.cnt m s := List.length_pos_iff.2 hne
    have hll : l.length = Plain.cnt m s := by rw [hl]; rfl
    have HV : Hid (Plain.oddN t m s = partS g l l.length) := Lib.hid (by rw [Plain.oddN_step hmo.out hs hsub hts hne, hl, hg, hf, hF1e]; unfold partS; rw [List.take_length])
    have hF1 : 0 < F1 := by rw [hF1e]; exact Plain.fact_pos _
    have hF17 : F1 ≤ 720 := by rw [hF1e]; exact Plain.fact_le (by have := Plain.cnt_le m s; omega)
    have hFF1 : F1 * l.length = F := by rw [hF1e, hll, hF]; exact Plain.fact_step hcp
    have hF0 : 0 < F := by rw [hF]; exact Plain.fact_pos _
    have hF7 : F ≤ 720 := by rw [hF]; exact Plain.fact_le (Plain.cnt_le _ _)
    have HLE : Hid (∀ j, partS g l j ≤ F) := Lib.hid fun j => by
      have h1 := Plain.oddN_le hmo.out hs hsub
      have h2 := partS_le g l j
      have h3 : partS g l l.length = (l.map g).sum := by unfold partS; rw [List.take_length]
      rw [HV.out, h3, ← hF] at h1
      omega
    have IH : Hid (∀ p, p ∈ l → s ||| 2 ^ p < 64 ∧ p < 6 ∧ f p ≤ F1 ∧ ∀ V : World, Calls Try.prog 27 #[.agg (bools t), .int .i64 (n : Int), .int .i64 ((s ||| 2 ^ p : Nat) : Int)] V (Val (frC (Plain.low (f p) F1)) V)) := Lib.hid fun p hp => by
      rw [hl] at hp
      have hlt := Plain.cnt_or hp
      have hp6 := (Plain.mem_inP.1 hp).1
      have hsb := Plain.sub_more hsub hp
      have hor := Plain.or_lt hs hp6
      have he : F1 = Plain.fact (Plain.cnt m (s ||| 2 ^ p)) := by rw [hF1e, hlt]; rfl
      refine ⟨hor, hp6, by rw [hf, he]; exact Plain.oddN_le hmo.out hor hsb, fun V => ?_⟩
      rw [hf, he]
      exact REC.out (c - 1) (by omega) (s ||| 2 ^ p) (by omega) hor hsb V
    have HMV : Hid (∀ V, Calls Try.prog 47 #[.int .i64 (n : Int), .int .i64 (s : Int)] V (OwnL (nailZ l) V)) := Lib.hid (fun V => by rw [hl, hm.out]; exact l9Moves_any n s V hn hs)
    have hl6 : l.length ≤ 6 := by rw [hll]; exact Plain.cnt_le _ _
    rw [hts] at q0
    rw [← hF, HV.out]
    have HFF := Lib.hid hF
    have HGG := Lib.hid hg
    clear hl hf hF hF1e hg hne hcp hll hc hts
    go_enter Try.func27, Try.ntmps27
    go_wp2_with fail
    rw [← hW0]
    clear hW0 q0 HPE
    refine (HMV.out _).mono ?_
    rintro e W2 ⟨v, rfl, hown, hb⟩
    obtain ⟨ma, mc, rfl, hm1, -, hm3⟩ := owns_ints hown
    have hnl := nailZ_le l
    rw [hnl] at hm3
    have hmc := hm3.1
    have HT2 := Lib.hid (HT0.out.on hb)
    have HP2 := Lib.hid (HP0.out.on hb)
    have HM2 := Lib.hid hm1
    have HB2 := Lib.hid (HB0.out.trans (hb.mono HB0.out.size))
    clear hown hb hm1 hm3
    rw [hnl]
    have hWG : W.heap.size + 1 < W2.heap.size := by exact lt_of_row HP2.out
    have hGle : W2.heap.size ≤ W2.heap.size := Nat.le_refl _
    obtain ⟨V2, hV2⟩ : ∃ V2, V2 = (W2.alloc (.cells #[.int .i64 0, .int .i64 0] 23)).setRow W2.heap.size #[.int .i64 0, .int .i64 1] := ⟨_, rfl⟩
    have HR2 : Hid (Pair V2 W2.heap.size 0 1) := Lib.hid (by rw [hV2]; exact (pair_new W2 0 0).set 0 1)
    have HBV : Hid (Below W2.heap.size W2 V2) := Lib.hid (by rw [hV2]; exact below_setRow ((Below.refl _ _).alloc (Nat.le_refl _) _) (Nat.le_refl _) _)
    go_wp2_with (first | (refine wpList_store_row rfl 23 _ _ rfl W2.heap.size #[.int .i64 0, .int .i64 1] rfl rfl 23 _ (pair_new W2 0 0) (by kernel_rfl) rfl (by simp [Value.oneCell']) ?_))
    rw [← hV2]
    clear hV2
    go_loopw [9] (fun i wr => ∃ j : Nat, j ≤ l.length ∧ i = .int .i64 j ∧ (∃ A1 A2, Plain.low (partS g l j) F = (A1, A2) ∧ Pair wr W2.heap.size A1 A2) ∧ Below W2.heap.size W2 wr) (fun i _ => 8 - (intOf i).toNat)
    case atStart => exact ⟨0, Nat.zero_le _, rfl, ⟨0, 1, Plain.low_zero hF0, HR2.out⟩, HBV.out⟩
    case round =>
      obtain ⟨j, hj, rfl, ⟨A1, A2, hA, hpr⟩, hb⟩ := hrel
      have HLA := Lib.hid hA
      have HR := Lib.hid hpr
      have HBR := Lib.hid hb
      clear hb hA hpr
      by_cases hlt : j < l.length
      · obtain ⟨pp, hp⟩ := at_some l j hlt
        obtain ⟨hu, hp6, hv7, IHP⟩ := IH.out pp (List.mem_of_getElem? hp)
        obtain ⟨b0, o0, rfl, hc0⟩ := HM2.out j _ (nailZ_at hp)
        have HCELL := Lib.hid (cell_later HBR.out hc0)
        obtain ⟨X, Y, hXY⟩ : ∃ X Y, Plain.low (f pp) F1 = (X, Y) := ⟨_, _, rfl⟩
        have hYp := Plain.low_pos (f pp) hF1
        have hXl := Plain.low_le (f pp) F1
        have hXY2 := Plain.low_less hF1 hv7
        rw [hXY] at hYp hXl hXY2 IHP
        simp only [] at hYp hXl hXY2
        have HSH := Plain.low_rest (f pp) hF1 l.length
        have hgp : F1 - f pp = g pp := by rw [HGG.out]
        rw [hXY, hFF1, hgp] at HSH
        simp only [] at HSH
        obtain ⟨Z, hZ⟩ : ∃ Z, Z = Y * l.length := ⟨_, rfl⟩
        have hZl : Z ≤ 4320 := by rw [hZ]; exact Nat.le_trans (Nat.mul_le_mul (show Y ≤ 720 by omega) hl6) (by omega)
        have hZ0 : 0 < Z := by rw [hZ]; exact Nat.mul_pos hYp (by omega)
        obtain ⟨U, hU⟩ : ∃ U, U = Y - X := ⟨_, rfl⟩
        rw [← hZ, ← hU] at HSH
        have hsubU : IntKind.i64.wrap ((Y : Int) - (X : Int)) = (U : Int) := by
          rw [show (Y : Int) - (X : Int) = (U : Int) by omega]
          exact IntWalk.i64_in _ (by omega)
        have hU7 : U ≤ 720 := by omega
        have hmulZ : IntKind.i64.wrap ((Y : Int) * (l.length : Int)) = (Z : Int) := by
          rw [show (Y : Int) * (l.length : Int) = (Z : Int) by rw [hZ]; push_cast; rfl]
          exact IntWalk.i64_in _ (by omega)
        obtain ⟨P, Q, hPQ⟩ : ∃ P Q, Plain.low (g pp) F = (P, Q) := ⟨_, _, rfl⟩
        have HCUT : Hid (∀ V, Calls Try.prog 50 #[.int .i64 (U : Int), .int .i64 (Z : Int)] V (Val (.agg #[.int .i64 (P : Int), .int .i64 (Q : Int)]) V)) := Lib.hid fun V => by
          have h := l9Cut_any U Z V (by omega) (by omega) hZ0
          rw [HSH, hPQ] at h
          exact h
        have hPQl := Plain.low_le (g pp) F
        have hQp := Plain.low_pos (g pp) hF0
        have hAl := Plain.low_le (partS g l j) F
        have hAp := Plain.low_pos (partS g l j) hF0
        have hPL := Plain.low_plus (partS g l j) (g pp) hF0
        have hle := HLE.out j
        have hgl : g pp ≤ 720 := by rw [← hgp]; omega
        rw [hPQ] at hPQl hQp hPL
        rw [HLA.out] at hAl hAp hPL
        simp only [] at hPQl hQp hPL hAl hAp
        rw [← partS_step hp] at hPL
        obtain ⟨B1, B2, hB⟩ : ∃ B1 B2, Plain.low (partS g l (j + 1)) F = (B1, B2) := ⟨_, _, rfl⟩
        have HPLUS : Hid (∀ V, Calls Try.prog 49 #[.agg #[.int .i64 (A1 : Int), .int .i64 (A2 : Int)], .agg #[.int .i64 (P : Int), .int .i64 (Q : Int)]] V (Val (.agg #[.int .i64 (B1 : Int), .int .i64 (B2 : Int)]) V)) := Lib.hid fun V => by
          have h := l9Plus_any A1 A2 P Q V (by omega) (by omega) (by omega) (by omega) hAp hQp
          rw [hPL, hB] at h
          exact h
        have HNB := Lib.hid hB
        have HI := Lib.hid IHP
        obtain ⟨u9, hu2⟩ : ∃ u, u = s ||| 2 ^ pp := ⟨_, rfl⟩
        have HOUT : Hid (∀ V, Calls Try.prog 48 #[.int .i64 (s : Int), .int .i64 ((pp : Int) + 1)] V fun e w' => e = .returned (.int .i64 (u9 : Int)) ∧ w' = V) := Lib.hid (fun V => by rw [hu2]; exact (l9Out_any s pp (2 ^ pp) V hs hp6 (pow_nat pp)).mono fun _ _ h => ⟨h.1, h.2.symm⟩)
        rw [← hu2] at HI hu
        unfold frC at HI
        have HTB := Lib.hid (HT2.out.on HBR.out)
        have hij : (j : Int) < (l.length : Int) := by omega
        have hij0 : (0 : Int) ≤ (j : Int) := by omega
        clear hp IHP hc0 hu2 hXY hXl hXY2 hgp hgl hU HSH hZ hPQ hPQl hQp hPL hAl hAp hB hle
        go_upto_region 7 with fail
        go_cut [10] from 25 to 46 (fun u wx => ∃ g, u = .pointer (some ⟨g, 0, none⟩) ∧ Pair wx g X Y ∧ Below wr.heap.size wr wx)
        case first =>
          have HK : Hid (Below wr.heap.size wr (World.drew wr)) := Lib.hid (Below.refl _ _).drew
          refine wp_region_any (by kernel_rfl) ?_
          change wpAny _ _ _ _ _ _ _ (World.drew _)
          refine wpAny_take (i := 1) (v := .int .i64 (n : Int)) rfl (by kernel_rfl) (by kernel_rfl) (by kernel_rfl) (fun _ _ _ h => h) (.inl ⟨by kernel_rfl, fun w => by go_simp⟩) ?_
          refine wpAny_take (i := 2) (v := .int .i64 (s : Int)) rfl (by kernel_rfl) (by kernel_rfl) (by kernel_rfl) (fun _ _ _ h => h) (.inl ⟨by kernel_rfl, fun w => by go_simp⟩) ?_
          refine wpAny_take (i := 3) (v := .slice (some ⟨b0, o0, none⟩) l.length mc) rfl (by kernel_rfl) (by kernel_rfl) (by kernel_rfl) (fun _ _ _ h => h) (.inl ⟨by kernel_rfl, fun w => by go_simp⟩) ?_
          refine wpAny_take (i := 4) (v := .int .i64 (j : Int)) rfl (by kernel_rfl) (by kernel_rfl) (by kernel_rfl) (fun _ _ _ h => h) (.inl ⟨by kernel_rfl, fun w => by go_simp⟩) ?_
          refine wpAny_take (i := 5) (v := .pointer (some ⟨b0, o0 + j, none⟩)) rfl (by kernel_rfl) (by kernel_rfl) (by kernel_rfl) (fun _ _ _ h => h) (.inl ⟨by kernel_rfl, fun w => by go_simp⟩) ?_
          odd_walk_seven
          all_goals
            have HA2 := Lib.hid (HA.out.set X Y)
            have HK2 := Lib.hid (below_setRow HK.out HG.out #[.int .i64 (X : Int), .int .i64 (Y : Int)])
            go_wp2_with fail
            go_meet
            case rel => exact ⟨ga, rfl, HA2.out, HK2.out⟩
        case rest =>
          obtain ⟨ga, rfl, hga, hgb⟩ := hcut
          have HA := Lib.hid hga
          have HR := Lib.hid (HR.out.on hgb)
          have HK : Hid (Below W2.heap.size W2 wc) := Lib.hid (HBR.out.trans (hgb.mono HBR.out.size))
          clear hga hgb
          have HA := Lib.hid (HA.out.on (Below.refl _ _).drew)
          have HR := Lib.hid (HR.out.on (Below.refl _ _).drew)
          have HK := Lib.hid (HK.out.drew)
          go_upto_region 8 with fail
          refine wp_region_any (by kernel_rfl) ?_
          change wpAny _ _ _ _ _ _ _ (World.drew _)
          refine wpAny_take (i := 1) (v := .pointer (some ⟨ga, 1, none⟩)) rfl (by kernel_rfl) (by kernel_rfl) (by kernel_rfl) (fun _ _ _ h => h) (.inl ⟨by kernel_rfl, fun w => by go_simp⟩) ?_
          refine wpAny_take (i := 3) (v := .pointer (some ⟨ga, 0, none⟩)) rfl (by kernel_rfl) (by kernel_rfl) (by kernel_rfl) (fun _ _ _ h => h) (.inl ⟨by kernel_rfl, fun w => by go_simp⟩) ?_
          refine wpAny_take (i := 6) (v := .pointer (some ⟨ga, 1, none⟩)) rfl (by kernel_rfl) (by kernel_rfl) (by kernel_rfl) (fun _ _ _ h => h) (.inl ⟨by kernel_rfl, fun w => by go_simp⟩) ?_
          refine wpAny_take (i := 8) (v := .slice (some ⟨b0, o0, none⟩) l.length mc) rfl (by kernel_rfl) (by kernel_rfl) (by kernel_rfl) (fun _ _ _ h => h) (.inl ⟨by kernel_rfl, fun w => by go_simp⟩) ?_
          refine wpAny_take (i := 9) (v := .int .i64 (l.length : Int)) rfl (by kernel_rfl) (by kernel_rfl) (by kernel_rfl) (fun _ _ _ h => h) (.inl ⟨by kernel_rfl, fun w => by go_simp⟩) ?_
          odd_walk_eight
          all_goals
            have HR2 := Lib.hid (HR.out.set B1 B2)
            have HK2 := Lib.hid (below_setRow HK.out hGle #[.int .i64 (B1 : Int), .int .i64 (B2 : Int)])
            go_wp2_with fail
            go_roundw
            case rel => exact ⟨j + 1, by omega, by go_num, ⟨B1, B2, HNB.out, HR2.out⟩, HK2.out⟩
            case measure => simp [intOf]; omega
      · obtain rfl : j = l.length := by omega
        have HFR : Hid (frC (Plain.low (partS g l l.length) F) = .agg #[.int .i64 (A1 : Int), .int .i64 (A2 : Int)]) := Lib.hid (by rw [HLA.out]; rfl)
        have HP9 := Lib.hid (HP2.out.on HBR.out)
        have HB9 := Lib.hid (HB2.out.trans (HBR.out.mono HB2.out.size))
        obtain ⟨WR, hWR⟩ : ∃ WR, WR = wr.setRow (W.heap.size + 1) #[.int .i64 (A1 : Int), .int .i64 (A2 : Int)] := ⟨_, rfl⟩
        have HWR : Hid (Pair WR (W.heap.size + 1) A1 A2) := Lib.hid (by rw [hWR]; exact HP9.out.set A1 A2)
        have HBW : Hid (Below W.heap.size W WR) := Lib.hid (by rw [hWR]; exact below_setRow HB9.out (by omega) _)
        go_wp2_with (first | (refine wpList_load_row rfl 23 _ rfl W2.heap.size rfl 23 #[.int .i64 (A1 : Int), .int .i64 (A2 : Int)] (0, 0) _ HR.out Try.underlying23 rfl (by kernel_rfl) ?_) | (refine wpList_store_row rfl 23 _ _ rfl (W.heap.size + 1) #[.int .i64 (A1 : Int), .int .i64 (A2 : Int)] rfl rfl 23 _ HP9.out (by kernel_rfl) rfl (by simp [Value.oneCell']) ?_))
        rw [← hWR]
        exact bodyPost_ret (results_cell_row rfl _ _ (W.heap.size + 1) 23 _ (0, 0) _ rfl HWR.out Try.underlying23 rfl (by kernel_rfl)) rfl ⟨by rw [HFR.out], HBW.out⟩
theorem l9Odd_any (t : Nat → Bool) (n m : Nat) (hn : n ≤ 6) (hm : Hid (m = 2 ^ n - 1)) (hm64 : m < 64) (hmo : Hid (Plain.Mono t)) (htm : t m = true) (c : Nat) : ∀ s, Plain.cnt m s ≤ c → s < 64 → Plain.sub s m = true → ∀ W : World,
    Calls Try.prog 27 #[.agg (bools t), .int .i64 (n : Int), .int .i64 (s : Int)] W (Val (frC (Plain.low (Plain.oddN t m s) (Plain.fact (Plain.cnt m s)))) W) :=
  Nat.strongRecOn (motive := fun c => ∀ s, Plain.cnt m s ≤ c → s < 64 → Plain.sub s m = true → ∀ W : World, Calls Try.prog 27 #[.agg (bools t), .int .i64 (n : Int), .int .i64 (s : Int)] W (Val (frC (Plain.low (Plain.oddN t m s) (Plain.fact (Plain.cnt m s)))) W)) c
    fun c ih s hc hs hsub W => l9Odd_step t n m hn hm hm64 hmo htm c s hc hs hsub W (Lib.hid ih)

end Go.Proofs.Ytpaijobmoddgpab
