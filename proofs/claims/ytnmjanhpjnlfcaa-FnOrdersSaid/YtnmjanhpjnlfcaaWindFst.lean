/- Contract: spec.l8First: the first list of some length with a coefficient other than 0. Condition: at most three nails. -/
import Derived.Test.YtnmjanhpjnlfcaaWindGet
import Derived.Test.YtnmjanhpjnlfcaaWindLs
namespace Go.Proofs.Ytnmjanhpjnlfcaa
open Go.ChangeShapes Go.WideShapes Go.ChangeAt Go.RowKit
set_option linter.unusedVariables false
set_option maxRecDepth 100000 in
set_option maxHeartbeats 4000000 in
theorem l8First_yes (c : Nat → Int) (n : Nat) (w : World) (h3 : n ≤ 3) (HC0 : Hid (c 0 = 1)) (i : Nat) (hi : i < Plain.manyL n) (hc : Hid (c (Plain.cntL n + i) ≠ 0)) (hz : Hid (∀ j, j < i → c (Plain.cntL n + j) = 0)) :
    Calls Try.prog 27 #[.agg (sers c), .int .i64 (n : Int)] w (SB (Plain.listP (Plain.cntL n + i)) true w) := by
  have hb0 := (Below.refl w.heap.size w).alloc (Nat.le_refl _) (.cells (sers c) 49)
  have HB0 := Lib.hid hb0
  have HS0 := Lib.hid (ser_new w c)
  clear hb0
  go_enter Try.func27, Try.ntmps27
  go_wp2_with fail
  refine (l8Lists_any n _ h3).mono ?_
  rintro e WL ⟨v, gs, rfl, hgs, hG⟩
  have HSL := Lib.hid (HS0.out.on hG.2.2.1)
  have HBL := Lib.hid (HB0.out.trans (hG.2.2.1.mono HB0.out.size))
  have hgl : gs.length = Plain.manyL n := by rw [← lists_length, hgs, Plain.listsTo_len]
  have hml := Plain.manyL_le h3
  have hgl2 : gs.length ≤ 216 := by omega
  have HGL := Lib.hid hgl
  have HGS := Lib.hid hgs
  have HG := Lib.hid hG
  obtain ⟨ga, gc, rfl, -, -, -, -⟩ := collF_facs hG
  have hgc : gs.length ≤ gc := by
    obtain ⟨a2, c2, e2, -, hcp, -, -⟩ := collF_facs hG
    cases e2
    exact hcp.1
  have hig : i < gs.length := by rw [HGL.out]; exact hi
  clear hG hgs hgl hml
  go_wp2_with fail
  go_loopw [7] (fun i' wr => ∃ k : Nat, k ≤ i ∧ i' = .int .i64 (k : Int) ∧ Below WL.heap.size WL wr) (fun i' _ => i + 1 - (intOf i').toNat)
  case atStart => exact ⟨0, Nat.zero_le _, rfl, Below.refl _ _⟩
  case round =>
    obtain ⟨k, hk, rfl, hrel⟩ := hrel
    by_cases hlt : k < i
    · obtain ⟨f, hf⟩ := at_some gs k (by omega)
      have hkm : k < Plain.manyL n := by rw [← HGL.out]; omega
      have hfl : f.2.2 = Plain.listP (Plain.cntL n + k) := by
        have h1 := lists_at hf
        rw [HGS.out, Plain.listsTo_at hkm] at h1
        exact (Option.some.inj h1).symm
      have hcl : Plain.cntL n + k < 259 := by have := Plain.manyL_cnt n; have := Plain.cntL_le h3; omega
      obtain ⟨b, c5, e5, hcg, hfk⟩ := facs8_coll HG.out hf
      cases e5
      obtain ⟨fa, fc, fl⟩ := f
      dsimp only at hfl
      have hfact := Plain.listP_fact hcl
      rw [← hfl] at hfact
      have HFB := Lib.hid hfact.1
      have hcell := cell_later hrel hcg
      simp only [facVal] at hcell
      have HFI : Hid (Ints wr.drew fa fl) := Lib.hid (hfk.1.on hrel.drew)
      have HFK := Lib.hid hfk
      have HCG := Lib.hid hcg
      have HFL := Lib.hid hfl
      have HS2 : Hid (SerAt wr.drew w.heap.size c) := Lib.hid (HSL.out.on hrel.drew)
      have HBW : Hid (Below WL.heap.size WL wr.drew) := Lib.hid hrel.drew
      have HV : Hid (c (Plain.placeL fl) = 0) := Lib.hid (by rw [hfact.2.1]; exact hz.out k hlt)
      have hi2 : (k : Int) < (gs.length : Int) := by omega
      have hi20 : (0 : Int) ≤ (k : Int) := by omega
      clear hf hkm hfl hcl hfact hrel hfk hcg
      go_wp2_with fail
      have hcell2 : wr.drew.cell? ⟨b, k, none⟩ = some (.slice fa fl.length fc) := hcell
      clear hcell
      refine wp_region_any (by kernel_rfl) ?_
      change wpAny _ _ _ _ _ _ _ (World.drew _)
      refine wpAny_take (i := 1) (v := .slice (some ⟨b, 0, none⟩) gs.length gc) rfl (by kernel_rfl) (by kernel_rfl) (by kernel_rfl) (fun _ _ _ h => h) (.inl ⟨by kernel_rfl, fun w => by go_simp⟩) ?_
      refine wpAny_take (i := 2) (v := .int .i64 (k : Int)) rfl (by kernel_rfl) (by kernel_rfl) (by kernel_rfl) (fun _ _ _ h => h) (.inl ⟨by kernel_rfl, fun w => by go_simp⟩) ?_
      refine wpAny_take (i := 3) (v := .pointer (some ⟨b, k, none⟩)) rfl (by kernel_rfl) (by kernel_rfl) (by kernel_rfl) (fun _ _ _ h => h) (.inl ⟨by kernel_rfl, fun w => by go_simp⟩) ?_
      refine wpAny_ready (rs := [0, 4]) (by kernel_rfl) (by simp) ?_
      refine AllReady.cons rfl (fun K hK => ?_) ?_
      · refine wstep_load rfl 49 _ rfl w.heap.size rfl (sers c) (ser_load (by exact HS2.out)) (hK _ _ ?_)
        clear hK K
        refine wpAny_ready (rs := [4]) (by kernel_rfl) (by simp) ?_
        refine AllReady.cons rfl (fun K hK => ?_) ?_
        · go_simp
          refine hK _ _ ?_
          clear hK K
          refine wpAny_ready (rs := [5]) (by kernel_rfl) (by simp) ?_
          refine AllReady.cons rfl (fun K hK => ?_) ?_
          · go_simp
            go_at_call 31
            refine (l8Get_any fa fc fl c _ HFI HFB HC0).mono ?_
            rw [HV.out]
            rintro e w1 ⟨rfl, hb⟩
            have HB1 : Hid (Below WL.heap.size WL w1) := Lib.hid (HBW.out.trans (hb.mono HBW.out.size))
            clear hb
            refine hK _ _ ?_
            clear hK K
            refine wpAny_ready (rs := [6]) (by kernel_rfl) (by simp) ?_
            refine AllReady.cons rfl (fun K hK => ?_) ?_
            · go_simp
              refine hK _ _ ?_
              clear hK K
              refine wpAny_done (by kernel_rfl) ?_ _
              go_wp2_with fail
              go_roundw
              case rel => exact ⟨k + 1, by omega, by go_num, HB1.out⟩
              case measure => simp [intOf]; omega
            exact AllReady.nil
          exact AllReady.nil
        exact AllReady.nil
      refine AllReady.cons rfl (fun K hK => ?_) ?_
      · go_simp
        refine hK _ _ ?_
        clear hK K
        refine wpAny_ready (rs := [0]) (by kernel_rfl) (by simp) ?_
        refine AllReady.cons rfl (fun K hK => ?_) ?_
        · refine wstep_load rfl 49 _ rfl w.heap.size rfl (sers c) (ser_load (by exact HS2.out)) (hK _ _ ?_)
          clear hK K
          refine wpAny_ready (rs := [5]) (by kernel_rfl) (by simp) ?_
          refine AllReady.cons rfl (fun K hK => ?_) ?_
          · go_simp
            go_at_call 31
            refine (l8Get_any fa fc fl c _ HFI HFB HC0).mono ?_
            rw [HV.out]
            rintro e w1 ⟨rfl, hb⟩
            have HB1 : Hid (Below WL.heap.size WL w1) := Lib.hid (HBW.out.trans (hb.mono HBW.out.size))
            clear hb
            refine hK _ _ ?_
            clear hK K
            refine wpAny_ready (rs := [6]) (by kernel_rfl) (by simp) ?_
            refine AllReady.cons rfl (fun K hK => ?_) ?_
            · go_simp
              refine hK _ _ ?_
              clear hK K
              refine wpAny_done (by kernel_rfl) ?_ _
              go_wp2_with fail
              go_roundw
              case rel => exact ⟨k + 1, by omega, by go_num, HB1.out⟩
              case measure => simp [intOf]; omega
            exact AllReady.nil
          exact AllReady.nil
        exact AllReady.nil
      exact AllReady.nil
    · obtain rfl : k = i := by omega
      obtain ⟨X, hX⟩ : ∃ X, X = c (Plain.cntL n + k) := ⟨_, rfl⟩
      have hX0 : (X != 0) = true := by rw [hX]; simpa using hc.out
      obtain ⟨f, hf⟩ := at_some gs k (by omega)
      have hkm : k < Plain.manyL n := by rw [← HGL.out]; omega
      have hfl : f.2.2 = Plain.listP (Plain.cntL n + k) := by
        have h1 := lists_at hf
        rw [HGS.out, Plain.listsTo_at hkm] at h1
        exact (Option.some.inj h1).symm
      have hcl : Plain.cntL n + k < 259 := by have := Plain.manyL_cnt n; have := Plain.cntL_le h3; omega
      obtain ⟨b, c5, e5, hcg, hfk⟩ := facs8_coll HG.out hf
      cases e5
      obtain ⟨fa, fc, fl⟩ := f
      dsimp only at hfl
      have hfact := Plain.listP_fact hcl
      rw [← hfl] at hfact
      have HFB := Lib.hid hfact.1
      have hcell := cell_later hrel hcg
      simp only [facVal] at hcell
      have HFI : Hid (Ints wr.drew fa fl) := Lib.hid (hfk.1.on hrel.drew)
      have HFK := Lib.hid hfk
      have HCG := Lib.hid hcg
      have HFL := Lib.hid hfl
      have HS2 : Hid (SerAt wr.drew w.heap.size c) := Lib.hid (HSL.out.on hrel.drew)
      have HBW : Hid (Below WL.heap.size WL wr.drew) := Lib.hid hrel.drew
      have HV : Hid (c (Plain.placeL fl) = X) := Lib.hid (by rw [hfact.2.1]; exact hX.symm)
      have hi2 : (k : Int) < (gs.length : Int) := by omega
      have hi20 : (0 : Int) ≤ (k : Int) := by omega
      clear hf hkm hfl hcl hfact hrel hfk hcg
      go_wp2_with fail
      have hcell2 : wr.drew.cell? ⟨b, k, none⟩ = some (.slice fa fl.length fc) := hcell
      clear hcell
      refine wp_region_any (by kernel_rfl) ?_
      change wpAny _ _ _ _ _ _ _ (World.drew _)
      refine wpAny_take (i := 1) (v := .slice (some ⟨b, 0, none⟩) gs.length gc) rfl (by kernel_rfl) (by kernel_rfl) (by kernel_rfl) (fun _ _ _ h => h) (.inl ⟨by kernel_rfl, fun w => by go_simp⟩) ?_
      refine wpAny_take (i := 2) (v := .int .i64 (k : Int)) rfl (by kernel_rfl) (by kernel_rfl) (by kernel_rfl) (fun _ _ _ h => h) (.inl ⟨by kernel_rfl, fun w => by go_simp⟩) ?_
      refine wpAny_take (i := 3) (v := .pointer (some ⟨b, k, none⟩)) rfl (by kernel_rfl) (by kernel_rfl) (by kernel_rfl) (fun _ _ _ h => h) (.inl ⟨by kernel_rfl, fun w => by go_simp⟩) ?_
      refine wpAny_ready (rs := [0, 4]) (by kernel_rfl) (by simp) ?_
      refine AllReady.cons rfl (fun K hK => ?_) ?_
      · refine wstep_load rfl 49 _ rfl w.heap.size rfl (sers c) (ser_load (by exact HS2.out)) (hK _ _ ?_)
        clear hK K
        refine wpAny_ready (rs := [4]) (by kernel_rfl) (by simp) ?_
        refine AllReady.cons rfl (fun K hK => ?_) ?_
        · go_simp
          refine hK _ _ ?_
          clear hK K
          refine wpAny_ready (rs := [5]) (by kernel_rfl) (by simp) ?_
          refine AllReady.cons rfl (fun K hK => ?_) ?_
          · go_simp
            go_at_call 31
            refine (l8Get_any fa fc fl c _ HFI HFB HC0).mono ?_
            rw [HV.out]
            rintro e w1 ⟨rfl, hb⟩
            have HB1 : Hid (Below WL.heap.size WL w1) := Lib.hid (HBW.out.trans (hb.mono HBW.out.size))
            clear hb
            refine hK _ _ ?_
            clear hK K
            refine wpAny_ready (rs := [6]) (by kernel_rfl) (by simp) ?_
            refine AllReady.cons rfl (fun K hK => ?_) ?_
            · go_simp
              refine hK _ _ ?_
              clear hK K
              refine wpAny_done (by kernel_rfl) ?_ _
              have hcl3 := cell_later HB1.out HCG.out
              simp only [facVal] at hcl3
              have HR : Hid (Res w.heap.size w1 (.slice fa fl.length fc) (Plain.listP (Plain.cntL n + k))) := Lib.hid (by rw [← HFL.out]; exact ⟨fa, fc, rfl, HFK.out.1.on HB1.out, (HFK.out.2.2.2.mono HB0.out.size).on HB1.out, HFK.out.2.1⟩)
              have HBF : Hid (Below w.heap.size w w1) := Lib.hid (HBL.out.trans (HB1.out.mono HBL.out.size))
              go_wp2_with fail
              go_ret2
              exact ⟨_, rfl, HR.out, HBF.out⟩
            exact AllReady.nil
          exact AllReady.nil
        exact AllReady.nil
      refine AllReady.cons rfl (fun K hK => ?_) ?_
      · go_simp
        refine hK _ _ ?_
        clear hK K
        refine wpAny_ready (rs := [0]) (by kernel_rfl) (by simp) ?_
        refine AllReady.cons rfl (fun K hK => ?_) ?_
        · refine wstep_load rfl 49 _ rfl w.heap.size rfl (sers c) (ser_load (by exact HS2.out)) (hK _ _ ?_)
          clear hK K
          refine wpAny_ready (rs := [5]) (by kernel_rfl) (by simp) ?_
          refine AllReady.cons rfl (fun K hK => ?_) ?_
          · go_simp
            go_at_call 31
            refine (l8Get_any fa fc fl c _ HFI HFB HC0).mono ?_
            rw [HV.out]
            rintro e w1 ⟨rfl, hb⟩
            have HB1 : Hid (Below WL.heap.size WL w1) := Lib.hid (HBW.out.trans (hb.mono HBW.out.size))
            clear hb
            refine hK _ _ ?_
            clear hK K
            refine wpAny_ready (rs := [6]) (by kernel_rfl) (by simp) ?_
            refine AllReady.cons rfl (fun K hK => ?_) ?_
            · go_simp
              refine hK _ _ ?_
              clear hK K
              refine wpAny_done (by kernel_rfl) ?_ _
              have hcl3 := cell_later HB1.out HCG.out
              simp only [facVal] at hcl3
              have HR : Hid (Res w.heap.size w1 (.slice fa fl.length fc) (Plain.listP (Plain.cntL n + k))) := Lib.hid (by rw [← HFL.out]; exact ⟨fa, fc, rfl, HFK.out.1.on HB1.out, (HFK.out.2.2.2.mono HB0.out.size).on HB1.out, HFK.out.2.1⟩)
              have HBF : Hid (Below w.heap.size w w1) := Lib.hid (HBL.out.trans (HB1.out.mono HBL.out.size))
              go_wp2_with fail
              go_ret2
              exact ⟨_, rfl, HR.out, HBF.out⟩
            exact AllReady.nil
          exact AllReady.nil
        exact AllReady.nil
      exact AllReady.nil
set_option maxRecDepth 100000 in
set_option maxHeartbeats 4000000 in
theorem l8First_no (c : Nat → Int) (n : Nat) (w : World) (h3 : n ≤ 3) (HC0 : Hid (c 0 = 1)) (hz : Hid (∀ j, j < Plain.manyL n → c (Plain.cntL n + j) = 0)) :
    Calls Try.prog 27 #[.agg (sers c), .int .i64 (n : Int)] w (SB [] false w) := by
  have hb0 := (Below.refl w.heap.size w).alloc (Nat.le_refl _) (.cells (sers c) 49)
  have HB0 := Lib.hid hb0
  have HS0 := Lib.hid (ser_new w c)
  clear hb0
  go_enter Try.func27, Try.ntmps27
  go_wp2_with fail
  refine (l8Lists_any n _ h3).mono ?_
  rintro e WL ⟨v, gs, rfl, hgs, hG⟩
  have HSL := Lib.hid (HS0.out.on hG.2.2.1)
  have HBL := Lib.hid (HB0.out.trans (hG.2.2.1.mono HB0.out.size))
  have hgl : gs.length = Plain.manyL n := by rw [← lists_length, hgs, Plain.listsTo_len]
  have hml := Plain.manyL_le h3
  have hgl2 : gs.length ≤ 216 := by omega
  have HGL := Lib.hid hgl
  have HGS := Lib.hid hgs
  have HG := Lib.hid hG
  obtain ⟨ga, gc, rfl, -, -, -, -⟩ := collF_facs hG
  have hgc : gs.length ≤ gc := by
    obtain ⟨a2, c2, e2, -, hcp, -, -⟩ := collF_facs hG
    cases e2
    exact hcp.1
  
  clear hG hgs hgl hml
  go_wp2_with fail
  go_loopw [7] (fun i' wr => ∃ k : Nat, k ≤ gs.length ∧ i' = .int .i64 (k : Int) ∧ Below WL.heap.size WL wr) (fun i' _ => gs.length - (intOf i').toNat)
  case atStart => exact ⟨0, Nat.zero_le _, rfl, Below.refl _ _⟩
  case round =>
    obtain ⟨k, hk, rfl, hrel⟩ := hrel
    by_cases hlt : k < gs.length
    · obtain ⟨f, hf⟩ := at_some gs k (by omega)
      have hkm : k < Plain.manyL n := by rw [← HGL.out]; omega
      have hfl : f.2.2 = Plain.listP (Plain.cntL n + k) := by
        have h1 := lists_at hf
        rw [HGS.out, Plain.listsTo_at hkm] at h1
        exact (Option.some.inj h1).symm
      have hcl : Plain.cntL n + k < 259 := by have := Plain.manyL_cnt n; have := Plain.cntL_le h3; omega
      obtain ⟨b, c5, e5, hcg, hfk⟩ := facs8_coll HG.out hf
      cases e5
      obtain ⟨fa, fc, fl⟩ := f
      dsimp only at hfl
      have hfact := Plain.listP_fact hcl
      rw [← hfl] at hfact
      have HFB := Lib.hid hfact.1
      have hcell := cell_later hrel hcg
      simp only [facVal] at hcell
      have HFI : Hid (Ints wr.drew fa fl) := Lib.hid (hfk.1.on hrel.drew)
      have HFK := Lib.hid hfk
      have HCG := Lib.hid hcg
      have HFL := Lib.hid hfl
      have HS2 : Hid (SerAt wr.drew w.heap.size c) := Lib.hid (HSL.out.on hrel.drew)
      have HBW : Hid (Below WL.heap.size WL wr.drew) := Lib.hid hrel.drew
      have HV : Hid (c (Plain.placeL fl) = 0) := Lib.hid (by rw [hfact.2.1]; exact hz.out k hkm)
      have hi2 : (k : Int) < (gs.length : Int) := by omega
      have hi20 : (0 : Int) ≤ (k : Int) := by omega
      clear hf hkm hfl hcl hfact hrel hfk hcg
      go_wp2_with fail
      have hcell2 : wr.drew.cell? ⟨b, k, none⟩ = some (.slice fa fl.length fc) := hcell
      clear hcell
      refine wp_region_any (by kernel_rfl) ?_
      change wpAny _ _ _ _ _ _ _ (World.drew _)
      refine wpAny_take (i := 1) (v := .slice (some ⟨b, 0, none⟩) gs.length gc) rfl (by kernel_rfl) (by kernel_rfl) (by kernel_rfl) (fun _ _ _ h => h) (.inl ⟨by kernel_rfl, fun w => by go_simp⟩) ?_
      refine wpAny_take (i := 2) (v := .int .i64 (k : Int)) rfl (by kernel_rfl) (by kernel_rfl) (by kernel_rfl) (fun _ _ _ h => h) (.inl ⟨by kernel_rfl, fun w => by go_simp⟩) ?_
      refine wpAny_take (i := 3) (v := .pointer (some ⟨b, k, none⟩)) rfl (by kernel_rfl) (by kernel_rfl) (by kernel_rfl) (fun _ _ _ h => h) (.inl ⟨by kernel_rfl, fun w => by go_simp⟩) ?_
      refine wpAny_ready (rs := [0, 4]) (by kernel_rfl) (by simp) ?_
      refine AllReady.cons rfl (fun K hK => ?_) ?_
      · refine wstep_load rfl 49 _ rfl w.heap.size rfl (sers c) (ser_load (by exact HS2.out)) (hK _ _ ?_)
        clear hK K
        refine wpAny_ready (rs := [4]) (by kernel_rfl) (by simp) ?_
        refine AllReady.cons rfl (fun K hK => ?_) ?_
        · go_simp
          refine hK _ _ ?_
          clear hK K
          refine wpAny_ready (rs := [5]) (by kernel_rfl) (by simp) ?_
          refine AllReady.cons rfl (fun K hK => ?_) ?_
          · go_simp
            go_at_call 31
            refine (l8Get_any fa fc fl c _ HFI HFB HC0).mono ?_
            rw [HV.out]
            rintro e w1 ⟨rfl, hb⟩
            have HB1 : Hid (Below WL.heap.size WL w1) := Lib.hid (HBW.out.trans (hb.mono HBW.out.size))
            clear hb
            refine hK _ _ ?_
            clear hK K
            refine wpAny_ready (rs := [6]) (by kernel_rfl) (by simp) ?_
            refine AllReady.cons rfl (fun K hK => ?_) ?_
            · go_simp
              refine hK _ _ ?_
              clear hK K
              refine wpAny_done (by kernel_rfl) ?_ _
              go_wp2_with fail
              go_roundw
              case rel => exact ⟨k + 1, by omega, by go_num, HB1.out⟩
              case measure => simp [intOf]; omega
            exact AllReady.nil
          exact AllReady.nil
        exact AllReady.nil
      refine AllReady.cons rfl (fun K hK => ?_) ?_
      · go_simp
        refine hK _ _ ?_
        clear hK K
        refine wpAny_ready (rs := [0]) (by kernel_rfl) (by simp) ?_
        refine AllReady.cons rfl (fun K hK => ?_) ?_
        · refine wstep_load rfl 49 _ rfl w.heap.size rfl (sers c) (ser_load (by exact HS2.out)) (hK _ _ ?_)
          clear hK K
          refine wpAny_ready (rs := [5]) (by kernel_rfl) (by simp) ?_
          refine AllReady.cons rfl (fun K hK => ?_) ?_
          · go_simp
            go_at_call 31
            refine (l8Get_any fa fc fl c _ HFI HFB HC0).mono ?_
            rw [HV.out]
            rintro e w1 ⟨rfl, hb⟩
            have HB1 : Hid (Below WL.heap.size WL w1) := Lib.hid (HBW.out.trans (hb.mono HBW.out.size))
            clear hb
            refine hK _ _ ?_
            clear hK K
            refine wpAny_ready (rs := [6]) (by kernel_rfl) (by simp) ?_
            refine AllReady.cons rfl (fun K hK => ?_) ?_
            · go_simp
              refine hK _ _ ?_
              clear hK K
              refine wpAny_done (by kernel_rfl) ?_ _
              go_wp2_with fail
              go_roundw
              case rel => exact ⟨k + 1, by omega, by go_num, HB1.out⟩
              case measure => simp [intOf]; omega
            exact AllReady.nil
          exact AllReady.nil
        exact AllReady.nil
      exact AllReady.nil
    · obtain rfl : k = gs.length := by omega
      have HBF : Hid (Below w.heap.size w wr) := Lib.hid (HBL.out.trans (hrel.mono HBL.out.size))
      have HBA : Hid (Below w.heap.size w (wr.alloc (.cells #[] 3))) := Lib.hid (HBF.out.alloc HBF.out.size _)
      have hsz := HBF.out.size
      clear hrel
      go_wp2_with fail
      go_ret2
      exact ⟨_, rfl, ⟨_, _, rfl, Ints.nil _ _, .inl rfl, ⟨Nat.le_refl _, by decide, fun h => (by cases h), fun x h => ⟨_, _, by cases h; rfl⟩⟩⟩, HBA.out⟩

end Go.Proofs.Ytnmjanhpjnlfcaa
