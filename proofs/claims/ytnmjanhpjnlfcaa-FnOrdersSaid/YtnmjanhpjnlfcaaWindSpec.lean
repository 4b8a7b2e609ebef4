/- Contract: spec.l8Behind: the coefficients of a word with a letter behind it. Conditions: a letter, coefficients that are small. -/
import Derived.Test.YtnmjanhpjnlfcaaBdNailOf
import Derived.Test.YtnmjanhpjnlfcaaBdWindKit
import Derived.StillTailTactics
import Derived.Deep.CutRange
import Derived.Deep.DeepCutAuto
namespace Go.Proofs.Ytnmjanhpjnlfcaa
open Go.ChangeShapes Go.WideShapes Go.ChangeAt Go.RowKit
set_option linter.unusedVariables false

theorem l2Nail_is (x : Int) (M : Nat) (w : World) (h : Hid (-6 ≤ x ∧ x ≤ 6)) (hN : Hid (Plain.nail x = (M : Int) + 1)) : Calls Try.prog 62 #[.int .i64 x] w fun e w' => e = .returned (.int .i64 ((M : Int) + 1)) ∧ w = w' := by
  rw [← hN.out]
  exact l2Nail_any x w h.out
theorem SerAt.set1 {w : World} {G k : Nat} {c d : Nat → Int} (h : SerAt w G c) (x : Int) (hk : k < 258) (he : ∀ q, q < 259 → q ≠ 0 → d q = if q = k + 1 then x else c q) : SerAt (w.setCell ⟨G, k, none⟩ (.int .i64 x)) G d := by
  rw [SerAt, heap_setCell_same w G k _ _ _ h, sers_set c x hk, sers_cong fun q h1 hq => (he q hq (by omega)).symm]
/-- The blocks of a step: what was, the result's, what is made. -/
def Three (w wr : World) (c d : Nat → Int) : Prop := SerAt wr w.heap.size c ∧ SerAt wr (w.heap.size + 1) (fun _ => 0) ∧ SerAt wr (w.heap.size + 1 + 1) d ∧ Below w.heap.size w wr
theorem Three.set {w wr : World} {c d e : Nat → Int} {k : Nat} (h : Three w wr c d) (x : Int) (hk : k < 258) (he : ∀ q, q < 259 → q ≠ 0 → e q = if q = k + 1 then x else d q) : Three w (wr.setCell ⟨w.heap.size + 1 + 1, k, none⟩ (.int .i64 x)) c e :=
  ⟨h.1.off (by omega), h.2.1.off (by omega), h.2.2.1.set1 x hk he, h.2.2.2.setCell (p := ⟨w.heap.size + 1 + 1, k, none⟩) (by simp; omega) _⟩
theorem Three.drew {w wr : World} {c d : Nat → Int} (h : Three w wr c d) : Three w wr.drew c d := ⟨h.1, h.2.1, h.2.2.1, h.2.2.2.drew⟩
theorem Three.cong {w wr : World} {c d e : Nat → Int} (h : Three w wr c d) (he : ∀ q, 1 ≤ q → q < 259 → d q = e q) : Three w wr c e := ⟨h.1, h.2.1, h.2.2.1.cong he, h.2.2.2⟩
theorem three_start (w : World) (c : Nat → Int) : Three w (((((w.alloc (.cells (sers c) 49)).alloc (.cells Try.zeroCells49 49)).alloc (.cells Try.zeroCells49 49)).drew).setRow (w.heap.size + 1 + 1) (sers c)) c c := by
  have h1 : SerAt (((w.alloc (.cells (sers c) 49)).alloc (.cells Try.zeroCells49 49)).alloc (.cells Try.zeroCells49 49)) w.heap.size c := (heap_alloc_old _ _ (by simp; omega)).trans ((heap_alloc_old _ _ (by simp)).trans (heap_alloc_new w _))
  have h2 : SerAt (((w.alloc (.cells (sers c) 49)).alloc (.cells Try.zeroCells49 49)).alloc (.cells Try.zeroCells49 49)) (w.heap.size + 1) (fun _ => 0) := by rw [SerAt, sers_zero]; exact (heap_alloc_old _ _ (by simp)).trans (heap_alloc2_new w _ _)
  have h3 : SerAt (((w.alloc (.cells (sers c) 49)).alloc (.cells Try.zeroCells49 49)).alloc (.cells Try.zeroCells49 49)) (w.heap.size + 1 + 1) (fun _ => 0) := by rw [SerAt, sers_zero]; have h := heap_alloc_new ((w.alloc (.cells (sers c) 49)).alloc (.cells Try.zeroCells49 49)) (.cells Try.zeroCells49 49); simpa using h
  have hb : Below w.heap.size w (((w.alloc (.cells (sers c) 49)).alloc (.cells Try.zeroCells49 49)).alloc (.cells Try.zeroCells49 49)) := (((Below.refl _ _).alloc (Nat.le_refl _) _).alloc (by simp) _).alloc (by simp; omega) _
  exact ⟨SerAt.other (w := (((w.alloc (.cells (sers c) 49)).alloc (.cells Try.zeroCells49 49)).alloc (.cells Try.zeroCells49 49)).drew) h1 (by omega), SerAt.other (w := (((w.alloc (.cells (sers c) 49)).alloc (.cells Try.zeroCells49 49)).alloc (.cells Try.zeroCells49 49)).drew) h2 (by omega), serAt_row (w := (((w.alloc (.cells (sers c) 49)).alloc (.cells Try.zeroCells49 49)).alloc (.cells Try.zeroCells49 49)).drew) h3, below_setRow hb.drew (by omega) _⟩

set_option maxRecDepth 100000 in
set_option maxHeartbeats 4000000 in
theorem l8Behind_any (c : Nat → Int) (x : Int) (M : Nat) (w : World) (HX : Hid (-6 ≤ x ∧ x ≤ 6)) (HN : Hid (Plain.nail x = (M : Int) + 1)) (h6 : M ≤ 5) (h0 : Hid (c 0 = 1)) (hs : Hid (Plain.Small c)) (hs2 : Hid (Plain.Small (Plain.letC x c))) :
    Calls Try.prog 48 #[.agg (sers c), .int .i64 x] w (Val (.agg (sers (Plain.letC x c))) w) := by
  have H1 := Lib.hid (three_start w c)
  have HS : Hid (SerAt ((w.alloc (.cells (sers c) 49)).alloc (.cells Try.zeroCells49 49)) w.heap.size c) := Lib.hid ((heap_alloc_old _ _ (by simp)).trans (heap_alloc_new w _))
  have HZ : Hid ((((w.alloc (.cells (sers c) 49)).alloc (.cells Try.zeroCells49 49)).alloc (.cells Try.zeroCells49 49)).heap[w.heap.size + 1 + 1]? = some (.cells Try.zeroCells49 49)) := Lib.hid (by have h := heap_alloc_new ((w.alloc (.cells (sers c) 49)).alloc (.cells Try.zeroCells49 49)) (.cells Try.zeroCells49 49); simpa using h)
  have HS3 : Hid (SerAt (((w.alloc (.cells (sers c) 49)).alloc (.cells Try.zeroCells49 49)).alloc (.cells Try.zeroCells49 49)) w.heap.size c) := Lib.hid ((heap_alloc_old _ _ (by simp; omega)).trans HS.out)
  have HE := H1
  have hwr : IntKind.i64.wrap (M : Int) = (M : Int) := Go.IntWalk.i64_in _ ⟨by omega, by omega⟩
  go_enter Try.func48, Try.ntmps48
  go_upto_region 1 with (fail)
  go_cut [5, 6] from 11 to 14 (fun n o wx => n = .int .i64 (M : Int) ∧ o = .pointer (some ⟨w.heap.size + 1 + 1, 0, none⟩) ∧ Three w wx c c)
  case first =>

    refine wp_region_any (by kernel_rfl) ?_
    change wpAny _ _ _ _ _ _ _ (World.drew _)
    refine wpAny_take (i := 0) (v := .int .i64 x) rfl (by kernel_rfl) (by kernel_rfl) (by kernel_rfl) (fun _ _ _ h => h) (.inl ⟨by kernel_rfl, fun w => by go_simp⟩) ?_
    refine wpAny_ready (rs := [1, 3, 4]) (by kernel_rfl) (by simp) ?_
    refine AllReady.cons rfl (fun K hK => ?_) ?_
    · go_simp
      go_at_call 62
      refine (l2Nail_is x M _ HX HN).mono ?_
      rintro e w' ⟨rfl, rfl⟩
      refine hK _ _ ?_
      clear hK K
      refine wpAny_take (i := 2) (v := .int .i64 (M : Int)) rfl (by kernel_rfl) (by kernel_rfl) (by kernel_rfl) (fun _ _ _ h => h) (.inl ⟨by kernel_rfl, fun w => by go_simp⟩) ?_
      refine wpAny_ready (rs := [3, 4]) (by kernel_rfl) (by simp) ?_
      refine AllReady.cons rfl (fun K hK => ?_) ?_
      · refine wstep_load rfl 49 _ rfl w.heap.size rfl (sers c) (ser_load (by first | exact HS.out | exact HS3.out)) (hK _ _ ?_)
        clear hK K
        refine wpAny_ready (rs := [4]) (by kernel_rfl) (by simp) ?_
        refine AllReady.cons rfl (fun K hK => ?_) ?_
        · go_simp
          refine hK _ _ ?_
          clear hK K
          refine wpAny_take (i := 5) (v := .int .i64 (M : Int)) rfl (by kernel_rfl) (by kernel_rfl) (by kernel_rfl) (fun _ _ _ h => h) (.inl ⟨by kernel_rfl, fun w => by go_simp⟩) ?_
          refine wpAny_ready (rs := [6]) (by kernel_rfl) (by simp) ?_
          refine AllReady.cons rfl (fun K hK => ?_) ?_
          · refine wstep_store rfl 49 _ _ rfl (w.heap.size + 1 + 1) (sers c) rfl rfl 49 (sers fun _ => 0) (by rw [sers_zero]; exact HZ.out) (infoSers _) (by rw [sers_size, sers_size]) (sers_one _) (hK _ _ ?_)
            clear hK K
            refine wpAny_done (by kernel_rfl) ?_ _
            go_wp2_with fail
            go_meet
            case rel => exact ⟨rfl, rfl, HE.out⟩
          exact AllReady.nil
        exact AllReady.nil
      refine AllReady.cons rfl (fun K hK => ?_) ?_
      · go_simp
        refine hK _ _ ?_
        clear hK K
        refine wpAny_take (i := 5) (v := .int .i64 (M : Int)) rfl (by kernel_rfl) (by kernel_rfl) (by kernel_rfl) (fun _ _ _ h => h) (.inl ⟨by kernel_rfl, fun w => by go_simp⟩) ?_
        refine wpAny_ready (rs := [3]) (by kernel_rfl) (by simp) ?_
        refine AllReady.cons rfl (fun K hK => ?_) ?_
        · refine wstep_load rfl 49 _ rfl w.heap.size rfl (sers c) (ser_load (by first | exact HS.out | exact HS3.out)) (hK _ _ ?_)
          clear hK K
          refine wpAny_ready (rs := [6]) (by kernel_rfl) (by simp) ?_
          refine AllReady.cons rfl (fun K hK => ?_) ?_
          · refine wstep_store rfl 49 _ _ rfl (w.heap.size + 1 + 1) (sers c) rfl rfl 49 (sers fun _ => 0) (by rw [sers_zero]; exact HZ.out) (infoSers _) (by rw [sers_size, sers_size]) (sers_one _) (hK _ _ ?_)
            clear hK K
            refine wpAny_done (by kernel_rfl) ?_ _
            go_wp2_with fail
            go_meet
            case rel => exact ⟨rfl, rfl, HE.out⟩
          exact AllReady.nil
        exact AllReady.nil
      exact AllReady.nil
    refine AllReady.cons rfl (fun K hK => ?_) ?_
    · refine wstep_load rfl 49 _ rfl w.heap.size rfl (sers c) (ser_load (by first | exact HS.out | exact HS3.out)) (hK _ _ ?_)
      clear hK K
      refine wpAny_ready (rs := [1, 4]) (by kernel_rfl) (by simp) ?_
      refine AllReady.cons rfl (fun K hK => ?_) ?_
      · go_simp
        go_at_call 62
        refine (l2Nail_is x M _ HX HN).mono ?_
        rintro e w' ⟨rfl, rfl⟩
        refine hK _ _ ?_
        clear hK K
        refine wpAny_take (i := 2) (v := .int .i64 (M : Int)) rfl (by kernel_rfl) (by kernel_rfl) (by kernel_rfl) (fun _ _ _ h => h) (.inl ⟨by kernel_rfl, fun w => by go_simp⟩) ?_
        refine wpAny_ready (rs := [4]) (by kernel_rfl) (by simp) ?_
        refine AllReady.cons rfl (fun K hK => ?_) ?_
        · go_simp
          refine hK _ _ ?_
          clear hK K
          refine wpAny_take (i := 5) (v := .int .i64 (M : Int)) rfl (by kernel_rfl) (by kernel_rfl) (by kernel_rfl) (fun _ _ _ h => h) (.inl ⟨by kernel_rfl, fun w => by go_simp⟩) ?_
          refine wpAny_ready (rs := [6]) (by kernel_rfl) (by simp) ?_
          refine AllReady.cons rfl (fun K hK => ?_) ?_
          · refine wstep_store rfl 49 _ _ rfl (w.heap.size + 1 + 1) (sers c) rfl rfl 49 (sers fun _ => 0) (by rw [sers_zero]; exact HZ.out) (infoSers _) (by rw [sers_size, sers_size]) (sers_one _) (hK _ _ ?_)
            clear hK K
            refine wpAny_done (by kernel_rfl) ?_ _
            go_wp2_with fail
            go_meet
            case rel => exact ⟨rfl, rfl, HE.out⟩
          exact AllReady.nil
        exact AllReady.nil
      refine AllReady.cons rfl (fun K hK => ?_) ?_
      · go_simp
        refine hK _ _ ?_
        clear hK K
        refine wpAny_ready (rs := [1]) (by kernel_rfl) (by simp) ?_
        refine AllReady.cons rfl (fun K hK => ?_) ?_
        · go_simp
          go_at_call 62
          refine (l2Nail_is x M _ HX HN).mono ?_
          rintro e w' ⟨rfl, rfl⟩
          refine hK _ _ ?_
          clear hK K
          refine wpAny_take (i := 2) (v := .int .i64 (M : Int)) rfl (by kernel_rfl) (by kernel_rfl) (by kernel_rfl) (fun _ _ _ h => h) (.inl ⟨by kernel_rfl, fun w => by go_simp⟩) ?_
          refine wpAny_take (i := 5) (v := .int .i64 (M : Int)) rfl (by kernel_rfl) (by kernel_rfl) (by kernel_rfl) (fun _ _ _ h => h) (.inl ⟨by kernel_rfl, fun w => by go_simp⟩) ?_
          refine wpAny_ready (rs := [6]) (by kernel_rfl) (by simp) ?_
          refine AllReady.cons rfl (fun K hK => ?_) ?_
          · refine wstep_store rfl 49 _ _ rfl (w.heap.size + 1 + 1) (sers c) rfl rfl 49 (sers fun _ => 0) (by rw [sers_zero]; exact HZ.out) (infoSers _) (by rw [sers_size, sers_size]) (sers_one _) (hK _ _ ?_)
            clear hK K
            refine wpAny_done (by kernel_rfl) ?_ _
            go_wp2_with fail
            go_meet
            case rel => exact ⟨rfl, rfl, HE.out⟩
          exact AllReady.nil
        exact AllReady.nil
      exact AllReady.nil
    refine AllReady.cons rfl (fun K hK => ?_) ?_
    · go_simp
      refine hK _ _ ?_
      clear hK K
      refine wpAny_ready (rs := [1, 3]) (by kernel_rfl) (by simp) ?_
      refine AllReady.cons rfl (fun K hK => ?_) ?_
      · go_simp
        go_at_call 62
        refine (l2Nail_is x M _ HX HN).mono ?_
        rintro e w' ⟨rfl, rfl⟩
        refine hK _ _ ?_
        clear hK K
        refine wpAny_take (i := 2) (v := .int .i64 (M : Int)) rfl (by kernel_rfl) (by kernel_rfl) (by kernel_rfl) (fun _ _ _ h => h) (.inl ⟨by kernel_rfl, fun w => by go_simp⟩) ?_
        refine wpAny_take (i := 5) (v := .int .i64 (M : Int)) rfl (by kernel_rfl) (by kernel_rfl) (by kernel_rfl) (fun _ _ _ h => h) (.inl ⟨by kernel_rfl, fun w => by go_simp⟩) ?_
        refine wpAny_ready (rs := [3]) (by kernel_rfl) (by simp) ?_
        refine AllReady.cons rfl (fun K hK => ?_) ?_
        · refine wstep_load rfl 49 _ rfl w.heap.size rfl (sers c) (ser_load (by first | exact HS.out | exact HS3.out)) (hK _ _ ?_)
          clear hK K
          refine wpAny_ready (rs := [6]) (by kernel_rfl) (by simp) ?_
          refine AllReady.cons rfl (fun K hK => ?_) ?_
          · refine wstep_store rfl 49 _ _ rfl (w.heap.size + 1 + 1) (sers c) rfl rfl 49 (sers fun _ => 0) (by rw [sers_zero]; exact HZ.out) (infoSers _) (by rw [sers_size, sers_size]) (sers_one _) (hK _ _ ?_)
            clear hK K
            refine wpAny_done (by kernel_rfl) ?_ _
            go_wp2_with fail
            go_meet
            case rel => exact ⟨rfl, rfl, HE.out⟩
          exact AllReady.nil
        exact AllReady.nil
      refine AllReady.cons rfl (fun K hK => ?_) ?_
      · refine wstep_load rfl 49 _ rfl w.heap.size rfl (sers c) (ser_load (by first | exact HS.out | exact HS3.out)) (hK _ _ ?_)
        clear hK K
        refine wpAny_ready (rs := [1]) (by kernel_rfl) (by simp) ?_
        refine AllReady.cons rfl (fun K hK => ?_) ?_
        · go_simp
          go_at_call 62
          refine (l2Nail_is x M _ HX HN).mono ?_
          rintro e w' ⟨rfl, rfl⟩
          refine hK _ _ ?_
          clear hK K
          refine wpAny_take (i := 2) (v := .int .i64 (M : Int)) rfl (by kernel_rfl) (by kernel_rfl) (by kernel_rfl) (fun _ _ _ h => h) (.inl ⟨by kernel_rfl, fun w => by go_simp⟩) ?_
          refine wpAny_take (i := 5) (v := .int .i64 (M : Int)) rfl (by kernel_rfl) (by kernel_rfl) (by kernel_rfl) (fun _ _ _ h => h) (.inl ⟨by kernel_rfl, fun w => by go_simp⟩) ?_
          refine wpAny_ready (rs := [6]) (by kernel_rfl) (by simp) ?_
          refine AllReady.cons rfl (fun K hK => ?_) ?_
          · refine wstep_store rfl 49 _ _ rfl (w.heap.size + 1 + 1) (sers c) rfl rfl 49 (sers fun _ => 0) (by rw [sers_zero]; exact HZ.out) (infoSers _) (by rw [sers_size, sers_size]) (sers_one _) (hK _ _ ?_)
            clear hK K
            refine wpAny_done (by kernel_rfl) ?_ _
            go_wp2_with fail
            go_meet
            case rel => exact ⟨rfl, rfl, HE.out⟩
          exact AllReady.nil
        exact AllReady.nil
      exact AllReady.nil
    exact AllReady.nil
  case rest =>
    obtain ⟨rfl, rfl, hT⟩ := hcut
    have HT := Lib.hid hT
    clear hT H1 HS HZ HS3 HE
    have hM0 : (0 : Int) ≤ (M : Int) := by omega
    have hM1 : (M : Int) < 6 := by omega
    have s0 := hs.out (M + 1) (by omega)
    have r0 := HT.out.1.cell (k := M) (by omega)
    have r1 := HT.out.2.2.1.cell (k := M) (by omega)
    have r2 := HT.out.2.2.1.free M
    by_cases hpos : x < 0
    · have HK : Hid (Three w (wc.setCell ⟨w.heap.size + 1 + 1, M, none⟩ (.int .i64 (c (M + 1) + -1))) c (Plain.linS (-1) (M + 1) c 0 (6 * 0 + 6))) := Lib.hid (HT.out.set _ (by omega) fun q hq h => by rw [Plain.linS_one (by omega) (by omega) h0.out h])
      clear HT
      generalize c (M + 1) = x1 at r0 r1 s0 HK
      go_wp2_with fail
      clear r0 r1 r2 s0
      go_loopw [8] (fun i wr => ∃ a : Nat, a ≤ 6 ∧ i = .int .i64 (a : Int) ∧ Three w wr c (Plain.linS (-1) (M + 1) c a (6 * a + 6))) (fun i _ => 6 - (intOf i).toNat)
      case atStart => exact ⟨0, by omega, rfl, HK.out⟩
      case round =>
        obtain ⟨a, ha, rfl, hrel⟩ := hrel
        have HR := Lib.hid hrel
        clear hrel
        by_cases hlt : a < 6
        · have ha1 : (a : Int) < 6 := by omega
          have ha0 : (0 : Int) ≤ (a : Int) := by omega
          have e1 := HR.out.1.cell (k := 6 + a * 6 + M) (by omega)
          have e2 := HR.out.1.cell (k := a) (by omega)
          have e3 := HR.out.2.2.1.cell (k := 6 + a * 6 + M) (by omega)
          have e4 := HR.out.2.2.1.free (6 + a * 6 + M)
          have s1 := hs.out (6 + a * 6 + M + 1) (by omega)
          have s2 := hs.out (a + 1) (by omega)
          have hq : 6 + a * 6 + M + 1 = 6 * (a + 1) + (M + 1) := by omega
          have HN : Hid (Three w (wr.setCell ⟨w.heap.size + 1 + 1, 6 + a * 6 + M, none⟩ (.int .i64 (c (6 + a * 6 + M + 1) + -c (a + 1)))) c (Plain.linS (-1) (M + 1) c (a + 1) (6 * (a + 1) + 0))) := Lib.hid (HR.out.set _ (by omega) fun q _ _ => by
            rw [show 6 * (a + 1) + 0 = 6 * a + 6 by omega, Plain.linS_two (by omega) (by omega) hlt, hq]
            simp only [Int.neg_mul, Int.one_mul])
          clear hq
          generalize c (6 + a * 6 + M + 1) = x1 at e1 s1 HN
          generalize c (a + 1) = x2 at e2 s2 HN
          go_wp2_with fail
          have d1 : wr.drew.cell? ⟨w.heap.size, 6 + a * 6 + M, none⟩ = _ := e1
          have d2 : wr.drew.cell? ⟨w.heap.size, a, none⟩ = _ := e2
          have d3 : wr.drew.cell? ⟨w.heap.size + 1 + 1, 6 + a * 6 + M, none⟩ = _ := e3
          have d4 : wr.drew.frozen? ⟨w.heap.size + 1 + 1, 6 + a * 6 + M, none⟩ = false := e4
          have HN2 : Hid (Three w (wr.drew.setCell ⟨w.heap.size + 1 + 1, 6 + a * 6 + M, none⟩ (.int .i64 (x1 + -x2))) c (Plain.linS (-1) (M + 1) c (a + 1) (6 * (a + 1) + 0))) := Lib.hid HN.out.drew
          clear e1 e2 e3 e4 HR HN
          refine wp_region_still_tail 18 (by kernel_rfl) (by kernel_rfl) ?_
          simp only [List.take_succ_cons, List.take_zero, List.drop_succ_cons, List.drop_zero]
          change wpStill _ _ (World.drew _) (fun a' => wpList _ _ _ _ a' (World.drew _)) _ _
          generalize (World.drew _) = V at d1 d2 d3 d4 HN2 ⊢
          repeat still_step
          refine wpStill_nil ?_
          go_wp2_with fail
          clear d1 d2 d3 d4 s1 s2
          go_loopw [9] (fun i wr => ∃ b : Nat, b ≤ 6 ∧ i = .int .i64 (b : Int) ∧ Three w wr c (Plain.linS (-1) (M + 1) c (a + 1) (6 * (a + 1) + b))) (fun i _ => 6 - (intOf i).toNat)
          case atStart => exact ⟨0, by omega, rfl, HN2.out⟩
          case round =>
            clear HN2
            obtain ⟨b, hb, rfl, hrel⟩ := hrel
            have HR := Lib.hid hrel
            clear hrel
            by_cases hlb : b < 6
            · have hb1 : (b : Int) < 6 := by omega
              have hb0 : (0 : Int) ≤ (b : Int) := by omega
              have e1 := HR.out.1.cell (k := 42 + a * 36 + b * 6 + M) (by omega)
              have e2 := HR.out.1.cell (k := 6 + a * 6 + b) (by omega)
              have e3 := HR.out.2.2.1.cell (k := 42 + a * 36 + b * 6 + M) (by omega)
              have e4 := HR.out.2.2.1.free (42 + a * 36 + b * 6 + M)
              have s1 := hs.out (42 + a * 36 + b * 6 + M + 1) (by omega)
              have s2 := hs.out (6 + a * 6 + b + 1) (by omega)
              have hq : 42 + a * 36 + b * 6 + M + 1 = 6 * (6 * (a + 1) + (b + 1)) + (M + 1) := by omega
              have hq2 : 6 + a * 6 + b + 1 = 6 * (a + 1) + (b + 1) := by omega
              have HN : Hid (Three w (wr.setCell ⟨w.heap.size + 1 + 1, 42 + a * 36 + b * 6 + M, none⟩ (.int .i64 (c (42 + a * 36 + b * 6 + M + 1) + -c (6 + a * 6 + b + 1)))) c (Plain.linS (-1) (M + 1) c (a + 1) (6 * (a + 1) + (b + 1)))) := Lib.hid (HR.out.set _ (by omega) fun q _ _ => by
                rw [Plain.linS_three (by omega) (by omega) (by omega), hq, hq2]
                simp only [Int.neg_mul, Int.one_mul])
              clear hq hq2
              generalize c (42 + a * 36 + b * 6 + M + 1) = x1 at e1 s1 HN
              generalize c (6 + a * 6 + b + 1) = x2 at e2 s2 HN
              go_wp2_with fail
              have d1 : wr.drew.cell? ⟨w.heap.size, 42 + a * 36 + b * 6 + M, none⟩ = _ := e1
              have d2 : wr.drew.cell? ⟨w.heap.size, 6 + a * 6 + b, none⟩ = _ := e2
              have d3 : wr.drew.cell? ⟨w.heap.size + 1 + 1, 42 + a * 36 + b * 6 + M, none⟩ = _ := e3
              have d4 : wr.drew.frozen? ⟨w.heap.size + 1 + 1, 42 + a * 36 + b * 6 + M, none⟩ = false := e4
              have HN2 : Hid (Three w (wr.drew.setCell ⟨w.heap.size + 1 + 1, 42 + a * 36 + b * 6 + M, none⟩ (.int .i64 (x1 + -x2))) c (Plain.linS (-1) (M + 1) c (a + 1) (6 * (a + 1) + (b + 1)))) := Lib.hid HN.out.drew
              clear e1 e2 e3 e4 HR HN
              refine wp_region_still_tail 24 (by kernel_rfl) (by kernel_rfl) ?_
              simp only [List.take_succ_cons, List.take_zero, List.drop_succ_cons, List.drop_zero]
              change wpStill _ _ (World.drew _) (fun a' => wpList _ _ _ _ a' (World.drew _)) _ _
              generalize (World.drew _) = V at d1 d2 d3 d4 HN2 ⊢
              repeat still_step
              refine wpStill_nil ?_
              go_wp2_with fail
              go_roundw
              case rel => exact ⟨b + 1, by omega, by go_num, HN2.out⟩
              case measure => simp [intOf]; omega
            · obtain rfl : b = 6 := by omega
              have HR2 : Hid (Three w wr c (Plain.linS (-1) (M + 1) c (a + 1) (6 * (a + 1) + 6))) := Lib.hid HR.out
              clear HR
              go_wp2_with fail
              go_roundw
              case rel => exact ⟨a + 1, by omega, by go_num, HR2.out⟩
              case measure => simp [intOf]; omega
        · obtain rfl : a = 6 := by omega
          have HL : Hid (Three w wr c (Plain.linC (-1) (M + 1) c)) := Lib.hid (HR.out.cong fun q _ hq => Plain.linS_all hq)
          clear HR
          have hq15 : 6 + M * 6 + M + 1 = 7 * (M + 1) := by omega
          have e1 := HL.out.2.2.1.cell (k := 6 + M * 6 + M) (by omega)
          have e4 := HL.out.2.2.1.free (6 + M * 6 + M)
          have s1 := Plain.small_lin (n := M + 1) hs.out (q := 6 + M * 6 + M + 1) (by omega)
          have HN1 : Hid (Three w (wr.setCell ⟨w.heap.size + 1 + 1, 6 + M * 6 + M, none⟩ (.int .i64 (Plain.linC (-1) (M + 1) c (6 + M * 6 + M + 1) + 1))) c (Plain.addC (M + 1) c 0)) := Lib.hid (HL.out.set _ (by omega) fun q hq _ => by
            rw [Plain.addC_start (by omega) (by omega) hq, hq15])
          clear hq15
          generalize Plain.linC (-1) (M + 1) c (6 + M * 6 + M + 1) = x1 at e1 s1 HN1
          go_wp2_with fail
          have d1 : wr.drew.cell? ⟨w.heap.size + 1 + 1, 6 + M * 6 + M, none⟩ = _ := e1
          have d4 : wr.drew.frozen? ⟨w.heap.size + 1 + 1, 6 + M * 6 + M, none⟩ = false := e4
          have HN2 : Hid (Three w (wr.drew.setCell ⟨w.heap.size + 1 + 1, 6 + M * 6 + M, none⟩ (.int .i64 (x1 + 1))) c (Plain.addC (M + 1) c 0)) := Lib.hid HN1.out.drew
          clear e1 e4 HL HN1
          refine wp_region_still_tail 12 (by kernel_rfl) (by kernel_rfl) ?_
          simp only [List.take_succ_cons, List.take_zero, List.drop_succ_cons, List.drop_zero]
          change wpStill _ _ (World.drew _) (fun a' => wpList _ _ _ _ a' (World.drew _)) _ _
          generalize (World.drew _) = V at d1 d4 HN2 ⊢
          repeat still_step
          refine wpStill_nil ?_
          go_wp2_with fail
          clear d1 d4 s1
          go_loopw [10] (fun i wr => ∃ a : Nat, a ≤ 6 ∧ i = .int .i64 (a : Int) ∧ Three w wr c (Plain.addC (M + 1) c a)) (fun i _ => 6 - (intOf i).toNat)
          case atStart => exact ⟨0, by omega, rfl, HN2.out⟩
          case round =>
            clear HN2
            obtain ⟨a, ha, rfl, hrel⟩ := hrel
            have HR := Lib.hid hrel
            clear hrel
            by_cases hlt : a < 6
            · have ha1 : (a : Int) < 6 := by omega
              have ha0 : (0 : Int) ≤ (a : Int) := by omega
              have hq : 42 + a * 36 + M * 6 + M + 1 = 6 * (6 * (a + 1) + (M + 1)) + (M + 1) := by omega
              have e1 := HR.out.2.2.1.cell (k := 42 + a * 36 + M * 6 + M) (by omega)
              have e2 := HR.out.1.cell (k := a) (by omega)
              have e4 := HR.out.2.2.1.free (42 + a * 36 + M * 6 + M)
              have s1 := Plain.small_lin (n := M + 1) hs.out (q := 42 + a * 36 + M * 6 + M + 1) (by omega)
              have s2 := hs.out (a + 1) (by omega)
              rw [hq, Plain.addC_read (by omega) (by omega)] at e1
              rw [hq] at s1
              have HN1 : Hid (Three w (wr.setCell ⟨w.heap.size + 1 + 1, 42 + a * 36 + M * 6 + M, none⟩ (.int .i64 (Plain.linC (-1) (M + 1) c (6 * (6 * (a + 1) + (M + 1)) + (M + 1)) + c (a + 1)))) c (Plain.addC (M + 1) c (a + 1))) := Lib.hid (HR.out.set _ (by omega) fun q _ _ => by
                rw [Plain.addC_step (by omega) (by omega), hq])
              clear hq
              generalize Plain.linC (-1) (M + 1) c (6 * (6 * (a + 1) + (M + 1)) + (M + 1)) = x1 at e1 s1 HN1
              generalize c (a + 1) = x2 at e2 s2 HN1
              go_wp2_with fail
              have d1 : wr.drew.cell? ⟨w.heap.size + 1 + 1, 42 + a * 36 + M * 6 + M, none⟩ = _ := e1
              have d2 : wr.drew.cell? ⟨w.heap.size, a, none⟩ = _ := e2
              have d4 : wr.drew.frozen? ⟨w.heap.size + 1 + 1, 42 + a * 36 + M * 6 + M, none⟩ = false := e4
              have HN2 : Hid (Three w (wr.drew.setCell ⟨w.heap.size + 1 + 1, 42 + a * 36 + M * 6 + M, none⟩ (.int .i64 (x1 + x2))) c (Plain.addC (M + 1) c (a + 1))) := Lib.hid HN1.out.drew
              clear e1 e2 e4 HR HN1
              refine wp_region_still_tail 20 (by kernel_rfl) (by kernel_rfl) ?_
              simp only [List.take_succ_cons, List.take_zero, List.drop_succ_cons, List.drop_zero]
              change wpStill _ _ (World.drew _) (fun a' => wpList _ _ _ _ a' (World.drew _)) _ _
              generalize (World.drew _) = V at d1 d2 d4 HN2 ⊢
              repeat still_step
              refine wpStill_nil ?_
              go_wp2_with fail
              go_roundw
              case rel => exact ⟨a + 1, by omega, by go_num, HN2.out⟩
              case measure => simp [intOf]; omega
            · obtain rfl : a = 6 := by omega
              have hq : 42 + M * 36 + M * 6 + M + 1 = 43 * (M + 1) := by omega
              have e1 := HR.out.2.2.1.cell (k := 42 + M * 36 + M * 6 + M) (by omega)
              have e4 := HR.out.2.2.1.free (42 + M * 36 + M * 6 + M)
              have s1 := Plain.small_lin (n := M + 1) hs.out (q := 43 * (M + 1)) (by omega)
              have s2 := hs.out (M + 1) (by omega)
              have s3 : -786432 ≤ Plain.addC (M + 1) c 6 (43 * (M + 1)) ∧ Plain.addC (M + 1) c 6 (43 * (M + 1)) ≤ 786432 := by rw [Plain.addC_three (by omega) (by omega)]; omega
              rw [hq] at e1
              have HN1 : Hid (Three w (wr.setCell ⟨w.heap.size + 1 + 1, 42 + M * 36 + M * 6 + M, none⟩ (.int .i64 (Plain.addC (M + 1) c 6 (43 * (M + 1)) - 1))) c (Plain.letC x c)) := Lib.hid (HR.out.set _ (by omega) fun q hq2 _ => by
                rw [hq]
                have := HN.out
                unfold Plain.letC
                rw [if_neg (by omega), show (-x).toNat = M + 1 by unfold Plain.nail at this; split at this <;> omega, ← Plain.addC_end (by omega) (by omega) hq2 h0.out])
              clear hq s1 s2
              generalize Plain.addC (M + 1) c 6 (43 * (M + 1)) = x1 at e1 s3 HN1
              go_wp2_with fail
              have d1 : wr.drew.cell? ⟨w.heap.size + 1 + 1, 42 + M * 36 + M * 6 + M, none⟩ = _ := e1
              have d4 : wr.drew.frozen? ⟨w.heap.size + 1 + 1, 42 + M * 36 + M * 6 + M, none⟩ = false := e4
              have HN2 : Hid (Three w (wr.drew.setCell ⟨w.heap.size + 1 + 1, 42 + M * 36 + M * 6 + M, none⟩ (.int .i64 (x1 - 1))) c (Plain.letC x c)) := Lib.hid HN1.out.drew
              clear e1 e4 HR HN1
              refine wp_region_still_tail 16 (by kernel_rfl) (by kernel_rfl) ?_
              simp only [List.take_succ_cons, List.take_zero, List.drop_succ_cons, List.drop_zero]
              change wpStill _ _ (World.drew _) (fun a' => wpList _ _ _ _ a' (World.drew _)) _ _
              generalize (World.drew _) = V at d1 d4 HN2 ⊢
              repeat still_step
              refine wpStill_nil ?_
              go_upto_region 21 with (fail)
              clear d1 d4
              generalize V.setCell ⟨w.heap.size + 1 + 1, 42 + M * 36 + M * 6 + M, none⟩ (.int .i64 (x1 - 1)) = wr2 at HN2 ⊢
              have HF := HN2
              clear HN2
              have HO := Lib.hid HF.out.2.2.1
              have HR2 := Lib.hid HF.out.2.1
              have HO2 : Hid (SerAt (wr2.setRow (w.heap.size + 1) (sers (Plain.letC x c))) (w.heap.size + 1) (Plain.letC x c)) := Lib.hid (serAt_row HR2.out)
              have HB := Lib.hid (below_setRow HF.out.2.2.2 (show w.heap.size ≤ w.heap.size + 1 by omega) (sers (Plain.letC x c)))
              go_wp2_with (first
                | (refine wpList_load_row rfl 49 _ rfl (w.heap.size + 1 + 1) rfl 49 (sers (Plain.letC x c)) (0, 0) _ HO.out Try.underlying49 rfl (infoSers _) ?_)
                | (refine wpList_store_row rfl 49 _ _ rfl (w.heap.size + 1) (sers (Plain.letC x c)) rfl rfl 49 _ HR2.out (infoSers _) (by rw [sers_size, sers_size]) (sers_one _) ?_))
              exact bodyPost_ret (results_cell_row rfl _ _ (w.heap.size + 1) 49 _ (0, 0) _ rfl HO2.out Try.underlying49 rfl (infoSers _)) rfl ⟨rfl, HB.out⟩
    · have HK : Hid (Three w (wc.setCell ⟨w.heap.size + 1 + 1, M, none⟩ (.int .i64 (c (M + 1) + 1))) c (Plain.linS 1 (M + 1) c 0 (6 * 0 + 6))) := Lib.hid (HT.out.set _ (by omega) fun q hq h => by rw [Plain.linS_one (by omega) (by omega) h0.out h])
      clear HT
      generalize c (M + 1) = x1 at r0 r1 s0 HK
      go_wp2_with fail
      clear r0 r1 r2 s0
      go_loopw [8] (fun i wr => ∃ a : Nat, a ≤ 6 ∧ i = .int .i64 (a : Int) ∧ Three w wr c (Plain.linS (1) (M + 1) c a (6 * a + 6))) (fun i _ => 6 - (intOf i).toNat)
      case atStart => exact ⟨0, by omega, rfl, HK.out⟩
      case round =>
        obtain ⟨a, ha, rfl, hrel⟩ := hrel
        have HR := Lib.hid hrel
        clear hrel
        by_cases hlt : a < 6
        · have ha1 : (a : Int) < 6 := by omega
          have ha0 : (0 : Int) ≤ (a : Int) := by omega
          have e1 := HR.out.1.cell (k := 6 + a * 6 + M) (by omega)
          have e2 := HR.out.1.cell (k := a) (by omega)
          have e3 := HR.out.2.2.1.cell (k := 6 + a * 6 + M) (by omega)
          have e4 := HR.out.2.2.1.free (6 + a * 6 + M)
          have s1 := hs.out (6 + a * 6 + M + 1) (by omega)
          have s2 := hs.out (a + 1) (by omega)
          have hq : 6 + a * 6 + M + 1 = 6 * (a + 1) + (M + 1) := by omega
          have HN : Hid (Three w (wr.setCell ⟨w.heap.size + 1 + 1, 6 + a * 6 + M, none⟩ (.int .i64 (c (6 + a * 6 + M + 1) + c (a + 1)))) c (Plain.linS (1) (M + 1) c (a + 1) (6 * (a + 1) + 0))) := Lib.hid (HR.out.set _ (by omega) fun q _ _ => by
            rw [show 6 * (a + 1) + 0 = 6 * a + 6 by omega, Plain.linS_two (by omega) (by omega) hlt, hq]
            rw [Int.one_mul])
          clear hq
          generalize c (6 + a * 6 + M + 1) = x1 at e1 s1 HN
          generalize c (a + 1) = x2 at e2 s2 HN
          go_wp2_with fail
          have d1 : wr.drew.cell? ⟨w.heap.size, 6 + a * 6 + M, none⟩ = _ := e1
          have d2 : wr.drew.cell? ⟨w.heap.size, a, none⟩ = _ := e2
          have d3 : wr.drew.cell? ⟨w.heap.size + 1 + 1, 6 + a * 6 + M, none⟩ = _ := e3
          have d4 : wr.drew.frozen? ⟨w.heap.size + 1 + 1, 6 + a * 6 + M, none⟩ = false := e4
          have HN2 : Hid (Three w (wr.drew.setCell ⟨w.heap.size + 1 + 1, 6 + a * 6 + M, none⟩ (.int .i64 (x1 + x2))) c (Plain.linS (1) (M + 1) c (a + 1) (6 * (a + 1) + 0))) := Lib.hid HN.out.drew
          clear e1 e2 e3 e4 HR HN
          refine wp_region_still_tail 18 (by kernel_rfl) (by kernel_rfl) ?_
          simp only [List.take_succ_cons, List.take_zero, List.drop_succ_cons, List.drop_zero]
          change wpStill _ _ (World.drew _) (fun a' => wpList _ _ _ _ a' (World.drew _)) _ _
          generalize (World.drew _) = V at d1 d2 d3 d4 HN2 ⊢
          repeat still_step
          refine wpStill_nil ?_
          go_wp2_with fail
          clear d1 d2 d3 d4 s1 s2
          go_loopw [9] (fun i wr => ∃ b : Nat, b ≤ 6 ∧ i = .int .i64 (b : Int) ∧ Three w wr c (Plain.linS (1) (M + 1) c (a + 1) (6 * (a + 1) + b))) (fun i _ => 6 - (intOf i).toNat)
          case atStart => exact ⟨0, by omega, rfl, HN2.out⟩
          case round =>
            clear HN2
            obtain ⟨b, hb, rfl, hrel⟩ := hrel
            have HR := Lib.hid hrel
            clear hrel
            by_cases hlb : b < 6
            · have hb1 : (b : Int) < 6 := by omega
              have hb0 : (0 : Int) ≤ (b : Int) := by omega
              have e1 := HR.out.1.cell (k := 42 + a * 36 + b * 6 + M) (by omega)
              have e2 := HR.out.1.cell (k := 6 + a * 6 + b) (by omega)
              have e3 := HR.out.2.2.1.cell (k := 42 + a * 36 + b * 6 + M) (by omega)
              have e4 := HR.out.2.2.1.free (42 + a * 36 + b * 6 + M)
              have s1 := hs.out (42 + a * 36 + b * 6 + M + 1) (by omega)
              have s2 := hs.out (6 + a * 6 + b + 1) (by omega)
              have hq : 42 + a * 36 + b * 6 + M + 1 = 6 * (6 * (a + 1) + (b + 1)) + (M + 1) := by omega
              have hq2 : 6 + a * 6 + b + 1 = 6 * (a + 1) + (b + 1) := by omega
              have HN : Hid (Three w (wr.setCell ⟨w.heap.size + 1 + 1, 42 + a * 36 + b * 6 + M, none⟩ (.int .i64 (c (42 + a * 36 + b * 6 + M + 1) + c (6 + a * 6 + b + 1)))) c (Plain.linS (1) (M + 1) c (a + 1) (6 * (a + 1) + (b + 1)))) := Lib.hid (HR.out.set _ (by omega) fun q _ _ => by
                rw [Plain.linS_three (by omega) (by omega) (by omega), hq, hq2]
                rw [Int.one_mul])
              clear hq hq2
              generalize c (42 + a * 36 + b * 6 + M + 1) = x1 at e1 s1 HN
              generalize c (6 + a * 6 + b + 1) = x2 at e2 s2 HN
              go_wp2_with fail
              have d1 : wr.drew.cell? ⟨w.heap.size, 42 + a * 36 + b * 6 + M, none⟩ = _ := e1
              have d2 : wr.drew.cell? ⟨w.heap.size, 6 + a * 6 + b, none⟩ = _ := e2
              have d3 : wr.drew.cell? ⟨w.heap.size + 1 + 1, 42 + a * 36 + b * 6 + M, none⟩ = _ := e3
              have d4 : wr.drew.frozen? ⟨w.heap.size + 1 + 1, 42 + a * 36 + b * 6 + M, none⟩ = false := e4
              have HN2 : Hid (Three w (wr.drew.setCell ⟨w.heap.size + 1 + 1, 42 + a * 36 + b * 6 + M, none⟩ (.int .i64 (x1 + x2))) c (Plain.linS (1) (M + 1) c (a + 1) (6 * (a + 1) + (b + 1)))) := Lib.hid HN.out.drew
              clear e1 e2 e3 e4 HR HN
              refine wp_region_still_tail 24 (by kernel_rfl) (by kernel_rfl) ?_
              simp only [List.take_succ_cons, List.take_zero, List.drop_succ_cons, List.drop_zero]
              change wpStill _ _ (World.drew _) (fun a' => wpList _ _ _ _ a' (World.drew _)) _ _
              generalize (World.drew _) = V at d1 d2 d3 d4 HN2 ⊢
              repeat still_step
              refine wpStill_nil ?_
              go_wp2_with fail
              go_roundw
              case rel => exact ⟨b + 1, by omega, by go_num, HN2.out⟩
              case measure => simp [intOf]; omega
            · obtain rfl : b = 6 := by omega
              have HR2 : Hid (Three w wr c (Plain.linS (1) (M + 1) c (a + 1) (6 * (a + 1) + 6))) := Lib.hid HR.out
              clear HR
              go_wp2_with fail
              go_roundw
              case rel => exact ⟨a + 1, by omega, by go_num, HR2.out⟩
              case measure => simp [intOf]; omega
        · obtain rfl : a = 6 := by omega
          have HL : Hid (Three w wr c (Plain.linC (1) (M + 1) c)) := Lib.hid (HR.out.cong fun q _ hq => Plain.linS_all hq)
          clear HR
          have HF : Hid (Three w wr c (Plain.letC x c)) := Lib.hid (HL.out.cong fun q _ hq => by rw [Plain.linC_up]; unfold Plain.letC; rw [if_pos (by have := HN.out; unfold Plain.nail at this; split at this <;> omega), show x.toNat = M + 1 by have := HN.out; unfold Plain.nail at this; split at this <;> omega])
          clear HL
          have HO := Lib.hid HF.out.2.2.1
          have HR2 := Lib.hid HF.out.2.1
          have HO2 : Hid (SerAt (wr.setRow (w.heap.size + 1) (sers (Plain.letC x c))) (w.heap.size + 1) (Plain.letC x c)) := Lib.hid (serAt_row HR2.out)
          have HB := Lib.hid (below_setRow HF.out.2.2.2 (show w.heap.size ≤ w.heap.size + 1 by omega) (sers (Plain.letC x c)))
          go_wp2_with (first
            | (refine wpList_load_row rfl 49 _ rfl (w.heap.size + 1 + 1) rfl 49 (sers (Plain.letC x c)) (0, 0) _ HO.out Try.underlying49 rfl (infoSers _) ?_)
            | (refine wpList_store_row rfl 49 _ _ rfl (w.heap.size + 1) (sers (Plain.letC x c)) rfl rfl 49 _ HR2.out (infoSers _) (by rw [sers_size, sers_size]) (sers_one _) ?_))
          exact bodyPost_ret (results_cell_row rfl _ _ (w.heap.size + 1) 49 _ (0, 0) _ rfl HO2.out Try.underlying49 rfl (infoSers _)) rfl ⟨rfl, HB.out⟩

end Go.Proofs.Ytnmjanhpjnlfcaa
