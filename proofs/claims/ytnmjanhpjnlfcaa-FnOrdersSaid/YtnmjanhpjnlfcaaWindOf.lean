/- Contract: spec.l8Of: the coefficients of a word. Condition: a word. -/
import Derived.Test.YtnmjanhpjnlfcaaWindSpec
namespace Go.Proofs.Ytnmjanhpjnlfcaa
open Go.ChangeShapes Go.WideShapes Go.ChangeAt Go.RowKit
set_option linter.unusedVariables false

/-- The word's variable, the result's. -/
def TwoS (w wr : World) (c : Nat → Int) : Prop := SerAt wr (w.heap.size + 1) c ∧ SerAt wr w.heap.size (fun _ => 0) ∧ Below w.heap.size w wr
theorem TwoS.drew {w wr : World} {c : Nat → Int} (h : TwoS w wr c) : TwoS w wr.drew c := ⟨h.1, h.2.1, h.2.2.drew⟩
theorem TwoS.later {w wr w1 : World} {c : Nat → Int} (h : TwoS w wr c) (hb : Below wr.heap.size wr w1) : TwoS w w1 c := ⟨h.1.on hb, h.2.1.on hb, h.2.2.trans (hb.mono h.2.2.size)⟩
theorem TwoS.row {w wr : World} {c : Nat → Int} (h : TwoS w wr c) (d : Nat → Int) : TwoS w (wr.setRow (w.heap.size + 1) (sers d)) d := ⟨serAt_row h.1, h.2.1.other (by omega), below_setRow h.2.2 (by omega) _⟩
theorem twoS_start (w : World) : TwoS w (((w.alloc (.cells Try.zeroCells49 49)).alloc (.cells Try.zeroCells49 49)).setRow (w.heap.size + 1) (sers fun _ => 0)) (fun _ => 0) := by
  have hb : Below w.heap.size w ((w.alloc (.cells Try.zeroCells49 49)).alloc (.cells Try.zeroCells49 49)) := ((Below.refl _ _).alloc (Nat.le_refl _) _).alloc (by simp) _
  have h1 : SerAt ((w.alloc (.cells Try.zeroCells49 49)).alloc (.cells Try.zeroCells49 49)) (w.heap.size + 1) (fun _ => 0) := by rw [SerAt, sers_zero]; exact heap_alloc2_new _ _ _
  have h2 : SerAt ((w.alloc (.cells Try.zeroCells49 49)).alloc (.cells Try.zeroCells49 49)) w.heap.size (fun _ => 0) := by rw [SerAt, sers_zero]; exact heap_alloc2_old _ _ _
  exact ⟨serAt_row h1, h2.other (by omega), below_setRow hb (by omega) _⟩
theorem sers_empty : sers Plain.emptyC = sers (fun _ => 0) := sers_cong fun q h1 _ => if_neg (by omega)
theorem nail_is {x : Int} (h : x ≠ 0 ∧ -6 ≤ x ∧ x ≤ 6) : ∃ M : Nat, M ≤ 5 ∧ Plain.nail x = (M : Int) + 1 := by
  refine ⟨(Plain.nail x - 1).toNat, ?_, ?_⟩ <;> (unfold Plain.nail; split <;> omega)

set_option maxRecDepth 100000 in
set_option maxHeartbeats 4000000 in
theorem l8Of_any (a : Option Addr) (cap : Nat) (xs : List Int) (w : World) (h : Hid (Ints w a xs)) (hL : Hid (Plain.Letters xs)) (hn : xs.length ≤ 64) :
    Calls Try.prog 26 #[.slice a xs.length cap] w (Val (.agg (sers (Plain.cof xs))) w) := by
  have H1 : Hid (TwoS w (((w.alloc (.cells Try.zeroCells49 49)).alloc (.cells Try.zeroCells49 49)).setRow (w.heap.size + 1) (sers fun _ => 0)) (Plain.cof (xs.take 0))) := Lib.hid ⟨by rw [SerAt, List.take_zero, Plain.cof_nil, sers_empty]; exact (twoS_start w).1, (twoS_start w).2⟩
  go_enter Try.func26, Try.ntmps26
  go_wp2_with (refine wpList_store_row rfl 49 _ _ rfl (w.heap.size + 1) (sers fun _ => 0) rfl (congrArg Value.agg sers_zero.symm) 49 (sers fun _ => 0) (by rw [sers_zero]; exact heap_alloc2_new _ _ _) (infoSers _) (by rw [sers_size]) (sers_one _) ?_)
  go_loopw [4] (fun i wr => ∃ k : Nat, k ≤ xs.length ∧ i = .int .i64 (k : Int) ∧ TwoS w wr (Plain.cof (xs.take k))) (fun i _ => xs.length - (intOf i).toNat)
  case atStart => exact ⟨0, Nat.zero_le _, rfl, H1.out⟩
  case round =>
    clear H1
    obtain ⟨k, hk, rfl, hrel⟩ := hrel
    have HR := Lib.hid hrel
    have HI := Lib.hid (h.out.on hrel.2.2)
    clear hrel
    by_cases hlt : k < xs.length
    · obtain ⟨x, hx⟩ := at_some xs k hlt
      obtain ⟨b, o, rfl, hc⟩ := HI.out k x hx
      have hxl := hL.out.at hx
      obtain ⟨M, hM5, hNL⟩ := nail_is hxl
      have HNL := Lib.hid hNL
      have HX := Lib.hid hxl.2
      have HS1 := Lib.hid (Plain.small_cof (l := xs.take k) (by simp; omega))
      have HS3 := Lib.hid (Plain.small_cof (l := xs.take (k + 1)) (by simp; omega))
      have HC0 : Hid (Plain.cof (xs.take k) 0 = 1) := Lib.hid (Plain.bd_cof _).1
      have HT := Lib.hid (Plain.cof_take hx)
      have HS2 : Hid (Plain.Small (Plain.letC x (Plain.cof (xs.take k)))) := Lib.hid (by rw [← HT.out]; exact HS3.out)
      have hi : (k : Int) < (xs.length : Int) := by omega
      have hi0 : (0 : Int) ≤ (k : Int) := by omega
      clear hx hNL hxl HS3
      go_wp2_with fail
      have hc2 : wr.drew.cell? ⟨b, o + k, none⟩ = _ := hc
      clear hc

      refine wp_region_any (by kernel_rfl) ?_
      change wpAny _ _ _ _ _ _ _ (World.drew _)
      refine wpAny_take (i := 1) (v := .slice (some ⟨b, o, none⟩) xs.length cap) rfl (by kernel_rfl) (by kernel_rfl) (by kernel_rfl) (fun _ _ _ h => h) (.inl ⟨by kernel_rfl, fun w => by go_simp⟩) ?_
      refine wpAny_take (i := 2) (v := .int .i64 (k : Int)) rfl (by kernel_rfl) (by kernel_rfl) (by kernel_rfl) (fun _ _ _ h => h) (.inl ⟨by kernel_rfl, fun w => by go_simp⟩) ?_
      refine wpAny_take (i := 3) (v := .pointer (some ⟨b, o + k, none⟩)) rfl (by kernel_rfl) (by kernel_rfl) (by kernel_rfl) (fun _ _ _ h => h) (.inl ⟨by kernel_rfl, fun w => by go_simp⟩) ?_
      refine wpAny_ready (rs := [0, 4]) (by kernel_rfl) (by simp) ?_
      refine AllReady.cons rfl (fun K hK => ?_) ?_
      · refine wstep_load rfl 49 _ rfl (w.heap.size + 1) rfl (sers (Plain.cof (xs.take k))) (ser_load (show SerAt _ (w.heap.size + 1) (Plain.cof (xs.take k)) from HR.out.1)) (hK _ _ ?_)
        clear hK K
        refine wpAny_ready (rs := [4]) (by kernel_rfl) (by simp) ?_
        refine AllReady.cons rfl (fun K hK => ?_) ?_
        · go_simp
          refine hK _ _ ?_
          clear hK K
          refine wpAny_ready (rs := [5]) (by kernel_rfl) (by simp) ?_
          refine AllReady.cons rfl (fun K hK => ?_) ?_
          · go_simp
            go_at_call 48
            refine (l8Behind_any (Plain.cof (xs.take k)) x M _ HX HNL hM5 HC0 HS1 HS2).mono ?_
            rintro e w1 ⟨rfl, hb⟩
            have HT1 : Hid (SerAt w1 (w.heap.size + 1) (Plain.cof (xs.take k))) := Lib.hid (HR.out.drew.1.on hb)
            have HN : Hid (TwoS w (w1.setRow (w.heap.size + 1) (sers (Plain.letC x (Plain.cof (xs.take k))))) (Plain.cof (xs.take (k + 1)))) := Lib.hid (by rw [HT.out]; exact (TwoS.later (wr := wr.drew) HR.out.drew hb).row _)
            clear hb
            refine hK _ _ ?_
            clear hK K
            refine wpAny_ready (rs := [6]) (by kernel_rfl) (by simp) ?_
            refine AllReady.cons rfl (fun K hK => ?_) ?_
            · refine wstep_store rfl 49 _ _ rfl (w.heap.size + 1) (sers (Plain.letC x (Plain.cof (xs.take k)))) rfl rfl 49 (sers (Plain.cof (xs.take k))) HT1.out (infoSers _) (by rw [sers_size, sers_size]) (sers_one _) (hK _ _ ?_)
              clear hK K
              refine wpAny_done (by kernel_rfl) ?_ _
              go_wp2_with fail
              go_roundw
              case rel => exact ⟨k + 1, by omega, by go_num, HN.out⟩
              case measure => simp [intOf]; omega
            exact AllReady.nil
          exact AllReady.nil
        exact AllReady.nil
      refine AllReady.cons rfl (fun K hK => ?_) ?_
      · go_simp
        refine hK _ _ ?_
        clear hK K
        refine wpAny_ready (rs := [0]) (by kernel_rfl) (by simp) ?_
        refine AllReady.cons rfl (fun K hK => ?_) ?_
        · refine wstep_load rfl 49 _ rfl (w.heap.size + 1) rfl (sers (Plain.cof (xs.take k))) (ser_load (show SerAt _ (w.heap.size + 1) (Plain.cof (xs.take k)) from HR.out.1)) (hK _ _ ?_)
          clear hK K
          refine wpAny_ready (rs := [5]) (by kernel_rfl) (by simp) ?_
          refine AllReady.cons rfl (fun K hK => ?_) ?_
          · go_simp
            go_at_call 48
            refine (l8Behind_any (Plain.cof (xs.take k)) x M _ HX HNL hM5 HC0 HS1 HS2).mono ?_
            rintro e w1 ⟨rfl, hb⟩
            have HT1 : Hid (SerAt w1 (w.heap.size + 1) (Plain.cof (xs.take k))) := Lib.hid (HR.out.drew.1.on hb)
            have HN : Hid (TwoS w (w1.setRow (w.heap.size + 1) (sers (Plain.letC x (Plain.cof (xs.take k))))) (Plain.cof (xs.take (k + 1)))) := Lib.hid (by rw [HT.out]; exact (TwoS.later (wr := wr.drew) HR.out.drew hb).row _)
            clear hb
            refine hK _ _ ?_
            clear hK K
            refine wpAny_ready (rs := [6]) (by kernel_rfl) (by simp) ?_
            refine AllReady.cons rfl (fun K hK => ?_) ?_
            · refine wstep_store rfl 49 _ _ rfl (w.heap.size + 1) (sers (Plain.letC x (Plain.cof (xs.take k)))) rfl rfl 49 (sers (Plain.cof (xs.take k))) HT1.out (infoSers _) (by rw [sers_size, sers_size]) (sers_one _) (hK _ _ ?_)
              clear hK K
              refine wpAny_done (by kernel_rfl) ?_ _
              go_wp2_with fail
              go_roundw
              case rel => exact ⟨k + 1, by omega, by go_num, HN.out⟩
              case measure => simp [intOf]; omega
            exact AllReady.nil
          exact AllReady.nil
        exact AllReady.nil
      exact AllReady.nil
    · obtain rfl : k = xs.length := by omega
      have hR := HR.out
      rw [List.take_length] at hR
      have HT := Lib.hid hR.1
      have HT2 := Lib.hid hR.2.1
      have HF : Hid (SerAt (wr.setRow w.heap.size (sers (Plain.cof xs))) w.heap.size (Plain.cof xs)) := Lib.hid (serAt_row HT2.out)
      have HB2 := Lib.hid (below_setRow hR.2.2 (Nat.le_refl _) (sers (Plain.cof xs)))
      clear hR HR
      go_wp2_with (first
        | (refine wpList_load_row rfl 49 _ rfl (w.heap.size + 1) rfl 49 (sers (Plain.cof xs)) (0, 0) _ HT.out Try.underlying49 rfl (infoSers _) ?_)
        | (refine wpList_store_row rfl 49 _ _ rfl w.heap.size (sers (Plain.cof xs)) rfl rfl 49 _ HT2.out (infoSers _) (by rw [sers_size, sers_size]) (sers_one _) ?_))
      exact bodyPost_ret (results_cell_row rfl _ _ w.heap.size 49 _ (0, 0) _ rfl HF.out Try.underlying49 rfl (infoSers _)) rfl ⟨rfl, HB2.out⟩

end Go.Proofs.Ytnmjanhpjnlfcaa
