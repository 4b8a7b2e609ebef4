/- Contracts: impl.fractionOf, spec.l9Cut: fractions cut to lowest terms. Conditions: numbers that fit. -/
import Derived.Test.YtpaijobmoddgpabGameMean
import Derived.Test.YtpaijobmoddgpabGameLSpec
import Derived.Test.YtpaijobmoddgpabGameLong
namespace Go.Proofs.Ytpaijobmoddgpab
open Go.ChangeShapes Go.WideShapes Go.ChangeAt Go.RowKit
set_option linter.unusedVariables false

/-- A fraction as an array of two numbers. -/
def frC (p : Nat × Nat) : Value := .agg #[.int .i64 (p.1 : Int), .int .i64 (p.2 : Int)]
theorem lt_of_row {w : World} {g : Nat} {o : Obj} (h : w.heap[g]? = some o) : g < w.heap.size := (Array.getElem?_eq_some_iff.1 h).1
theorem most_any (p : Nat) (w : World) (h : 1 ≤ p) (hp : p ≤ 1000000000) : Calls Try.prog 64 #[.int .i64 (p : Int), .int .i64 1] w fun e w' => e = .returned (.int .i64 (p : Int)) ∧ w = w' := by
  by_cases h1 : p = 1
  · subst h1
    go_enter Try.func64, Try.ntmps64
    go_wp2_with fail
    go_ret
    exact ⟨rfl, rfl⟩
  · have h2 : (1 : Int) < (p : Int) := by omega
    go_enter Try.func64, Try.ntmps64
    go_wp2_with fail
    go_ret
    exact ⟨rfl, rfl⟩
set_option maxRecDepth 100000 in
set_option maxHeartbeats 1600000 in
theorem fractionOf_any (x y : Nat) (w : World) (hx : x ≤ 1000000000) (hy : y ≤ 1000000000) (hy0 : 0 < y) : Calls Try.prog 25 #[.int .i64 (x : Int), .int .i64 (y : Int)] w (Val (frC (Plain.low x y)) w) := by
  obtain ⟨G, hG⟩ : ∃ G, G = Nat.gcd x y := ⟨_, rfl⟩
  have hG0 : 0 < G := by rw [hG]; exact Nat.gcd_pos_of_pos_right _ hy0
  have HG : Hid (frC (Plain.low x y) = .agg #[.int .i64 ((x / G : Nat) : Int), .int .i64 ((y / G : Nat) : Int)]) := Lib.hid (by rw [hG]; rfl)
  rw [HG.out]
  have HGG := Lib.hid hG
  obtain ⟨X, hX⟩ : ∃ X, X = x / G := ⟨_, rfl⟩
  obtain ⟨Y, hY⟩ : ∃ Y, Y = y / G := ⟨_, rfl⟩
  have eX : (x : Int).tdiv (G : Int) = (X : Int) := by rw [hX]; rfl
  have eY : (y : Int).tdiv (G : Int) = (Y : Int) := by rw [hY]; rfl
  have hXl : X ≤ x := by rw [hX]; exact Nat.div_le_self _ _
  have hYl : Y ≤ y := by rw [hY]; exact Nat.div_le_self _ _
  have fX : IntKind.i64.wrap (X : Int) = (X : Int) := IntWalk.i64_in _ (by omega)
  have fY : IntKind.i64.wrap (Y : Int) = (Y : Int) := IntWalk.i64_in _ (by omega)
  rw [← hX, ← hY]
  clear hG hX hY
  clear HG
  go_enter Try.func25, Try.ntmps25
  go_wp2_with fail
  obtain ⟨W0, hW0⟩ : ∃ W0, W0 = w.alloc (.cells #[.int .i64 0, .int .i64 0] 23) := ⟨_, rfl⟩
  have HB0 : Hid (Below w.heap.size w W0) := Lib.hid (by rw [hW0]; exact (Below.refl _ _).alloc (Nat.le_refl _) _)
  have HA0 : Hid (W0.heap[w.heap.size]? = some (.cells #[.int .i64 0, .int .i64 0] 23 (0, 0))) := Lib.hid (by rw [hW0]; exact heap_alloc_new _ _)
  rw [← hW0]
  clear hW0
  go_loopw [5, 6] (fun u v wr => ∃ p q : Nat, u = .int .i64 (p : Int) ∧ v = .int .i64 (q : Int) ∧ Nat.gcd p q = G ∧ p ≤ 1000000000 ∧ q ≤ 1000000000 ∧ Below W0.heap.size W0 wr) (fun _ v _ => (intOf v).toNat)
  case atStart => exact ⟨y, x, rfl, rfl, (Nat.gcd_comm y x).trans HGG.out.symm, by omega, by omega, Below.refl _ _⟩
  case round =>
    obtain ⟨p, q, rfl, rfl, hgc, hp, hq, hb⟩ := hrel
    have HGC := Lib.hid hgc
    have HB := Lib.hid hb
    clear hgc hb
    by_cases hq0 : q = 0
    · have hz : ¬ (0 : Int) < (q : Int) := by omega
      have hpG : p = G := by rw [← HGC.out, hq0, Nat.gcd_zero_right]
      have hbz : ((q : Int) != 0) = false := by rw [show (q : Int) = 0 by omega]; rfl
      clear hq0
      subst hpG
      have hp1 : 1 ≤ p := hG0
      have hpn : ¬ p = 0 := by omega
      have HA9 : Hid ((World.drew wr).heap[w.heap.size]? = some (.cells #[.int .i64 0, .int .i64 0] 23 (0, 0))) := Lib.hid ((HB.out.block _ (lt_of_row HA0.out)).trans HA0.out)
      have HB9 := Lib.hid (HB0.out.trans (HB.out.mono HB0.out.size))
      go_wp2_with fail
      refine wp_region_any (by kernel_rfl) ?_
      change wpAny _ _ _ _ _ _ _ (World.drew _)
      refine wpAny_take (i := 0) (v := .int .i64 (x : Int)) rfl (by kernel_rfl) (by kernel_rfl) (by kernel_rfl) (fun _ _ _ h => h) (.inl ⟨by kernel_rfl, fun w => by go_simp⟩) ?_
      refine wpAny_take (i := 1) (v := .int .i64 (p : Int)) rfl (by kernel_rfl) (by kernel_rfl) (by kernel_rfl) (fun _ _ _ h => h) (.inl ⟨by kernel_rfl, fun w => by go_simp⟩) ?_
      refine wpAny_take (i := 2) (v := .int .i64 (X : Int)) rfl (by kernel_rfl) (by kernel_rfl) (by kernel_rfl) (fun _ _ _ h => h) (.inl ⟨by kernel_rfl, fun w => by go_simp⟩) ?_
      refine wpAny_take (i := 3) (v := .int .i64 (y : Int)) rfl (by kernel_rfl) (by kernel_rfl) (by kernel_rfl) (fun _ _ _ h => h) (.inl ⟨by kernel_rfl, fun w => by go_simp⟩) ?_
      refine wpAny_take (i := 4) (v := .int .i64 (p : Int)) rfl (by kernel_rfl) (by kernel_rfl) (by kernel_rfl) (fun _ _ _ h => h) (.inl ⟨by kernel_rfl, fun w => by go_simp⟩) ?_
      refine wpAny_take (i := 5) (v := .int .i64 (Y : Int)) rfl (by kernel_rfl) (by kernel_rfl) (by kernel_rfl) (fun _ _ _ h => h) (.inl ⟨by kernel_rfl, fun w => by go_simp⟩) ?_
      refine wpAny_ready (rs := [6]) (by kernel_rfl) (by simp) ?_
      refine AllReady.cons rfl (fun K hK => ?_) ?_
      · go_simp
        refine hK _ _ ?_
        clear hK K
        refine wpAny_ready (rs := [7]) (by kernel_rfl) (by simp) ?_
        refine AllReady.cons rfl (fun K hK => ?_) ?_
        · refine wstep_store rfl 23 _ _ rfl w.heap.size #[.int .i64 (X : Int), .int .i64 (Y : Int)] rfl rfl 23 #[.int .i64 0, .int .i64 0] HA9.out (by kernel_rfl) rfl (by simp [Value.oneCell']) (hK _ _ ?_)
          clear hK K
          refine wpAny_done (by kernel_rfl) ?_ _
          obtain ⟨WR, hWR⟩ : ∃ W, W = (World.drew wr).setRow w.heap.size #[.int .i64 (X : Int), .int .i64 (Y : Int)] := ⟨_, rfl⟩
          have HWR : Hid (WR.heap[w.heap.size]? = some (.cells #[.int .i64 (X : Int), .int .i64 (Y : Int)] 23 (0, 0))) := Lib.hid (by rw [hWR]; exact setRow_heap _ _ _ _ _ _ HA9.out)
          have HBW : Hid (Below w.heap.size w WR) := Lib.hid (by rw [hWR]; exact below_setRow (HB9.out.drew) (Nat.le_refl _) _)
          rw [← hWR]
          clear hWR
          go_wp2_with fail
          exact bodyPost_ret (results_cell_row rfl _ _ w.heap.size 23 _ (0, 0) _ rfl HWR.out Try.underlying23 rfl (by kernel_rfl)) rfl ⟨rfl, HBW.out⟩
        exact AllReady.nil
      exact AllReady.nil
    · have hz : (0 : Int) < (q : Int) := by omega
      have hne : ¬ (q : Int) = 0 := by omega
      have hbz : ((q : Int) != 0) = true := by simp [bne]; omega
      obtain ⟨r, hr⟩ : ∃ r, r = p % q := ⟨_, rfl⟩
      have er : (p : Int).tmod (q : Int) = (r : Int) := by rw [hr]; rfl
      have hrl : r < q := by rw [hr]; exact Nat.mod_lt _ (by omega)
      have HR : Hid (Nat.gcd q r = G) := Lib.hid (by rw [hr, Nat.gcd_comm, ← Nat.gcd_rec, Nat.gcd_comm]; exact HGC.out)
      have fr : IntKind.i64.wrap (r : Int) = (r : Int) := IntWalk.i64_in _ (by omega)
      clear hr
      go_wp2_with fail
      refine wp_region_any (by kernel_rfl) ?_
      change wpAny _ _ _ _ _ _ _ (World.drew _)
      refine wpAny_take (i := 0) (v := .int .i64 (q : Int)) rfl (by kernel_rfl) (by kernel_rfl) (by kernel_rfl) (fun _ _ _ h => h) (.inl ⟨by kernel_rfl, fun w => by go_simp⟩) ?_
      refine wpAny_take (i := 1) (v := .int .i64 (p : Int)) rfl (by kernel_rfl) (by kernel_rfl) (by kernel_rfl) (fun _ _ _ h => h) (.inl ⟨by kernel_rfl, fun w => by go_simp⟩) ?_
      refine wpAny_take (i := 2) (v := .int .i64 (q : Int)) rfl (by kernel_rfl) (by kernel_rfl) (by kernel_rfl) (fun _ _ _ h => h) (.inl ⟨by kernel_rfl, fun w => by go_simp⟩) ?_
      refine wpAny_take (i := 3) (v := .int .i64 (r : Int)) rfl (by kernel_rfl) (by kernel_rfl) (by kernel_rfl) (fun _ _ _ h => h) (.inl ⟨by kernel_rfl, fun w => by go_simp⟩) ?_
      refine wpAny_take (i := 4) (v := .int .i64 (q : Int)) rfl (by kernel_rfl) (by kernel_rfl) (by kernel_rfl) (fun _ _ _ h => h) (.inl ⟨by kernel_rfl, fun w => by go_simp⟩) ?_
      refine wpAny_ready (rs := [5]) (by kernel_rfl) (by simp) ?_
      refine AllReady.cons rfl (fun K hK => ?_) ?_
      · go_simp
        refine hK _ _ ?_
        clear hK K
        refine wpAny_done (by kernel_rfl) ?_ _
        go_wp2_with fail
        go_roundw
        case rel => exact ⟨q, r, by go_num, by go_num, HR.out, by omega, by omega, HB.out.drew⟩
        case measure => simp [intOf]; omega
      exact AllReady.nil
set_option maxRecDepth 100000 in
set_option maxHeartbeats 1600000 in
theorem l9Cut_any (x y : Nat) (w : World) (hx : x ≤ 1000000000) (hy : y ≤ 1000000000) (hy0 : 0 < y) : Calls Try.prog 50 #[.int .i64 (x : Int), .int .i64 (y : Int)] w (Val (frC (Plain.low x y)) w) := by
  obtain ⟨G, hG⟩ : ∃ G, G = Nat.gcd x y := ⟨_, rfl⟩
  have hG0 : 0 < G := by rw [hG]; exact Nat.gcd_pos_of_pos_right _ hy0
  have HG : Hid (frC (Plain.low x y) = .agg #[.int .i64 ((x / G : Nat) : Int), .int .i64 ((y / G : Nat) : Int)]) := Lib.hid (by rw [hG]; rfl)
  rw [HG.out]
  have HGG := Lib.hid hG
  obtain ⟨X, hX⟩ : ∃ X, X = x / G := ⟨_, rfl⟩
  obtain ⟨Y, hY⟩ : ∃ Y, Y = y / G := ⟨_, rfl⟩
  have eX : (x : Int).tdiv (G : Int) = (X : Int) := by rw [hX]; rfl
  have eY : (y : Int).tdiv (G : Int) = (Y : Int) := by rw [hY]; rfl
  have hXl : X ≤ x := by rw [hX]; exact Nat.div_le_self _ _
  have hYl : Y ≤ y := by rw [hY]; exact Nat.div_le_self _ _
  have fX : IntKind.i64.wrap (X : Int) = (X : Int) := IntWalk.i64_in _ (by omega)
  have fY : IntKind.i64.wrap (Y : Int) = (Y : Int) := IntWalk.i64_in _ (by omega)
  rw [← hX, ← hY]
  clear hG hX hY
  clear HG
  go_enter Try.func50, Try.ntmps50
  go_wp2_with fail
  obtain ⟨W0, hW0⟩ : ∃ W0, W0 = w.alloc (.cells #[.int .i64 0, .int .i64 0] 23) := ⟨_, rfl⟩
  have HB0 : Hid (Below w.heap.size w W0) := Lib.hid (by rw [hW0]; exact (Below.refl _ _).alloc (Nat.le_refl _) _)
  have HA0 : Hid (W0.heap[w.heap.size]? = some (.cells #[.int .i64 0, .int .i64 0] 23 (0, 0))) := Lib.hid (by rw [hW0]; exact heap_alloc_new _ _)
  rw [← hW0]
  clear hW0
  go_loopw [5, 6] (fun u v wr => ∃ p q : Nat, u = .int .i64 (p : Int) ∧ v = .int .i64 (q : Int) ∧ Nat.gcd p q = G ∧ p ≤ 1000000000 ∧ q ≤ 1000000000 ∧ Below W0.heap.size W0 wr) (fun _ v _ => (intOf v).toNat)
  case atStart => exact ⟨x, y, rfl, rfl, HGG.out.symm, by omega, by omega, Below.refl _ _⟩
  case round =>
    obtain ⟨p, q, rfl, rfl, hgc, hp, hq, hb⟩ := hrel
    have HGC := Lib.hid hgc
    have HB := Lib.hid hb
    clear hgc hb
    by_cases hq0 : q = 0
    · have hz : ¬ (0 : Int) < (q : Int) := by omega
      have hpG : p = G := by rw [← HGC.out, hq0, Nat.gcd_zero_right]
      have hbz : ((q : Int) != 0) = false := by rw [show (q : Int) = 0 by omega]; rfl
      clear hq0
      subst hpG
      have hp1 : 1 ≤ p := hG0
      have hpn : ¬ p = 0 := by omega
      have HA9 : Hid ((World.drew wr).heap[w.heap.size]? = some (.cells #[.int .i64 0, .int .i64 0] 23 (0, 0))) := Lib.hid ((HB.out.block _ (lt_of_row HA0.out)).trans HA0.out)
      have HB9 := Lib.hid (HB0.out.trans (HB.out.mono HB0.out.size))
      go_wp2_with fail
      refine wp_region_any (by kernel_rfl) ?_
      change wpAny _ _ _ _ _ _ _ (World.drew _)
      refine wpAny_take (i := 0) (v := .int .i64 (x : Int)) rfl (by kernel_rfl) (by kernel_rfl) (by kernel_rfl) (fun _ _ _ h => h) (.inl ⟨by kernel_rfl, fun w => by go_simp⟩) ?_
      refine wpAny_take (i := 1) (v := .int .i64 (p : Int)) rfl (by kernel_rfl) (by kernel_rfl) (by kernel_rfl) (fun _ _ _ h => h) (.inl ⟨by kernel_rfl, fun w => by go_simp⟩) ?_
      refine wpAny_take (i := 4) (v := .int .i64 (y : Int)) rfl (by kernel_rfl) (by kernel_rfl) (by kernel_rfl) (fun _ _ _ h => h) (.inl ⟨by kernel_rfl, fun w => by go_simp⟩) ?_
      refine wpAny_take (i := 5) (v := .int .i64 (p : Int)) rfl (by kernel_rfl) (by kernel_rfl) (by kernel_rfl) (fun _ _ _ h => h) (.inl ⟨by kernel_rfl, fun w => by go_simp⟩) ?_
      refine wpAny_ready (rs := [2]) (by kernel_rfl) (by simp) ?_
      refine AllReady.cons rfl (fun K hK => ?_) ?_
      · go_simp
        refine (most_any p _ hp1 hp).mono ?_
        rintro e V2 ⟨rfl, rfl⟩
        try go_simp
        refine hK _ _ ?_
        clear hK K
        refine wpAny_take (i := 3) (v := .int .i64 (X : Int)) rfl (by kernel_rfl) (by kernel_rfl) (by kernel_rfl) (fun _ _ _ h => h) (.inl ⟨by kernel_rfl, fun w => by go_simp⟩) ?_
        refine wpAny_ready (rs := [6]) (by kernel_rfl) (by simp) ?_
        refine AllReady.cons rfl (fun K hK => ?_) ?_
        · go_simp
          refine (most_any p _ hp1 hp).mono ?_
          rintro e V2 ⟨rfl, rfl⟩
          try go_simp
          refine hK _ _ ?_
          clear hK K
          refine wpAny_take (i := 7) (v := .int .i64 (Y : Int)) rfl (by kernel_rfl) (by kernel_rfl) (by kernel_rfl) (fun _ _ _ h => h) (.inl ⟨by kernel_rfl, fun w => by go_simp⟩) ?_
          refine wpAny_take (i := 8) (v := .agg #[.int .i64 (X : Int), .int .i64 (Y : Int)]) rfl (by kernel_rfl) (by kernel_rfl) (by kernel_rfl) (fun _ _ _ h => h) (.inl ⟨by kernel_rfl, fun w => by go_simp⟩) ?_
          refine wpAny_ready (rs := [9]) (by kernel_rfl) (by simp) ?_
          refine AllReady.cons rfl (fun K hK => ?_) ?_
          · refine wstep_store rfl 23 _ _ rfl w.heap.size #[.int .i64 (X : Int), .int .i64 (Y : Int)] rfl rfl 23 #[.int .i64 0, .int .i64 0] HA9.out (by kernel_rfl) rfl (by simp [Value.oneCell']) (hK _ _ ?_)
            clear hK K
            refine wpAny_done (by kernel_rfl) ?_ _
            obtain ⟨WR, hWR⟩ : ∃ W, W = (World.drew wr).setRow w.heap.size #[.int .i64 (X : Int), .int .i64 (Y : Int)] := ⟨_, rfl⟩
            have HWR : Hid (WR.heap[w.heap.size]? = some (.cells #[.int .i64 (X : Int), .int .i64 (Y : Int)] 23 (0, 0))) := Lib.hid (by rw [hWR]; exact setRow_heap _ _ _ _ _ _ HA9.out)
            have HBW : Hid (Below w.heap.size w WR) := Lib.hid (by rw [hWR]; exact below_setRow (HB9.out.drew) (Nat.le_refl _) _)
            rw [← hWR]
            clear hWR
            go_wp2_with fail
            exact bodyPost_ret (results_cell_row rfl _ _ w.heap.size 23 _ (0, 0) _ rfl HWR.out Try.underlying23 rfl (by kernel_rfl)) rfl ⟨rfl, HBW.out⟩
          exact AllReady.nil
        exact AllReady.nil
      exact AllReady.nil
    · have hz : (0 : Int) < (q : Int) := by omega
      have hne : ¬ (q : Int) = 0 := by omega
      have hbz : ((q : Int) != 0) = true := by simp [bne]; omega
      obtain ⟨r, hr⟩ : ∃ r, r = p % q := ⟨_, rfl⟩
      have er : (p : Int).tmod (q : Int) = (r : Int) := by rw [hr]; rfl
      have hrl : r < q := by rw [hr]; exact Nat.mod_lt _ (by omega)
      have HR : Hid (Nat.gcd q r = G) := Lib.hid (by rw [hr, Nat.gcd_comm, ← Nat.gcd_rec, Nat.gcd_comm]; exact HGC.out)
      have fr : IntKind.i64.wrap (r : Int) = (r : Int) := IntWalk.i64_in _ (by omega)
      clear hr
      go_wp2_with fail
      refine wp_region_any (by kernel_rfl) ?_
      change wpAny _ _ _ _ _ _ _ (World.drew _)
      refine wpAny_take (i := 0) (v := .int .i64 (q : Int)) rfl (by kernel_rfl) (by kernel_rfl) (by kernel_rfl) (fun _ _ _ h => h) (.inl ⟨by kernel_rfl, fun w => by go_simp⟩) ?_
      refine wpAny_take (i := 1) (v := .int .i64 (p : Int)) rfl (by kernel_rfl) (by kernel_rfl) (by kernel_rfl) (fun _ _ _ h => h) (.inl ⟨by kernel_rfl, fun w => by go_simp⟩) ?_
      refine wpAny_take (i := 2) (v := .int .i64 (q : Int)) rfl (by kernel_rfl) (by kernel_rfl) (by kernel_rfl) (fun _ _ _ h => h) (.inl ⟨by kernel_rfl, fun w => by go_simp⟩) ?_
      refine wpAny_take (i := 3) (v := .int .i64 (r : Int)) rfl (by kernel_rfl) (by kernel_rfl) (by kernel_rfl) (fun _ _ _ h => h) (.inl ⟨by kernel_rfl, fun w => by go_simp⟩) ?_
      refine wpAny_take (i := 4) (v := .int .i64 (q : Int)) rfl (by kernel_rfl) (by kernel_rfl) (by kernel_rfl) (fun _ _ _ h => h) (.inl ⟨by kernel_rfl, fun w => by go_simp⟩) ?_
      refine wpAny_ready (rs := [5]) (by kernel_rfl) (by simp) ?_
      refine AllReady.cons rfl (fun K hK => ?_) ?_
      · go_simp
        refine hK _ _ ?_
        clear hK K
        refine wpAny_done (by kernel_rfl) ?_ _
        go_wp2_with fail
        go_roundw
        case rel => exact ⟨q, r, by go_num, by go_num, HR.out, by omega, by omega, HB.out.drew⟩
        case measure => simp [intOf]; omega
      exact AllReady.nil

end Go.Proofs.Ytpaijobmoddgpab
