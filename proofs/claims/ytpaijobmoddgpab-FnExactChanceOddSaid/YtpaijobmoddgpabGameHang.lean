/- Contracts: impl's countOrders, position.countHanging, hangingOrders.lengthWhile, all, LongestGame, ShortestGame. Conditions: numbers of 64 bits, lengths that fit. -/
import Derived.Test.YtpaijobmoddgpabGameSafe
import Derived.Test.YtpaijobmoddgpabGameLen
namespace Go.Proofs.Ytpaijobmoddgpab
open Go.ChangeShapes Go.WideShapes Go.ChangeAt Go.RowKit
set_option linter.unusedVariables false

def ord7 (f : Nat → Nat) : Array Value := arrN 7 (fun i => .int .i64 (f i : Int))
theorem ord7_size (f : Nat → Nat) : (ord7 f).size = 7 := arrN_size _ _
theorem ord7_one (f : Nat → Nat) : (ord7 f).all (·.oneCell') = true := arrN_one fun i => rfl
theorem ord7_set (f : Nat → Nat) {k : Nat} (x : Nat) (h : k < 7) : (ord7 f).setIfInBounds k (.int .i64 (x : Int)) = ord7 (fun i => if i = k then x else f i) := by
  unfold ord7
  rw [arrN_set _ _ h]
  refine arrN_cong fun i hi => ?_
  by_cases e : i = k <;> simp [e]
def OrdAt (w : World) (G : Nat) (f : Nat → Nat) : Prop := w.heap[G]? = some (.cells (ord7 f) 45 (0, 0))
theorem OrdAt.lt {w : World} {G : Nat} {f : Nat → Nat} (h : OrdAt w G f) : G < w.heap.size := (Array.getElem?_eq_some_iff.1 h).1
theorem OrdAt.on {w w' : World} {G : Nat} {f : Nat → Nat} (h : OrdAt w G f) (hb : Below w.heap.size w w') : OrdAt w' G f := (hb.block G h.lt).trans h
theorem OrdAt.cell {w : World} {G : Nat} {f : Nat → Nat} (h : OrdAt w G f) {i : Nat} (hi : i < 7) : w.cell? ⟨G, i, none⟩ = some (.int .i64 (f i : Int)) := (cell_of_row w G i _ _ _ h).trans (arrN_at _ hi)
theorem OrdAt.free {w : World} {G : Nat} {f : Nat → Nat} (h : OrdAt w G f) (i : Nat) : w.frozen? ⟨G, i, none⟩ = false := frozen_of_row w G i _ _ h
theorem OrdAt.set {w : World} {G k : Nat} {f : Nat → Nat} (h : OrdAt w G f) (x : Nat) (hk : k < 7) : OrdAt (w.setCell ⟨G, k, none⟩ (.int .i64 (x : Int))) G (fun i => if i = k then x else f i) := by
  rw [OrdAt, heap_setCell_same w G k _ _ _ h, ord7_set f x hk]
theorem infoOrd (f : Nat → Nat) : (Try.prog.info? 45).map (·.size) = some (ord7 f).size := by rw [ord7_size]; kernel_rfl
theorem ord_load {w : World} {G : Nat} {f : Nat → Nat} (h : OrdAt w G f) : (loadVar 45 ⟨G, 0, none⟩).run Try.prog w = .ok (.agg (ord7 f)) w := run_loadVar_row w G 45 45 _ (0, 0) _ h Try.underlying45 rfl (infoOrd f)
theorem ord_zero : ord7 (fun _ => 0) = #[.int .i64 0, .int .i64 0, .int .i64 0, .int .i64 0, .int .i64 0, .int .i64 0, .int .i64 0] := by kernel_rfl
theorem ordAt_row {w : World} {G : Nat} {f : Nat → Nat} {cs : Array Value} (h : w.heap[G]? = some (.cells cs 45 (0, 0))) : OrdAt (w.setRow G (ord7 f)) G f := setRow_heap w G _ _ _ _ h
theorem countOrders_any (k : Nat) (w : World) (hk : k ≤ 6) : Calls Try.prog 55 #[.int .i64 (k : Int)] w fun e w' => e = .returned (.int .i64 (Plain.fact k : Int)) ∧ w' = w := by
  go_enter Try.func55, Try.ntmps55
  go_wp2_with fail
  go_loop [3, 6] (fun p i => ∃ j : Nat, j ≤ k ∧ i = .int .i64 j ∧ p = .int .i64 (Plain.fact j : Int)) (fun _ i => 8 - (intOf i).toNat)
  case atStart => exact ⟨0, Nat.zero_le _, rfl, rfl⟩
  case round =>
    obtain ⟨j, hj, rfl, rfl⟩ := hrel
    by_cases hlt : j < k
    · have hf := Plain.fact_le (k := j) (by omega)
      have HS : Hid ((Plain.fact (j + 1) : Int) = (Plain.fact j : Int) * ((j : Int) + 1)) := Lib.hid (by rw [Plain.fact]; push_cast; rfl)
      obtain ⟨v, hv⟩ : ∃ v, v = Plain.fact j := ⟨_, rfl⟩
      rw [← hv] at hf HS ⊢
      have hi : (j : Int) < (k : Int) := by omega
      have hm : (v : Int) * ((j : Int) + 1) ≤ 720 * 7 := Int.mul_le_mul (by omega) (by omega) (by omega) (by omega)
      have hm0 : 0 ≤ (v : Int) * ((j : Int) + 1) := Int.mul_nonneg (by omega) (by omega)
      have hw : IntKind.i64.wrap ((v : Int) * ((j : Int) + 1)) = (v : Int) * ((j : Int) + 1) := IntWalk.i64_in _ (by omega)
      clear hv
      go_wp2_with fail
      go_round
      case rel => exact ⟨j + 1, by omega, by go_num, by rw [HS.out]⟩
      case measure => simp [intOf]; omega
    · obtain rfl : j = k := by omega
      go_wp2_with fail
      go_ret
      exact ⟨rfl, rfl⟩
theorem part_sub {a b : Nat} (ha : a < 64) (hb : b < 64) : partZ (a : Int) b = Plain.sub a b := partZ_nat ha hb
theorem many_lecnt {m s S : Nat} (h : Plain.sub S m = true) : Plain.many (Plain.clr S s) ≤ Plain.cnt m s := by
  rw [Plain.cnt_many, Plain.many_len, Plain.many_len]
  have e : (List.range 6).filter (Plain.clr S s).testBit = ((List.range 6).filter (Plain.clr m s).testBit).filter (Plain.clr S s).testBit := by
    rw [List.filter_filter]
    refine List.filter_congr fun p _ => ?_
    rw [Plain.bit_clrL, Plain.bit_clrL]
    cases hp : S.testBit p with
    | false => simp
    | true => rw [Plain.sub_bit h hp]; simp
  rw [e]
  exact List.length_filter_le _ _
def hTo (t : Nat → Bool) (m s K : Nat) : Nat → Nat := fun k => ((List.range K).map (Plain.termH t m s k)).sum
theorem hTo_step (t : Nat → Bool) (m s K k : Nat) : hTo t m s (K + 1) k = hTo t m s K k + Plain.termH t m s k K := by
  unfold hTo
  rw [List.range_succ, List.map_append, List.sum_append]
  simp
theorem hTo_le (t : Nat → Bool) (m s k : Nat) : ∀ K, hTo t m s K k ≤ K * 518400
  | 0 => by simp [hTo]
  | K + 1 => by
    rw [hTo_step]
    have := hTo_le t m s k K
    have h2 : Plain.termH t m s k K ≤ 518400 := by
      unfold Plain.termH
      split
      · rename_i h
        simp only [Bool.and_eq_true, decide_eq_true_eq] at h
        have h3 : k ≤ 6 := by rw [← h.2]; exact Plain.many_le _
        have h4 := Plain.fact_le h3
        have h5 := Plain.fact_le (k := Plain.cnt m s - k) (by have := Plain.cnt_le m s; omega)
        exact Nat.mul_le_mul h4 h5
      · omega
    omega
theorem hTo_skip {t : Nat → Bool} {m s K : Nat} (h : (!t K && Plain.sub s K && Plain.sub K m) = false) : hTo t m s (K + 1) = hTo t m s K := by
  funext k
  rw [hTo_step]
  unfold Plain.termH
  rw [h]
  simp
theorem hTo_hit {t : Nat → Bool} {m s K : Nat} (h1 : t K = false) (h2 : Plain.sub s K = true) (h3 : Plain.sub K m = true) :
    hTo t m s (K + 1) = fun k => if k = Plain.many (Plain.clr K s) then hTo t m s K (Plain.many (Plain.clr K s)) + Plain.fact (Plain.many (Plain.clr K s)) * Plain.fact (Plain.cnt m s - Plain.many (Plain.clr K s)) else hTo t m s K k := by
  funext k
  rw [hTo_step]
  unfold Plain.termH
  rw [h1, h2, h3]
  by_cases e : k = Plain.many (Plain.clr K s)
  · rw [if_pos e, ← e]; simp
  · rw [if_neg e, if_neg (by simp; exact fun e2 => e e2.symm)]; rfl
set_option maxRecDepth 100000 in
set_option maxHeartbeats 6400000 in
theorem countHanging_any (t : Nat → Bool) (m s : Nat) (w : World) (hm : m < 64) (hs : s < 64) : Calls Try.prog 24 #[.agg (posC t m s)] w (Val (.agg (ord7 (Plain.Hn t m s))) w) := by
  have hcl := clr_small hm hs
  have hcl2 := clr_lt s hm
  have hc6 := Plain.cnt_le m s
  obtain ⟨c, hc⟩ : ∃ c, c = Plain.cnt m s := ⟨_, rfl⟩
  have HSZ : Hid (∀ V, Calls Try.prog 54 #[.int .i64 ((Plain.clr m s : Nat) : Int)] V fun e w' => e = .returned (.int .i64 (c : Int)) ∧ V = w') := Lib.hid (fun V => by rw [hc, Plain.cnt_many]; exact sizeOf_any _ V hcl2)
  rw [← hc] at hc6
  obtain ⟨q9, hq9⟩ : ∃ q, q = Plain.clr m s := ⟨_, rfl⟩
  rw [← hq9] at hcl hcl2 HSZ
  have HC := Lib.hid hc
  obtain ⟨V, hV⟩ : ∃ V, V = ((((w.alloc (.cells (posC t m s) 41)).alloc (.cells (ord7 fun _ => 0) 45)).alloc (.cells (ord7 fun _ => 0) 45)).setRow (w.heap.size + 1 + 1) (ord7 fun _ => 0)) := ⟨_, rfl⟩
  have e1 : (((w.alloc (.cells (posC t m s) 41)).alloc (.cells (ord7 fun _ => 0) 45)).alloc (.cells (ord7 fun _ => 0) 45)).heap[w.heap.size + 1 + 1]? = some (.cells (ord7 fun _ => 0) 45 (0, 0)) := by
    have := heap_alloc_new ((w.alloc (.cells (posC t m s) 41)).alloc (.cells (ord7 fun _ => 0) 45)) (.cells (ord7 fun _ => 0) 45)
    simpa using this
  have HA0 : Hid (OrdAt V (w.heap.size + 2) (hTo t m s 0)) := Lib.hid (by
    have : hTo t m s 0 = fun _ => 0 := by funext k; simp [hTo]
    rw [this, hV]
    exact ordAt_row e1)
  have HR0 : Hid (OrdAt V (w.heap.size + 1) fun _ => 0) := Lib.hid (by
    rw [hV]
    exact (setRow_other _ _ _ _ (by omega)).trans ((heap_alloc_old _ _ (by simp)).trans (heap_alloc2_new _ _ _)))
  have HP0 : Hid (PosAt V w.heap.size t m s) := Lib.hid (by
    rw [hV]
    exact (setRow_other _ _ _ _ (by omega)).trans ((heap_alloc_old _ _ (by simp; omega)).trans ((heap_alloc_old _ _ (by simp)).trans (heap_alloc_new _ _))))
  have HB0 : Hid (Below w.heap.size w V) := Lib.hid (by rw [hV]; exact below_setRow ((((Below.refl _ _).alloc (Nat.le_refl _) _).alloc (by simp) _).alloc (by simp; omega) _) (by omega) _)
  have E1 := Lib.hid e1
  have p1 := HP0.out.nails
  have p2 := HP0.out.out
  rw [hV] at p1 p2
  rw [ord_zero] at hV p1 p2 E1
  clear hc hq9 e1
  go_enter Try.func24, Try.ntmps24
  go_wp2_with (first | (refine wpList_store_row rfl 45 _ _ rfl (w.heap.size + 1 + 1) #[.int .i64 0, .int .i64 0, .int .i64 0, .int .i64 0, .int .i64 0, .int .i64 0, .int .i64 0] rfl rfl 45 _ E1.out (by kernel_rfl) (by kernel_rfl) (by kernel_rfl) ?_))
  rw [← hV]
  clear hV p1 p2 E1
  refine (HSZ.out _).mono ?_
  rintro e w' ⟨rfl, rfl⟩
  go_wp2_with fail
  go_loopw [14] (fun i wr => ∃ K : Nat, K ≤ 64 ∧ i = .int .i64 K ∧ OrdAt wr (w.heap.size + 2) (hTo t m s K) ∧ OrdAt wr (w.heap.size + 1) (fun _ => 0) ∧ PosAt wr w.heap.size t m s ∧ Below w.heap.size w wr) (fun i _ => 64 - (intOf i).toNat)
  case atStart => exact ⟨0, Nat.zero_le _, rfl, HA0.out, HR0.out, HP0.out, HB0.out⟩
  case round =>
    obtain ⟨K, hK, rfl, ha, hr, hp, hb⟩ := hrel
    have HA := Lib.hid ha
    have HR := Lib.hid hr
    have HP := Lib.hid hp
    have HB := Lib.hid hb
    clear ha hr hp hb
    by_cases hlt : K < 64
    · have q0 := HP.out.bit hlt
      have q1 := HP.out.nails
      have q2 := HP.out.out
      have hi : (K : Int) < 64 := by omega
      have hi0 : (0 : Int) ≤ (K : Int) := by omega
      have HP1 : Hid (partZ (s : Int) K = Plain.sub s K) := Lib.hid (part_sub hs hlt)
      have HP2 : Hid (partZ (K : Int) m = Plain.sub K m) := Lib.hid (part_sub hlt hm)
      cases htK : t K with
      | true =>
        have HN : Hid (hTo t m s (K + 1) = hTo t m s K) := Lib.hid (hTo_skip (by rw [htK]; rfl))
        rw [htK] at q0
        clear htK
        go_wp2_with fail
        go_roundw
        case rel => exact ⟨K + 1, by omega, by go_num, by rw [HN.out]; exact HA.out, HR.out, HP.out, HB.out⟩
        case measure => simp [intOf]; omega
      | false =>
        rw [htK] at q0
        cases hsK : Plain.sub s K with
        | false =>
          have HN : Hid (hTo t m s (K + 1) = hTo t m s K) := Lib.hid (hTo_skip (by rw [htK, hsK]; rfl))
          rw [hsK] at HP1
          clear htK hsK
          go_wp2_with fail
          refine (partZ_any _ _ _).mono ?_
          rw [HP1.out]
          rintro e w' ⟨rfl, hq⟩
          have hq := hq.symm
          subst hq
          go_wp2_with fail
          go_roundw
          case rel => exact ⟨K + 1, by omega, by go_num, by rw [HN.out]; exact HA.out, HR.out, HP.out, HB.out⟩
          case measure => simp [intOf]; omega
        | true =>
          rw [hsK] at HP1
          cases hKm : Plain.sub K m with
          | false =>
            have HN : Hid (hTo t m s (K + 1) = hTo t m s K) := Lib.hid (hTo_skip (by rw [htK, hsK, hKm]; rfl))
            rw [hKm] at HP2
            clear htK hsK hKm
            go_wp2_with fail
            refine (partZ_any _ _ _).mono ?_
            rw [HP1.out]
            rintro e w' ⟨rfl, hq⟩
            have hq := hq.symm
            subst hq
            go_wp2_with fail
            refine (partZ_any _ _ _).mono ?_
            rw [HP2.out]
            rintro e w' ⟨rfl, hq⟩
            have hq := hq.symm
            subst hq
            go_wp2_with fail
            go_roundw
            case rel => exact ⟨K + 1, by omega, by go_num, by rw [HN.out]; exact HA.out, HR.out, HP.out, HB.out⟩
            case measure => simp [intOf]; omega
          | true =>
            rw [hKm] at HP2
            have hTc : Plain.many (Plain.clr K s) ≤ c := by rw [HC.out]; exact many_lecnt hKm
            have HN := Lib.hid (hTo_hit (t := t) htK hsK hKm)
            rw [← HC.out] at HN
            have hTb := hTo_le t m s (Plain.many (Plain.clr K s)) K
            have hcl3 := clr_small hlt hs
            have HSZ2 : Hid (∀ V, Calls Try.prog 54 #[.int .i64 ((Plain.clr K s : Nat) : Int)] V fun e w' => e = .returned (.int .i64 (Plain.many (Plain.clr K s) : Int)) ∧ V = w') := Lib.hid (fun V => sizeOf_any _ V (clr_lt s hlt))
            obtain ⟨z, hz⟩ : ∃ z, z = Plain.clr K s := ⟨_, rfl⟩
            rw [← hz] at hTc HN hTb hcl3 HSZ2
            obtain ⟨T, hT⟩ : ∃ T, T = Plain.many z := ⟨_, rfl⟩
            rw [← hT] at hTc HN hTb HSZ2
            obtain ⟨d, hd⟩ : ∃ d, d = c - T := ⟨_, rfl⟩
            rw [← hd] at HN
            have HC1 := Lib.hid (fun V => countOrders_any T V (by omega))
            have HC2 : Hid (∀ V, Calls Try.prog 55 #[.int .i64 (d : Int)] V fun e w' => e = .returned (.int .i64 (Plain.fact d : Int)) ∧ w' = V) := Lib.hid (fun V => countOrders_any d V (by omega))
            have hsub0 : IntKind.i64.wrap ((c : Int) - (T : Int)) = (d : Int) := by rw [show (c : Int) - (T : Int) = (d : Int) by omega]; exact IntWalk.i64_in _ (by omega)
            have HC2w : Hid (∀ V, Calls Try.prog 55 #[.int .i64 (IntKind.i64.wrap ((c : Int) - (T : Int)))] V fun e w' => e = .returned (.int .i64 (Plain.fact d : Int)) ∧ w' = V) := Lib.hid (fun V => by rw [hsub0]; exact HC2.out V)
            clear hsub0 HC2
            have hf1 := Plain.fact_le (k := T) (by omega)
            have hf2 := Plain.fact_le (k := d) (by omega)
            obtain ⟨fa, hfa⟩ : ∃ x, x = Plain.fact T := ⟨_, rfl⟩
            obtain ⟨fb, hfb⟩ : ∃ x, x = Plain.fact d := ⟨_, rfl⟩
            rw [← hfa, ← hfb] at HN
            rw [← hfa] at hf1 HC1
            rw [← hfb] at hf2 HC2w
            have hpr : fa * fb ≤ 720 * 720 := Nat.mul_le_mul hf1 hf2
            have hm1 : (fa : Int) * (fb : Int) ≤ 720 * 720 := by exact_mod_cast hpr
            have hm0 : 0 ≤ (fa : Int) * (fb : Int) := Int.mul_nonneg (by omega) (by omega)
            have hw : IntKind.i64.wrap ((fa : Int) * (fb : Int)) = (fa : Int) * (fb : Int) := IntWalk.i64_in _ (by omega)
            obtain ⟨g, hg⟩ : ∃ x, x = hTo t m s K T := ⟨_, rfl⟩
            rw [← hg] at HN hTb
            have hT7 : T < 7 := by omega
            have qA := HA.out.cell hT7
            rw [← hg] at qA
            have qF := HA.out.free T
            have HX : Hid (IntKind.i64.wrap ((g : Int) + IntKind.i64.wrap ((fa : Int) * (fb : Int))) = ((g + fa * fb : Nat) : Int)) := Lib.hid (by
              rw [hw, show ((g + fa * fb : Nat) : Int) = (g : Int) + (fa : Int) * (fb : Int) by push_cast; rfl]
              exact IntWalk.i64_in _ (by omega))
            clear hw hm1 hm0
            have hjT : (T : Int) < 7 := by omega
            have hjT0 : (0 : Int) ≤ (T : Int) := by omega
            clear htK hsK hKm hz hT hfa hfb hpr hg
            go_wp2_with fail
            refine (partZ_any _ _ _).mono ?_
            rw [HP1.out]
            rintro e w' ⟨rfl, hq⟩
            have hq := hq.symm
            subst hq
            go_wp2_with fail
            refine (partZ_any _ _ _).mono ?_
            rw [HP2.out]
            rintro e w' ⟨rfl, hq⟩
            have hq := hq.symm
            subst hq
            go_wp2_with fail
            refine (HSZ2.out _).mono ?_
            rintro e w' ⟨rfl, rfl⟩
            go_wp2_with fail
            have HAd : Hid (OrdAt wr.drew (w.heap.size + 2) (hTo t m s K)) := Lib.hid HA.out
            have HRd : Hid (OrdAt wr.drew (w.heap.size + 1) (fun _ => 0)) := Lib.hid HR.out
            have HPd : Hid (PosAt wr.drew w.heap.size t m s) := Lib.hid HP.out
            have HBd : Hid (Below w.heap.size w wr.drew) := Lib.hid HB.out.drew
            have qAd : wr.drew.cell? ⟨w.heap.size + 2, T, none⟩ = some (.int .i64 (g : Int)) := qA
            have qFd : wr.drew.frozen? ⟨w.heap.size + 2, T, none⟩ = false := qF
            refine wp_region_still_tail 12 (by kernel_rfl) (by kernel_rfl) ?_
            simp only [List.take_succ_cons, List.take_zero, List.drop_succ_cons, List.drop_zero]
            change wpStill _ _ (World.drew _) (fun a' => wpList _ _ _ _ a' (World.drew _)) _ _
            clear qA qF q0 q1 q2
            generalize (World.drew _) = V at HAd HRd HPd HBd qAd qFd ⊢
            repeat still_step
            still_call (HC1.out V)
            repeat still_step
            still_call (HC2w.out V)
            repeat still_step
            refine wpStill_nil ?_
            rw [HX.out]
            obtain ⟨nv, hnv⟩ : ∃ x, x = g + fa * fb := ⟨_, rfl⟩
            rw [← hnv] at HN
            have HC9 : Hid ((g : Int) + (fa : Int) * (fb : Int) = (nv : Int)) := Lib.hid (by rw [hnv]; push_cast; rfl)
            clear hnv
            have HA2 : Hid (OrdAt (V.setCell ⟨w.heap.size + 2, T, none⟩ (.int .i64 ((g : Int) + (fa : Int) * (fb : Int)))) (w.heap.size + 2) (hTo t m s (K + 1))) := Lib.hid (by
              rw [HN.out, HC9.out]
              exact HAd.out.set nv hT7)
            have HR2 : Hid (OrdAt (V.setCell ⟨w.heap.size + 2, T, none⟩ (.int .i64 ((g : Int) + (fa : Int) * (fb : Int)))) (w.heap.size + 1) (fun _ => 0)) := Lib.hid ((heap_setCell_other V ⟨w.heap.size + 2, T, none⟩ (w.heap.size + 1) _ (by simp)).trans HRd.out)
            have HP3 : Hid (PosAt (V.setCell ⟨w.heap.size + 2, T, none⟩ (.int .i64 ((g : Int) + (fa : Int) * (fb : Int)))) w.heap.size t m s) := Lib.hid ((heap_setCell_other V ⟨w.heap.size + 2, T, none⟩ w.heap.size _ (by simp)).trans HPd.out)
            have HB3 : Hid (Below w.heap.size w (V.setCell ⟨w.heap.size + 2, T, none⟩ (.int .i64 ((g : Int) + (fa : Int) * (fb : Int))))) := Lib.hid (HBd.out.setCell (p := ⟨w.heap.size + 2, T, none⟩) (by show w.heap.size ≤ w.heap.size + 2; omega) _)
            go_wp2_with fail
            go_roundw
            case rel => exact ⟨K + 1, by omega, by go_num, HA2.out, HR2.out, HP3.out, HB3.out⟩
            case measure => simp [intOf]; omega
    · obtain rfl : K = 64 := by omega
      have hE : hTo t m s 64 = Plain.Hn t m s := by funext k; unfold hTo Plain.Hn; rfl
      rw [hE] at HA
      obtain ⟨f9, hf9⟩ : ∃ f, f = Plain.Hn t m s := ⟨_, rfl⟩
      rw [← hf9] at HA
      have HF9 := Lib.hid hf9
      clear hE hf9
      have HA9 : Hid (wr.heap[w.heap.size + 1 + 1]? = some (.cells (ord7 (f9)) 45 (0, 0))) := HA
      have HR9 := HR
      go_wp2_with (first | (refine wpList_load_row rfl 45 _ rfl (w.heap.size + 1 + 1) rfl 45 (ord7 (f9)) (0, 0) _ HA9.out Try.underlying45 rfl (infoOrd _) ?_) | (refine wpList_store_row rfl 45 _ _ rfl (w.heap.size + 1) (ord7 (f9)) rfl rfl 45 _ HR9.out (infoOrd _) (by rw [ord7_size, ord7_size]) (ord7_one _) ?_))
      have M2 : (wr.setRow (w.heap.size + 1) (ord7 f9)).heap[w.heap.size + 1]? = some (.cells (ord7 f9) 45 (0, 0)) := setRow_heap _ _ _ _ _ _ HR9.out
      have HB9 : Below w.heap.size w (wr.setRow (w.heap.size + 1) (ord7 f9)) := below_setRow HB.out (by omega) _
      rw [← HF9.out]
      exact bodyPost_ret (v := .agg (ord7 f9)) (results_cell_row rfl _ _ (w.heap.size + 1) 45 (ord7 f9) (0, 0) _ rfl M2 Try.underlying45 rfl (infoOrd f9)) rfl ⟨rfl, HB9⟩

end Go.Proofs.Ytpaijobmoddgpab
