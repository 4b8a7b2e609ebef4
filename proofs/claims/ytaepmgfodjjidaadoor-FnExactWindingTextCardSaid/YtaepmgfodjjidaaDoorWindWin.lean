/- Contracts: WindingsOf of both, impl's word.windings. Conditions: numbers of 64 bits, lengths that fit. -/
import Derived.Test.YtaepmgfodjjidaaDoorWindGet
namespace Go.Proofs.YtaepmgfodjjidaaDoor
open Go.ChangeShapes Go.WideShapes Go.ChangeAt Go.RowKit
set_option linter.unusedVariables false

/-- Seven numbers in a block. -/
def ints7 (v : Nat → Int) : Array Value := arrN 7 (fun i => .int .i64 (v i))
theorem ints7_lit (v : Nat → Int) : ints7 v = #[.int .i64 (v 0), .int .i64 (v 1), .int .i64 (v 2), .int .i64 (v 3), .int .i64 (v 4), .int .i64 (v 5), .int .i64 (v 6)] := rfl
theorem ints7_size (v : Nat → Int) : (ints7 v).size = 7 := arrN_size _ _
theorem ints7_one (v : Nat → Int) : (ints7 v).all (·.oneCell') = true := arrN_one fun i => rfl
theorem ints7_cong {v u : Nat → Int} (h : ∀ i, i < 7 → v i = u i) : ints7 v = ints7 u := arrN_cong fun i hi => by rw [h i hi]
def Sev (w : World) (G : Nat) (v : Nat → Int) : Prop := w.heap[G]? = some (.cells (ints7 v) 47 (0, 0))
theorem Sev.lt {w : World} {G : Nat} {v : Nat → Int} (h : Sev w G v) : G < w.heap.size := (Array.getElem?_eq_some_iff.1 h).1
theorem Sev.on {w w' : World} {G : Nat} {v : Nat → Int} (h : Sev w G v) (hb : Below w.heap.size w w') : Sev w' G v := (hb.block G h.lt).trans h
theorem Sev.cell {w : World} {G : Nat} {v : Nat → Int} (h : Sev w G v) {i : Nat} (hi : i < 7) : w.cell? ⟨G, i, none⟩ = some (.int .i64 (v i)) := by
  rw [cell_of_row w G i _ _ _ h]
  exact arrN_at _ hi
theorem Sev.free {w : World} {G : Nat} {v : Nat → Int} (h : Sev w G v) (i : Nat) : w.frozen? ⟨G, i, none⟩ = false := frozen_of_row w G i _ _ h
theorem Sev.set {w : World} {G k : Nat} {v u : Nat → Int} (h : Sev w G v) (x : Int) (hk : k < 7) (he : ∀ i, i < 7 → u i = if i = k then x else v i) : Sev (w.setCell ⟨G, k, none⟩ (.int .i64 x)) G u := by
  rw [Sev, heap_setCell_same w G k _ _ _ h, ints7, arrN_set _ _ hk]
  congr 2
  refine arrN_cong fun i hi => ?_
  rw [he i hi]
  split <;> rfl
theorem Sev.off {w : World} {G H i : Nat} {v : Nat → Int} {x : Value} (h : Sev w G v) (hne : G ≠ H) : Sev (w.setCell ⟨H, i, none⟩ x) G v := (heap_setCell_other w ⟨H, i, none⟩ G x hne).trans h
theorem Sev.other {w : World} {G H : Nat} {v : Nat → Int} {cs : Array Value} (h : Sev w G v) (hne : G ≠ H) : Sev (w.setRow H cs) G v := (setRow_other w H G cs hne).trans h
theorem sev_row {w : World} {G : Nat} {v : Nat → Int} {cs : Array Value} (h : w.heap[G]? = some (.cells cs 47 (0, 0))) : Sev (w.setRow G (ints7 v)) G v := setRow_heap w G _ _ _ _ h
theorem sev_new (w : World) : Sev (w.alloc (.cells #[.int .i64 0, .int .i64 0, .int .i64 0, .int .i64 0, .int .i64 0, .int .i64 0, .int .i64 0] 47)) w.heap.size (fun _ => 0) := heap_alloc_new w _
theorem info7s (v : Nat → Int) : (Tryd.prog.info? 47).map (·.size) = some (ints7 v).size := by rw [ints7_size]; kernel_rfl
theorem sev_load {w : World} {G : Nat} {v : Nat → Int} (h : Sev w G v) : (loadVar 47 ⟨G, 0, none⟩).run Tryd.prog w = .ok (.agg (ints7 v)) w :=
  run_loadVar_row w G 47 47 _ (0, 0) _ h Tryd.underlying47 rfl (info7s _)
theorem wresults2 {fn : Func} {p q : Tmp} {ty : TypeId} (h : fn.results = #[.cell p ty, .tmp q]) (tmps : Array Value) (w : World) (g : Nat) (cs : Array Value) {b : Value}
    (hp : tmps.getD p undef = .pointer (some ⟨g, 0, none⟩)) (hl : (loadVar ty ⟨g, 0, none⟩).run Tryd.prog w = .ok (.agg cs) w) (hq : tmps.getD q undef = b) :
    (results fn tmps).run Tryd.prog w = .ok (.tuple #[.agg cs, b]) w := by
  have hp' : tmps[p]?.getD undef = .pointer (some ⟨g, 0, none⟩) := by simpa using hp
  have hq' : tmps[q]?.getD undef = b := by simpa using hq
  simp [results, h, hp', hq', asAddr, hl]

/-- What WindingsOf answers. -/
def windV (xs : List Int) (i : Nat) : Int := if i = 0 then 0 else Plain.cof xs i
def windW (xs : List Int) (i : Nat) : Int := if Plain.wordB xs = true then windV xs i else 0
theorem wind_no {xs : List Int} (h : Plain.wordB xs = false) : windW xs = fun _ => 0 := by funext i; exact if_neg (by rw [h]; simp)
theorem wind_yes {xs : List Int} (h : Plain.wordB xs = true) : windW xs = windV xs := by funext i; exact if_pos h
def windTo (xs : List Int) (k : Nat) (i : Nat) : Int := if i ≤ k then windV xs i else 0
theorem windTo_zero (xs : List Int) : windTo xs 0 = fun _ => 0 := by
  funext i
  unfold windTo windV
  split
  · rw [if_pos (by omega)]
  · rfl
theorem windTo_all {xs : List Int} {i : Nat} (h : i < 7) : windTo xs 6 i = windV xs i := if_pos (by omega)
theorem windTo_step {xs : List Int} {k i : Nat} : windTo xs (k + 1) i = if i = k + 1 then Plain.cof xs (k + 1) else windTo xs k i := by
  unfold windTo windV
  by_cases e : i = k + 1
  · subst e; rw [if_pos (by omega), if_pos rfl, if_neg (by omega)]
  · rw [if_neg e]
    by_cases h : i ≤ k
    · rw [if_pos (by omega), if_pos h]
    · rw [if_neg (by omega), if_neg h]

-- impl's half
/-- The windings of the six nails, as they lie behind the place 0. -/
def wind6 (xs : List Int) : List Value := (List.range 6).map (fun i => .int .i64 (Plain.cof xs (i + 1)))
theorem wind6_at (xs : List Int) (j : Nat) (v : Value) (h : (wind6 xs)[j]? = some v) : j < 6 ∧ v = .int .i64 (Plain.cof xs (j + 1)) := by
  have hj : j < 6 := by have := (List.getElem?_eq_some_iff.1 h).1; simpa [wind6] using this
  refine ⟨hj, ?_⟩
  simp [wind6, hj] at h
  exact h.symm
theorem wind6_one (xs : List Int) : ∀ v ∈ wind6 xs, v.oneCell' = true := fun v hv => by
  simp [wind6] at hv
  obtain ⟨i, -, rfl⟩ := hv
  rfl
set_option maxRecDepth 100000 in
set_option maxHeartbeats 1600000 in
theorem windings_any (a : Option Addr) (cap : Nat) (xs : List Int) (w : World) (h : Hid (Ints w a xs)) (hL : Hid (Plain.Letters xs)) (hn : xs.length ≤ 64) :
    Calls Tryd.prog 23 #[.slice a xs.length cap] w (Val (.agg (ints7 (windV xs))) w) := by
  have hb0 : Below w.heap.size w ((w.alloc (.cells #[.int .i64 0, .int .i64 0, .int .i64 0, .int .i64 0, .int .i64 0, .int .i64 0, .int .i64 0] 47)).alloc (.cells #[.int .i64 0, .int .i64 0, .int .i64 0, .int .i64 0, .int .i64 0, .int .i64 0, .int .i64 0] 47)) := ((Below.refl _ _).alloc (Nat.le_refl _) _).alloc (by simp) _
  have h1 : Sev ((w.alloc (.cells #[.int .i64 0, .int .i64 0, .int .i64 0, .int .i64 0, .int .i64 0, .int .i64 0, .int .i64 0] 47)).alloc (.cells #[.int .i64 0, .int .i64 0, .int .i64 0, .int .i64 0, .int .i64 0, .int .i64 0, .int .i64 0] 47)) (w.heap.size + 1) (fun _ => 0) := heap_alloc2_new w _ _
  have h2 : Sev ((w.alloc (.cells #[.int .i64 0, .int .i64 0, .int .i64 0, .int .i64 0, .int .i64 0, .int .i64 0, .int .i64 0] 47)).alloc (.cells #[.int .i64 0, .int .i64 0, .int .i64 0, .int .i64 0, .int .i64 0, .int .i64 0, .int .i64 0] 47)) w.heap.size (fun _ => 0) := heap_alloc2_old w _ _
  have HI := Lib.hid (h.out.on hb0)
  have H0 : Hid (Sev (((w.alloc (.cells #[.int .i64 0, .int .i64 0, .int .i64 0, .int .i64 0, .int .i64 0, .int .i64 0, .int .i64 0] 47)).alloc (.cells #[.int .i64 0, .int .i64 0, .int .i64 0, .int .i64 0, .int .i64 0, .int .i64 0, .int .i64 0] 47)).setRow (w.heap.size + 1) (ints7 fun _ => 0)) (w.heap.size + 1) (fun _ => 0) ∧ Sev (((w.alloc (.cells #[.int .i64 0, .int .i64 0, .int .i64 0, .int .i64 0, .int .i64 0, .int .i64 0, .int .i64 0] 47)).alloc (.cells #[.int .i64 0, .int .i64 0, .int .i64 0, .int .i64 0, .int .i64 0, .int .i64 0, .int .i64 0] 47)).setRow (w.heap.size + 1) (ints7 fun _ => 0)) w.heap.size (fun _ => 0) ∧ Below w.heap.size w (((w.alloc (.cells #[.int .i64 0, .int .i64 0, .int .i64 0, .int .i64 0, .int .i64 0, .int .i64 0, .int .i64 0] 47)).alloc (.cells #[.int .i64 0, .int .i64 0, .int .i64 0, .int .i64 0, .int .i64 0, .int .i64 0, .int .i64 0] 47)).setRow (w.heap.size + 1) (ints7 fun _ => 0))) := Lib.hid ⟨sev_row h1, h2.other (by omega), below_setRow hb0 (by omega) _⟩
  have HI2 := Lib.hid (h.out.on H0.out.2.2)
  clear hb0 h1 h2 HI
  go_enter Tryd.func23, Tryd.ntmps23
  go_upto_region 2 with (refine wpList_store_row rfl 47 _ _ rfl (w.heap.size + 1) (ints7 fun _ => 0) rfl rfl 47 (ints7 fun _ => 0) (heap_alloc2_new _ _ _) (info7s _) rfl (ints7_one _) ?_)
  generalize (((w.alloc (.cells #[.int .i64 0, .int .i64 0, .int .i64 0, .int .i64 0, .int .i64 0, .int .i64 0, .int .i64 0] 47)).alloc (.cells #[.int .i64 0, .int .i64 0, .int .i64 0, .int .i64 0, .int .i64 0, .int .i64 0, .int .i64 0] 47)).setRow (w.heap.size + 1) (ints7 fun _ => 0)) = W at H0 HI2 ⊢
  go_wp2_with fail
  refine (coefficients_any _ _ 1 xs _ HI2 hL hn (by omega)).mono ?_
  rintro e w3 ⟨rfl, hb⟩
  have HC : Hid (CoefAt ((w3.alloc (.cells Tryd.zeroCells57 57)).setRow w3.heap.size (coefs (1 : Nat) (Plain.cutC (Plain.cntL 2) (Plain.cof xs)))) w3.heap.size (1 : Nat) (Plain.cutC (Plain.cntL 2) (Plain.cof xs))) := Lib.hid (coefAt_row (heap_alloc_new w3 _))
  have HB1 : Below w3.heap.size w3 ((w3.alloc (.cells Tryd.zeroCells57 57)).setRow w3.heap.size (coefs (1 : Nat) (Plain.cutC (Plain.cntL 2) (Plain.cof xs)))) := below_setRow ((Below.refl _ _).alloc (Nat.le_refl _) _) (Nat.le_refl _) _
  have HT : Hid (Sev ((w3.alloc (.cells Tryd.zeroCells57 57)).setRow w3.heap.size (coefs (1 : Nat) (Plain.cutC (Plain.cntL 2) (Plain.cof xs)))) (w.heap.size + 1) (fun _ => 0) ∧ Sev ((w3.alloc (.cells Tryd.zeroCells57 57)).setRow w3.heap.size (coefs (1 : Nat) (Plain.cutC (Plain.cntL 2) (Plain.cof xs)))) w.heap.size (fun _ => 0) ∧ Below w.heap.size w ((w3.alloc (.cells Tryd.zeroCells57 57)).setRow w3.heap.size (coefs (1 : Nat) (Plain.cutC (Plain.cntL 2) (Plain.cof xs))))) := Lib.hid ⟨(H0.out.1.on hb).on HB1, (H0.out.2.1.on hb).on HB1, (H0.out.2.2.trans (hb.mono H0.out.2.2.size)).trans (HB1.mono (by have := H0.out.2.2.size; have := hb.size; omega))⟩
  have h3 : w.heap.size + 1 < w3.heap.size := (H0.out.1.on hb).lt
  clear hb HB1 H0
  go_upto_region 3 with (refine wpList_store_row rfl 57 _ _ rfl w3.heap.size (coefs (1 : Nat) (Plain.cutC (Plain.cntL 2) (Plain.cof xs))) rfl rfl 57 (coefs 0 fun _ => 0) (by rw [coefs_zero]; exact heap_alloc_new _ _) (infoCoefs _ _) (by rw [coefs_size, coefs_size]) (coefs_one _ _) ?_)
  generalize ((w3.alloc (.cells Tryd.zeroCells57 57)).setRow w3.heap.size (coefs (1 : Nat) (Plain.cutC (Plain.cntL 2) (Plain.cof xs)))) = W4 at HC HT ⊢
  have HS7 : Hid (W4.drew.heap[w.heap.size + 1]? = some (.cells (ints7 fun _ => 0).toList.toArray 47 (0, 0))) := Lib.hid HT.out.1
  have HR7 : Hid (Sev W4.drew w.heap.size (fun _ => 0)) := Lib.hid HT.out.2.1
  have HB7 : Hid (Below w.heap.size w W4.drew) := Lib.hid HT.out.2.2.drew
  have HSRC : Hid (∀ j v, (wind6 xs)[j]? = some v → W4.drew.cell? (Addr.add ⟨w3.heap.size, 1 + 1, none⟩ j) = some v) := Lib.hid (fun j v hv => by
    obtain ⟨hj, rfl⟩ := wind6_at xs j v hv
    have hc := HC.out.cell (k := j + 1) (by omega)
    rw [Plain.cutC_in (by show j + 1 < 7; omega)] at hc
    have e : (Addr.add ⟨w3.heap.size, 1 + 1, none⟩ j) = ⟨w3.heap.size, 1 + (j + 1), none⟩ := by
      unfold Addr.add
      split
      · rename_i h0; subst h0; rfl
      · simp; omega
    rw [e]
    exact hc)
  clear HC HT

  refine wp_region_any (by kernel_rfl) ?_
  change wpAny _ _ _ _ _ _ _ (World.drew _)
  refine wpAny_take (i := 1) (v := .pointer (some ⟨w3.heap.size, 1, none⟩)) rfl (by kernel_rfl) (by kernel_rfl) (by kernel_rfl) (fun _ _ _ h => h) (.inl ⟨by kernel_rfl, fun w => by go_simp⟩) ?_
  refine wpAny_ready (rs := [0, 2]) (by kernel_rfl) (by simp) ?_
  refine AllReady.cons rfl (fun K hK => ?_) ?_
  · go_simp
    refine hK _ _ ?_
    clear hK K
    refine wpAny_ready (rs := [2]) (by kernel_rfl) (by simp) ?_
    refine AllReady.cons rfl (fun K hK => ?_) ?_
    · go_simp
      refine hK _ _ ?_
      clear hK K
      refine wpAny_ready (rs := [3]) (by kernel_rfl) (by simp) ?_
      refine AllReady.cons rfl (fun K hK => ?_) ?_
      · refine step_copy_splice rfl (.tmp 8) (.tmp 10) 28 28 rfl 3 Tryd.underlying28 (by kernel_rfl) (some ⟨w.heap.size + 1, 1, none⟩) (some ⟨w3.heap.size, 1 + 1, none⟩) 6 6 258 258 rfl rfl (w.heap.size + 1) 1 (ints7 fun _ => 0).toList 47 HS7.out (wind6 xs) rfl (fun _ => ⟨rfl, _, rfl, HSRC.out⟩) (by simp [ints7, arrN, wind6]) (wind6_one xs) (w.heap.size + 1) W4.drew (Below.refl _ _) (Nat.le_refl _) ?_
        intro w5 hg5 hb5
        have hg6 : w5.heap[w.heap.size + 1]? = some (.cells (ints7 (windV xs)) 47 (0, 0)) := hg5.out
        have HG5 := Lib.hid hg6
        have HR5 : Hid (Sev w5 w.heap.size (fun _ => 0)) := Lib.hid ((hb5.block w.heap.size (by omega)).trans HR7.out)
        have HB5 : Hid (Below w.heap.size w w5) := Lib.hid (HB7.out.trans (hb5.mono (by omega)))
        clear hg5 hb5 hg6
        refine hK _ _ ?_
        clear hK K
        refine wpAny_done (by kernel_rfl) ?_ _
        have HF : Hid (Sev (w5.setRow w.heap.size (ints7 (windV xs))) w.heap.size (windV xs)) := Lib.hid (sev_row HR5.out)
        have HBF := Lib.hid (below_setRow HB5.out (Nat.le_refl _) (ints7 (windV xs)))
        go_wp2_with (first
          | (refine wpList_load_row rfl 47 _ rfl (w.heap.size + 1) rfl 47 (ints7 (windV xs)) (0, 0) _ HG5.out Tryd.underlying47 rfl (info7s _) ?_)
          | (refine wpList_store_row rfl 47 _ _ rfl w.heap.size (ints7 (windV xs)) rfl rfl 47 _ HR5.out (info7s _) rfl (ints7_one _) ?_))
        exact bodyPost_ret (results_cell_row rfl _ _ w.heap.size 47 _ (0, 0) _ rfl HF.out Tryd.underlying47 rfl (info7s _)) rfl ⟨rfl, HBF.out⟩
      exact AllReady.nil
    exact AllReady.nil
  refine AllReady.cons rfl (fun K hK => ?_) ?_
  · go_simp
    refine hK _ _ ?_
    clear hK K
    refine wpAny_ready (rs := [0]) (by kernel_rfl) (by simp) ?_
    refine AllReady.cons rfl (fun K hK => ?_) ?_
    · go_simp
      refine hK _ _ ?_
      clear hK K
      refine wpAny_ready (rs := [3]) (by kernel_rfl) (by simp) ?_
      refine AllReady.cons rfl (fun K hK => ?_) ?_
      · refine step_copy_splice rfl (.tmp 8) (.tmp 10) 28 28 rfl 3 Tryd.underlying28 (by kernel_rfl) (some ⟨w.heap.size + 1, 1, none⟩) (some ⟨w3.heap.size, 1 + 1, none⟩) 6 6 258 258 rfl rfl (w.heap.size + 1) 1 (ints7 fun _ => 0).toList 47 HS7.out (wind6 xs) rfl (fun _ => ⟨rfl, _, rfl, HSRC.out⟩) (by simp [ints7, arrN, wind6]) (wind6_one xs) (w.heap.size + 1) W4.drew (Below.refl _ _) (Nat.le_refl _) ?_
        intro w5 hg5 hb5
        have hg6 : w5.heap[w.heap.size + 1]? = some (.cells (ints7 (windV xs)) 47 (0, 0)) := hg5.out
        have HG5 := Lib.hid hg6
        have HR5 : Hid (Sev w5 w.heap.size (fun _ => 0)) := Lib.hid ((hb5.block w.heap.size (by omega)).trans HR7.out)
        have HB5 : Hid (Below w.heap.size w w5) := Lib.hid (HB7.out.trans (hb5.mono (by omega)))
        clear hg5 hb5 hg6
        refine hK _ _ ?_
        clear hK K
        refine wpAny_done (by kernel_rfl) ?_ _
        have HF : Hid (Sev (w5.setRow w.heap.size (ints7 (windV xs))) w.heap.size (windV xs)) := Lib.hid (sev_row HR5.out)
        have HBF := Lib.hid (below_setRow HB5.out (Nat.le_refl _) (ints7 (windV xs)))
        go_wp2_with (first
          | (refine wpList_load_row rfl 47 _ rfl (w.heap.size + 1) rfl 47 (ints7 (windV xs)) (0, 0) _ HG5.out Tryd.underlying47 rfl (info7s _) ?_)
          | (refine wpList_store_row rfl 47 _ _ rfl w.heap.size (ints7 (windV xs)) rfl rfl 47 _ HR5.out (info7s _) rfl (ints7_one _) ?_))
        exact bodyPost_ret (results_cell_row rfl _ _ w.heap.size 47 _ (0, 0) _ rfl HF.out Tryd.underlying47 rfl (info7s _)) rfl ⟨rfl, HBF.out⟩
      exact AllReady.nil
    exact AllReady.nil
  exact AllReady.nil

end Go.Proofs.YtaepmgfodjjidaaDoor
