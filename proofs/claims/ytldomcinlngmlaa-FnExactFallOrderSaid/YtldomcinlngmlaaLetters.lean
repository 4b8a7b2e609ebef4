/- Contract: spec.LettersLeft tells for each set how many letters are left. Conditions: numbers of 64 bits, a length that fits. -/
import Derived.Test.YtldomcinlngmlaaFallOrd
import Derived.Deep.RegionLaw
namespace Go.Proofs.Ytldomcinlngmlaa
open Go.ChangeShapes Go.WideShapes Go.ChangeAt Go.RowKit
set_option linter.unusedVariables false

/-- Sixty-four numbers in a block. -/
def Nums64 (w : World) (G : Nat) (f : Nat → Int) : Prop := w.heap[G]? = some (.cells (ints64 f) 36 (0, 0))
def upToI (f : Nat → Int) (k : Nat) : Nat → Int := fun i => if i < k then f i else 0
theorem ints64_size (f : Nat → Int) : (ints64 f).size = 64 := arr64_size _
theorem ints64_one (f : Nat → Int) : (ints64 f).all (·.oneCell') = true := arr64_one fun _ => rfl
theorem ints64_cong {f g : Nat → Int} (h : ∀ i, i < 64 → f i = g i) : ints64 f = ints64 g := arr64_cong fun i hi => by rw [h i hi]
theorem ints64_set (f : Nat → Int) (k : Nat) (h : k < 64) : (ints64 (upToI f k)).setIfInBounds k (.int .i64 (f k)) = ints64 (upToI f (k + 1)) := by
  rw [ints64, arr64_set _ _ h]
  refine arr64_cong fun i hi => ?_
  by_cases e : i = k
  · subst e; simp [upToI]
  · by_cases h2 : i < k
    · have h3 : i < k + 1 := by omega
      simp [upToI, e, h2, h3]
    · have h3 : ¬ i < k + 1 := by omega
      simp [upToI, e, h2, h3]
theorem info64i : (Try.prog.info? 36).map (·.size) = some 64 := by kernel_rfl
theorem Nums64.lt {w : World} {G : Nat} {f : Nat → Int} (h : Nums64 w G f) : G < w.heap.size := (Array.getElem?_eq_some_iff.1 h).1
theorem Nums64.on {w w' : World} {G : Nat} {f : Nat → Int} (h : Nums64 w G f) (hb : Below w.heap.size w w') : Nums64 w' G f := (hb.block G h.lt).trans h
theorem Nums64.cell {w : World} {G : Nat} {f : Nat → Int} (h : Nums64 w G f) {i : Nat} (hi : i < 64) : w.cell? ⟨G, i, none⟩ = some (.int .i64 (f i)) := by
  rw [cell_of_row w G i _ _ _ h]
  exact arr64_at _ hi
theorem Nums64.free {w : World} {G : Nat} {f : Nat → Int} (h : Nums64 w G f) (i : Nat) : w.frozen? ⟨G, i, none⟩ = false := frozen_of_row w G i _ _ h
theorem Nums64.set {w : World} {G k : Nat} {f : Nat → Int} (h : Nums64 w G (upToI f k)) (hk : k < 64) : Nums64 (w.setCell ⟨G, k, none⟩ (.int .i64 (f k))) G (upToI f (k + 1)) := by
  rw [Nums64, heap_setCell_same w G k _ _ _ h, ints64_set f k hk]
theorem Nums64.other {w : World} {G H : Nat} {f : Nat → Int} {cs : Array Value} (h : Nums64 w G f) (hne : G ≠ H) : Nums64 (w.setRow H cs) G f := (setRow_other w H G cs hne).trans h
theorem Nums64.off {w : World} {G H i : Nat} {f : Nat → Int} {v : Value} (h : Nums64 w G f) (hne : G ≠ H) : Nums64 (w.setCell ⟨H, i, none⟩ v) G f := (heap_setCell_other w ⟨H, i, none⟩ G v hne).trans h
theorem nums64_row {w : World} {G : Nat} {f : Nat → Int} {cs : Array Value} (h : w.heap[G]? = some (.cells cs 36 (0, 0))) : Nums64 (w.setRow G (ints64 f)) G f := setRow_heap w G _ _ _ _ h
theorem nums64_load {w : World} {G : Nat} {f : Nat → Int} (h : Nums64 w G f) : (loadVar 36 ⟨G, 0, none⟩).run Try.prog w = .ok (.agg (ints64 f)) w :=
  run_loadVar_row w G 36 36 _ (0, 0) _ h Try.underlying36 rfl info64i
theorem ints64_zero : ints64 (fun _ => 0) = #[.int .i64 0, .int .i64 0, .int .i64 0, .int .i64 0, .int .i64 0, .int .i64 0, .int .i64 0, .int .i64 0, .int .i64 0, .int .i64 0, .int .i64 0, .int .i64 0, .int .i64 0, .int .i64 0, .int .i64 0, .int .i64 0, .int .i64 0, .int .i64 0, .int .i64 0, .int .i64 0, .int .i64 0, .int .i64 0, .int .i64 0, .int .i64 0, .int .i64 0, .int .i64 0, .int .i64 0, .int .i64 0, .int .i64 0, .int .i64 0, .int .i64 0, .int .i64 0, .int .i64 0, .int .i64 0, .int .i64 0, .int .i64 0, .int .i64 0, .int .i64 0, .int .i64 0, .int .i64 0, .int .i64 0, .int .i64 0, .int .i64 0, .int .i64 0, .int .i64 0, .int .i64 0, .int .i64 0, .int .i64 0, .int .i64 0, .int .i64 0, .int .i64 0, .int .i64 0, .int .i64 0, .int .i64 0, .int .i64 0, .int .i64 0, .int .i64 0, .int .i64 0, .int .i64 0, .int .i64 0, .int .i64 0, .int .i64 0, .int .i64 0, .int .i64 0] := by kernel_rfl
/-- A variable and the result's, both in new blocks. -/
def TwoI (w wr : World) (f g : Nat → Int) : Prop := Nums64 wr (w.heap.size + 1) f ∧ Nums64 wr w.heap.size g ∧ Below w.heap.size w wr
theorem twoI_start (w : World) : TwoI w (((w.alloc (.cells (ints64 fun _ => 0) 36)).alloc (.cells (ints64 fun _ => 0) 36)).setRow (w.heap.size + 1) (ints64 fun _ => 0)) (fun _ => 0) (fun _ => 0) := by
  have hb : Below w.heap.size w ((w.alloc (.cells (ints64 fun _ => 0) 36)).alloc (.cells (ints64 fun _ => 0) 36)) := ((Below.refl _ _).alloc (Nat.le_refl _) _).alloc (by simp) _
  have h1 : Nums64 ((w.alloc (.cells (ints64 fun _ => 0) 36)).alloc (.cells (ints64 fun _ => 0) 36)) (w.heap.size + 1) (fun _ => 0) := heap_alloc2_new _ _ _
  have h2 : Nums64 ((w.alloc (.cells (ints64 fun _ => 0) 36)).alloc (.cells (ints64 fun _ => 0) 36)) w.heap.size (fun _ => 0) := heap_alloc2_old _ _ _
  exact ⟨nums64_row h1, h2.other (by omega), below_setRow hb (by omega) _⟩
theorem TwoI.later {w wr w1 : World} {f g : Nat → Int} (h : TwoI w wr f g) (hb : Below wr.heap.size wr w1) : TwoI w w1 f g := ⟨h.1.on hb, h.2.1.on hb, h.2.2.trans (hb.mono h.2.2.size)⟩
theorem TwoI.set {w wr : World} {f g : Nat → Int} {k : Nat} (h : TwoI w wr (upToI f k) g) (hk : k < 64) : TwoI w (wr.setCell ⟨w.heap.size + 1, k, none⟩ (.int .i64 (f k))) (upToI f (k + 1)) g :=
  ⟨h.1.set hk, h.2.1.off (by omega), h.2.2.setCell (p := ⟨w.heap.size + 1, k, none⟩) (by simp) _⟩
theorem upToI_zero (f : Nat → Int) : upToI f 0 = fun _ => 0 := by funext i; simp [upToI]
theorem upToI_all (f : Nat → Int) : ints64 (upToI f 64) = ints64 f := ints64_cong fun i hi => by simp [upToI, hi]

/-- A whole row loaded, stored, as a step of a region that draws its order. -/
theorem step_load_row {ops : Array Oper} {o : Oper} {a : Act} {w : World} {K : Act → World → Prop} {Q : Exit → Act → World → Prop} {E : Prop} (hgd : o.guard = none) (ty : TypeId) (x : Operand) (ho : o.op = .load ty x)
    (g : Nat) (hx : a.eval x = .pointer (some ⟨g, 0, none⟩)) (cs : Array Value) (hl : (loadVar ty ⟨g, 0, none⟩).run Try.prog w = .ok (.agg cs) w)
    (h : K (a.put o.dst (.agg cs)) w) : if Region.wanted o (yielded ops a.tmps) = true then Oper.wp Try.prog o a w K Q else E := by
  rw [if_pos (by simp [Region.wanted, hgd])]
  unfold Oper.wp execOp
  simp only [ho, hx, Instr.loadAt, Instr.sureAddr, Sem.run_bind, Sem.run_pure, Result.andThen_ok, hl]
  exact h
theorem step_store_row {ops : Array Oper} {o : Oper} {a : Act} {w : World} {K : Act → World → Prop} {Q : Exit → Act → World → Prop} {E : Prop} (hgd : o.guard = none) (ty : TypeId) (x y : Operand) (ho : o.op = .store ty x y)
    (g : Nat) (cells : Array Value) (hx : a.eval x = .pointer (some ⟨g, 0, none⟩)) (hy : a.eval y = .agg cells)
    (t : TypeId) (old : Array Value) (hg : w.heap[g]? = some (.cells old t (0, 0))) (hi : (Try.prog.info? ty).map (·.size) = some cells.size)
    (hold : old.size = cells.size) (h1 : cells.all (·.oneCell') = true)
    (h : K (a.put o.dst undef) (w.setRow g cells)) : if Region.wanted o (yielded ops a.tmps) = true then Oper.wp Try.prog o a w K Q else E := by
  rw [if_pos (by simp [Region.wanted, hgd])]
  exact wp_store_row ty x y ho g cells hx hy t old hg hi hold h1 h

def leftV (xs : List Int) : Nat → Int := fun s => if Plain.wordB xs = true then ((Plain.takeOut xs s).length : Int) else 0
theorem leftV_yes {xs : List Int} (h : Plain.wordB xs = true) : leftV xs = fun s => ((Plain.takeOut xs s).length : Int) := by funext s; exact if_pos h
theorem leftV_no {xs : List Int} (h : Plain.wordB xs = false) : leftV xs = fun _ => 0 := by funext s; exact if_neg (by rw [h]; simp)
set_option maxRecDepth 100000 in
set_option maxHeartbeats 2000000 in
theorem specLettersLeft_any (a : Option Addr) (cap : Nat) (xs : List Int) (w : World) (h : Hid (Ints w a xs)) (h64 : Hid (In64 xs)) (hn : xs.length ≤ 9223372036854775807) :
    Calls Try.prog 26 #[.slice a xs.length cap] w (Val (.tuple #[.agg (ints64 (leftV xs)), .bool (Plain.wordB xs)]) w) := by
  have H0 := Lib.hid (twoI_start w)
  go_enter Try.func26, Try.ntmps26
  go_wp2_with (refine wpList_store_row rfl 36 _ _ rfl (w.heap.size + 1) (ints64 fun _ => 0) rfl (by rw [ints64_zero]; rfl) 36 (ints64 fun _ => 0) (by rw [ints64_zero]; exact heap_alloc2_new _ _ _) info64i rfl (ints64_one _) ?_)
  rw [← ints64_zero]
  obtain ⟨W, hW⟩ : ∃ W, W = (((w.alloc (.cells (ints64 fun _ => 0) 36)).alloc (.cells (ints64 fun _ => 0) 36)).setRow (w.heap.size + 1) (ints64 fun _ => 0)) := ⟨_, rfl⟩
  rw [← hW] at H0 ⊢
  clear hW
  go_loopw [5] (fun i wr => ∃ k : Nat, k ≤ 64 ∧ i = .int .i64 k ∧ (0 < k → Plain.wordB xs = true) ∧ TwoI w wr (upToI (leftV xs) k) (fun _ => 0)) (fun i _ => 64 - (intOf i).toNat)
  case atStart => exact ⟨0, Nat.zero_le _, rfl, fun h => by omega, by rw [upToI_zero]; exact H0.out⟩
  case round =>
    obtain ⟨k, hk, rfl, hpos, hrel⟩ := hrel
    have HK := Lib.hid hrel
    have HI := Lib.hid (h.out.on hrel.2.2)
    have HP := Lib.hid hpos
    clear hrel hpos
    have hend : (Plain.wordB xs = false ∨ k = 64) → Hid (TwoI w wr (leftV xs) (fun _ => 0)) := fun hh => Lib.hid (by
      obtain ⟨h1, h2, h3⟩ := HK.out
      refine ⟨?_, h2, h3⟩
      rw [Nums64] at h1 ⊢
      rw [h1]
      rcases hh with hh | rfl
      · have hk0 : k = 0 := by
          rcases Nat.eq_zero_or_pos k with h0 | h0
          · exact h0
          · rw [HP.out h0] at hh; cases hh
        subst hk0
        rw [upToI_zero, leftV_no hh]
      · rw [upToI_all])
    have HEnd := Lib.hid hend
    clear hend
    cases hw : Plain.wordB xs with
    | true =>
      have HW := Lib.hid hw
      have m1 := (Plain.wordB_iff.1 hw).1
      have HL := Lib.hid (Plain.wordB_iff.1 hw).2
      clear hw
      by_cases hlt : k < 64
      · have hi : (k : Int) < 64 := by omega
        have hi0 : (0 : Int) ≤ (k : Int) := by omega
        have hle := Plain.takeOut_le xs k
        obtain ⟨L, hL⟩ : ∃ L, L = Plain.takeOut xs k := ⟨_, rfl⟩
        rw [← hL] at hle
        have HV : Hid (leftV xs k = (L.length : Int)) := Lib.hid (by rw [leftV_yes HW.out, hL])
        have HLL := Lib.hid hL
        clear hL HEnd
        go_wp2_with fail
        refine (l2Word_any _ _ xs _ HI h64 hn).mono ?_
        rw [HW.out]
        rintro e w' ⟨rfl, rfl⟩
        go_wp2_with fail
        refine (l3Take_any _ _ xs k _ HI HL (by omega) hlt).mono ?_
        rw [← HLL.out]
        rintro e w1 ⟨v, rfl, ⟨a2, c2, rfl, -, -, -⟩, hb⟩
        have H1 := Lib.hid (HK.out.later hb)
        have hc : w1.cell? ⟨w.heap.size + 1, k, none⟩ = some (.int .i64 (upToI (leftV xs) k k)) := H1.out.1.cell hlt
        have hf : w1.frozen? ⟨w.heap.size + 1, k, none⟩ = false := H1.out.1.free k
        have h2 := H1.out.set hlt
        rw [HV.out] at h2
        have H2 := Lib.hid h2
        clear hb HK HI h2
        go_wp2_with fail
        go_roundw
        case rel => exact ⟨k + 1, by omega, by go_num, (by intro _; first | trivial | exact HW.out), H2.out⟩
        case measure => simp [intOf]; omega
      · obtain rfl : k = 64 := by omega
        have HT := Lib.hid (HEnd.out (.inr rfl))
        clear HEnd HK
        have HI2 : Hid (Ints wr.drew a xs) := Lib.hid HI.out
        have HT2 : Hid (Nums64 wr.drew (w.heap.size + 1) (leftV xs)) := Lib.hid HT.out.1
        have HT3 : Hid (Nums64 wr.drew w.heap.size (fun _ => 0)) := Lib.hid HT.out.2.1
        have HF : Hid (Nums64 (wr.drew.setRow w.heap.size (ints64 (leftV xs))) w.heap.size (leftV xs)) := Lib.hid (nums64_row HT3.out)
        have HB2 : Hid (Below w.heap.size w (wr.drew.setRow w.heap.size (ints64 (leftV xs)))) := Lib.hid (below_setRow HT.out.2.2.drew (Nat.le_refl _) (ints64 (leftV xs)))
        go_wp2_with fail
        refine wp_region_any (by kernel_rfl) ?_
        change wpAny _ _ _ _ _ _ _ (World.drew _)
        refine wpAny_ready (rs := [0, 1]) (by kernel_rfl) (by simp) ?_
        refine AllReady.cons rfl (fun K hK => ?_) ?_
        · refine step_load_row rfl 36 _ rfl (w.heap.size + 1) rfl (ints64 (leftV xs)) (nums64_load HT2.out) (hK _ _ ?_)
          clear hK K
          refine wpAny_ready (rs := [1]) (by kernel_rfl) (by simp) ?_
          refine AllReady.cons rfl (fun K hK => ?_) ?_
          · go_simp
            refine hK _ _ ?_
            clear hK K
            refine wpAny_ready (rs := [2]) (by kernel_rfl) (by simp) ?_
            refine AllReady.cons rfl (fun K hK => ?_) ?_
            · go_simp
              refine (l2Word_any _ _ xs _ HI2 h64 hn).mono ?_
              rw [HW.out]
              rintro e w' ⟨rfl, rfl⟩
              try go_simp
              refine hK _ _ ?_
              clear hK K
              refine wpAny_ready (rs := [3]) (by kernel_rfl) (by simp) ?_
              refine AllReady.cons rfl (fun K hK => ?_) ?_
              · refine step_store_row rfl 36 _ _ rfl w.heap.size (ints64 (leftV xs)) rfl rfl 36 _ HT3.out info64i rfl (ints64_one _) (hK _ _ ?_)
                clear hK K
                refine wpAny_ready (rs := [4]) (by kernel_rfl) (by simp) ?_
                refine AllReady.cons rfl (fun K hK => ?_) ?_
                · go_simp
                  refine hK _ _ ?_
                  clear hK K
                  refine wpAny_done (by kernel_rfl) ?_ _
                  go_wp2_with fail
                  exact bodyPost_ret (results_tab2 rfl _ _ w.heap.size (ints64 (leftV xs)) rfl (nums64_load HF.out)) rfl ⟨by first | rfl | (rw [HW.out]; rfl), HB2.out⟩
                · exact AllReady.nil
              · exact AllReady.nil
            · exact AllReady.nil
          · exact AllReady.nil
        · refine AllReady.cons rfl (fun K hK => ?_) ?_
          · go_simp
            refine hK _ _ ?_
            clear hK K
            refine wpAny_ready (rs := [0, 2]) (by kernel_rfl) (by simp) ?_
            refine AllReady.cons rfl (fun K hK => ?_) ?_
            · refine step_load_row rfl 36 _ rfl (w.heap.size + 1) rfl (ints64 (leftV xs)) (nums64_load HT2.out) (hK _ _ ?_)
              clear hK K
              refine wpAny_ready (rs := [2]) (by kernel_rfl) (by simp) ?_
              refine AllReady.cons rfl (fun K hK => ?_) ?_
              · go_simp
                refine (l2Word_any _ _ xs _ HI2 h64 hn).mono ?_
                rw [HW.out]
                rintro e w' ⟨rfl, rfl⟩
                try go_simp
                refine hK _ _ ?_
                clear hK K
                refine wpAny_ready (rs := [3]) (by kernel_rfl) (by simp) ?_
                refine AllReady.cons rfl (fun K hK => ?_) ?_
                · refine step_store_row rfl 36 _ _ rfl w.heap.size (ints64 (leftV xs)) rfl rfl 36 _ HT3.out info64i rfl (ints64_one _) (hK _ _ ?_)
                  clear hK K
                  refine wpAny_ready (rs := [4]) (by kernel_rfl) (by simp) ?_
                  refine AllReady.cons rfl (fun K hK => ?_) ?_
                  · go_simp
                    refine hK _ _ ?_
                    clear hK K
                    refine wpAny_done (by kernel_rfl) ?_ _
                    go_wp2_with fail
                    exact bodyPost_ret (results_tab2 rfl _ _ w.heap.size (ints64 (leftV xs)) rfl (nums64_load HF.out)) rfl ⟨by first | rfl | (rw [HW.out]; rfl), HB2.out⟩
                  · exact AllReady.nil
                · exact AllReady.nil
              · exact AllReady.nil
            · refine AllReady.cons rfl (fun K hK => ?_) ?_
              · go_simp
                refine (l2Word_any _ _ xs _ HI2 h64 hn).mono ?_
                rw [HW.out]
                rintro e w' ⟨rfl, rfl⟩
                try go_simp
                refine hK _ _ ?_
                clear hK K
                refine wpAny_ready (rs := [0]) (by kernel_rfl) (by simp) ?_
                refine AllReady.cons rfl (fun K hK => ?_) ?_
                · refine step_load_row rfl 36 _ rfl (w.heap.size + 1) rfl (ints64 (leftV xs)) (nums64_load HT2.out) (hK _ _ ?_)
                  clear hK K
                  refine wpAny_ready (rs := [3]) (by kernel_rfl) (by simp) ?_
                  refine AllReady.cons rfl (fun K hK => ?_) ?_
                  · refine step_store_row rfl 36 _ _ rfl w.heap.size (ints64 (leftV xs)) rfl rfl 36 _ HT3.out info64i rfl (ints64_one _) (hK _ _ ?_)
                    clear hK K
                    refine wpAny_ready (rs := [4]) (by kernel_rfl) (by simp) ?_
                    refine AllReady.cons rfl (fun K hK => ?_) ?_
                    · go_simp
                      refine hK _ _ ?_
                      clear hK K
                      refine wpAny_done (by kernel_rfl) ?_ _
                      go_wp2_with fail
                      exact bodyPost_ret (results_tab2 rfl _ _ w.heap.size (ints64 (leftV xs)) rfl (nums64_load HF.out)) rfl ⟨by first | rfl | (rw [HW.out]; rfl), HB2.out⟩
                    · exact AllReady.nil
                  · exact AllReady.nil
                · exact AllReady.nil
              · exact AllReady.nil
          · exact AllReady.nil
    | false =>
      have HW := Lib.hid hw
      have HT := Lib.hid (HEnd.out (.inl hw))
      have hk0 : k = 0 := by
        rcases Nat.eq_zero_or_pos k with h0 | h0
        · exact h0
        · rw [HP.out h0] at hw; cases hw
      clear hw HEnd HK HP
      subst hk0
      have HI2 : Hid (Ints wr.drew a xs) := Lib.hid HI.out
      have HT2 : Hid (Nums64 wr.drew (w.heap.size + 1) (leftV xs)) := Lib.hid HT.out.1
      have HT3 : Hid (Nums64 wr.drew w.heap.size (fun _ => 0)) := Lib.hid HT.out.2.1
      have HF : Hid (Nums64 (wr.drew.setRow w.heap.size (ints64 (leftV xs))) w.heap.size (leftV xs)) := Lib.hid (nums64_row HT3.out)
      have HB2 : Hid (Below w.heap.size w (wr.drew.setRow w.heap.size (ints64 (leftV xs)))) := Lib.hid (below_setRow HT.out.2.2.drew (Nat.le_refl _) (ints64 (leftV xs)))
      go_wp2_with fail
      refine (l2Word_any _ _ xs _ HI h64 hn).mono ?_
      rw [HW.out]
      rintro e w' ⟨rfl, rfl⟩
      go_wp2_with fail
      refine wp_region_any (by kernel_rfl) ?_
      change wpAny _ _ _ _ _ _ _ (World.drew _)
      refine wpAny_ready (rs := [0, 1]) (by kernel_rfl) (by simp) ?_
      refine AllReady.cons rfl (fun K hK => ?_) ?_
      · refine step_load_row rfl 36 _ rfl (w.heap.size + 1) rfl (ints64 (leftV xs)) (nums64_load HT2.out) (hK _ _ ?_)
        clear hK K
        refine wpAny_ready (rs := [1]) (by kernel_rfl) (by simp) ?_
        refine AllReady.cons rfl (fun K hK => ?_) ?_
        · go_simp
          refine hK _ _ ?_
          clear hK K
          refine wpAny_ready (rs := [2]) (by kernel_rfl) (by simp) ?_
          refine AllReady.cons rfl (fun K hK => ?_) ?_
          · go_simp
            refine (l2Word_any _ _ xs _ HI2 h64 hn).mono ?_
            rw [HW.out]
            rintro e w' ⟨rfl, rfl⟩
            try go_simp
            refine hK _ _ ?_
            clear hK K
            refine wpAny_ready (rs := [3]) (by kernel_rfl) (by simp) ?_
            refine AllReady.cons rfl (fun K hK => ?_) ?_
            · refine step_store_row rfl 36 _ _ rfl w.heap.size (ints64 (leftV xs)) rfl rfl 36 _ HT3.out info64i rfl (ints64_one _) (hK _ _ ?_)
              clear hK K
              refine wpAny_ready (rs := [4]) (by kernel_rfl) (by simp) ?_
              refine AllReady.cons rfl (fun K hK => ?_) ?_
              · go_simp
                refine hK _ _ ?_
                clear hK K
                refine wpAny_done (by kernel_rfl) ?_ _
                go_wp2_with fail
                exact bodyPost_ret (results_tab2 rfl _ _ w.heap.size (ints64 (leftV xs)) rfl (nums64_load HF.out)) rfl ⟨by first | rfl | (rw [HW.out]; rfl), HB2.out⟩
              · exact AllReady.nil
            · exact AllReady.nil
          · exact AllReady.nil
        · exact AllReady.nil
      · refine AllReady.cons rfl (fun K hK => ?_) ?_
        · go_simp
          refine hK _ _ ?_
          clear hK K
          refine wpAny_ready (rs := [0, 2]) (by kernel_rfl) (by simp) ?_
          refine AllReady.cons rfl (fun K hK => ?_) ?_
          · refine step_load_row rfl 36 _ rfl (w.heap.size + 1) rfl (ints64 (leftV xs)) (nums64_load HT2.out) (hK _ _ ?_)
            clear hK K
            refine wpAny_ready (rs := [2]) (by kernel_rfl) (by simp) ?_
            refine AllReady.cons rfl (fun K hK => ?_) ?_
            · go_simp
              refine (l2Word_any _ _ xs _ HI2 h64 hn).mono ?_
              rw [HW.out]
              rintro e w' ⟨rfl, rfl⟩
              try go_simp
              refine hK _ _ ?_
              clear hK K
              refine wpAny_ready (rs := [3]) (by kernel_rfl) (by simp) ?_
              refine AllReady.cons rfl (fun K hK => ?_) ?_
              · refine step_store_row rfl 36 _ _ rfl w.heap.size (ints64 (leftV xs)) rfl rfl 36 _ HT3.out info64i rfl (ints64_one _) (hK _ _ ?_)
                clear hK K
                refine wpAny_ready (rs := [4]) (by kernel_rfl) (by simp) ?_
                refine AllReady.cons rfl (fun K hK => ?_) ?_
                · go_simp
                  refine hK _ _ ?_
                  clear hK K
                  refine wpAny_done (by kernel_rfl) ?_ _
                  go_wp2_with fail
                  exact bodyPost_ret (results_tab2 rfl _ _ w.heap.size (ints64 (leftV xs)) rfl (nums64_load HF.out)) rfl ⟨by first | rfl | (rw [HW.out]; rfl), HB2.out⟩
                · exact AllReady.nil
              · exact AllReady.nil
            · exact AllReady.nil
          · refine AllReady.cons rfl (fun K hK => ?_) ?_
            · go_simp
              refine (l2Word_any _ _ xs _ HI2 h64 hn).mono ?_
              rw [HW.out]
              rintro e w' ⟨rfl, rfl⟩
              try go_simp
              refine hK _ _ ?_
              clear hK K
              refine wpAny_ready (rs := [0]) (by kernel_rfl) (by simp) ?_
              refine AllReady.cons rfl (fun K hK => ?_) ?_
              · refine step_load_row rfl 36 _ rfl (w.heap.size + 1) rfl (ints64 (leftV xs)) (nums64_load HT2.out) (hK _ _ ?_)
                clear hK K
                refine wpAny_ready (rs := [3]) (by kernel_rfl) (by simp) ?_
                refine AllReady.cons rfl (fun K hK => ?_) ?_
                · refine step_store_row rfl 36 _ _ rfl w.heap.size (ints64 (leftV xs)) rfl rfl 36 _ HT3.out info64i rfl (ints64_one _) (hK _ _ ?_)
                  clear hK K
                  refine wpAny_ready (rs := [4]) (by kernel_rfl) (by simp) ?_
                  refine AllReady.cons rfl (fun K hK => ?_) ?_
                  · go_simp
                    refine hK _ _ ?_
                    clear hK K
                    refine wpAny_done (by kernel_rfl) ?_ _
                    go_wp2_with fail
                    exact bodyPost_ret (results_tab2 rfl _ _ w.heap.size (ints64 (leftV xs)) rfl (nums64_load HF.out)) rfl ⟨by first | rfl | (rw [HW.out]; rfl), HB2.out⟩
                  · exact AllReady.nil
                · exact AllReady.nil
              · exact AllReady.nil
            · exact AllReady.nil
        · exact AllReady.nil

end Go.Proofs.Ytldomcinlngmlaa
