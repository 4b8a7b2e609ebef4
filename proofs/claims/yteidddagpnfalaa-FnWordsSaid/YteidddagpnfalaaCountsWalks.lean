/- Contracts: laws.eqIntA7 at equal arrays; spec.CountLetters, impl.CountLetters. Conditions: numbers of 64 bits, a length that fits. -/
import Derived.Test.YteidddagpnfalaaNailsWalks
namespace Go.Proofs.Yteidddagpnfalaa
open Go.ChangeShapes Go.WideShapes Go.ChangeAt Go.RowKit
set_option linter.unusedVariables false

/-- How many letters have a nail. -/
def cnt (l : List Int) (n : Nat) : Nat := (l.filter (fun x => decide (Plain.nail x = (n : Int)))).length
theorem cnt_le (l : List Int) (n : Nat) : cnt l n ≤ l.length := List.length_filter_le _ _
theorem cnt_snoc (l : List Int) (x : Int) (n : Nat) : cnt (l ++ [x]) n = cnt l n + if Plain.nail x = (n : Int) then 1 else 0 := by
  unfold cnt
  rw [List.filter_append, List.length_append]
  by_cases h : Plain.nail x = (n : Int) <;> simp [h]
theorem cnt_zero {l : List Int} (h : Plain.Letters l) : cnt l 0 = 0 := by
  unfold cnt
  rw [List.length_eq_zero_iff, List.filter_eq_nil_iff]
  intro x hx
  have := h x hx
  rw [decide_eq_true_iff]
  unfold Plain.nail
  split <;> omega
def cells7 (c : Nat → Nat) : Array Value := #[.int .i64 (c 0), .int .i64 (c 1), .int .i64 (c 2), .int .i64 (c 3), .int .i64 (c 4), .int .i64 (c 5), .int .i64 (c 6)]
/-- A block holds an array of seven numbers. -/
def Arr (w : World) (G : Nat) (c : Nat → Nat) : Prop := w.heap[G]? = some (.cells (cells7 c) 56 (0, 0))
theorem Arr.cells {w : World} {G : Nat} {c : Nat → Nat} (h : Arr w G c) :
    w.cell? ⟨G, 0, none⟩ = some (.int .i64 (c 0)) ∧ w.cell? ⟨G, 1, none⟩ = some (.int .i64 (c 1)) ∧ w.cell? ⟨G, 2, none⟩ = some (.int .i64 (c 2)) ∧ w.cell? ⟨G, 3, none⟩ = some (.int .i64 (c 3)) ∧
    w.cell? ⟨G, 4, none⟩ = some (.int .i64 (c 4)) ∧ w.cell? ⟨G, 5, none⟩ = some (.int .i64 (c 5)) ∧ w.cell? ⟨G, 6, none⟩ = some (.int .i64 (c 6)) ∧ ∀ j, w.frozen? ⟨G, j, none⟩ = false := by
  unfold Arr at h
  refine ⟨?_, ?_, ?_, ?_, ?_, ?_, ?_, fun j => ?_⟩ <;> simp [World.cell?, World.frozen?, h, cells7]
theorem Arr.set {w : World} {G p : Nat} {c c' : Nat → Nat} (h : Arr w G c) (hp : p < 7) (he : c' p = c p + 1) (ho : ∀ j, j ≠ p → c' j = c j) : Arr (w.setCell ⟨G, p, none⟩ (.int .i64 ((c p : Int) + 1))) G c' := by
  unfold Arr at h ⊢
  rw [heap_setCell_same w G p _ _ _ h]
  have e : ((c p : Int) + 1) = ((c' p : Nat) : Int) := by omega
  rw [e]
  congr 2
  have h0 := ho 0; have h1 := ho 1; have h2 := ho 2; have h3 := ho 3; have h4 := ho 4; have h5 := ho 5; have h6 := ho 6
  match p, hp with
  | 0, _ => simp [cells7, h1, h2, h3, h4, h5, h6]
  | 1, _ => simp [cells7, h0, h2, h3, h4, h5, h6]
  | 2, _ => simp [cells7, h0, h1, h3, h4, h5, h6]
  | 3, _ => simp [cells7, h0, h1, h2, h4, h5, h6]
  | 4, _ => simp [cells7, h0, h1, h2, h3, h5, h6]
  | 5, _ => simp [cells7, h0, h1, h2, h3, h4, h6]
  | 6, _ => simp [cells7, h0, h1, h2, h3, h4, h5]
theorem Arr.off {w : World} {G R p : Nat} {c : Nat → Nat} {v : Value} (h : Arr w R c) (hne : R ≠ G) : Arr (w.setCell ⟨G, p, none⟩ v) R c := by
  unfold Arr at h ⊢
  rw [Below.heap_setCell _ _ _ _ hne]
  exact h
theorem cnt_step {l : List Int} {k p : Nat} {x : Int} (hx : l[k]? = some x) (hp : Plain.nail x = (p : Int)) : cnt (l.take (k + 1)) p = cnt (l.take k) p + 1 ∧ ∀ j, j ≠ p → cnt (l.take (k + 1)) j = cnt (l.take k) j := by
  rw [Plain.take_snoc hx]
  refine ⟨by rw [cnt_snoc, if_pos hp], fun j hj => ?_⟩
  rw [cnt_snoc, if_neg (by omega)]
  rfl
theorem nail_six {x : Int} (hx : x ≠ 0 ∧ -6 ≤ x ∧ x ≤ 6) : Plain.nail x = 1 ∨ Plain.nail x = 2 ∨ Plain.nail x = 3 ∨ Plain.nail x = 4 ∨ Plain.nail x = 5 ∨ Plain.nail x = 6 := by unfold Plain.nail; split <;> omega
/-- The loops' relation. -/
def Counted (xs : List Int) (k R G : Nat) (w wr : World) : Prop := Arr wr G (cnt (xs.take k)) ∧ Arr wr R (fun _ => 0) ∧ Below w.heap.size w wr
theorem Counted.step {xs : List Int} {k p R G : Nat} {x : Int} {w wr : World} (h : Counted xs k R G w wr) (hx : xs[k]? = some x) (hp : Plain.nail x = (p : Int)) (h7 : p < 7) (hR : R ≠ G) (hG : w.heap.size ≤ G) :
    Counted xs (k + 1) R G w (wr.setCell ⟨G, p, none⟩ (.int .i64 ((cnt (xs.take k) p : Int) + 1))) := by
  obtain ⟨h1, h2, h3⟩ := h
  exact ⟨h1.set h7 (cnt_step hx hp).1 (cnt_step hx hp).2, h2.off hR, h3.setCell (p := ⟨G, p, none⟩) hG _⟩

theorem set7 {B R : Nat} {w wr : World} (h : Below B w wr) (hR : B ≤ R) (v0 v1 v2 v3 v4 v5 v6 : Value) : Below B w (((((((wr.setCell ⟨R, 0, none⟩ v0).setCell ⟨R, 1, none⟩ v1).setCell ⟨R, 2, none⟩ v2).setCell ⟨R, 3, none⟩ v3).setCell ⟨R, 4, none⟩ v4).setCell ⟨R, 5, none⟩ v5).setCell ⟨R, 6, none⟩ v6) :=
  ((((((h.setCell (p := ⟨R, 0, none⟩) hR _).setCell (p := ⟨R, 1, none⟩) hR _).setCell (p := ⟨R, 2, none⟩) hR _).setCell (p := ⟨R, 3, none⟩) hR _).setCell (p := ⟨R, 4, none⟩) hR _).setCell (p := ⟨R, 5, none⟩) hR _).setCell (p := ⟨R, 6, none⟩) hR _
theorem counted_start (xs : List Int) (w : World) : Counted xs 0 w.heap.size (w.heap.size + 1) w ((w.alloc (.cells #[.int .i64 0, .int .i64 0, .int .i64 0, .int .i64 0, .int .i64 0, .int .i64 0, .int .i64 0] 56)).alloc (.cells #[.int .i64 0, .int .i64 0, .int .i64 0, .int .i64 0, .int .i64 0, .int .i64 0, .int .i64 0] 56)) := by
  have h1 : ∀ (W : World), Arr (W.alloc (.cells #[.int .i64 0, .int .i64 0, .int .i64 0, .int .i64 0, .int .i64 0, .int .i64 0, .int .i64 0] 56)) W.heap.size (fun _ => 0) := fun W => by
    show (W.heap.push _)[W.heap.size]? = _
    rw [Array.getElem?_push, if_pos rfl]
    rfl
  refine ⟨?_, ?_, ((Below.refl _ w).alloc (Nat.le_refl _) _).alloc (by simp) _⟩
  · have h2 := h1 (w.alloc (.cells #[.int .i64 0, .int .i64 0, .int .i64 0, .int .i64 0, .int .i64 0, .int .i64 0, .int .i64 0] 56))
    have e : (w.alloc (.cells #[.int .i64 0, .int .i64 0, .int .i64 0, .int .i64 0, .int .i64 0, .int .i64 0, .int .i64 0] 56)).heap.size = w.heap.size + 1 := by simp
    rw [e] at h2
    exact h2
  · unfold Arr
    rw [Below.heap_alloc _ _ _ (by simp)]
    exact h1 w
set_option maxRecDepth 100000 in
set_option maxHeartbeats 800000 in
theorem l2Counts_any (a : Option Addr) (cap : Nat) (xs : List Int) (w : World) (h : Hid (Ints w a xs)) (hl : Hid (Plain.Letters xs)) (hn : xs.length ≤ 1048576) :
    Calls Try.prog 110 #[.slice a xs.length cap] w fun e w' => e = .returned (.agg (cells7 (cnt xs))) ∧ Below w.heap.size w w' := by
  have H0 := Lib.hid (counted_start xs w)
  go_enter Try.func110, Try.ntmps110
  go_wp2
  go_loopw [4] (fun i wr => ∃ k : Nat, k ≤ xs.length ∧ i = .int .i64 k ∧ Counted xs k w.heap.size (w.heap.size + 1) w wr) (fun i _ => xs.length - (intOf i).toNat)
  case atStart => exact ⟨0, Nat.zero_le _, rfl, H0.out⟩
  case round =>
    obtain ⟨k, hk, rfl, hrel⟩ := hrel
    by_cases hlt : k < xs.length
    · obtain ⟨x, hx⟩ := at_some xs k hlt
      obtain ⟨b, o, rfl, hc⟩ := (h.out.on hrel.2.2) k x hx
      have HX := Lib.hid (hl.out.at hx).2
      have htl : (xs.take k).length ≤ 1048576 := by simp; omega
      rcases nail_six (hl.out.at hx) with hp | hp | hp | hp | hp | hp
      · have HN := Lib.hid (hrel.step (p := 1) hx hp (by decide) (by omega) (by omega))
        have hcl := cnt_le (xs.take k) 1
        obtain ⟨-, h1, h2, h3, h4, h5, h6, hfr⟩ := hrel.1.cells
        have hcc := h1
        have hf := hfr 1
        have HP := Lib.hid hp
        clear hrel h1 h2 h3 h4 h5 h6 hfr hp hx
        generalize cnt (xs.take k) 1 = c at HN hcl hcc ⊢
        go_wp2_with fail
        refine (l2Nail_any x _ HX.out).mono ?_
        rw [HP.out]
        rintro e w' ⟨rfl, rfl⟩
        go_wp2
        go_roundw
        case rel => exact ⟨k + 1, by omega, by go_num, HN.out⟩
        case measure => simp [intOf]; omega
      · have HN := Lib.hid (hrel.step (p := 2) hx hp (by decide) (by omega) (by omega))
        have hcl := cnt_le (xs.take k) 2
        obtain ⟨-, h1, h2, h3, h4, h5, h6, hfr⟩ := hrel.1.cells
        have hcc := h2
        have hf := hfr 2
        have HP := Lib.hid hp
        clear hrel h1 h2 h3 h4 h5 h6 hfr hp hx
        generalize cnt (xs.take k) 2 = c at HN hcl hcc ⊢
        go_wp2_with fail
        refine (l2Nail_any x _ HX.out).mono ?_
        rw [HP.out]
        rintro e w' ⟨rfl, rfl⟩
        go_wp2
        go_roundw
        case rel => exact ⟨k + 1, by omega, by go_num, HN.out⟩
        case measure => simp [intOf]; omega
      · have HN := Lib.hid (hrel.step (p := 3) hx hp (by decide) (by omega) (by omega))
        have hcl := cnt_le (xs.take k) 3
        obtain ⟨-, h1, h2, h3, h4, h5, h6, hfr⟩ := hrel.1.cells
        have hcc := h3
        have hf := hfr 3
        have HP := Lib.hid hp
        clear hrel h1 h2 h3 h4 h5 h6 hfr hp hx
        generalize cnt (xs.take k) 3 = c at HN hcl hcc ⊢
        go_wp2_with fail
        refine (l2Nail_any x _ HX.out).mono ?_
        rw [HP.out]
        rintro e w' ⟨rfl, rfl⟩
        go_wp2
        go_roundw
        case rel => exact ⟨k + 1, by omega, by go_num, HN.out⟩
        case measure => simp [intOf]; omega
      · have HN := Lib.hid (hrel.step (p := 4) hx hp (by decide) (by omega) (by omega))
        have hcl := cnt_le (xs.take k) 4
        obtain ⟨-, h1, h2, h3, h4, h5, h6, hfr⟩ := hrel.1.cells
        have hcc := h4
        have hf := hfr 4
        have HP := Lib.hid hp
        clear hrel h1 h2 h3 h4 h5 h6 hfr hp hx
        generalize cnt (xs.take k) 4 = c at HN hcl hcc ⊢
        go_wp2_with fail
        refine (l2Nail_any x _ HX.out).mono ?_
        rw [HP.out]
        rintro e w' ⟨rfl, rfl⟩
        go_wp2
        go_roundw
        case rel => exact ⟨k + 1, by omega, by go_num, HN.out⟩
        case measure => simp [intOf]; omega
      · have HN := Lib.hid (hrel.step (p := 5) hx hp (by decide) (by omega) (by omega))
        have hcl := cnt_le (xs.take k) 5
        obtain ⟨-, h1, h2, h3, h4, h5, h6, hfr⟩ := hrel.1.cells
        have hcc := h5
        have hf := hfr 5
        have HP := Lib.hid hp
        clear hrel h1 h2 h3 h4 h5 h6 hfr hp hx
        generalize cnt (xs.take k) 5 = c at HN hcl hcc ⊢
        go_wp2_with fail
        refine (l2Nail_any x _ HX.out).mono ?_
        rw [HP.out]
        rintro e w' ⟨rfl, rfl⟩
        go_wp2
        go_roundw
        case rel => exact ⟨k + 1, by omega, by go_num, HN.out⟩
        case measure => simp [intOf]; omega
      · have HN := Lib.hid (hrel.step (p := 6) hx hp (by decide) (by omega) (by omega))
        have hcl := cnt_le (xs.take k) 6
        obtain ⟨-, h1, h2, h3, h4, h5, h6, hfr⟩ := hrel.1.cells
        have hcc := h6
        have hf := hfr 6
        have HP := Lib.hid hp
        clear hrel h1 h2 h3 h4 h5 h6 hfr hp hx
        generalize cnt (xs.take k) 6 = c at HN hcl hcc ⊢
        go_wp2_with fail
        refine (l2Nail_any x _ HX.out).mono ?_
        rw [HP.out]
        rintro e w' ⟨rfl, rfl⟩
        go_wp2
        go_roundw
        case rel => exact ⟨k + 1, by omega, by go_num, HN.out⟩
        case measure => simp [intOf]; omega
    · obtain rfl : k = xs.length := by omega
      unfold Counted at hrel
      rw [List.take_length] at hrel
      obtain ⟨g0, g1, g2, g3, g4, g5, g6, -⟩ := hrel.1.cells
      obtain ⟨r0, r1, r2, r3, r4, r5, r6, hfr⟩ := hrel.2.1.cells
      have f0 := hfr 0
      have f1 := hfr 1
      have f2 := hfr 2
      have f3 := hfr 3
      have f4 := hfr 4
      have f5 := hfr 5
      have f6 := hfr 6
      have HB := Lib.hid hrel.2.2
      clear hrel hfr
      go_wp2
      exact bodyPost_ret (v := .agg #[.int .i64 (cnt xs 0 : Nat), .int .i64 (cnt xs 1 : Nat), .int .i64 (cnt xs 2 : Nat), .int .i64 (cnt xs 3 : Nat), .int .i64 (cnt xs 4 : Nat), .int .i64 (cnt xs 5 : Nat), .int .i64 (cnt xs 6 : Nat)]) (by simp [results, Try.results110, go_sem, r0, r1, r2, r3, r4, r5, r6]) rfl ⟨rfl, set7 HB.out (Nat.le_refl _) _ _ _ _ _ _ _⟩
theorem arr_new (W : World) : Arr (W.alloc (.cells #[.int .i64 0, .int .i64 0, .int .i64 0, .int .i64 0, .int .i64 0, .int .i64 0, .int .i64 0] 56)) W.heap.size (fun _ => 0) := by
  show (W.heap.push _)[W.heap.size]? = _
  rw [Array.getElem?_push, if_pos rfl]
  rfl
theorem l2Counts_ex (a : Option Addr) (cap : Nat) (xs : List Int) (w : World) (h : Hid (Ints w a xs)) (hl : Hid (Plain.Letters xs)) (hn : xs.length ≤ 1048576) :
    Calls Try.prog 110 #[.slice a xs.length cap] w fun e w' => e = .returned (.agg #[.int .i64 (cnt xs 0 : Nat), .int .i64 (cnt xs 1 : Nat), .int .i64 (cnt xs 2 : Nat), .int .i64 (cnt xs 3 : Nat), .int .i64 (cnt xs 4 : Nat), .int .i64 (cnt xs 5 : Nat), .int .i64 (cnt xs 6 : Nat)]) ∧ Below w.heap.size w w' := l2Counts_any a cap xs w h hl hn
/-- What is counted: nothing for what is no word. -/
def cntOf (xs : List Int) (n : Nat) : Nat := if Plain.wordB xs = true then cnt xs n else 0
theorem cntOf_yes {xs : List Int} (h : Plain.wordB xs = true) : cnt xs = cntOf xs := by funext n; exact (if_pos h).symm
theorem cntOf_no {xs : List Int} (h : Plain.wordB xs = false) (n : Nat) : cntOf xs n = 0 := if_neg (by rw [h]; simp)
theorem cells_no {xs : List Int} (h : Plain.wordB xs = false) : cells7 (cntOf xs) = #[.int .i64 0, .int .i64 0, .int .i64 0, .int .i64 0, .int .i64 0, .int .i64 0, .int .i64 0] := by simp [cells7, cntOf_no h]
def CntPost (xs : List Int) (w : World) (e : Ending) (w' : World) : Prop := e = .returned (.tuple #[.agg (cells7 (cntOf xs)), .bool (Plain.wordB xs)]) ∧ Below w.heap.size w w'
theorem cnt_yes {xs : List Int} {w w' : World} (h : Plain.wordB xs = true) (hb : Below w.heap.size w w') : CntPost xs w (.returned (.tuple #[.agg #[.int .i64 (cnt xs 0 : Nat), .int .i64 (cnt xs 1 : Nat), .int .i64 (cnt xs 2 : Nat), .int .i64 (cnt xs 3 : Nat), .int .i64 (cnt xs 4 : Nat), .int .i64 (cnt xs 5 : Nat), .int .i64 (cnt xs 6 : Nat)], .bool true])) w' := ⟨by rw [← cntOf_yes h, h]; rfl, hb⟩
theorem cnt_no {xs : List Int} {w w' : World} (h : Plain.wordB xs = false) (hb : Below w.heap.size w w') : CntPost xs w (.returned (.tuple #[.agg #[.int .i64 0, .int .i64 0, .int .i64 0, .int .i64 0, .int .i64 0, .int .i64 0, .int .i64 0], .bool false])) w' := ⟨by rw [cells_no h, h], hb⟩

set_option maxRecDepth 100000 in
set_option maxHeartbeats 400000 in
theorem specCnt_any (a : Option Addr) (cap : Nat) (xs : List Int) (w : World) (h : Hid (Ints w a xs)) (h64 : Hid (In64 xs)) (hn : xs.length ≤ 9223372036854775807) :
    Calls Try.prog 56 #[.slice a xs.length cap] w (CntPost xs w) := by
  have HA := Lib.hid (arr_new w)
  have HB := Lib.hid ((Below.refl w.heap.size w).alloc (Nat.le_refl _) (.cells #[.int .i64 0, .int .i64 0, .int .i64 0, .int .i64 0, .int .i64 0, .int .i64 0, .int .i64 0] 56))
  have H1 := Lib.hid (h.out.on HB.out)
  cases hw : Plain.wordB xs with
  | true =>
    have m1 := (Plain.wordB_iff.1 hw).1
    have HL := Lib.hid (Plain.wordB_iff.1 hw).2
    have HW := Lib.hid hw
    clear hw
    go_enter Try.func56, Try.ntmps56
    go_wp2_with fail
    refine (l2Word_any _ _ xs _ H1 h64 hn).mono ?_
    rw [HW.out]
    rintro e w' ⟨rfl, rfl⟩
    go_wp2_with fail
    refine (l2Counts_ex _ _ xs _ H1 HL (by omega)).mono ?_
    rintro e w1 ⟨rfl, hb⟩
    have HR : Arr w1 w.heap.size (fun _ => 0) := (hb.block _ (by simp)).trans HA.out
    obtain ⟨r0, r1, r2, r3, r4, r5, r6, hfr⟩ := HR.cells
    have f0 := hfr 0
    have f1 := hfr 1
    have f2 := hfr 2
    have f3 := hfr 3
    have f4 := hfr 4
    have f5 := hfr 5
    have f6 := hfr 6
    have HB2 := Lib.hid (HB.out.trans (hb.mono HB.out.size))
    clear hb hfr HR
    go_wp2
    exact bodyPost_ret (v := .tuple #[.agg #[.int .i64 (cnt xs 0 : Nat), .int .i64 (cnt xs 1 : Nat), .int .i64 (cnt xs 2 : Nat), .int .i64 (cnt xs 3 : Nat), .int .i64 (cnt xs 4 : Nat), .int .i64 (cnt xs 5 : Nat), .int .i64 (cnt xs 6 : Nat)], .bool true]) (by simp [results, Try.results56, go_sem, r0, r1, r2, r3, r4, r5, r6]) rfl (cnt_yes HW.out (set7 HB2.out (Nat.le_refl _) _ _ _ _ _ _ _))
  | false =>
    have HW := Lib.hid hw
    clear hw
    go_enter Try.func56, Try.ntmps56
    go_wp2_with fail
    refine (l2Word_any _ _ xs _ H1 h64 hn).mono ?_
    rw [HW.out]
    rintro e w' ⟨rfl, rfl⟩
    go_wp2
    exact bodyPost_ret (v := .tuple #[.agg #[.int .i64 0, .int .i64 0, .int .i64 0, .int .i64 0, .int .i64 0, .int .i64 0, .int .i64 0], .bool false]) (by simp [results, Try.results56, go_sem]) rfl (cnt_no HW.out HB.out)

set_option maxRecDepth 100000 in
set_option maxHeartbeats 1000000 in
theorem implCnt_any (a : Option Addr) (cap : Nat) (xs : List Int) (w : World) (h : Hid (Ints w a xs)) (h64 : Hid (In64 xs)) (hn : xs.length ≤ 9223372036854775807) :
    Calls Try.prog 55 #[.slice a xs.length cap] w (CntPost xs w) := by
  have HB := Lib.hid ((Below.refl w.heap.size w).alloc (Nat.le_refl _) (.cells #[.int .i64 0, .int .i64 0, .int .i64 0, .int .i64 0, .int .i64 0, .int .i64 0, .int .i64 0] 56))
  have H1 := Lib.hid (h.out.on HB.out)
  have H0 := Lib.hid (counted_start xs w)
  cases hw : Plain.wordB xs with
  | true =>
    have m1 := (Plain.wordB_iff.1 hw).1
    have hl := Lib.hid (Plain.wordB_iff.1 hw).2
    have HW := Lib.hid hw
    clear hw
    go_enter Try.func55, Try.ntmps55
    go_wp2_with fail
    refine (isWord_any _ _ xs _ H1 h64 hn).mono ?_
    rw [HW.out]
    rintro e w' ⟨rfl, rfl⟩
    go_wp2
    go_loopw [14] (fun i wr => ∃ k : Nat, k ≤ xs.length ∧ i = .int .i64 k ∧ Counted xs k w.heap.size (w.heap.size + 1) w wr) (fun i _ => xs.length - (intOf i).toNat)
    case atStart => exact ⟨0, Nat.zero_le _, rfl, H0.out⟩
    case round =>
      obtain ⟨k, hk, rfl, hrel⟩ := hrel
      by_cases hlt : k < xs.length
      · obtain ⟨x, hx⟩ := at_some xs k hlt
        obtain ⟨b, o, rfl, hc⟩ := (h.out.on hrel.2.2) k x hx
        have HX := Lib.hid (hl.out.at hx).2
        have htl : (xs.take k).length ≤ 1048576 := by simp; omega
        rcases nail_six (hl.out.at hx) with hp | hp | hp | hp | hp | hp
        · have HN := Lib.hid (hrel.step (p := 1) hx hp (by decide) (by omega) (by omega))
          have hcl := cnt_le (xs.take k) 1
          obtain ⟨-, h1, h2, h3, h4, h5, h6, hfr⟩ := hrel.1.cells
          have hcc := h1
          have hf := hfr 1
          have HP := Lib.hid hp
          clear hrel h1 h2 h3 h4 h5 h6 hfr hp hx
          generalize cnt (xs.take k) 1 = c at HN hcl hcc ⊢
          go_wp2_with fail
          refine (nailOf_left x _ HX.out).mono ?_
          rw [HP.out]
          rintro e w' ⟨rfl, rfl⟩
          go_wp2
          go_roundw
          case rel => exact ⟨k + 1, by omega, by go_num, HN.out⟩
          case measure => simp [intOf]; omega
        · have HN := Lib.hid (hrel.step (p := 2) hx hp (by decide) (by omega) (by omega))
          have hcl := cnt_le (xs.take k) 2
          obtain ⟨-, h1, h2, h3, h4, h5, h6, hfr⟩ := hrel.1.cells
          have hcc := h2
          have hf := hfr 2
          have HP := Lib.hid hp
          clear hrel h1 h2 h3 h4 h5 h6 hfr hp hx
          generalize cnt (xs.take k) 2 = c at HN hcl hcc ⊢
          go_wp2_with fail
          refine (nailOf_left x _ HX.out).mono ?_
          rw [HP.out]
          rintro e w' ⟨rfl, rfl⟩
          go_wp2
          go_roundw
          case rel => exact ⟨k + 1, by omega, by go_num, HN.out⟩
          case measure => simp [intOf]; omega
        · have HN := Lib.hid (hrel.step (p := 3) hx hp (by decide) (by omega) (by omega))
          have hcl := cnt_le (xs.take k) 3
          obtain ⟨-, h1, h2, h3, h4, h5, h6, hfr⟩ := hrel.1.cells
          have hcc := h3
          have hf := hfr 3
          have HP := Lib.hid hp
          clear hrel h1 h2 h3 h4 h5 h6 hfr hp hx
          generalize cnt (xs.take k) 3 = c at HN hcl hcc ⊢
          go_wp2_with fail
          refine (nailOf_left x _ HX.out).mono ?_
          rw [HP.out]
          rintro e w' ⟨rfl, rfl⟩
          go_wp2
          go_roundw
          case rel => exact ⟨k + 1, by omega, by go_num, HN.out⟩
          case measure => simp [intOf]; omega
        · have HN := Lib.hid (hrel.step (p := 4) hx hp (by decide) (by omega) (by omega))
          have hcl := cnt_le (xs.take k) 4
          obtain ⟨-, h1, h2, h3, h4, h5, h6, hfr⟩ := hrel.1.cells
          have hcc := h4
          have hf := hfr 4
          have HP := Lib.hid hp
          clear hrel h1 h2 h3 h4 h5 h6 hfr hp hx
          generalize cnt (xs.take k) 4 = c at HN hcl hcc ⊢
          go_wp2_with fail
          refine (nailOf_left x _ HX.out).mono ?_
          rw [HP.out]
          rintro e w' ⟨rfl, rfl⟩
          go_wp2
          go_roundw
          case rel => exact ⟨k + 1, by omega, by go_num, HN.out⟩
          case measure => simp [intOf]; omega
        · have HN := Lib.hid (hrel.step (p := 5) hx hp (by decide) (by omega) (by omega))
          have hcl := cnt_le (xs.take k) 5
          obtain ⟨-, h1, h2, h3, h4, h5, h6, hfr⟩ := hrel.1.cells
          have hcc := h5
          have hf := hfr 5
          have HP := Lib.hid hp
          clear hrel h1 h2 h3 h4 h5 h6 hfr hp hx
          generalize cnt (xs.take k) 5 = c at HN hcl hcc ⊢
          go_wp2_with fail
          refine (nailOf_left x _ HX.out).mono ?_
          rw [HP.out]
          rintro e w' ⟨rfl, rfl⟩
          go_wp2
          go_roundw
          case rel => exact ⟨k + 1, by omega, by go_num, HN.out⟩
          case measure => simp [intOf]; omega
        · have HN := Lib.hid (hrel.step (p := 6) hx hp (by decide) (by omega) (by omega))
          have hcl := cnt_le (xs.take k) 6
          obtain ⟨-, h1, h2, h3, h4, h5, h6, hfr⟩ := hrel.1.cells
          have hcc := h6
          have hf := hfr 6
          have HP := Lib.hid hp
          clear hrel h1 h2 h3 h4 h5 h6 hfr hp hx
          generalize cnt (xs.take k) 6 = c at HN hcl hcc ⊢
          go_wp2_with fail
          refine (nailOf_left x _ HX.out).mono ?_
          rw [HP.out]
          rintro e w' ⟨rfl, rfl⟩
          go_wp2
          go_roundw
          case rel => exact ⟨k + 1, by omega, by go_num, HN.out⟩
          case measure => simp [intOf]; omega
      · obtain rfl : k = xs.length := by omega
        unfold Counted at hrel
        rw [List.take_length] at hrel
        obtain ⟨g0, g1, g2, g3, g4, g5, g6, -⟩ := hrel.1.cells
        obtain ⟨r0, r1, r2, r3, r4, r5, r6, hfr⟩ := hrel.2.1.cells
        have f0 := hfr 0
        have f1 := hfr 1
        have f2 := hfr 2
        have f3 := hfr 3
        have f4 := hfr 4
        have f5 := hfr 5
        have f6 := hfr 6
        have HB2 := Lib.hid hrel.2.2
        clear hrel hfr
        go_wp2
        exact bodyPost_ret (v := .tuple #[.agg #[.int .i64 (cnt xs 0 : Nat), .int .i64 (cnt xs 1 : Nat), .int .i64 (cnt xs 2 : Nat), .int .i64 (cnt xs 3 : Nat), .int .i64 (cnt xs 4 : Nat), .int .i64 (cnt xs 5 : Nat), .int .i64 (cnt xs 6 : Nat)], .bool true]) (by simp [results, Try.results55, go_sem, r0, r1, r2, r3, r4, r5, r6]) rfl (cnt_yes HW.out (set7 HB2.out (Nat.le_refl _) _ _ _ _ _ _ _))
  | false =>
    have HW := Lib.hid hw
    clear hw
    go_enter Try.func55, Try.ntmps55
    go_wp2_with fail
    refine (isWord_any _ _ xs _ H1 h64 hn).mono ?_
    rw [HW.out]
    rintro e w' ⟨rfl, rfl⟩
    go_wp2
    exact bodyPost_ret (v := .tuple #[.agg #[.int .i64 0, .int .i64 0, .int .i64 0, .int .i64 0, .int .i64 0, .int .i64 0, .int .i64 0], .bool false]) (by simp [results, Try.results55, go_sem]) rfl (cnt_no HW.out HB.out)

/-- A block holds these seven numbers. -/
def ArrV (w : World) (G : Nat) (c0 c1 c2 c3 c4 c5 c6 : Int) : Prop := w.heap[G]? = some (.cells #[.int .i64 c0, .int .i64 c1, .int .i64 c2, .int .i64 c3, .int .i64 c4, .int .i64 c5, .int .i64 c6] 56 (0, 0))
theorem arrV_new (W : World) (c0 c1 c2 c3 c4 c5 c6 : Int) : ArrV (W.alloc (.cells #[.int .i64 c0, .int .i64 c1, .int .i64 c2, .int .i64 c3, .int .i64 c4, .int .i64 c5, .int .i64 c6] 56)) W.heap.size c0 c1 c2 c3 c4 c5 c6 := by
  show (W.heap.push _)[W.heap.size]? = _
  rw [Array.getElem?_push, if_pos rfl]
theorem ArrV.on {w w' : World} {G : Nat} {c0 c1 c2 c3 c4 c5 c6 : Int} (h : ArrV w G c0 c1 c2 c3 c4 c5 c6) (hb : Below w.heap.size w w') : ArrV w' G c0 c1 c2 c3 c4 c5 c6 := (hb.block G (Array.getElem?_eq_some_iff.1 h).1).trans h
theorem ArrV.cells {w : World} {G : Nat} {c0 c1 c2 c3 c4 c5 c6 : Int} (h : ArrV w G c0 c1 c2 c3 c4 c5 c6) :
    w.cell? ⟨G, 0, none⟩ = some (.int .i64 c0) ∧ w.cell? ⟨G, 1, none⟩ = some (.int .i64 c1) ∧ w.cell? ⟨G, 2, none⟩ = some (.int .i64 c2) ∧ w.cell? ⟨G, 3, none⟩ = some (.int .i64 c3) ∧
    w.cell? ⟨G, 4, none⟩ = some (.int .i64 c4) ∧ w.cell? ⟨G, 5, none⟩ = some (.int .i64 c5) ∧ w.cell? ⟨G, 6, none⟩ = some (.int .i64 c6) := by
  unfold ArrV at h
  refine ⟨?_, ?_, ?_, ?_, ?_, ?_, ?_⟩ <;> simp [World.cell?, h]

theorem bothCountLetters (xs : List Int) (h64 : Hid (In64 xs)) (hn : xs.length ≤ 1048576) : ∃ (c0 c1 c2 c3 c4 c5 c6 : Int) (ok : Bool),
    (∀ a cap w, Hid (Ints w a xs) → Calls Try.prog 56 #[.slice a xs.length cap] w (Val (.tuple #[.agg #[.int .i64 c0, .int .i64 c1, .int .i64 c2, .int .i64 c3, .int .i64 c4, .int .i64 c5, .int .i64 c6], .bool ok]) w)) ∧
    (∀ a cap w, Hid (Ints w a xs) → Calls Try.prog 55 #[.slice a xs.length cap] w (Val (.tuple #[.agg #[.int .i64 c0, .int .i64 c1, .int .i64 c2, .int .i64 c3, .int .i64 c4, .int .i64 c5, .int .i64 c6], .bool ok]) w)) :=
  ⟨_, _, _, _, _, _, _, _, fun a cap w h => specCnt_any a cap xs w h h64 (by omega), fun a cap w h => implCnt_any a cap xs w h h64 (by omega)⟩
end Go.Proofs.Yteidddagpnfalaa
