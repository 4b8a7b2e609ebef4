/- Contracts: BoxOf of both programs. Condition: texts that fit. -/
import Derived.Test.YtpaijobmoddgpaaPathRead
import Derived.WalkLawsBesides
namespace Go.Proofs.Ytpaijobmoddgpaa
open Go.ChangeShapes Go.WideShapes Go.ChangeAt Go.RowKit
set_option linter.unusedVariables false
set_option linter.unusedSimpArgs false

theorem least10_any (x y : Int) (w : World) (hx : -100 ≤ x ∧ x ≤ 100) (hy : -100 ≤ y ∧ y ≤ 100) : Calls Try.prog 77 #[.int .i64 x, .int .i64 y] w fun e w' => e = .returned (.int .i64 (min x y)) ∧ w = w' := by
  by_cases h : y ≤ x
  · have HM : Hid (min x y = y) := Lib.hid (by omega)
    rw [HM.out]
    go_enter Try.func77, Try.ntmps77
    go_wp2_with fail
    all_goals
      go_ret
      exact ⟨ret_int (by omega), rfl⟩
  · have HM : Hid (min x y = x) := Lib.hid (by omega)
    rw [HM.out]
    go_enter Try.func77, Try.ntmps77
    go_wp2_with fail
    all_goals
      go_ret
      exact ⟨ret_int (by omega), rfl⟩
theorem most10_any (x y : Int) (w : World) (hx : -100 ≤ x ∧ x ≤ 100) (hy : -100 ≤ y ∧ y ≤ 100) : Calls Try.prog 78 #[.int .i64 x, .int .i64 y] w fun e w' => e = .returned (.int .i64 (max x y)) ∧ w = w' := by
  by_cases h : x ≤ y
  · have HM : Hid (max x y = y) := Lib.hid (by omega)
    rw [HM.out]
    go_enter Try.func78, Try.ntmps78
    go_wp2_with fail
    all_goals
      go_ret
      exact ⟨ret_int (by omega), rfl⟩
  · have HM : Hid (max x y = x) := Lib.hid (by omega)
    rw [HM.out]
    go_enter Try.func78, Try.ntmps78
    go_wp2_with fail
    all_goals
      go_ret
      exact ⟨ret_int (by omega), rfl⟩
/-- A block that is a box. -/
def BoxAt (w : World) (G : Nat) (a b c d : Int) : Prop := w.heap[G]? = some (.cells #[.int .i64 a, .int .i64 b, .int .i64 c, .int .i64 d] 44 (0, 0))
theorem boxAt_new (w : World) (a b c d : Int) : BoxAt (w.alloc (.cells #[.int .i64 a, .int .i64 b, .int .i64 c, .int .i64 d] 44)) w.heap.size a b c d := heap_alloc_new w _
theorem BoxAt.on {w w' : World} {G : Nat} {a b c d : Int} (h : BoxAt w G a b c d) (hb : Below w.heap.size w w') : BoxAt w' G a b c d := (hb.block G (Array.getElem?_eq_some_iff.1 h).1).trans h
theorem BoxAt.lt {w : World} {G : Nat} {a b c d : Int} (h : BoxAt w G a b c d) : G < w.heap.size := (Array.getElem?_eq_some_iff.1 h).1
theorem BoxAt.cells {w : World} {G : Nat} {a b c d : Int} (h : BoxAt w G a b c d) :
    w.cell? ⟨G, 0, none⟩ = some (.int .i64 a) ∧ w.cell? ⟨G, 1, none⟩ = some (.int .i64 b) ∧ w.cell? ⟨G, 2, none⟩ = some (.int .i64 c) ∧ w.cell? ⟨G, 3, none⟩ = some (.int .i64 d) ∧ ∀ j, w.frozen? ⟨G, j, none⟩ = false := by
  unfold BoxAt at h
  refine ⟨?_, ?_, ?_, ?_, fun j => ?_⟩
  · simp [World.cell?, h]
  · simp [World.cell?, h]
  · simp [World.cell?, h]
  · simp [World.cell?, h]
  · simp [World.frozen?, h]
theorem BoxAt.set0 {w : World} {G : Nat} {a b c d : Int} (h : BoxAt w G a b c d) (x : Int) : BoxAt (w.setCell ⟨G, 0, none⟩ (.int .i64 x)) G x b c d := by
  have h1 := heap_setCell_same w G 0 _ _ (.int .i64 x) h
  unfold BoxAt; rw [h1]; simp
theorem BoxAt.set1 {w : World} {G : Nat} {a b c d : Int} (h : BoxAt w G a b c d) (x : Int) : BoxAt (w.setCell ⟨G, 1, none⟩ (.int .i64 x)) G a x c d := by
  have h1 := heap_setCell_same w G 1 _ _ (.int .i64 x) h
  unfold BoxAt; rw [h1]; simp
theorem BoxAt.set2 {w : World} {G : Nat} {a b c d : Int} (h : BoxAt w G a b c d) (x : Int) : BoxAt (w.setCell ⟨G, 2, none⟩ (.int .i64 x)) G a b x d := by
  have h1 := heap_setCell_same w G 2 _ _ (.int .i64 x) h
  unfold BoxAt; rw [h1]; simp
theorem BoxAt.set3 {w : World} {G : Nat} {a b c d : Int} (h : BoxAt w G a b c d) (x : Int) : BoxAt (w.setCell ⟨G, 3, none⟩ (.int .i64 x)) G a b c x := by
  have h1 := heap_setCell_same w G 3 _ _ (.int .i64 x) h
  unfold BoxAt; rw [h1]; simp
namespace Plain
def boxS (b : Int × Int × Int × Int) (p : Pt) : Int × Int × Int × Int := (min b.1 p.1, max b.2.1 p.1, min b.2.2.1 p.2, max b.2.2.2 p.2)
def boxTo (l : List UInt8) : Nat → Int × Int × Int × Int
  | 0 => (0, 0, 0, 0)
  | k + 1 => boxS (boxTo l k) (atP l k)
def BoxBd (b : Int × Int × Int × Int) : Prop := (-12 ≤ b.1 ∧ b.1 ≤ 12) ∧ (-12 ≤ b.2.1 ∧ b.2.1 ≤ 12) ∧ (-12 ≤ b.2.2.1 ∧ b.2.2.1 ≤ 12) ∧ (-12 ≤ b.2.2.2 ∧ b.2.2.2 ≤ 12)
theorem boxTo_bd {l : List UInt8} {m : Nat} (h : okTo l m = true) : ∀ k, k ≤ m + 1 → BoxBd (boxTo l k)
  | 0, _ => by simp [boxTo, BoxBd]
  | k + 1, hk => by
    obtain ⟨h1, h2, h3, h4⟩ := boxTo_bd h k (by omega)
    have hp := at_bd h (show k ≤ m by omega)
    unfold boxTo boxS BoxBd
    simp only []
    omega
end Plain
def boxV (l : List UInt8) : Int × Int × Int × Int := if Plain.pathB l = true then Plain.boxTo l (l.length + 1) else (0, 0, 0, 0)
/-- A box and a report. -/
def BoxPost (l : List UInt8) (w : World) (e : Ending) (w' : World) : Prop := e = .returned (.tuple #[.agg #[.int .i64 (boxV l).1, .int .i64 (boxV l).2.1, .int .i64 (boxV l).2.2.1, .int .i64 (boxV l).2.2.2], .bool (Plain.pathB l)]) ∧ Below w.heap.size w w'
theorem box_no {l : List UInt8} (h : Plain.pathB l = false) : (Ending.returned (.tuple #[.agg #[.int .i64 0, .int .i64 0, .int .i64 0, .int .i64 0], .bool false])) = Ending.returned (.tuple #[.agg #[.int .i64 (boxV l).1, .int .i64 (boxV l).2.1, .int .i64 (boxV l).2.2.1, .int .i64 (boxV l).2.2.2], .bool (Plain.pathB l)]) := by
  unfold boxV; rw [h]; rfl
theorem box_yes {l : List UInt8} {n : Nat} {a b c d : Int} (h : Plain.pathB l = true) (hn : n = l.length) (hB : Plain.boxTo l (n + 1) = (a, b, c, d)) : (Ending.returned (.tuple #[.agg #[.int .i64 a, .int .i64 b, .int .i64 c, .int .i64 d], .bool true])) = Ending.returned (.tuple #[.agg #[.int .i64 (boxV l).1, .int .i64 (boxV l).2.1, .int .i64 (boxV l).2.2.1, .int .i64 (boxV l).2.2.2], .bool (Plain.pathB l)]) := by
  unfold boxV; rw [h, if_pos rfl, ← hn, hB]
set_option maxRecDepth 100000 in
set_option maxHeartbeats 6400000 in
theorem specBoxOf_any (s : ByteArray) (l : List UInt8) (hl0 : Hid (l = s.data.toList)) (w : World) (hs : s.size ≤ 9223372036854775807) : Calls Try.prog 44 #[.string s] w (BoxPost l w) := by
  have HR0 := Lib.hid (boxAt_new w 0 0 0 0)
  have HB0 := Lib.hid ((Below.refl w.heap.size w).alloc (Nat.le_refl _) (.cells #[.int .i64 0, .int .i64 0, .int .i64 0, .int .i64 0] 44))
  cases hp : Plain.pathB l with
  | false =>
    have HE := Lib.hid (box_no hp)
    have HP := Lib.hid hp
    clear hp
    go_enter Try.func44, Try.ntmps44
    go_wp2_with fail
    refine (l10Points_any s l hl0 _ hs).mono ?_
    rintro e w1 ⟨v, L, rfl, hr, hL, hb⟩
    rw [HP.out]
    have HR1 := Lib.hid (HR0.out.on hb)
    have HB1 := Lib.hid (HB0.out.trans (hb.mono HB0.out.size))
    obtain ⟨c0, c1, c2, c3, cf⟩ := HR1.out.cells
    have f0 := cf 0
    have f1 := cf 1
    have f2 := cf 2
    have f3 := cf 3
    clear hr hL hb cf
    go_wp2_with fail
    obtain ⟨k0, k1, k2, k3, -⟩ := ((((HR1.out.set0 0).set1 0).set2 0).set3 0).cells
    refine bodyPost_ret (v := .tuple #[.agg #[.int .i64 0, .int .i64 0, .int .i64 0, .int .i64 0], .bool false]) (by simp [results, Try.results44, go_sem, k0, k1, k2, k3]) rfl ⟨HE.out, (((HB1.out.setCell (Nat.le_refl _) _).setCell (Nat.le_refl _) _).setCell (Nat.le_refl _) _).setCell (Nat.le_refl _) _⟩
  | true =>
    have HP := Lib.hid hp
    obtain ⟨n, hn⟩ : ∃ n, n = l.length := ⟨_, rfl⟩
    have hn4 : n ≤ 400 := by rw [hn]; exact (Plain.path_ok hp).1
    have HN := Lib.hid hn
    clear hp hn
    go_enter Try.func44, Try.ntmps44
    go_wp2_with fail
    refine (l10Points_any s l hl0 _ hs).mono ?_
    rintro e w1 ⟨v, L, rfl, hr, hL, hb⟩
    obtain rfl := hL HP.out
    rw [HP.out]
    have HR1 := Lib.hid (HR0.out.on hb)
    have HB1 := Lib.hid (HB0.out.trans (hb.mono HB0.out.size))
    obtain ⟨a, cap, rfl, hpts, hne, hcap, hcapm⟩ := hr.form
    have hLn := Plain.pts_length l
    obtain ⟨g, rfl, hg1, hg2, hg3⟩ := hne (by intro e; rw [e] at hLn; cases hLn)
    rw [← HN.out] at hLn
    rw [hLn] at hcap ⊢
    have h := Lib.hid hpts
    have HS := Lib.hid (boxAt_new w1 0 0 0 0)
    have HBS := Lib.hid ((Below.refl w1.heap.size w1).alloc (Nat.le_refl _) (.cells #[.int .i64 0, .int .i64 0, .int .i64 0, .int .i64 0] 44))
    clear hr hL hb hpts hne hg1 hg2 hg3 hLn
    go_wp2_with fail
    go_loopw [7] (fun i wr => ∃ k : Nat, k ≤ n + 1 ∧ i = .int .i64 k ∧ ∃ a b c d, Plain.boxTo l k = (a, b, c, d) ∧ BoxAt wr w1.heap.size a b c d ∧ Below w1.heap.size w1 wr) (fun i _ => n + 1 - (intOf i).toNat)
    case atStart => exact ⟨0, Nat.zero_le _, rfl, 0, 0, 0, 0, rfl, HS.out, HBS.out⟩
    case round =>
      obtain ⟨k, hk, rfl, a, b, c, d, hB, hrel, hbw⟩ := hrel
      have HBX := Lib.hid hrel
      have HBW := Lib.hid hbw
      have HBB := Lib.hid hB
      clear hrel hbw hB
      by_cases hlt : k < n + 1
      · have hbd := Plain.boxTo_bd (Plain.path_ok HP.out).2 k (by rw [← HN.out]; omega)
        rw [HBB.out] at hbd
        obtain ⟨⟨a1, a2⟩, ⟨b1, b2⟩, ⟨d1, d2⟩, e1, e2⟩ := hbd
        simp only [] at a1 a2 b1 b2 d1 d2 e1 e2
        have hc := h.out.cells (Plain.pts_get (show k ≤ l.length by rw [← HN.out]; omega))
        rw [Nat.zero_add] at hc
        have hpb := Plain.at_bd (Plain.path_ok HP.out).2 (show k ≤ l.length by rw [← HN.out]; omega)
        obtain ⟨px, py, hP⟩ : ∃ px py, Plain.atP l k = (px, py) := ⟨_, _, rfl⟩
        have HNX : Hid (Plain.boxTo l (k + 1) = (min a px, max b px, min c py, max d py)) := Lib.hid (by unfold Plain.boxTo; rw [HBB.out, hP]; rfl)
        rw [hP] at hc hpb
        obtain ⟨p1, p2, p3, p4⟩ := hpb
        simp only [] at hc p1 p2 p3 p4
        have HPC := Lib.hid hc
        clear hc hP
        have hi : (k : Int) < (n : Int) + 1 := by omega
        have hi0 : (0 : Int) ≤ (k : Int) := by omega
        have HL8 : Hid (∀ W, Calls Try.prog 77 #[.int .i64 a, .int .i64 px] W fun e w' => e = .returned (.int .i64 (min a px)) ∧ W = w') := Lib.hid (fun W => least10_any a px W (by omega) (by omega))
        go_upto_region 8 with fail
        go_cut [] from 23 to 31 (fun wx => BoxAt wx w1.heap.size (min a px) b c d ∧ Below w1.heap.size w1 wx)
        case first =>
          obtain ⟨q0, q1, q2, q3, qf⟩ := HBX.out.cells
          have z0 : wr.drew.cell? _ = _ := q0
          have zf : wr.drew.frozen? _ = _ := qf 0
          have y0 : wr.drew.cell? _ = _ := cell_later HBW.out.drew HPC.out.1
          clear q0 q1 q2 q3 qf
          go_region_law (go_simp; first
            | (go_at_call 77; refine (HL8.out _).mono ?_; rintro e w' ⟨rfl, rfl⟩))
          all_goals
            go_wp2_with fail
            go_meet
            case rel => exact ⟨HBX.out.set0 _, HBW.out.drew.setCell (Nat.le_refl _) _⟩
        case rest =>
        obtain ⟨hx8, hb8⟩ := hcut
        have HX8 := Lib.hid hx8
        have HW8 := Lib.hid hb8
        clear hx8 hb8
        generalize wc = V8 at HX8 HW8 ⊢
        have HL9 : Hid (∀ W, Calls Try.prog 78 #[.int .i64 b, .int .i64 px] W fun e w' => e = .returned (.int .i64 (max b px)) ∧ W = w') := Lib.hid (fun W => most10_any b px W (by omega) (by omega))
        go_upto_region 9 with fail
        go_cut [] from 32 to 40 (fun wx => BoxAt wx w1.heap.size (min a px) (max b px) c d ∧ Below w1.heap.size w1 wx)
        case first =>
          obtain ⟨q0, q1, q2, q3, qf⟩ := HX8.out.cells
          have z1 : V8.drew.cell? _ = _ := q1
          have zf : V8.drew.frozen? _ = _ := qf 1
          have y1 : V8.drew.cell? _ = _ := cell_later HW8.out.drew HPC.out.1
          clear q0 q1 q2 q3 qf
          go_region_law (go_simp; first
            | (go_at_call 78; refine (HL9.out _).mono ?_; rintro e w' ⟨rfl, rfl⟩))
          all_goals
            go_wp2_with fail
            go_meet
            case rel => exact ⟨HX8.out.set1 _, HW8.out.drew.setCell (Nat.le_refl _) _⟩
        case rest =>
        obtain ⟨hx9, hb9⟩ := hcut
        have HX9 := Lib.hid hx9
        have HW9 := Lib.hid hb9
        clear hx9 hb9
        generalize wc = V9 at HX9 HW9 ⊢
        have HL10 : Hid (∀ W, Calls Try.prog 77 #[.int .i64 c, .int .i64 py] W fun e w' => e = .returned (.int .i64 (min c py)) ∧ W = w') := Lib.hid (fun W => least10_any c py W (by omega) (by omega))
        go_upto_region 10 with fail
        go_cut [] from 41 to 49 (fun wx => BoxAt wx w1.heap.size (min a px) (max b px) (min c py) d ∧ Below w1.heap.size w1 wx)
        case first =>
          obtain ⟨q0, q1, q2, q3, qf⟩ := HX9.out.cells
          have z2 : V9.drew.cell? _ = _ := q2
          have zf : V9.drew.frozen? _ = _ := qf 2
          have y2 : V9.drew.cell? _ = _ := cell_later HW9.out.drew HPC.out.2
          clear q0 q1 q2 q3 qf
          go_region_law (go_simp; first
            | (go_at_call 77; refine (HL10.out _).mono ?_; rintro e w' ⟨rfl, rfl⟩))
          all_goals
            go_wp2_with fail
            go_meet
            case rel => exact ⟨HX9.out.set2 _, HW9.out.drew.setCell (Nat.le_refl _) _⟩
        case rest =>
        obtain ⟨hx10, hb10⟩ := hcut
        have HX10 := Lib.hid hx10
        have HW10 := Lib.hid hb10
        clear hx10 hb10
        generalize wc = V10 at HX10 HW10 ⊢
        have HL11 : Hid (∀ W, Calls Try.prog 78 #[.int .i64 d, .int .i64 py] W fun e w' => e = .returned (.int .i64 (max d py)) ∧ W = w') := Lib.hid (fun W => most10_any d py W (by omega) (by omega))
        go_upto_region 11 with fail
        obtain ⟨q0, q1, q2, q3, qf⟩ := HX10.out.cells
        have z3 : V10.drew.cell? _ = _ := q3
        have zf : V10.drew.frozen? _ = _ := qf 3
        have y3 : V10.drew.cell? _ = _ := cell_later HW10.out.drew HPC.out.2
        clear q0 q1 q2 q3 qf
        go_region_law (go_simp; first
          | (go_at_call 78; refine (HL11.out _).mono ?_; rintro e w' ⟨rfl, rfl⟩))
        all_goals
          go_wp2_with fail
          go_roundw
          case rel => exact ⟨k + 1, by omega, by go_num, _, _, _, _, HNX.out, HX10.out.set3 _, HW10.out.drew.setCell (Nat.le_refl _) _⟩
          case measure => simp [intOf]; omega
      · obtain rfl : k = n + 1 := by omega
        have HE := Lib.hid (box_yes HP.out HN.out HBB.out)
        have HR2 : Hid (BoxAt wr w.heap.size 0 0 0 0) := Lib.hid (HR1.out.on HBW.out)
        have HB2 := Lib.hid (HB1.out.trans (HBW.out.mono HB1.out.size))
        obtain ⟨q0, q1, q2, q3, -⟩ := HBX.out.cells
        obtain ⟨c0, c1, c2, c3, cf⟩ := HR2.out.cells
        have f0 := cf 0
        have f1 := cf 1
        have f2 := cf 2
        have f3 := cf 3
        clear cf hlt
        go_wp2_with fail
        obtain ⟨k0, k1, k2, k3, -⟩ := ((((HR2.out.set0 a).set1 b).set2 c).set3 d).cells
        refine bodyPost_ret (v := .tuple #[.agg #[.int .i64 a, .int .i64 b, .int .i64 c, .int .i64 d], .bool true]) (by simp [results, Try.results44, go_sem, k0, k1, k2, k3]) rfl ⟨HE.out, (((HB2.out.setCell (Nat.le_refl _) _).setCell (Nat.le_refl _) _).setCell (Nat.le_refl _) _).setCell (Nat.le_refl _) _⟩
set_option maxRecDepth 100000 in
set_option maxHeartbeats 6400000 in
theorem implBoxOf_any (s : ByteArray) (l : List UInt8) (hl0 : Hid (l = s.data.toList)) (w : World) (hs : s.size ≤ 9223372036854775807) : Calls Try.prog 45 #[.string s] w (BoxPost l w) := by
  have HR0 := Lib.hid (boxAt_new w 0 0 0 0)
  have HB0 := Lib.hid ((Below.refl w.heap.size w).alloc (Nat.le_refl _) (.cells #[.int .i64 0, .int .i64 0, .int .i64 0, .int .i64 0] 44))
  cases hp : Plain.pathB l with
  | false =>
    have HE := Lib.hid (box_no hp)
    have HP := Lib.hid hp
    clear hp
    go_enter Try.func45, Try.ntmps45
    go_wp2_with fail
    refine (trailOf_any s l hl0 _ hs).mono ?_
    rintro e w1 ⟨v, rfl, hr, hb⟩
    obtain ⟨a, cap, rfl⟩ := trail_none hr HP.out
    rw [HP.out]
    have HR1 := Lib.hid (HR0.out.on hb)
    have HB1 := Lib.hid (HB0.out.trans (hb.mono HB0.out.size))
    have HR2 := Lib.hid (HR1.out.on ((Below.refl w1.heap.size w1).alloc (Nat.le_refl _) (.cells #[.int .i64 0, .int .i64 0, .int .i64 0, .int .i64 0] 44)))
    obtain ⟨c0, c1, c2, c3, cf⟩ := HR2.out.cells
    have f0 := cf 0
    have f1 := cf 1
    have f2 := cf 2
    have f3 := cf 3
    have HLT := Lib.hid HR1.out.lt
    clear hr hb cf
    go_wp2_with fail
    refine wp_loop_rounds 1 ?_
    rw [rounds_succ]
    go_wp2_with fail
    obtain ⟨k0, k1, k2, k3, -⟩ := ((((HR2.out.set0 0).set1 0).set2 0).set3 0).cells
    refine bodyPost_ret (v := .tuple #[.agg #[.int .i64 0, .int .i64 0, .int .i64 0, .int .i64 0], .bool false]) (by simp [results, Try.results45, go_sem, k0, k1, k2, k3]) rfl ⟨HE.out, ((((HB1.out.alloc HB1.out.size _).setCell (Nat.le_refl _) _).setCell (Nat.le_refl _) _).setCell (Nat.le_refl _) _).setCell (Nat.le_refl _) _⟩
  | true =>
    have HP := Lib.hid hp
    obtain ⟨n, hn⟩ : ∃ n, n = l.length := ⟨_, rfl⟩
    have hn4 : n ≤ 400 := by rw [hn]; exact (Plain.path_ok hp).1
    have HN := Lib.hid hn
    clear hp hn
    go_enter Try.func45, Try.ntmps45
    go_wp2_with fail
    refine (trailOf_any s l hl0 _ hs).mono ?_
    rintro e w1 ⟨v, rfl, hr, hb⟩
    obtain ⟨g, cap, rfl, hg1, hg2, hpts, hcap, hcapm⟩ := trail_pts hr HP.out
    rw [HP.out]
    rw [← HN.out]
    have HR1 := Lib.hid (HR0.out.on hb)
    have HB1 := Lib.hid (HB0.out.trans (hb.mono HB0.out.size))
    have h := Lib.hid hpts
    have HS := Lib.hid (boxAt_new w1 0 0 0 0)
    have HBS := Lib.hid ((Below.refl w1.heap.size w1).alloc (Nat.le_refl _) (.cells #[.int .i64 0, .int .i64 0, .int .i64 0, .int .i64 0] 44))
    clear hr hb hpts hg1 hg2 hcap hcapm
    go_wp2_with fail
    go_loopw [17] (fun i wr => ∃ k : Nat, k ≤ n + 1 ∧ i = .int .i64 k ∧ ∃ a b c d, Plain.boxTo l k = (a, b, c, d) ∧ BoxAt wr w1.heap.size a b c d ∧ Below w1.heap.size w1 wr) (fun i _ => n + 1 - (intOf i).toNat)
    case atStart => exact ⟨0, Nat.zero_le _, rfl, 0, 0, 0, 0, rfl, HS.out, HBS.out⟩
    case round =>
      obtain ⟨k, hk, rfl, a, b, c, d, hB, hrel, hbw⟩ := hrel
      have HBX := Lib.hid hrel
      have HBW := Lib.hid hbw
      have HBB := Lib.hid hB
      clear hrel hbw hB
      by_cases hlt : k < n + 1
      · have hbd := Plain.boxTo_bd (Plain.path_ok HP.out).2 k (by rw [← HN.out]; omega)
        rw [HBB.out] at hbd
        obtain ⟨⟨a1, a2⟩, ⟨b1, b2⟩, ⟨d1, d2⟩, e1, e2⟩ := hbd
        simp only [] at a1 a2 b1 b2 d1 d2 e1 e2
        have hc := h.out.cells (Plain.pts_get (show k ≤ l.length by rw [← HN.out]; omega))
        rw [Nat.zero_add] at hc
        have hpb := Plain.at_bd (Plain.path_ok HP.out).2 (show k ≤ l.length by rw [← HN.out]; omega)
        obtain ⟨px, py, hP⟩ : ∃ px py, Plain.atP l k = (px, py) := ⟨_, _, rfl⟩
        have HNX : Hid (Plain.boxTo l (k + 1) = (min a px, max b px, min c py, max d py)) := Lib.hid (by unfold Plain.boxTo; rw [HBB.out, hP]; rfl)
        rw [hP] at hc hpb
        obtain ⟨p1, p2, p3, p4⟩ := hpb
        simp only [] at hc p1 p2 p3 p4
        have y1 := cell_later HBW.out hc.1
        have y2 := cell_later HBW.out hc.2
        obtain ⟨q0, q1, q2, q3, qf⟩ := HBX.out.cells
        have f0 := qf 0
        have f1 := qf 1
        have f2 := qf 2
        have f3 := qf 3
        have hlw := HBX.out.lt
        have HBX2 := Lib.hid (HBX.out.on ((Below.refl wr.heap.size wr).alloc (Nat.le_refl _) (.cells #[.int .i64 px, .int .i64 py] 63)))
        clear hc hP qf
        go_wp2_with fail
        go_roundw
        case rel =>
          refine ⟨k + 1, by omega, by go_num, _, _, _, _, ?_, ((((HBX.out.set0 _).set1 _).set2 _).set3 _).on ((Below.refl _ _).alloc (Nat.le_refl _) _), ((((HBW.out.setCell (Nat.le_refl _) _).setCell (Nat.le_refl _) _).setCell (Nat.le_refl _) _).setCell (Nat.le_refl _) _).alloc (by simpa using HBW.out.size) _⟩
          rw [HNX.out]
          simp only [Prod.mk.injEq]
          refine ⟨?_, ?_, ?_, ?_⟩ <;> split <;> omega
        case measure => simp [intOf]; omega
      · obtain rfl : k = n + 1 := by omega
        have HE := Lib.hid (box_yes HP.out HN.out HBB.out)
        have HR2 : Hid (BoxAt wr w.heap.size 0 0 0 0) := Lib.hid (HR1.out.on HBW.out)
        have HB2 := Lib.hid (HB1.out.trans (HBW.out.mono HB1.out.size))
        obtain ⟨q0, q1, q2, q3, -⟩ := HBX.out.cells
        obtain ⟨c0, c1, c2, c3, cf⟩ := HR2.out.cells
        have f0 := cf 0
        have f1 := cf 1
        have f2 := cf 2
        have f3 := cf 3
        clear cf hlt
        go_wp2_with fail
        obtain ⟨k0, k1, k2, k3, -⟩ := ((((HR2.out.set0 a).set1 b).set2 c).set3 d).cells
        refine bodyPost_ret (v := .tuple #[.agg #[.int .i64 a, .int .i64 b, .int .i64 c, .int .i64 d], .bool true]) (by simp [results, Try.results45, go_sem, k0, k1, k2, k3]) rfl ⟨HE.out, (((HB2.out.setCell (Nat.le_refl _) _).setCell (Nat.le_refl _) _).setCell (Nat.le_refl _) _).setCell (Nat.le_refl _) _⟩
end Go.Proofs.Ytpaijobmoddgpaa
