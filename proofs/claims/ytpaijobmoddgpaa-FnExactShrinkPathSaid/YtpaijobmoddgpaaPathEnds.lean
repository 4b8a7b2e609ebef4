/- Contracts: IsPath, EndOf, IsClosed, JoinPaths of both programs; spec's l10Closed, impl's trail.end. Condition: texts that fit. -/
import Derived.Test.YtpaijobmoddgpaaTrailOf
namespace Go.Proofs.Ytpaijobmoddgpaa
open Go.ChangeShapes Go.WideShapes Go.ChangeAt Go.RowKit
set_option linter.unusedVariables false
set_option linter.unusedSimpArgs false

theorem specIsPath_any (s : ByteArray) (l : List UInt8) (hl0 : Hid (l = s.data.toList)) (w : World) (hs : s.size ≤ 9223372036854775807) : Calls Try.prog 17 #[.string s] w (Val (.bool (Plain.pathB l)) w) := by
  go_enter Try.func17, Try.ntmps17
  go_wp2_with fail
  refine (l10Points_any s l hl0 _ hs).mono ?_
  rintro e w1 ⟨v, L, rfl, hr, hL, hb⟩
  have HB := Lib.hid hb
  clear hr hL hb
  go_wp2_with fail
  go_ret
  exact ⟨rfl, HB.out⟩
theorem implIsPath_any (s : ByteArray) (l : List UInt8) (hl0 : Hid (l = s.data.toList)) (w : World) (hs : s.size ≤ 9223372036854775807) : Calls Try.prog 18 #[.string s] w (Val (.bool (Plain.pathB l)) w) := by
  go_enter Try.func18, Try.ntmps18
  go_wp2_with fail
  refine (trailOf_any s l hl0 _ hs).mono ?_
  rintro e w1 ⟨v, rfl, hr, hb⟩
  have HB := Lib.hid hb
  clear hr hb
  go_wp2_with fail
  go_ret
  exact ⟨rfl, HB.out⟩
/-- A block that is a pair. -/
def PairAt (w : World) (g : Nat) (p : Plain.Pt) : Prop := w.heap[g]? = some (.cells #[.int .i64 p.1, .int .i64 p.2] 23 (0, 0))
theorem PairAt.cells {w : World} {g : Nat} {p : Plain.Pt} (h : PairAt w g p) : w.cell? ⟨g, 0, none⟩ = some (.int .i64 p.1) ∧ w.cell? ⟨g, 1, none⟩ = some (.int .i64 p.2) := by
  unfold PairAt at h
  exact ⟨by simp [World.cell?, h], by simp [World.cell?, h]⟩
theorem PairAt.free {w : World} {g : Nat} {p : Plain.Pt} (h : PairAt w g p) : w.frozen? ⟨g, 0, none⟩ = false ∧ w.frozen? ⟨g, 1, none⟩ = false := by
  unfold PairAt at h
  exact ⟨by simp [World.frozen?, h], by simp [World.frozen?, h]⟩
theorem PairAt.on {w w' : World} {g : Nat} {p : Plain.Pt} (h : PairAt w g p) (hb : Below w.heap.size w w') : PairAt w' g p := (hb.block g (Array.getElem?_eq_some_iff.1 h).1).trans h
theorem PairAt.set {w : World} {g : Nat} {p : Plain.Pt} (h : PairAt w g p) (q : Plain.Pt) : PairAt ((w.setCell ⟨g, 0, none⟩ (.int .i64 q.1)).setCell ⟨g, 1, none⟩ (.int .i64 q.2)) g q := by
  have h1 := heap_setCell_same w g 0 _ _ (.int .i64 q.1) h
  have h2 := heap_setCell_same _ g 1 _ _ (.int .i64 q.2) h1
  unfold PairAt
  rw [h2]
  simp
theorem pairAt_new (w : World) (p : Plain.Pt) : PairAt (w.alloc (.cells #[.int .i64 p.1, .int .i64 p.2] 23)) w.heap.size p := heap_alloc_new w _
/-- Where a path ends. -/
def endP (l : List UInt8) : Plain.Pt := if Plain.pathB l = true then Plain.goP l else (0, 0)
def EndPost (l : List UInt8) (w : World) (e : Ending) (w' : World) : Prop := e = .returned (.tuple #[.agg #[.int .i64 (endP l).1, .int .i64 (endP l).2], .bool (Plain.pathB l)]) ∧ Below w.heap.size w w'
set_option maxRecDepth 100000 in
set_option maxHeartbeats 1600000 in
theorem specEndOf_any (s : ByteArray) (l : List UInt8) (hl0 : Hid (l = s.data.toList)) (w : World) (hs : s.size ≤ 9223372036854775807) : Calls Try.prog 19 #[.string s] w (EndPost l w) := by
  have HP0 := Lib.hid (pairAt_new w (0, 0))
  have HB0 := Lib.hid ((Below.refl w.heap.size w).alloc (Nat.le_refl _) (.cells #[.int .i64 0, .int .i64 0] 23))
  cases hp : Plain.pathB l with
  | false =>
    have HN : Hid (Ending.returned (.tuple #[.agg #[.int .i64 0, .int .i64 0], .bool false]) = Ending.returned (.tuple #[.agg #[.int .i64 (endP l).1, .int .i64 (endP l).2], .bool (Plain.pathB l)])) := Lib.hid (by unfold endP; rw [hp]; rfl)
    have HPB := Lib.hid hp
    clear hp
    go_enter Try.func19, Try.ntmps19
    go_wp2_with fail
    refine (l10Points_any s l hl0 _ hs).mono ?_
    rintro e w1 ⟨v, L, rfl, hr, hL, hb⟩
    rw [HPB.out]
    have HP1 := Lib.hid (HP0.out.on hb)
    have HB1 := Lib.hid (HB0.out.trans (hb.mono HB0.out.size))
    obtain ⟨h1, h2⟩ := HP1.out.cells
    obtain ⟨h3, h4⟩ := HP1.out.free
    clear hr hL hb
    go_wp2_with fail
    obtain ⟨k1, k2⟩ := (HP1.out.set (0, 0)).cells
    refine bodyPost_ret (v := .tuple #[.agg #[.int .i64 0, .int .i64 0], .bool false]) (by simp [results, Try.results19, go_sem, k1, k2]) rfl ⟨HN.out, (HB1.out.setCell (Nat.le_refl _) _).setCell (Nat.le_refl _) _⟩
  | true =>
    have hlen : Hid (l.length = s.size) := Lib.hid (by rw [hl0.out]; simp)
    obtain ⟨ex, ey, hE⟩ : ∃ ex ey, Plain.goP l = (ex, ey) := ⟨_, _, rfl⟩
    have HN : Hid (Ending.returned (.tuple #[.agg #[.int .i64 ex, .int .i64 ey], .bool true]) = Ending.returned (.tuple #[.agg #[.int .i64 (endP l).1, .int .i64 (endP l).2], .bool (Plain.pathB l)])) := Lib.hid (by unfold endP; rw [hp, if_pos rfl, hE])
    have HPB := Lib.hid hp
    have HE := Lib.hid hE
    clear hp hE
    have hln : l.length ≤ 400 := (Plain.path_ok HPB.out).1
    go_enter Try.func19, Try.ntmps19
    go_wp2_with fail
    refine (l10Points_any s l hl0 _ hs).mono ?_
    rintro e w1 ⟨v, L, rfl, hr, hL, hb⟩
    rw [HPB.out]
    obtain rfl := hL HPB.out
    have HP1 := Lib.hid (HP0.out.on hb)
    have HB1 := Lib.hid (HB0.out.trans (hb.mono HB0.out.size))
    obtain ⟨h1, h2⟩ := HP1.out.cells
    obtain ⟨h3, h4⟩ := HP1.out.free
    obtain ⟨a, cap, rfl, hpts, hne, hcap, hcapm⟩ := hr.form
    have hLn := Plain.pts_length l
    obtain ⟨g, rfl, hg1, hg2, hg3⟩ := hne (by intro e; rw [e] at hLn; cases hLn)
    have hcell := hpts.cells (Plain.pts_get (Nat.le_refl l.length))
    rw [Plain.atP_full, HE.out, Nat.zero_add] at hcell
    obtain ⟨k1, k2⟩ := hcell
    rw [hLn] at hcap ⊢
    clear hr hL hb hpts hne hg1 hg3 hLn
    go_wp2_with fail
    obtain ⟨j1, j2⟩ := (HP1.out.set (ex, ey)).cells
    refine bodyPost_ret (v := .tuple #[.agg #[.int .i64 ex, .int .i64 ey], .bool true]) (by simp [results, Try.results19, go_sem, j1, j2]) rfl ⟨HN.out, (HB1.out.setCell (Nat.le_refl _) _).setCell (Nat.le_refl _) _⟩
set_option maxRecDepth 100000 in
theorem field_pt0 (x y : Int) (w : World) : Sem.run Try.prog (Instr.field 63 (.agg #[.int .i64 x, .int .i64 y]) 0) w = .ok (.int .i64 x) w := by
  unfold Instr.field
  go_simp
  try rfl
set_option maxRecDepth 100000 in
theorem field_pt1 (x y : Int) (w : World) : Sem.run Try.prog (Instr.field 63 (.agg #[.int .i64 x, .int .i64 y]) 1) w = .ok (.int .i64 y) w := by
  unfold Instr.field
  go_simp
  try rfl
theorem end_any (g cap n : Nat) (p : Plain.Pt) (w : World) (h : Hid (w.cell? ⟨g, n * 2, none⟩ = some (.int .i64 p.1) ∧ w.cell? ⟨g, n * 2 + 1, none⟩ = some (.int .i64 p.2))) (hg : g < w.heap.size) (hn : n ≤ 400) :
    Calls Try.prog 56 #[.slice (some ⟨g, 0, none⟩) (n + 1) cap] w (Val (.agg #[.int .i64 p.1, .int .i64 p.2]) w) := by
  obtain ⟨k1, k2⟩ := h.out
  go_enter Try.func56, Try.ntmps56
  go_wp2_with fail
  exact bodyPost_ret (v := .agg #[.int .i64 p.1, .int .i64 p.2]) (by simp [results, Try.results56, go_sem]) rfl ⟨rfl, (Below.refl _ _).alloc (Nat.le_refl _) _⟩
/-- What lies behind a call of trailOf that went well. -/
theorem trail_last {l : List UInt8} {B : Nat} {w : World} {v : Value} (h : PtsRes 63 B w v (trailL l)) (hp : Plain.pathB l = true) : ∃ g cap, v = .slice (some ⟨g, 0, none⟩) (l.length + 1) cap ∧ B ≤ g ∧ g < w.heap.size ∧
    (w.cell? ⟨g, l.length * 2, none⟩ = some (.int .i64 (Plain.goP l).1) ∧ w.cell? ⟨g, l.length * 2 + 1, none⟩ = some (.int .i64 (Plain.goP l).2)) ∧ l.length + 1 ≤ cap ∧ cap ≤ maxLen := by
  unfold trailL at h
  rw [if_pos hp] at h
  obtain ⟨a, cap, rfl, hpts, hne, hcap, hcapm⟩ := h.form
  have hLn := Plain.pts_length l
  obtain ⟨g, rfl, hg1, hg2, hg3⟩ := hne (by intro e; rw [e] at hLn; cases hLn)
  have hcell := hpts.cells (Plain.pts_get (Nat.le_refl l.length))
  rw [Plain.atP_full, Nat.zero_add] at hcell
  rw [hLn] at hcap
  exact ⟨g, cap, by rw [hLn], hg1, hg2, hcell, hcap, hcapm⟩
set_option maxRecDepth 100000 in
set_option maxHeartbeats 1600000 in
theorem implEndOf_any (s : ByteArray) (l : List UInt8) (hl0 : Hid (l = s.data.toList)) (w : World) (hs : s.size ≤ 9223372036854775807) : Calls Try.prog 20 #[.string s] w (EndPost l w) := by
  have HP0 := Lib.hid (pairAt_new w (0, 0))
  have HB0 := Lib.hid ((Below.refl w.heap.size w).alloc (Nat.le_refl _) (.cells #[.int .i64 0, .int .i64 0] 23))
  cases hp : Plain.pathB l with
  | false =>
    have HN : Hid (Ending.returned (.tuple #[.agg #[.int .i64 0, .int .i64 0], .bool false]) = Ending.returned (.tuple #[.agg #[.int .i64 (endP l).1, .int .i64 (endP l).2], .bool (Plain.pathB l)])) := Lib.hid (by unfold endP; rw [hp]; rfl)
    have HPB := Lib.hid hp
    clear hp
    have f0 := field_pt0
    have f1 := field_pt1
    go_enter Try.func20, Try.ntmps20
    go_wp2_with fail
    refine (trailOf_any s l hl0 _ hs).mono ?_
    rintro e w1 ⟨v, rfl, hr, hb⟩
    rw [HPB.out]
    have HP1 := Lib.hid (HP0.out.on hb)
    have HB1 := Lib.hid (HB0.out.trans (hb.mono HB0.out.size))
    obtain ⟨h1, h2⟩ := HP1.out.cells
    obtain ⟨h3, h4⟩ := HP1.out.free
    clear hr hb
    go_wp2_with fail
    obtain ⟨k1, k2⟩ := (HP1.out.set (0, 0)).cells
    refine bodyPost_ret (v := .tuple #[.agg #[.int .i64 0, .int .i64 0], .bool false]) (by simp [results, Try.results20, go_sem, k1, k2]) rfl ⟨HN.out, (HB1.out.setCell (Nat.le_refl _) _).setCell (Nat.le_refl _) _⟩
  | true =>
    obtain ⟨ex, ey, hE⟩ : ∃ ex ey, Plain.goP l = (ex, ey) := ⟨_, _, rfl⟩
    have HN : Hid (Ending.returned (.tuple #[.agg #[.int .i64 ex, .int .i64 ey], .bool true]) = Ending.returned (.tuple #[.agg #[.int .i64 (endP l).1, .int .i64 (endP l).2], .bool (Plain.pathB l)])) := Lib.hid (by unfold endP; rw [hp, if_pos rfl, hE])
    have HPB := Lib.hid hp
    have HE := Lib.hid hE
    clear hp hE
    have hln : l.length ≤ 400 := (Plain.path_ok HPB.out).1
    have f0 := field_pt0
    have f1 := field_pt1
    go_enter Try.func20, Try.ntmps20
    go_wp2_with fail
    refine (trailOf_any s l hl0 _ hs).mono ?_
    rintro e w1 ⟨v, rfl, hr, hb⟩
    rw [HPB.out]
    have HP1 := Lib.hid (HP0.out.on hb)
    have HB1 := Lib.hid (HB0.out.trans (hb.mono HB0.out.size))
    obtain ⟨g, cap, rfl, hg1, hg2, hcell, hcap, hcapm⟩ := trail_last hr HPB.out
    rw [HE.out] at hcell
    have HK := Lib.hid hcell
    have HG := Lib.hid hg2
    clear hr hb hcell hg1 hg2
    go_wp2_with fail
    refine (end_any g cap l.length (ex, ey) _ HK HG.out hln).mono ?_
    rintro e w2 ⟨rfl, hb⟩
    have HK2 : Hid (w2.cell? ⟨g, l.length * 2, none⟩ = some (.int .i64 ex) ∧ w2.cell? ⟨g, l.length * 2 + 1, none⟩ = some (.int .i64 ey)) := Lib.hid ⟨cell_later hb HK.out.1, cell_later hb HK.out.2⟩
    have HG2 : Hid (g < w2.heap.size) := Lib.hid (Nat.lt_of_lt_of_le HG.out hb.size)
    have HP2 := Lib.hid (HP1.out.on hb)
    have HB2 := Lib.hid (HB1.out.trans (hb.mono HB1.out.size))
    clear hb
    go_wp2_with fail
    refine (end_any g cap l.length (ex, ey) _ HK2 HG2.out hln).mono ?_
    rintro e w3 ⟨rfl, hb⟩
    have HP3 := Lib.hid (HP2.out.on hb)
    have HB3 := Lib.hid (HB2.out.trans (hb.mono HB2.out.size))
    obtain ⟨h1, h2⟩ := HP3.out.cells
    obtain ⟨h3, h4⟩ := HP3.out.free
    clear hb
    go_wp2_with fail
    obtain ⟨j1, j2⟩ := (HP3.out.set (ex, ey)).cells
    refine bodyPost_ret (v := .tuple #[.agg #[.int .i64 ex, .int .i64 ey], .bool true]) (by simp [results, Try.results20, go_sem, j1, j2]) rfl ⟨HN.out, (HB3.out.setCell (Nat.le_refl _) _).setCell (Nat.le_refl _) _⟩
/-- Whether a text is a path that is closed. -/
def closedB (l : List UInt8) : Bool := Plain.pathB l && decide (Plain.goP l = (0, 0))
set_option maxRecDepth 100000 in
set_option maxHeartbeats 1600000 in
theorem l10Closed_any (s : ByteArray) (l : List UInt8) (hl0 : Hid (l = s.data.toList)) (w : World) (hs : s.size ≤ 9223372036854775807) : Calls Try.prog 57 #[.string s] w (Val (.bool (closedB l)) w) := by
  cases hp : Plain.pathB l with
  | false =>
    have HPB := Lib.hid hp
    have HN : Hid (closedB l = false) := Lib.hid (by unfold closedB; rw [hp]; rfl)
    rw [HN.out]
    clear hp
    go_enter Try.func57, Try.ntmps57
    go_wp2_with fail
    refine (l10Points_any s l hl0 _ hs).mono ?_
    rintro e w1 ⟨v, L, rfl, hr, hL, hb⟩
    rw [HPB.out]
    have HB := Lib.hid hb
    clear hr hL hb
    go_wp2_with fail
    go_ret
    exact ⟨rfl, HB.out⟩
  | true =>
    obtain ⟨ex, ey, hE⟩ : ∃ ex ey, Plain.goP l = (ex, ey) := ⟨_, _, rfl⟩
    have HPB := Lib.hid hp
    have HE := Lib.hid hE
    have HN : Hid (closedB l = decide ((ex, ey) = (0, 0))) := Lib.hid (by unfold closedB; rw [hp, hE]; rfl)
    rw [HN.out]
    have hln : l.length ≤ 400 := (Plain.path_ok hp).1
    have hbd := Plain.at_bd (Plain.path_ok hp).2 (Nat.le_refl _)
    rw [Plain.atP_full, hE] at hbd
    simp only [] at hbd
    have HEQ : Hid (∀ w, Sem.run Try.prog (Op.equalIn 10000 23 (.agg #[.int .i64 ex, .int .i64 ey]) (.agg #[.int .i64 0, .int .i64 0])) w = .ok (decide ((ex, ey) = (0, 0))) w) := Lib.hid (fun w => run_ptA w (p := (ex, ey)) (q := (0, 0)) (by unfold Pt100; simp only []; omega) (by unfold Pt100; simp only []; omega))
    obtain ⟨c, hc⟩ : ∃ c, c = decide ((ex, ey) = ((0 : Int), (0 : Int))) := ⟨_, rfl⟩
    rw [← hc] at HEQ ⊢
    clear hp hE hbd hc
    go_enter Try.func57, Try.ntmps57
    go_wp2_with fail
    refine (l10Points_any s l hl0 _ hs).mono ?_
    rintro e w1 ⟨v, L, rfl, hr, hL, hb⟩
    rw [HPB.out]
    obtain rfl := hL HPB.out
    have HB1 := Lib.hid hb
    obtain ⟨a, cap, rfl, hpts, hne, hcap, hcapm⟩ := hr.form
    have hLn := Plain.pts_length l
    obtain ⟨g, rfl, hg1, hg2, hg3⟩ := hne (by intro e; rw [e] at hLn; cases hLn)
    have hcell := hpts.cells (Plain.pts_get (Nat.le_refl l.length))
    rw [Plain.atP_full, HE.out, Nat.zero_add] at hcell
    obtain ⟨k1, k2⟩ := hcell
    rw [hLn] at hcap ⊢
    have hQ := HEQ.out
    clear hr hL hb hpts hne hg1 hg3 hLn
    go_wp2_with fail
    go_ret
    exact ⟨rfl, HB1.out⟩
theorem specIsClosed_any (s : ByteArray) (l : List UInt8) (hl0 : Hid (l = s.data.toList)) (w : World) (hs : s.size ≤ 9223372036854775807) : Calls Try.prog 22 #[.string s] w (Val (.tuple #[.bool (closedB l), .bool (Plain.pathB l)]) w) := by
  cases hp : Plain.pathB l with
  | false =>
    have HPB := Lib.hid hp
    have HN : Hid (closedB l = false) := Lib.hid (by unfold closedB; rw [hp]; rfl)
    rw [HN.out]
    clear hp
    go_enter Try.func22, Try.ntmps22
    go_wp2_with fail
    refine (specIsPath_any s l hl0 _ hs).mono ?_
    rw [HPB.out]
    rintro e w1 ⟨rfl, hb⟩
    have HB := Lib.hid hb
    clear hb
    go_wp2_with fail
    go_ret2
    exact ⟨rfl, HB.out⟩
  | true =>
    have HPB := Lib.hid hp
    clear hp
    go_enter Try.func22, Try.ntmps22
    go_wp2_with fail
    refine (specIsPath_any s l hl0 _ hs).mono ?_
    rw [HPB.out]
    rintro e w1 ⟨rfl, hb⟩
    have HB := Lib.hid hb
    clear hb
    go_wp2_with fail
    refine (l10Closed_any s l hl0 _ hs).mono ?_
    rintro e w2 ⟨rfl, hb⟩
    have HB2 := Lib.hid (HB.out.trans (hb.mono HB.out.size))
    clear hb
    go_wp2_with fail
    go_ret2
    exact ⟨rfl, HB2.out⟩
set_option maxRecDepth 100000 in
set_option maxHeartbeats 1600000 in
theorem implIsClosed_any (s : ByteArray) (l : List UInt8) (hl0 : Hid (l = s.data.toList)) (w : World) (hs : s.size ≤ 9223372036854775807) : Calls Try.prog 23 #[.string s] w (Val (.tuple #[.bool (closedB l), .bool (Plain.pathB l)]) w) := by
  cases hp : Plain.pathB l with
  | false =>
    have HPB := Lib.hid hp
    have HN : Hid (closedB l = false) := Lib.hid (by unfold closedB; rw [hp]; rfl)
    rw [HN.out]
    clear hp
    go_enter Try.func23, Try.ntmps23
    go_wp2_with fail
    refine (trailOf_any s l hl0 _ hs).mono ?_
    rintro e w1 ⟨v, rfl, hr, hb⟩
    rw [HPB.out]
    have HB := Lib.hid hb
    clear hr hb
    go_wp2_with fail
    go_ret2
    exact ⟨rfl, HB.out⟩
  | true =>
    obtain ⟨ex, ey, hE⟩ : ∃ ex ey, Plain.goP l = (ex, ey) := ⟨_, _, rfl⟩
    have HPB := Lib.hid hp
    have HE := Lib.hid hE
    have HN : Hid (closedB l = decide ((ex, ey) = (0, 0))) := Lib.hid (by unfold closedB; rw [hp, hE]; rfl)
    rw [HN.out]
    have hln : l.length ≤ 400 := (Plain.path_ok hp).1
    have hbd := Plain.at_bd (Plain.path_ok hp).2 (Nat.le_refl _)
    rw [Plain.atP_full, hE] at hbd
    simp only [] at hbd
    have HEQ : Hid (∀ w, Sem.run Try.prog (Op.equalIn 10000 63 (.agg #[.int .i64 ex, .int .i64 ey]) (.agg #[.int .i64 0, .int .i64 0])) w = .ok (decide ((ex, ey) = (0, 0))) w) := Lib.hid (fun w => run_ptP w (p := (ex, ey)) (q := (0, 0)) (by unfold Pt100; simp only []; omega) (by unfold Pt100; simp only []; omega))
    obtain ⟨c, hc⟩ : ∃ c, c = decide ((ex, ey) = ((0 : Int), (0 : Int))) := ⟨_, rfl⟩
    rw [← hc] at HEQ ⊢
    clear hp hE hbd hc
    go_enter Try.func23, Try.ntmps23
    go_wp2_with fail
    refine (trailOf_any s l hl0 _ hs).mono ?_
    rintro e w1 ⟨v, rfl, hr, hb⟩
    rw [HPB.out]
    have HB1 := Lib.hid hb
    obtain ⟨g, cap, rfl, hg1, hg2, hcell, hcap, hcapm⟩ := trail_last hr HPB.out
    rw [HE.out] at hcell
    have HK := Lib.hid hcell
    have HG := Lib.hid hg2
    clear hr hb hcell hg1 hg2
    go_wp2_with fail
    refine (end_any g cap l.length (ex, ey) _ HK HG.out hln).mono ?_
    rintro e w2 ⟨rfl, hb⟩
    have HB2 := Lib.hid (HB1.out.trans (hb.mono HB1.out.size))
    have hQ := HEQ.out
    clear hb
    go_wp2_with fail
    go_ret2
    exact ⟨rfl, HB2.out⟩
end Go.Proofs.Ytpaijobmoddgpaa
