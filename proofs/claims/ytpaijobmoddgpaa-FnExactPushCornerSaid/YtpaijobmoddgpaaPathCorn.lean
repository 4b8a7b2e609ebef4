/- Contracts: impl's point.isFree, trail.square. Conditions: a path's points; numbers of 64 bits. -/
import Derived.Test.YtpaijobmoddgpaaPathRead
import Derived.WalkLawsBesides
namespace Go.Proofs.Ytpaijobmoddgpaa
open Go.ChangeShapes Go.WideShapes Go.ChangeAt Go.RowKit
set_option linter.unusedVariables false
set_option linter.unusedSimpArgs false

namespace Plain
/-- Whether the steps i and i + 1 make a corner. -/
def cornB (l : List UInt8) (i : Nat) : Bool := match l[i]?, l[i + 1]? with
  | some a, some b => (dyB a == 0) != (dyB b == 0)
  | _, _ => false
theorem cornB_lt {l : List UInt8} {i : Nat} (h : cornB l i = true) : i + 2 ≤ l.length := by
  unfold cornB at h
  cases h1 : l[i + 1]? with
  | none =>
    cases h0 : l[i]? with
    | none => rw [h0, h1] at h; cases h
    | some a => rw [h0, h1] at h; cases h
  | some b => have := (List.getElem?_eq_some_iff.1 h1).1; omega
theorem cornB_is {l : List UInt8} {i : Nat} {a b : UInt8} (ha : l[i]? = some a) (hb : l[i + 1]? = some b) : cornB l i = ((dyB a == 0) != (dyB b == 0)) := by
  unfold cornB; rw [ha, hb]
theorem corn_iff {a b : UInt8} (ha : isStepB a = true) (hb : isStepB b = true) : (dxB a + dxB b = 0 ∨ dyB a + dyB b = 0) ↔ ((dyB a == 0) != (dyB b == 0)) = false := by
  rcases step_cases a with ⟨-, rfl | rfl | rfl | rfl⟩ | ⟨hs, -⟩
  all_goals first
    | (rw [hs] at ha; cases ha)
    | (rcases step_cases b with ⟨-, rfl | rfl | rfl | rfl⟩ | ⟨hs, -⟩
       all_goals first
         | (rw [hs] at hb; cases hb)
         | decide)
def sqP (l : List UInt8) (i : Nat) : Pt := (min (atP l i).1 (atP l (i + 2)).1, min (atP l i).2 (atP l (i + 2)).2)
def sqFree (p : Pt) : Bool := decide (p.2 ≠ 0) || !decide (1 ≤ p.1 ∧ p.1 ≤ 6)
/-- The square of a corner, and whether there is one. -/
def squareV (l : List UInt8) (i : Int) : Pt × Bool := if 0 ≤ i ∧ cornB l i.toNat = true then (sqP l i.toNat, true) else ((0, 0), false)
end Plain
theorem isFree_any (x y : Int) (w : World) : Calls Try.prog 76 #[.agg #[.int .i64 x, .int .i64 y]] w (Val (.bool (Plain.sqFree (x, y))) w) := by
  by_cases hy : y = 0
  · subst hy
    cases hd : decide (1 ≤ x ∧ x ≤ 6) with
    | true =>
      have HV : Hid (Plain.sqFree (x, 0) = false) := Lib.hid (by unfold Plain.sqFree; simp only []; rw [hd]; rfl)
      rw [HV.out]
      have HNL : Hid (∀ W, Calls Try.prog 85 #[.int .i64 x] W fun e w' => e = .returned (.bool true) ∧ W = w') := Lib.hid (fun W => by have := isNail10_any x W; rw [hd] at this; exact this)
      clear hd
      go_enter Try.func76, Try.ntmps76
      go_wp2_with fail
      refine (HNL.out _).mono ?_
      rintro e w' ⟨rfl, rfl⟩
      go_wp2_with fail
      go_ret
      exact ⟨rfl, (Below.refl _ _).alloc (Nat.le_refl _) _⟩
    | false =>
      have HV : Hid (Plain.sqFree (x, 0) = true) := Lib.hid (by unfold Plain.sqFree; simp only []; rw [hd]; rfl)
      rw [HV.out]
      have HNL : Hid (∀ W, Calls Try.prog 85 #[.int .i64 x] W fun e w' => e = .returned (.bool false) ∧ W = w') := Lib.hid (fun W => by have := isNail10_any x W; rw [hd] at this; exact this)
      clear hd
      go_enter Try.func76, Try.ntmps76
      go_wp2_with fail
      refine (HNL.out _).mono ?_
      rintro e w' ⟨rfl, rfl⟩
      go_wp2_with fail
      go_ret
      exact ⟨rfl, (Below.refl _ _).alloc (Nat.le_refl _) _⟩
  · have HV : Hid (Plain.sqFree (x, y) = true) := Lib.hid (by simp [Plain.sqFree, hy])
    rw [HV.out]
    have hyd : (y != 0) = true := by simpa using hy
    go_enter Try.func76, Try.ntmps76
    go_wp2_with fail
    go_ret
    exact ⟨rfl, (Below.refl _ _).alloc (Nat.le_refl _) _⟩
def SquarePost (l : List UInt8) (i : Int) (w : World) (e : Ending) (w' : World) : Prop := e = .returned (.tuple #[.agg #[.int .i64 (Plain.squareV l i).1.1, .int .i64 (Plain.squareV l i).1.2], .bool (Plain.squareV l i).2]) ∧ Below w.heap.size w w'
def TwoPts (T : TypeId) (wr : World) (p q : Plain.Pt) (u v : Value) (wx : World) : Prop := ∃ g1 g2, u = .pointer (some ⟨g1, 0, none⟩) ∧ v = .pointer (some ⟨g2, 0, none⟩) ∧ wx.heap[g1]? = some (.cells #[.int .i64 p.1, .int .i64 p.2] T (0, 0)) ∧ wx.heap[g2]? = some (.cells #[.int .i64 q.1, .int .i64 q.2] T (0, 0)) ∧ Below wr.heap.size wr wx
theorem two_heap (W : World) (o1 o2 : Obj) : ((W.alloc o1).alloc o2).heap[W.heap.size]? = some o1 ∧ ((W.alloc o1).alloc o2).heap[W.heap.size + 1]? = some o2 :=
  ⟨(heap_alloc_old _ _ (by simp)).trans (heap_alloc_new W o1), heap_alloc2_new _ _ _⟩
theorem two_below (W : World) (o1 o2 : Obj) : Below W.heap.size W (((W.alloc o1).alloc o2).drew) := (((Below.refl _ _).alloc (Nat.le_refl _) _).alloc (by simp) _).drew
theorem sq_steps {l : List UInt8} {i : Nat} (hp : Plain.pathB l = true) (hi : i + 2 ≤ l.length) : ((Plain.atP l i).1 = (Plain.atP l (i + 2)).1 ∨ (Plain.atP l i).2 = (Plain.atP l (i + 2)).2) ↔ Plain.cornB l i = false := by
  obtain ⟨-, hok⟩ := Plain.path_ok hp
  obtain ⟨a, ha, hsa, -⟩ := Plain.okTo_at hok (show i < l.length by omega)
  obtain ⟨b, hb, hsb, -⟩ := Plain.okTo_at hok (show i + 1 < l.length by omega)
  rw [Plain.cornB_is ha hb, ← Plain.corn_iff hsa hsb, Plain.atP_step hb, Plain.atP_step ha]
  unfold Plain.nextP
  simp only []
  omega
theorem square_zero (w : World) : PtAt (w.alloc (.cells #[.int .i64 0, .int .i64 0] 63)) w.heap.size (0, 0) := ptAt_new w (0, 0)
set_option maxRecDepth 100000 in
set_option maxHeartbeats 3200000 in
theorem squareOut_any (a : Option Addr) (cap n : Nat) (i : Int) (w : World) (hn : n ≤ 401) (hi64 : -9223372036854775808 ≤ i ∧ i ≤ 9223372036854775807) (hi : i < 0 ∨ (n : Int) - 2 ≤ i) :
    Calls Try.prog 73 #[.slice a n cap, .int .i64 i] w (Val (.tuple #[.agg #[.int .i64 0, .int .i64 0], .bool false]) w) := by
  obtain ⟨c0, c1⟩ := (square_zero w).cells
  obtain ⟨f0, f1⟩ := (square_zero w).free
  have HB := Lib.hid (((Below.refl w.heap.size w).alloc (Nat.le_refl _) (.cells #[.int .i64 0, .int .i64 0] 63)))
  obtain ⟨k0, k1⟩ := ((square_zero w).set (0, 0)).cells
  have HK0 := Lib.hid k0
  have HK1 := Lib.hid k1
  clear k0 k1
  by_cases h0 : i < 0
  · go_enter Try.func73, Try.ntmps73
    go_wp2_with fail
    exact bodyPost_ret (v := .tuple #[.agg #[.int .i64 0, .int .i64 0], .bool false]) (by simp [results, Try.results73, go_sem, HK0.out, HK1.out]) rfl ⟨rfl, HB.out⟩
  · have h1 : (n : Int) - 2 ≤ i := by omega
    have hd : decide (i < 0) = false := by simpa using h0
    go_enter Try.func73, Try.ntmps73
    go_wp2_with fail
    exact bodyPost_ret (v := .tuple #[.agg #[.int .i64 0, .int .i64 0], .bool false]) (by simp [results, Try.results73, go_sem, HK0.out, HK1.out]) rfl ⟨rfl, HB.out⟩
set_option maxRecDepth 100000 in
set_option maxHeartbeats 6400000 in
theorem squareIn_any (l : List UInt8) (g cap i : Nat) (w : World) (hp : Hid (Plain.pathB l = true)) (hi : i + 2 ≤ l.length) (h : Hid (Pts w (some ⟨g, 0, none⟩) (Plain.pts l))) (hg : g < w.heap.size) :
    Calls Try.prog 73 #[.slice (some ⟨g, 0, none⟩) (l.length + 1) cap, .int .i64 i] w (SquarePost l i w) := by
  obtain ⟨n, hn⟩ : ∃ n, n = l.length := ⟨_, rfl⟩
  have hn4 : n ≤ 400 := by rw [hn]; exact (Plain.path_ok hp.out).1
  have HN := Lib.hid hn
  rw [← hn] at hi ⊢
  have hc1 := h.out.cells (Plain.pts_get (show i ≤ l.length by omega))
  have hc2 := h.out.cells (Plain.pts_get (show i + 2 ≤ l.length by omega))
  have hb1 := Plain.at_bd (Plain.path_ok hp.out).2 (show i ≤ l.length by omega)
  have hb2 := Plain.at_bd (Plain.path_ok hp.out).2 (show i + 2 ≤ l.length by omega)
  obtain ⟨px, py, hP⟩ : ∃ px py, Plain.atP l i = (px, py) := ⟨_, _, rfl⟩
  obtain ⟨qx, qy, hQ⟩ : ∃ qx qy, Plain.atP l (i + 2) = (qx, qy) := ⟨_, _, rfl⟩
  rw [hP, Nat.zero_add] at hc1
  rw [hQ, Nat.zero_add] at hc2
  rw [hP] at hb1
  rw [hQ] at hb2
  obtain ⟨b1, b2, b3, b4⟩ := hb1
  obtain ⟨b5, b6, b7, b8⟩ := hb2
  simp only [] at hc1 hc2 b1 b2 b3 b4 b5 b6 b7 b8
  have HC1 := Lib.hid hc1
  have HC2 := Lib.hid hc2
  have HZ := Lib.hid (square_zero w)
  obtain ⟨W, hW⟩ : ∃ W, W = w.alloc (.cells #[.int .i64 0, .int .i64 0] 63) := ⟨_, rfl⟩
  have HB : Hid (Below w.heap.size w W) := Lib.hid (by rw [hW]; exact (Below.refl w.heap.size w).alloc (Nat.le_refl _) _)
  rw [← hW] at HZ
  clear hc1 hc2 hn
  have hi2 : ¬ ((n : Int) - 1 ≤ (i : Int)) := by omega
  have hdd : decide ((i : Int) < 0) = false := by simp
  go_enter Try.func73, Try.ntmps73
  go_upto_region 3 with fail
  rw [← hW]
  clear hW
  go_cut [6, 7] from 18 to 26 (fun u v wx => TwoPts 63 W (px, py) (qx, qy) u v wx)
  case first =>
    have hgW : g < W.heap.size := Nat.lt_of_lt_of_le hg HB.out.size
    have hgW1 : g < W.heap.size + 1 := by omega
    have hgW2 : ¬ (g = W.heap.size) := by omega
    have hgW3 : ¬ (g = W.heap.size + 1) := by omega
    have c00 := cell_later HB.out HC1.out.1
    have d00 := cell_later HB.out.drew HC1.out.1
    have c01 := cell_later HB.out HC1.out.2
    have d01 := cell_later HB.out.drew HC1.out.2
    have c02 := cell_later HB.out HC2.out.1
    have d02 := cell_later HB.out.drew HC2.out.1
    have c03 := cell_later HB.out HC2.out.2
    have d03 := cell_later HB.out.drew HC2.out.2
    have hj1 : (i : Int) < (n : Int) + 1 := by omega
    have hj2 : (0 : Int) ≤ (i : Int) := by omega
    have hj3 : (0 : Int) ≤ (i : Int) + 2 := by omega
    have hj4 : (i : Int) + 2 < (n : Int) + 1 := by omega
    have hj5 : IntKind.i64.wrap ((i : Int) + 2) = (i : Int) + 2 := Go.IntWalk.i64_in _ (by omega)
    have hj6 : ((i : Int) + 2).toNat = i + 2 := by omega
    go_region
    all_goals
      go_wp2_with fail
      go_meet
      case rel => first | exact ⟨_, _, rfl, rfl, (two_heap W _ _).1, (two_heap W _ _).2, two_below W _ _⟩ | exact ⟨_, _, rfl, rfl, (two_heap W _ _).2, (two_heap W _ _).1, two_below W _ _⟩
  case rest =>
    obtain ⟨g1, g2, rfl, rfl, h1, h2, hbw⟩ := hcut
    have HB2 := Lib.hid (HB.out.trans (hbw.mono HB.out.size))
    have HZ2 := Lib.hid (HZ.out.on hbw)
    obtain ⟨m1, m2⟩ := PtAt.cells (p := (px, py)) h1
    obtain ⟨m3, m4⟩ := PtAt.cells (p := (qx, qy)) h2
    have HSQ := Lib.hid (sq_steps hp.out (show i + 2 ≤ l.length by rw [← HN.out]; exact hi))
    rw [hP, hQ] at HSQ
    have HSV : Hid (Plain.sqP l i = (min px qx, min py qy)) := Lib.hid (by unfold Plain.sqP; rw [hP, hQ])
    generalize wc = W2 at HB2 HZ2 m1 m2 m3 m4 ⊢
    obtain ⟨z1, z2⟩ := HZ2.out.cells
    obtain ⟨z3, z4⟩ := HZ2.out.free
    clear hbw h1 h2 hP hQ
    have HNO : Hid (Plain.cornB l i = false → Ending.returned (.tuple #[.agg #[.int .i64 0, .int .i64 0], .bool false]) = Ending.returned (.tuple #[.agg #[.int .i64 (Plain.squareV l (i : Int)).1.1, .int .i64 (Plain.squareV l (i : Int)).1.2], .bool (Plain.squareV l (i : Int)).2])) := Lib.hid (fun e => by unfold Plain.squareV; rw [Int.toNat_natCast, e, if_neg (by simp)])
    have HYES : Hid (Plain.cornB l i = true → Ending.returned (.tuple #[.agg #[.int .i64 (min px qx), .int .i64 (min py qy)], .bool true]) = Ending.returned (.tuple #[.agg #[.int .i64 (Plain.squareV l (i : Int)).1.1, .int .i64 (Plain.squareV l (i : Int)).1.2], .bool (Plain.squareV l (i : Int)).2])) := Lib.hid (fun e => by unfold Plain.squareV; rw [Int.toNat_natCast, e, if_pos ⟨by omega, rfl⟩, HSV.out])
    by_cases hx : px = qx
    · have HC : Hid (Plain.cornB l i = false) := Lib.hid (HSQ.out.1 (Or.inl hx))
      subst hx
      go_wp2_with fail
      obtain ⟨k0, k1⟩ := (HZ2.out.set (0, 0)).cells
      exact bodyPost_ret (v := .tuple #[.agg #[.int .i64 0, .int .i64 0], .bool false]) (by simp [results, Try.results73, go_sem, k0, k1]) rfl ⟨HNO.out HC.out, (HB2.out.setCell (Nat.le_refl _) _).setCell (Nat.le_refl _) _⟩
    · have hxd : (px == qx) = false := by simpa using hx
      by_cases hy : py = qy
      · have HC : Hid (Plain.cornB l i = false) := Lib.hid (HSQ.out.1 (Or.inr hy))
        subst hy
        go_wp2_with fail
        obtain ⟨k0, k1⟩ := (HZ2.out.set (0, 0)).cells
        exact bodyPost_ret (v := .tuple #[.agg #[.int .i64 0, .int .i64 0], .bool false]) (by simp [results, Try.results73, go_sem, k0, k1]) rfl ⟨HNO.out HC.out, (HB2.out.setCell (Nat.le_refl _) _).setCell (Nat.le_refl _) _⟩
      · have hyd : (py == qy) = false := by simpa using hy
        have HC : Hid (Plain.cornB l i = true) := Lib.hid (by
          cases hc : Plain.cornB l i with
          | true => rfl
          | false => rcases HSQ.out.2 hc with e | e <;> contradiction)
        obtain ⟨sx, hsx⟩ : ∃ sx, sx = min px qx := ⟨_, rfl⟩
        obtain ⟨sy, hsy⟩ : ∃ sy, sy = min py qy := ⟨_, rfl⟩
        rw [← hsx, ← hsy] at HYES
        have hcx : (qx < px ∧ sx = qx) ∨ (¬ qx < px ∧ sx = px) := by omega
        have hcy : (qy < py ∧ sy = qy) ∨ (¬ qy < py ∧ sy = py) := by omega
        clear hsx hsy HNO HSV HSQ
        rcases hcx with ⟨hmx, rfl⟩ | ⟨hmx, rfl⟩
        all_goals
          rcases hcy with ⟨hmy, rfl⟩ | ⟨hmy, rfl⟩
          all_goals
            go_wp2_with fail
            obtain ⟨k0, k1⟩ := (HZ2.out.set (sx, sy)).cells
            exact bodyPost_ret (v := .tuple #[.agg #[.int .i64 sx, .int .i64 sy], .bool true]) (by simp [results, Try.results73, go_sem, k0, k1]) rfl ⟨HYES.out HC.out, (HB2.out.setCell (Nat.le_refl _) _).setCell (Nat.le_refl _) _⟩
end Go.Proofs.Ytpaijobmoddgpaa
