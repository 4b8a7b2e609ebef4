/- Lists of points in memory, in both programs' forms: what lies at an address, what is collected. No condition. -/
import Derived.Test.YtpaijobmoddgpaaInts
import Derived.Test.YtpaijobmoddgpaaPathMath
namespace Go.Proofs.Ytpaijobmoddgpaa
open Go.ChangeShapes Go.WideShapes Go.ChangeAt Go.RowKit
set_option linter.unusedVariables false
set_option linter.unusedSimpArgs false

/-- The cells of a list of points. -/
def row2 : List Plain.Pt → List Value
  | [] => []
  | p :: ps => .int .i64 p.1 :: .int .i64 p.2 :: row2 ps
theorem row2_length : ∀ ps : List Plain.Pt, (row2 ps).length = ps.length * 2
  | [] => rfl
  | p :: ps => by simp only [row2, List.length_cons, row2_length ps]; omega
theorem row2_append : ∀ ps qs : List Plain.Pt, row2 (ps ++ qs) = row2 ps ++ row2 qs
  | [], qs => rfl
  | p :: ps, qs => by simp only [List.cons_append, row2, row2_append ps qs]
theorem row2_at : ∀ {ps : List Plain.Pt} {j : Nat} {p : Plain.Pt}, ps[j]? = some p → (row2 ps)[j * 2]? = some (.int .i64 p.1) ∧ (row2 ps)[j * 2 + 1]? = some (.int .i64 p.2)
  | [], j, p, h => by simp at h
  | q :: ps, 0, p, h => by
    simp at h; subst h
    exact ⟨rfl, rfl⟩
  | q :: ps, j + 1, p, h => by
    simp only [List.getElem?_cons_succ] at h
    obtain ⟨h1, h2⟩ := row2_at h
    refine ⟨?_, ?_⟩
    · rw [show (j + 1) * 2 = j * 2 + 1 + 1 by omega]; exact h1
    · rw [show (j + 1) * 2 + 1 = j * 2 + 1 + 1 + 1 by omega]; exact h2
theorem row2_one : ∀ (ps : List Plain.Pt), ∀ u ∈ row2 ps, u.oneCell' = true
  | [], u, h => by cases h
  | p :: ps, u, h => by
    simp only [row2, List.mem_cons] at h
    rcases h with rfl | rfl | h
    · rfl
    · rfl
    · exact row2_one ps u h
theorem row2_take (ps : List Plain.Pt) (k : Nat) : (row2 ps).take (k * 2) = row2 (ps.take k) := by
  induction ps generalizing k with
  | nil => simp [row2]
  | cons p ps ih =>
    cases k with
    | zero => simp [row2]
    | succ k => rw [show (k + 1) * 2 = k * 2 + 1 + 1 by omega]; simp [row2, ih]

/-- At an address lie these points. -/
def Pts (w : World) (a : Option Addr) (ps : List Plain.Pt) : Prop := ∀ j p, ps[j]? = some p → ∃ b o, a = some ⟨b, o, none⟩ ∧ w.cell? ⟨b, o + j * 2, none⟩ = some (.int .i64 p.1) ∧ w.cell? ⟨b, o + j * 2 + 1, none⟩ = some (.int .i64 p.2)
theorem Pts.on {w w' : World} {a : Option Addr} {ps : List Plain.Pt} (h : Pts w a ps) (hb : Below w.heap.size w w') : Pts w' a ps := fun j p hp => by
  obtain ⟨b, o, e, h1, h2⟩ := h j p hp
  exact ⟨b, o, e, cell_later hb h1, cell_later hb h2⟩
theorem Pts.drewN {w : World} {a : Option Addr} {ps : List Plain.Pt} (h : Pts w a ps) (n : Nat) : Pts (w.drewN n) a ps := h
theorem Pts.nil (w : World) (a : Option Addr) : Pts w a [] := fun j p h => by simp at h
theorem Pts.cells {w : World} {g o : Nat} {ps : List Plain.Pt} (h : Pts w (some ⟨g, o, none⟩) ps) {j : Nat} {p : Plain.Pt} (hj : ps[j]? = some p) : w.cell? ⟨g, o + j * 2, none⟩ = some (.int .i64 p.1) ∧ w.cell? ⟨g, o + j * 2 + 1, none⟩ = some (.int .i64 p.2) := by
  obtain ⟨b, o', e, h1, h2⟩ := h j p hj
  cases e
  exact ⟨h1, h2⟩
theorem Pts.some {w : World} {a : Option Addr} {p : Plain.Pt} {ps : List Plain.Pt} (h : Pts w a (p :: ps)) : ∃ g o, a = .some ⟨g, o, none⟩ := by
  obtain ⟨b, o, e, _⟩ := h 0 p rfl
  exact ⟨b, o, e⟩

/-- A slice of these points, in memory from B on. T is the type of its points. -/
def PtsRes (T : TypeId) (B : Nat) (w : World) (v : Value) (ps : List Plain.Pt) : Prop := w.ownsRow B T 2 v ps.length (row2 ps)
theorem PtsRes.on {T : TypeId} {B : Nat} {w w' : World} {v : Value} {ps : List Plain.Pt} (h : PtsRes T B w v ps) (hb : Below w.heap.size w w') : PtsRes T B w' v ps :=
  World.ownsRow.kept h (row := none) ⟨hb.os, hb.tape, hb.output, hb.size, fun j hj _ => hb.block j hj⟩ (by cases hv : v.ownBlock with | none => exact .inl rfl | some g => exact .inr (by simp))
theorem PtsRes.form {T : TypeId} {B : Nat} {w : World} {v : Value} {ps : List Plain.Pt} (h : PtsRes T B w v ps) : ∃ a cap, v = .slice a ps.length cap ∧ Pts w a ps ∧ (ps ≠ [] → ∃ g, a = some ⟨g, 0, none⟩ ∧ B ≤ g ∧ g < w.heap.size ∧ ∀ j, w.frozen? ⟨g, j, none⟩ = false) ∧ ps.length ≤ cap ∧ cap ≤ maxLen := by
  have h0 := h
  obtain ⟨hl, ⟨rfl, hn⟩ | ⟨g, cap, cur, rfl, hg, hc, hn, hm, hz, ht⟩⟩ := h
  · have e : ps = [] := List.eq_nil_of_length_eq_zero hn
    subst e
    exact ⟨none, 0, rfl, Pts.nil _ _, fun h => absurd rfl h, Nat.le_refl _, Nat.zero_le _⟩
  · have hlt : g < w.heap.size := (Array.getElem?_eq_some_iff.1 hc).1
    refine ⟨_, cap, rfl, fun j p hp => ⟨g, 0, rfl, ?_⟩, fun _ => ⟨g, rfl, hg, hlt, fun j => by simp [World.frozen?, hc]⟩, hn, hm⟩
    have hj : j < ps.length := at_lt hp
    obtain ⟨h1, h2⟩ := row2_at hp
    rw [Nat.zero_add, World.ownsRow.cellAt h0 _ (by omega), World.ownsRow.cellAt h0 _ (by omega)]
    exact ⟨h1, h2⟩

/-- A list of points that is appended to. -/
def Coll2 (T : TypeId) (L : List Plain.Pt) (B : Nat) (w : World) (v : Value) (wr : World) : Prop := PtsRes T B wr v L ∧ Below B w wr ∧ B ≤ wr.heap.size
theorem coll2_start (T : TypeId) (w : World) : Coll2 T [] w.heap.size w (.slice (some ⟨w.heap.size, 0, none⟩) 0 0) (w.alloc (.cells #[] T)) :=
  ⟨World.ownsRow_made w #[] 0 (Nat.le_refl _) (Nat.zero_le _) rfl, (Below.refl _ w).alloc (Nat.le_refl _) _, by simp⟩
theorem coll2_one (T : TypeId) (w : World) (p : Plain.Pt) : Coll2 T [p] w.heap.size w (.slice (some ⟨w.heap.size, 0, none⟩) 1 1) (w.alloc (.cells #[.int .i64 p.1, .int .i64 p.2] T)) :=
  ⟨World.ownsRow_lit w #[.int .i64 p.1, .int .i64 p.2] 1 (Nat.le_refl _) (by unfold maxLen; omega) rfl, (Below.refl _ w).alloc (Nat.le_refl _) _, by simp⟩
theorem Coll2.drewN {T : TypeId} {L : List Plain.Pt} {B : Nat} {w wr : World} {v : Value} (h : Coll2 T L B w v wr) (n : Nat) : Coll2 T L B w v (wr.drewN n) := ⟨h.1, below_drewN h.2.1 n, h.2.2⟩
theorem Coll2.later {T : TypeId} {L : List Plain.Pt} {B : Nat} {w wr w1 : World} {v : Value} (h : Coll2 T L B w v wr) (hb : Below wr.heap.size wr w1) : Coll2 T L B w v w1 :=
  ⟨h.1.on hb, h.2.1.trans (hb.mono h.2.2), by have := hb.size; have := h.2.2; omega⟩
theorem Coll2.push {T : TypeId} {p : Plain.Pt} {L : List Plain.Pt} {B : Nat} {w wr w1 : World} {v v' : Value} {o : Obj} (h : Coll2 T L B w v wr)
    (hown : w1.ownsRow B T 2 v' (L.length + 1) (row2 L ++ [.int .i64 p.1, .int .i64 p.2])) (hgrow : (wr.alloc o).grownBy w1 v.ownBlock) : Coll2 T (L ++ [p]) B w v' w1 := by
  obtain ⟨ho, hb, hB⟩ := h
  refine ⟨?_, (hb.alloc hB o).grown hgrow (by simp; omega) (fun j hj => (World.ownsRow.lt ho j hj).1), by have := hgrow.size; simp at this; omega⟩
  unfold PtsRes
  rw [row2_append]
  simpa [row2] using hown
theorem two_new (w : World) (x y : Value) (T : TypeId) : ∀ j u, [x, y][j]? = some u → (w.alloc (.cells #[x, y] T)).cell? ((⟨w.heap.size, 0, none⟩ : Addr).add j) = some u := fun j u h => by
  rw [add_plain, cell_of_row _ _ _ _ _ _ (heap_alloc_new w _), Nat.zero_add]
  simpa using h
end Go.Proofs.Ytpaijobmoddgpaa
