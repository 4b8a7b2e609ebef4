/- Contracts: slices.Clone, slices.Reverse of a trail. Condition: at most 401 points. -/
import Derived.Test.YtpaijobmoddgpaaPathChange
import Derived.WalkSpells
namespace Go.Proofs.Ytpaijobmoddgpaa
open Go.ChangeShapes Go.WideShapes Go.ChangeAt Go.RowKit
set_option linter.unusedVariables false
set_option linter.unusedSimpArgs false

theorem row2_get : ∀ {ps : List Plain.Pt} {j : Nat} {u : Value}, (row2 ps)[j]? = some u → ∃ k p, ps[k]? = some p ∧ ((j = k * 2 ∧ u = .int .i64 p.1) ∨ (j = k * 2 + 1 ∧ u = .int .i64 p.2))
  | [], j, u, h => by simp [row2] at h
  | p :: ps, 0, u, h => by
    simp [row2] at h
    exact ⟨0, p, rfl, .inl ⟨rfl, h.symm⟩⟩
  | p :: ps, 1, u, h => by
    simp [row2] at h
    exact ⟨0, p, rfl, .inr ⟨rfl, h.symm⟩⟩
  | p :: ps, j + 2, u, h => by
    simp only [row2, List.getElem?_cons_succ] at h
    obtain ⟨k, q, hq, h1⟩ := row2_get h
    refine ⟨k + 1, q, by simpa using hq, ?_⟩
    rcases h1 with ⟨rfl, h2⟩ | ⟨rfl, h2⟩
    · exact .inl ⟨by omega, h2⟩
    · exact .inr ⟨by omega, h2⟩
theorem pts_row {w : World} {g o : Nat} {ps : List Plain.Pt} (h : Pts w (some ⟨g, o, none⟩) ps) : ∀ j u, (row2 ps)[j]? = some u → w.cell? ((⟨g, o, none⟩ : Addr).add j) = some u := fun j u hj => by
  obtain ⟨k, p, hp, h1⟩ := row2_get hj
  obtain ⟨c1, c2⟩ := h.cells hp
  rw [add_plain]
  rcases h1 with ⟨rfl, rfl⟩ | ⟨rfl, rfl⟩
  · exact c1
  · exact c2
theorem Coll2.more {T : TypeId} {L ps : List Plain.Pt} {B m : Nat} {w wr w1 : World} {v v' : Value} (h : Coll2 T L B w v wr) (hm : ps.length = m)
    (hown : w1.ownsRow B T 2 v' (L.length + m) (row2 L ++ row2 ps)) (hgrow : wr.grownBy w1 v.ownBlock) : Coll2 T (L ++ ps) B w v' w1 := by
  obtain ⟨ho, hb, hB⟩ := h
  subst hm
  refine ⟨?_, hb.grown hgrow hB (fun j hj => (World.ownsRow.lt ho j hj).1), by have := hgrow.size; omega⟩
  unfold PtsRes
  rw [row2_append, List.length_append]
  exact hown
theorem row2_set : ∀ (ps : List Plain.Pt) (k : Nat) (p : Plain.Pt), row2 (ps.set k p) = ((row2 ps).set (k * 2) (.int .i64 p.1)).set (k * 2 + 1) (.int .i64 p.2)
  | [], k, p => by simp [row2]
  | q :: ps, 0, p => by simp [row2]
  | q :: ps, k + 1, p => by
    have e1 : (k + 1) * 2 = k * 2 + 1 + 1 := by omega
    rw [e1]
    simp only [List.set_cons_succ, row2, row2_set ps k p]
theorem Coll2.set {T : TypeId} {L : List Plain.Pt} {B g n cap : Nat} {w wr : World} (h : Coll2 T L B w (.slice (some ⟨g, 0, none⟩) n cap) wr) (hn : L.length = n) (k : Nat) (p : Plain.Pt) :
    Coll2 T (L.set k p) B w (.slice (some ⟨g, 0, none⟩) n cap) ((wr.setCell ⟨g, k * 2, none⟩ (.int .i64 p.1)).setCell ⟨g, k * 2 + 1, none⟩ (.int .i64 p.2)) := by
  obtain ⟨ho, hb, hB⟩ := h
  subst hn
  have hg := (World.ownsRow.lt ho g rfl).1
  have h1 := World.ownsRow.stored ho (k * 2) (.int .i64 p.1)
  have h2 := World.ownsRow.stored h1.1 (k * 2 + 1) (.int .i64 p.2)
  refine ⟨?_, (hb.setCell hg _).setCell hg _, by simpa using hB⟩
  unfold PtsRes
  rw [row2_set, List.length_set]
  exact h2.1
set_option maxRecDepth 100000 in
set_option maxHeartbeats 1600000 in
theorem clone10_any (g cap n : Nat) (ps : List Plain.Pt) (w : World) (hn : ps.length = n + 1) (hl : n ≤ 400) (h : Hid (Pts w (some ⟨g, 0, none⟩) ps)) :
    Calls Try.prog 95 #[.slice (some ⟨g, 0, none⟩) (n + 1) cap] w (MadePost ps w) := by
  obtain ⟨i0, hi0, hz0, hz1, hz2⟩ := info_parts infoPtP2
  have HN := Lib.hid hn
  have HS := Lib.hid (coll2_start 63 w)
  have HPT := Lib.hid (h.out.on ((Below.refl w.heap.size w).alloc (Nat.le_refl _) (.cells #[] 63)))
  have HRL : Hid ((row2 ps).length = (n + 1) * 2) := Lib.hid (by rw [row2_length, hn])
  clear hn
  have hq : ∀ W, (binOp .eql 59 (.slice (some ⟨g, 0, none⟩) (n + 1) cap) (.slice none 0 0)).run Try.prog W = .ok (.bool false) W := fun W => Lib.run_eql_slice_nil W _ _ (some ⟨g, 0, none⟩) _ _ _ _ Try.underlying59
  go_enter Try.func95, Try.ntmps95
  go_wp2_with (at_builtin; refine wpList_append_own _ rfl _ _ 59 rfl w.heap.size 63 i0 (.agg #[.int .i64 0, .int .i64 0]) 2 16 Try.underlying59 hi0 hz0 hz1 hz2 rfl (by decide) _ 0 [] rfl HS.out.1 ⟨g, 0, none⟩ (n + 1) cap (row2 ps) rfl HRL.out (pts_row HPT.out) (row2_one ps) ?c3 ?c4 ?c5 ?_)
  case c3 => unfold maxLen; omega
  case c4 => omega
  case c5 => exact HS.out.2.2
  intro v' w2 hown' hgrow _
  have hR := Lib.hid (Coll2.more (L := []) HS.out HN.out (by simpa [row2] using hown') hgrow)
  clear hown' hgrow
  go_wp2_with fail
  go_ret
  exact ⟨_, rfl, hR.out⟩
end Go.Proofs.Ytpaijobmoddgpaa
