/- Contract: slices.Delete of two points of a trail that lies in a row of the caller's own. Condition: at most 401 points. -/
import Derived.Test.YtpaijobmoddgpaaPathRevs
import Derived.Lib.SliceRun
namespace Go.Proofs.Ytpaijobmoddgpaa
open Go.ChangeShapes Go.WideShapes Go.ChangeAt Go.RowKit
set_option linter.unusedVariables false
set_option linter.unusedSimpArgs false

/-- Appending within the room, as a step of a region that draws its order. -/
theorem step_append_fits {w : World} {ops : Array Oper} {o : Oper} {a : Act} {K : Act → World → Prop} {Q : Exit → Act → World → Prop} {E : Prop} (hgd : o.guard = none) (s x : Operand) (t : TypeId)
    (ho : o.op = .call { callee := .builtin .append, args := #[s, x], argTypes := #[t, t] })
    (base : Nat) (e : TypeId) (i : TypeInfo) (size : Nat) (ht : Try.prog.underlying t = some (.slice e)) (hi : Try.prog.info? e = some i) (hsize : i.size = size)
    (g n cap : Nat) (xs : List Value) (hs : a.eval s = .slice (some ⟨g, 0, none⟩) n cap) (hown : w.ownsRow base e size (.slice (some ⟨g, 0, none⟩) n cap) n xs)
    (ad : Addr) (m c : Nat) (news : List Value) (hx : a.eval x = .slice (some ad) m c) (hl : news.length = m * size) (hnews : ∀ j u, news[j]? = some u → w.cell? (ad.add j) = some u) (h1 : ∀ u ∈ news, u.oneCell' = true) (hroom : n + m ≤ cap) (N : Nat) (hN : n + m = N)
    (h : ∀ w', w'.ownsRow base e size (.slice (some ⟨g, 0, none⟩) N cap) N (xs ++ news) → w.grownBy w' (some g) → K (a.put o.dst (.slice (some ⟨g, 0, none⟩) N cap)) w') : if Region.wanted o (yielded ops a.tmps) = true then Oper.wp Try.prog o a w K Q else E := by
  subst hN
  rw [if_pos (by simp [Region.wanted, hgd])]
  obtain ⟨w', hr, h2, h3⟩ := run_append_fits (P := Try.prog) w base t o.type e i size ht hi hsize g n cap xs hown ad m c news hl hnews h1 hroom
  unfold Oper.wp execOp
  simp only [ho, resolve, invoke, builtin, Sem.run_bind, Sem.run_pure, Result.andThen_ok, List.map_toArray, List.map_cons, List.map_nil, hs, hx, hr]
  exact h w' h2 h3
theorem owns_part {w : World} {B g n cap i : Nat} {T : TypeId} {L : List Plain.Pt} (h : w.ownsRow B T 2 (.slice (some ⟨g, 0, none⟩) n cap) n (row2 L)) (hi : i ≤ n) : w.ownsRow B T 2 (.slice (some ⟨g, 0, none⟩) i cap) i (row2 (L.take i)) := by
  obtain ⟨hl, ⟨e, _⟩ | ⟨g2, cap2, cur, e, hg, hc, hn, hm, hz, ht⟩⟩ := h
  · cases e
  · cases e
    rw [row2_length] at hl
    refine ⟨by rw [row2_length, List.length_take]; omega, .inr ⟨g, cap, cur, rfl, hg, hc, by omega, hm, hz, ?_⟩⟩
    rw [← row2_take, ← ht, List.take_take, Nat.min_eq_left (by omega)]
theorem owns_room {w : World} {B g n cap : Nat} {T : TypeId} {xs : List Value} (h : w.ownsRow B T 2 (.slice (some ⟨g, 0, none⟩) n cap) n xs) : (∀ q, q < cap * 2 → (w.cell? ⟨g, q, none⟩).isSome = true) ∧ (∀ q, w.frozen? ⟨g, q, none⟩ = false) ∧ B ≤ g ∧ n ≤ cap := by
  obtain ⟨hl, ⟨e, _⟩ | ⟨g2, cap2, cur, e, hg, hc, hn, hm, hz, ht⟩⟩ := h
  · cases e
  · cases e
    refine ⟨fun q hq => ?_, fun q => frozen_of_row w g q _ _ hc, hg, hn⟩
    rw [cell_of_row w g q _ _ _ hc, Array.getElem?_eq_getElem (by omega)]
    rfl
theorem owns_past {w : World} {B g n cap q : Nat} {T : TypeId} {xs : List Value} (h : w.ownsRow B T 2 (.slice (some ⟨g, 0, none⟩) n cap) n xs) (hq : n * 2 ≤ q) (u : Value) : (w.setCell ⟨g, q, none⟩ u).ownsRow B T 2 (.slice (some ⟨g, 0, none⟩) n cap) n xs := by
  have h1 := (World.ownsRow.stored h q u).1
  rwa [List.set_eq_of_length_le (by rw [h.1]; exact hq)] at h1
/-- A list without two of its points. -/
def cutTwo (L : List Plain.Pt) (k : Nat) : List Plain.Pt := L.take (k + 1) ++ L.drop (k + 3)
theorem cutTwo_length {L : List Plain.Pt} {k n : Nat} (hn : L.length = n) (hk : k + 3 ≤ n) : (cutTwo L k).length = n - 2 := by
  unfold cutTwo
  rw [List.length_append, List.length_take, List.length_drop]
  omega
theorem coll2_cut {T : TypeId} {L : List Plain.Pt} {B g n cap k : Nat} {w0 w w1 : World} (h : Coll2 T L B w0 (.slice (some ⟨g, 0, none⟩) n cap) w) (hn : L.length = n) (hk : k + 3 ≤ n)
    (hown : w1.ownsRow B T 2 (.slice (some ⟨g, 0, none⟩) (n - 2) cap) (n - 2) (row2 (L.take (k + 1)) ++ row2 (L.drop (k + 3)))) (hg : w.grownBy w1 (some g)) :
    Coll2 T (cutTwo L k) B w0 (.slice (some ⟨g, 0, none⟩) (n - 2) cap) ((((w1.setCell ⟨g, (n - 2) * 2, none⟩ (.int .i64 0)).setCell ⟨g, (n - 2) * 2 + 1, none⟩ (.int .i64 0)).setCell ⟨g, (n - 2) * 2 + 1 + 1, none⟩ (.int .i64 0)).setCell ⟨g, (n - 2) * 2 + 1 + 1 + 1, none⟩ (.int .i64 0)) := by
  obtain ⟨ho, hb, hB⟩ := h
  have hgB := (owns_room hown).2.2.1
  have h1 := owns_past (owns_past (owns_past (owns_past hown (Nat.le_refl _) (.int .i64 0)) (show (n - 2) * 2 ≤ (n - 2) * 2 + 1 by omega) (.int .i64 0)) (show (n - 2) * 2 ≤ (n - 2) * 2 + 1 + 1 by omega) (.int .i64 0)) (show (n - 2) * 2 ≤ (n - 2) * 2 + 1 + 1 + 1 by omega) (.int .i64 0)
  have hb1 : Below B w0 w1 := hb.grown hg hB (fun j hj => by cases hj; exact hgB)
  refine ⟨?_, (((hb1.setCell hgB _).setCell hgB _).setCell hgB _).setCell hgB _, by have := hg.size; simp; omega⟩
  unfold PtsRes
  rw [cutTwo_length hn hk]
  unfold cutTwo
  rw [row2_append]
  exact h1
theorem run_clear_two (w : World) (t T ty : TypeId) (ht : Try.prog.underlying t = some (.slice T)) (hv : ∀ w, (zeroValue T).run Try.prog w = .ok (.agg #[.int .i64 0, .int .i64 0]) w) (g o c : Nat)
    (hc : ∀ j, j < 4 → (w.cell? ⟨g, o + j, none⟩).isSome = true) (hf : ∀ j, w.frozen? ⟨g, j, none⟩ = false) :
    (Builtin.clear_ #[t] ty #[.slice (some ⟨g, o, none⟩) 2 c]).run Try.prog w = .ok (.tuple #[]) ((((w.setCell ⟨g, o, none⟩ (.int .i64 0)).setCell ⟨g, o + 1, none⟩ (.int .i64 0)).setCell ⟨g, o + 1 + 1, none⟩ (.int .i64 0)).setCell ⟨g, o + 1 + 1 + 1, none⟩ (.int .i64 0)) := by
  have hzc : (Builtin.zeroCells (Value.agg #[.int .i64 0, .int .i64 0]).cells 2).toList = [.int .i64 0, .int .i64 0, .int .i64 0, .int .i64 0] := by
    unfold Builtin.zeroCells
    simp [Value.cells, List.range_succ]
  have hst := run_storeCells_cells (P := Try.prog) g o [.int .i64 0, .int .i64 0, .int .i64 0, .int .i64 0] 0 w (by simpa using hc) (fun j _ => hf _) (by intro v hv'; simp at hv'; rw [hv']; rfl)
  simp only [Nat.add_zero] at hst
  simp [Builtin.clear_, run_underlying ht, hv, hzc, hst, Result.andThen]
  rfl
set_option maxRecDepth 100000 in
set_option maxHeartbeats 4000000 in
theorem delete10_any (B g cap r k : Nat) (L : List Plain.Pt) (w0 w : World) (hn : L.length = r + 2) (hl : r ≤ 399) (hk : k + 3 ≤ r + 2) (h : Hid (Coll2 63 L B w0 (.slice (some ⟨g, 0, none⟩) (r + 2) cap) w)) :
    Calls Try.prog 97 #[.slice (some ⟨g, 0, none⟩) (r + 2) cap, .int .i64 ((k : Int) + 1), .int .i64 ((k : Int) + 3)] w fun e w' => e = .returned (.slice (some ⟨g, 0, none⟩) r cap) ∧ Coll2 63 (cutTwo L k) B w0 (.slice (some ⟨g, 0, none⟩) r cap) w' := by
  obtain ⟨i0, hi0, hz0, hz1, hz2⟩ := info_parts infoPtP2
  have HN := Lib.hid hn
  have hO : w.ownsRow B 63 2 (.slice (some ⟨g, 0, none⟩) (r + 2) cap) (r + 2) (row2 L) := by have := h.out.1; unfold PtsRes at this; rw [hn] at this; exact this
  have HO := Lib.hid hO
  have hcap := (owns_room hO).2.2.2
  have hcm : cap ≤ 9223372036854775807 := by
    obtain ⟨a, c, e, -, -, -, hm⟩ := h.out.1.form
    simp only [Value.slice.injEq] at e
    obtain ⟨-, -, rfl⟩ := e
    unfold maxLen at hm; exact hm
  have HP1 := Lib.hid (owns_part hO (show k + 1 ≤ r + 2 by omega))
  have hpt : Pts w (some ⟨g, 0, none⟩) L := by
    obtain ⟨a, c, e, hp, -⟩ := h.out.1.form
    simp only [Value.slice.injEq] at e
    obtain ⟨rfl, -, -⟩ := e
    exact hp
  have hpd : Pts w (some ⟨g, (k + 3) * 2, none⟩) (L.drop (k + 3)) := fun j p hj => by
    rw [List.getElem?_drop] at hj
    obtain ⟨c1, c2⟩ := hpt.cells hj
    rw [Nat.zero_add] at c1 c2
    refine ⟨g, (k + 3) * 2, rfl, ?_, ?_⟩
    · rw [show (k + 3) * 2 + j * 2 = (k + 3 + j) * 2 by omega]; exact c1
    · rw [show (k + 3) * 2 + j * 2 = (k + 3 + j) * 2 by omega]; exact c2
  have HPD := Lib.hid hpd
  have HDL : Hid ((row2 (L.drop (k + 3))).length = (r + 2 - (k + 3)) * 2) := Lib.hid (by rw [row2_length, List.length_drop, hn])
  clear hn hO hpt hpd
  have hj0 : (0 : Int) ≤ (k : Int) := by omega
  have hj1 : (k : Int) + 1 ≤ (k : Int) + 3 := by omega
  have hj2 : (k : Int) + 3 ≤ (r : Int) + 2 := by omega
  have hj3 : (r : Int) + 2 ≤ (cap : Int) := by omega
  have hj4 : (k : Int) + 1 ≤ (cap : Int) := by omega
  have hj5 : ((k : Int) + 1).toNat = k + 1 := by omega
  have hj6 : ((k : Int) + 3).toNat = k + 3 := by omega
  have hj7 : ((k : Int) + 1 == (k : Int) + 3) = false := by simp
  have hj8 : (0 : Int) ≤ (k : Int) + 1 := by omega
  have hj9 : (0 : Int) ≤ (k : Int) + 3 := by omega
  have hj10 : ¬ (cap = k + 1) := by omega
  have hj11 : ¬ (cap = r) := by omega
  by_cases hck : cap = k + 3
  · obtain rfl : r = k + 1 := by omega
    obtain rfl : cap = k + 3 := hck
    have hja : (k : Int) + 3 ≤ (k : Int) + 1 + 2 := by omega
    have hjb : (k : Int) + 1 + 2 ≤ (k : Int) + 3 := by omega
    have HDL0 : Hid ((row2 (L.drop (k + 3))).length = 0 * 2) := Lib.hid (by have := HDL.out; omega)
    have HNS : Hid (∀ j u, (row2 (L.drop (k + 3)))[j]? = some u → w.drew.cell? ((⟨g, 0, none⟩ : Addr).add j) = some u) := Lib.hid (fun j u hj => by rw [List.getElem?_eq_none (by have := HDL0.out; omega)] at hj; cases hj)
    go_enter Try.func97, Try.ntmps97
    go_upto_region 5 with fail
    go_region_law ((refine step_append_fits rfl (.tmp 22) (.tmp 25) 59 rfl B 63 i0 2 Try.underlying59 hi0 hz1 g (k + 1) (k + 3) (row2 (L.take (k + 1))) (by first | rfl | (simp [Act.eval, go_sem]; done) | go_simp) HP1.out ⟨g, 0, none⟩ 0 0 (row2 (L.drop (k + 3))) (by first | rfl | (simp [Act.eval, go_sem]; done) | go_simp) HDL0.out HNS.out (row2_one _) (by omega) (k + 1) (by omega) ?_; intro w1 hown hgrow; have HOW := Lib.hid hown; have HGR := Lib.hid hgrow; clear hown hgrow))
    all_goals
      have HR := Lib.hid (coll2_cut (n := k + 1 + 2) (h.out.drewN 1) HN.out hk HOW.out HGR.out)
      obtain ⟨hroom, hfz, -, -⟩ := owns_room HOW.out
      have hcl : ∀ c ty, (Builtin.clear_ #[59] ty #[.slice (some ⟨g, (k + 1) * 2, none⟩) 2 c]).run Try.prog w1 = .ok (.tuple #[]) ((((w1.setCell ⟨g, (k + 1) * 2, none⟩ (.int .i64 0)).setCell ⟨g, (k + 1) * 2 + 1, none⟩ (.int .i64 0)).setCell ⟨g, (k + 1) * 2 + 1 + 1, none⟩ (.int .i64 0)).setCell ⟨g, (k + 1) * 2 + 1 + 1 + 1, none⟩ (.int .i64 0)) := fun c ty => run_clear_two w1 _ 63 ty Try.underlying59 Try.zeroValue63 g _ _ (fun j hj => hroom _ (by omega)) hfz
      clear hroom hfz
      go_wp2_with fail
      go_ret
      exact ⟨rfl, HR.out⟩
  · have hck2 : ¬ (cap = k + 3) := hck
    have HNS : Hid (∀ j u, (row2 (L.drop (k + 3)))[j]? = some u → w.drew.cell? ((⟨g, (k + 3) * 2, none⟩ : Addr).add j) = some u) := Lib.hid (pts_row (HPD.out.drewN 1))
    go_enter Try.func97, Try.ntmps97
    go_upto_region 5 with fail
    go_region_law ((refine step_append_fits rfl (.tmp 22) (.tmp 25) 59 rfl B 63 i0 2 Try.underlying59 hi0 hz1 g (k + 1) cap (row2 (L.take (k + 1))) (by first | rfl | (simp [Act.eval, go_sem]; done) | go_simp) HP1.out ⟨g, (k + 3) * 2, none⟩ (r + 2 - (k + 3)) (cap - (k + 3)) (row2 (L.drop (k + 3))) (by first | rfl | (simp [Act.eval, go_sem]; done) | go_simp) HDL.out HNS.out (row2_one _) (by omega) r (by omega) ?_; intro w1 hown hgrow; have HOW := Lib.hid hown; have HGR := Lib.hid hgrow; clear hown hgrow))
    all_goals
      have HR := Lib.hid (coll2_cut (n := r + 2) (h.out.drewN 1) HN.out hk HOW.out HGR.out)
      obtain ⟨hroom, hfz, -, -⟩ := owns_room HOW.out
      have hcl : ∀ c ty, (Builtin.clear_ #[59] ty #[.slice (some ⟨g, r * 2, none⟩) 2 c]).run Try.prog w1 = .ok (.tuple #[]) ((((w1.setCell ⟨g, r * 2, none⟩ (.int .i64 0)).setCell ⟨g, r * 2 + 1, none⟩ (.int .i64 0)).setCell ⟨g, r * 2 + 1 + 1, none⟩ (.int .i64 0)).setCell ⟨g, r * 2 + 1 + 1 + 1, none⟩ (.int .i64 0)) := fun c ty => run_clear_two w1 _ 63 ty Try.underlying59 Try.zeroValue63 g _ _ (fun j hj => hroom _ (by omega)) hfz
      clear hroom hfz
      go_wp2_with fail
      go_ret
      exact ⟨rfl, HR.out⟩
end Go.Proofs.Ytpaijobmoddgpaa
