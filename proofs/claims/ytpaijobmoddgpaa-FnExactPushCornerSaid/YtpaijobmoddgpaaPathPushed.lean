/- Contract: impl's trail.pushed: a corner pushed. Condition: a path's points, a corner. -/
import Derived.Test.YtpaijobmoddgpaaPathRevs
import Derived.Test.YtpaijobmoddgpaaPathCorn
namespace Go.Proofs.Ytpaijobmoddgpaa
open Go.ChangeShapes Go.WideShapes Go.ChangeAt Go.RowKit
set_option linter.unusedVariables false
set_option linter.unusedSimpArgs false

namespace Plain
/-- Two steps exchanged. -/
def pushL (l : List UInt8) (i : Nat) : List UInt8 := (l.set i (l.getD (i + 1) 0)).set (i + 1) (l.getD i 0)
theorem pushL_length (l : List UInt8) (i : Nat) : (pushL l i).length = l.length := by simp [pushL]
theorem pushL_get {l : List UInt8} {i k : Nat} {a b : UInt8} (ha : l[i]? = some a) (hb : l[i + 1]? = some b) : (pushL l i)[k]? = if k = i then some b else if k = i + 1 then some a else l[k]? := by
  have hl : i + 1 < l.length := (List.getElem?_eq_some_iff.1 hb).1
  unfold pushL
  have e1 : l.getD (i + 1) 0 = b := by simp [List.getD, hb]
  have e2 : l.getD i 0 = a := by simp [List.getD, ha]
  rw [e1, e2]
  by_cases h2 : k = i + 1
  · subst h2
    rw [List.getElem?_set_self (by rw [List.length_set]; exact hl), if_neg (by omega), if_pos rfl]
  · rw [List.getElem?_set_ne (by omega)]
    by_cases h1 : k = i
    · subst h1
      rw [List.getElem?_set_self (by omega), if_pos rfl]
    · rw [List.getElem?_set_ne (by omega), if_neg h1, if_neg h2]
theorem nextP_comm (p : Pt) (a b : UInt8) : nextP (nextP p a) b = nextP (nextP p b) a := by
  unfold nextP
  simp only [Prod.mk.injEq]
  omega
theorem push_atP {l : List UInt8} {i : Nat} {a b : UInt8} (ha : l[i]? = some a) (hb : l[i + 1]? = some b) : ∀ k, k ≤ l.length → atP (pushL l i) k = if k = i + 1 then nextP (atP l i) b else atP l k
  | 0, _ => by rw [if_neg (by omega)]; rfl
  | k + 1, hk => by
    have hlk : l[k]? = some (l[k]'(by omega)) := List.getElem?_eq_getElem (by omega)
    have ih := push_atP ha hb k (by omega)
    have hg := pushL_get (k := k) ha hb
    by_cases h1 : k = i
    · subst h1
      rw [if_pos rfl] at hg
      rw [atP_step hg, ih, if_neg (by omega), if_pos rfl]
    · by_cases h2 : k = i + 1
      · subst h2
        rw [if_neg (by omega), if_pos rfl] at hg
        rw [atP_step hg, ih, if_pos rfl, if_neg (by omega), atP_step hb, atP_step ha, nextP_comm]
      · rw [if_neg h1, if_neg h2, hlk] at hg
        rw [atP_step hg, ih, if_neg h2, if_neg (by omega), atP_step hlk]
theorem push_pts {l : List UInt8} {i : Nat} {a b : UInt8} (ha : l[i]? = some a) (hb : l[i + 1]? = some b) : pts (pushL l i) = (pts l).set (i + 1) (nextP (atP l i) b) := by
  have hl : i + 1 < l.length := (List.getElem?_eq_some_iff.1 hb).1
  apply List.ext_getElem?
  intro k
  by_cases hk : k ≤ l.length
  · rw [pts_get (by rw [pushL_length]; exact hk), push_atP ha hb k hk]
    by_cases h : k = i + 1
    · subst h
      rw [if_pos rfl, List.getElem?_set_self (by rw [pts_length]; omega)]
    · rw [if_neg h, List.getElem?_set_ne (by omega), pts_get hk]
  · rw [List.getElem?_eq_none (by rw [pts_length, pushL_length]; omega), List.getElem?_eq_none (by rw [List.length_set, pts_length]; omega)]
/-- The point opposite to the middle one. -/
theorem push_pt {l : List UInt8} {i : Nat} {a b : UInt8} (ha : l[i]? = some a) (hb : l[i + 1]? = some b) : nextP (atP l i) b = ((atP l i).1 + (atP l (i + 2)).1 - (atP l (i + 1)).1, (atP l i).2 + (atP l (i + 2)).2 - (atP l (i + 1)).2) := by
  rw [atP_step hb, atP_step ha]
  unfold nextP
  simp only [Prod.mk.injEq]
  omega
end Plain
theorem push_near {l : List UInt8} {i : Nat} {a b : UInt8} (h : Plain.okTo l l.length = true) (ha : l[i]? = some a) (hb : l[i + 1]? = some b) : Near (Plain.pushL l i) ∧ Steps (Plain.pushL l i) := by
  obtain ⟨hn, hs⟩ := ok_near h
  have hl : i + 1 < l.length := (List.getElem?_eq_some_iff.1 hb).1
  refine ⟨fun k hk => ?_, fun c hc => ?_⟩
  · rw [Plain.pushL_length] at hk
    rw [Plain.push_atP ha hb k hk]
    split
    · have h1 := Plain.at_bd h (show i ≤ l.length by omega)
      have h2 := Plain.dx_bd b
      unfold Plain.nextP
      exact ⟨by simp only []; omega, by simp only []; omega, by simp only []; omega, by simp only []; omega⟩
    · exact hn k hk
  · obtain ⟨k, hk, rfl⟩ := List.mem_iff_getElem.1 hc
    have hg := Plain.pushL_get (k := k) ha hb
    rw [List.getElem?_eq_getElem hk] at hg
    split at hg
    · rw [Option.some.inj hg]; exact hs b (List.mem_of_getElem? hb)
    · split at hg
      · rw [Option.some.inj hg]; exact hs a (List.mem_of_getElem? ha)
      · exact hs _ (List.mem_of_getElem? hg.symm)
def ThreePts (T : TypeId) (wr : World) (p q r : Plain.Pt) (u v x : Value) (wx : World) : Prop := ∃ g1 g2 g3, u = .pointer (some ⟨g1, 0, none⟩) ∧ v = .pointer (some ⟨g2, 0, none⟩) ∧ x = .pointer (some ⟨g3, 0, none⟩) ∧ wx.heap[g1]? = some (.cells #[.int .i64 p.1, .int .i64 p.2] T (0, 0)) ∧ wx.heap[g2]? = some (.cells #[.int .i64 q.1, .int .i64 q.2] T (0, 0)) ∧ wx.heap[g3]? = some (.cells #[.int .i64 r.1, .int .i64 r.2] T (0, 0)) ∧ Below wr.heap.size wr wx
theorem three_heap (W : World) (o1 o2 o3 : Obj) : (((W.alloc o1).alloc o2).alloc o3).heap[W.heap.size]? = some o1 ∧ (((W.alloc o1).alloc o2).alloc o3).heap[W.heap.size + 1]? = some o2 ∧ (((W.alloc o1).alloc o2).alloc o3).heap[W.heap.size + 2]? = some o3 := by
  have e : ((W.alloc o1).alloc o2).heap.size = W.heap.size + 2 := by simp
  refine ⟨(heap_alloc_old _ _ (by simp; omega)).trans (two_heap W o1 o2).1, (heap_alloc_old _ _ (by simp)).trans (two_heap W o1 o2).2, ?_⟩
  have := heap_alloc_new ((W.alloc o1).alloc o2) o3
  rw [e] at this
  exact this
theorem three_below (W : World) (o1 o2 o3 : Obj) : Below W.heap.size W ((((W.alloc o1).alloc o2).alloc o3).drew) := ((((Below.refl _ _).alloc (Nat.le_refl _) _).alloc (by simp) _).alloc (by simp; omega) _).drew
set_option maxRecDepth 100000 in
set_option maxHeartbeats 6400000 in
theorem pushed_any (l : List UInt8) (g cap i : Nat) (a b : UInt8) (w : World) (hp : Hid (Plain.pathB l = true)) (ha : Hid (l[i]? = some a)) (hb : Hid (l[i + 1]? = some b)) (h : Hid (Pts w (some ⟨g, 0, none⟩) (Plain.pts l))) (hg : g < w.heap.size) :
    Calls Try.prog 74 #[.slice (some ⟨g, 0, none⟩) (l.length + 1) cap, .int .i64 i] w (MadePost (Plain.pts (Plain.pushL l i)) w) := by
  have hi : i + 1 < l.length := (List.getElem?_eq_some_iff.1 hb.out).1
  obtain ⟨n, hn⟩ : ∃ n, n = l.length := ⟨_, rfl⟩
  have hn4 : n ≤ 400 := by rw [hn]; exact (Plain.path_ok hp.out).1
  have HN := Lib.hid hn
  rw [← hn] at hi ⊢
  have hb1 := Plain.at_bd (Plain.path_ok hp.out).2 (show i ≤ l.length by omega)
  have hb2 := Plain.at_bd (Plain.path_ok hp.out).2 (show i + 1 ≤ l.length by omega)
  have hb3 := Plain.at_bd (Plain.path_ok hp.out).2 (show i + 2 ≤ l.length by omega)
  have hc1 := h.out.cells (Plain.pts_get (show i ≤ l.length by omega))
  have hc2 := h.out.cells (Plain.pts_get (show i + 1 ≤ l.length by omega))
  have hc3 := h.out.cells (Plain.pts_get (show i + 2 ≤ l.length by omega))
  have HPP := Lib.hid (Plain.push_pts ha.out hb.out)
  have HPQ := Lib.hid (Plain.push_pt ha.out hb.out)
  obtain ⟨px, py, hP⟩ : ∃ px py, Plain.atP l i = (px, py) := ⟨_, _, rfl⟩
  obtain ⟨mx, my, hM⟩ : ∃ mx my, Plain.atP l (i + 1) = (mx, my) := ⟨_, _, rfl⟩
  obtain ⟨qx, qy, hQ⟩ : ∃ qx qy, Plain.atP l (i + 2) = (qx, qy) := ⟨_, _, rfl⟩
  rw [hP, Nat.zero_add] at hc1
  rw [hM, Nat.zero_add] at hc2
  rw [hQ, Nat.zero_add] at hc3
  rw [hP] at hb1
  rw [hM] at hb2
  rw [hQ] at hb3
  rw [HPQ.out, hP, hM, hQ] at HPP
  rw [HPP.out]
  obtain ⟨b1, b2, b3, b4⟩ := hb1
  obtain ⟨b5, b6, b7, b8⟩ := hb2
  obtain ⟨b9, b10, b11, b12⟩ := hb3
  simp only [] at hc1 hc2 hc3 b1 b2 b3 b4 b5 b6 b7 b8 b9 b10 b11 b12 ⊢
  have HC1 := Lib.hid hc1
  have HC2 := Lib.hid hc2
  have HC3 := Lib.hid hc3
  obtain ⟨M, hM2⟩ : ∃ M, M = Plain.pts l := ⟨_, rfl⟩
  have HML : Hid (M.length = n + 1) := Lib.hid (by rw [hM2, Plain.pts_length, hn])
  have HMG : Hid (M[i + 1]? = some (mx, my)) := Lib.hid (by rw [hM2, Plain.pts_get (by omega), hM])
  rw [← hM2] at h ⊢
  clear hP hM hQ hc1 hc2 hc3 hn hM2 HPP HPQ
  go_enter Try.func74, Try.ntmps74
  go_wp2_with fail
  refine (clone10_any g cap n M _ HML.out hn4 h).mono ?_
  rintro e W ⟨v, rfl, hC⟩
  obtain ⟨g2, cap2, rfl, -, -⟩ := made_form hC HML.out
  have HC := Lib.hid hC
  clear hC
  go_upto_region 2 with fail
  go_cut [6, 7, 8] from 11 to 24 (fun u v x wx => ThreePts 63 W (px, py) (mx, my) (qx, qy) u v x wx)
  case first =>
    have hgW : g < W.heap.size := Nat.lt_of_lt_of_le hg HC.out.2.1.size
    have hgW1 : g < W.heap.size + 1 := by omega
    have hgW2 : g < W.heap.size + 2 := by omega
    have hgW3 : ¬ (g = W.heap.size) := by omega
    have hgW4 : ¬ (g = W.heap.size + 1) := by omega
    have hgW5 : ¬ (g = W.heap.size + 2) := by omega
    have c1 := cell_later HC.out.2.1 HC1.out.1
    have c2 := cell_later HC.out.2.1 HC1.out.2
    have c3 := cell_later HC.out.2.1 HC2.out.1
    have c4 := cell_later HC.out.2.1 HC2.out.2
    have c5 := cell_later HC.out.2.1 HC3.out.1
    have c6 := cell_later HC.out.2.1 HC3.out.2
    have d1 := cell_later HC.out.2.1.drew HC1.out.1
    have d2 := cell_later HC.out.2.1.drew HC1.out.2
    have d3 := cell_later HC.out.2.1.drew HC2.out.1
    have d4 := cell_later HC.out.2.1.drew HC2.out.2
    have d5 := cell_later HC.out.2.1.drew HC3.out.1
    have d6 := cell_later HC.out.2.1.drew HC3.out.2
    have hj1 : (i : Int) < (n : Int) + 1 := by omega
    have hj2 : (0 : Int) ≤ (i : Int) := by omega
    have hj3 : (0 : Int) ≤ (i : Int) + 2 := by omega
    have hj4 : (i : Int) + 2 < (n : Int) + 1 := by omega
    have hj5 : IntKind.i64.wrap ((i : Int) + 2) = (i : Int) + 2 := Go.IntWalk.i64_in _ (by omega)
    have hj6 : ((i : Int) + 2).toNat = i + 2 := by omega
    have hj7 : (0 : Int) ≤ (i : Int) + 1 := by omega
    have hj8 : (i : Int) + 1 < (n : Int) + 1 := by omega
    have hj9 : IntKind.i64.wrap ((i : Int) + 1) = (i : Int) + 1 := Go.IntWalk.i64_in _ (by omega)
    have hj10 : ((i : Int) + 1).toNat = i + 1 := by omega
    go_region
    all_goals
      go_wp2_with fail
      go_meet
      case rel => first
        | exact ⟨_, _, _, rfl, rfl, rfl, (three_heap W _ _ _).1, (three_heap W _ _ _).2.1, (three_heap W _ _ _).2.2, three_below W _ _ _⟩
        | exact ⟨_, _, _, rfl, rfl, rfl, (three_heap W _ _ _).1, (three_heap W _ _ _).2.2, (three_heap W _ _ _).2.1, three_below W _ _ _⟩
        | exact ⟨_, _, _, rfl, rfl, rfl, (three_heap W _ _ _).2.1, (three_heap W _ _ _).1, (three_heap W _ _ _).2.2, three_below W _ _ _⟩
        | exact ⟨_, _, _, rfl, rfl, rfl, (three_heap W _ _ _).2.1, (three_heap W _ _ _).2.2, (three_heap W _ _ _).1, three_below W _ _ _⟩
        | exact ⟨_, _, _, rfl, rfl, rfl, (three_heap W _ _ _).2.2, (three_heap W _ _ _).1, (three_heap W _ _ _).2.1, three_below W _ _ _⟩
        | exact ⟨_, _, _, rfl, rfl, rfl, (three_heap W _ _ _).2.2, (three_heap W _ _ _).2.1, (three_heap W _ _ _).1, three_below W _ _ _⟩
  case rest =>
    obtain ⟨g3, g4, g5, rfl, rfl, rfl, h1, h2, h3, hbw⟩ := hcut
    have HC4 := Lib.hid (HC.out.later hbw)
    obtain ⟨m1, m2⟩ := PtAt.cells (p := (px, py)) h1
    obtain ⟨m3, m4⟩ := PtAt.cells (p := (mx, my)) h2
    obtain ⟨m5, m6⟩ := PtAt.cells (p := (qx, qy)) h3
    generalize wc = W2 at HC4 m1 m2 m3 m4 m5 m6 ⊢
    obtain ⟨⟨z1, z2⟩, zf⟩ := coll2_cells HC4.out HML.out HMG.out
    have z3 := zf ((i + 1) * 2)
    have z4 := zf ((i + 1) * 2 + 1)
    have HR := Lib.hid (HC4.out.set HML.out (i + 1) (px + qx - mx, py + qy - my))
    clear hbw h1 h2 h3 zf
    go_wp2_with fail
    go_ret
    exact ⟨_, rfl, HR.out⟩
end Go.Proofs.Ytpaijobmoddgpaa
