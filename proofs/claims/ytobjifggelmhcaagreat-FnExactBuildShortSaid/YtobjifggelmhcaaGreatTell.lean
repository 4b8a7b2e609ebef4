/- Tables of impl's own type in a block; contracts: impl's fallTable.deciders, isLeast, isGreatest. Contracts: impl.setsThat with isLeast and isGreatest of a table. Contract: impl.tableThat with whatever function value tells of each set. No condition but what the function tells. Conditions: a set from 0 to 63. -/
import Derived.Test.YtobjifggelmhcaaGreatTabKit
import Derived.Shelf.Abstract
namespace Go.Proofs.YtobjifggelmhcaaGreat
open Go.ChangeShapes Go.WideShapes Go.ChangeAt Go.RowKit
set_option linter.unusedVariables false

/-- A table in a block of its own. -/
def TabF (w : World) (G : Nat) (t : Nat → Bool) : Prop := w.heap[G]? = some (.cells (bools t) 68 (0, 0))
theorem TabF.lt {w : World} {G : Nat} {t : Nat → Bool} (h : TabF w G t) : G < w.heap.size := (Array.getElem?_eq_some_iff.1 h).1
theorem TabF.on {w w' : World} {G : Nat} {t : Nat → Bool} (h : TabF w G t) (hb : Below w.heap.size w w') : TabF w' G t := (hb.block G h.lt).trans h
theorem TabF.cell {w : World} {G : Nat} {t : Nat → Bool} (h : TabF w G t) {i : Nat} (hi : i < 64) : w.cell? ⟨G, i, none⟩ = some (.bool (t i)) := by
  rw [cell_of_row w G i _ _ _ h]
  exact arr64_at _ hi
theorem TabF.free {w : World} {G : Nat} {t : Nat → Bool} (h : TabF w G t) (i : Nat) : w.frozen? ⟨G, i, none⟩ = false := frozen_of_row w G i _ _ h
theorem TabF.set {w : World} {G k : Nat} {t : Nat → Bool} (h : TabF w G (upTo t k)) (hk : k < 64) : TabF (w.setCell ⟨G, k, none⟩ (.bool (t k))) G (upTo t (k + 1)) := by
  rw [TabF, heap_setCell_same w G k _ _ _ h, bools_set t k hk]
theorem tabF_new (w : World) (t : Nat → Bool) : TabF (w.alloc (.cells (bools t) 68)) w.heap.size t := heap_alloc_new w _
theorem info64f : (Tryz.prog.info? 68).map (·.size) = some 64 := by kernel_rfl
theorem tabF_row {w : World} {G : Nat} {t : Nat → Bool} {cs : Array Value} (h : w.heap[G]? = some (.cells cs 68 (0, 0))) : TabF (w.setRow G (bools t)) G t := setRow_heap w G _ _ _ _ h
theorem TabF.other {w : World} {G H : Nat} {t : Nat → Bool} {cs : Array Value} (h : TabF w G t) (hne : G ≠ H) : TabF (w.setRow H cs) G t := (setRow_other w H G cs hne).trans h
theorem TabF.off {w : World} {G H i : Nat} {t : Nat → Bool} {v : Value} (h : TabF w G t) (hne : G ≠ H) : TabF (w.setCell ⟨H, i, none⟩ v) G t := (heap_setCell_other w ⟨H, i, none⟩ G v hne).trans h
/-- A table's variable and the result's, both in new blocks. -/
def Two64F (w wr : World) (t u : Nat → Bool) : Prop := TabF wr (w.heap.size + 1) t ∧ TabF wr w.heap.size u ∧ Below w.heap.size w wr
theorem two64F_start (w : World) : Two64F w (((w.alloc (.cells (bools fun _ => false) 68)).alloc (.cells (bools fun _ => false) 68)).setRow (w.heap.size + 1) (bools fun _ => false)) (fun _ => false) (fun _ => false) := by
  have hb : Below w.heap.size w ((w.alloc (.cells (bools fun _ => false) 68)).alloc (.cells (bools fun _ => false) 68)) := ((Below.refl _ _).alloc (Nat.le_refl _) _).alloc (by simp) _
  have h1 : TabF ((w.alloc (.cells (bools fun _ => false) 68)).alloc (.cells (bools fun _ => false) 68)) (w.heap.size + 1) (fun _ => false) := heap_alloc2_new _ _ _
  have h2 : TabF ((w.alloc (.cells (bools fun _ => false) 68)).alloc (.cells (bools fun _ => false) 68)) w.heap.size (fun _ => false) := heap_alloc2_old _ _ _
  exact ⟨tabF_row h1, h2.other (by omega), below_setRow hb (by omega) _⟩
theorem Two64F.later {w wr w1 : World} {t u : Nat → Bool} (h : Two64F w wr t u) (hb : Below wr.heap.size wr w1) : Two64F w w1 t u := ⟨h.1.on hb, h.2.1.on hb, h.2.2.trans (hb.mono h.2.2.size)⟩
theorem Two64F.set {w wr : World} {t u : Nat → Bool} {k : Nat} (h : Two64F w wr (upTo t k) u) (hk : k < 64) : Two64F w (wr.setCell ⟨w.heap.size + 1, k, none⟩ (.bool (t k))) (upTo t (k + 1)) u :=
  ⟨h.1.set hk, h.2.1.off (by omega), h.2.2.setCell (p := ⟨w.heap.size + 1, k, none⟩) (by simp) _⟩
theorem tabF_load {w : World} {G : Nat} {t : Nat → Bool} (h : TabF w G t) : (loadVar 68 ⟨G, 0, none⟩).run Tryz.prog w = .ok (.agg (bools t)) w :=
  run_loadVar_row w G 68 68 _ (0, 0) _ h Tryz.underlying68 rfl info64f
/-- A table in a new block. -/
theorem tabF_box (w : World) (t : Nat → Bool) : TabF (w.alloc (.cells (bools t) 68)) w.heap.size t ∧ Below w.heap.size w (w.alloc (.cells (bools t) 68)) :=
  ⟨tabF_new w t, (Below.refl _ _).alloc (Nat.le_refl _) _⟩
set_option maxRecDepth 100000 in
set_option maxHeartbeats 800000 in
theorem deciders_any (t : Nat → Bool) (s : Nat) (w : World) (hs : s < 64) :
    Calls Tryz.prog 86 #[.agg (bools t), .int .i64 (s : Int)] w (Val (.int .i64 (Plain.decN t s : Nat)) w) := by
  have HT := Lib.hid (tabF_box w t)
  go_enter Tryz.func86, Tryz.ntmps86
  go_wp2_with fail
  obtain ⟨W, hW⟩ : ∃ W, W = w.alloc (.cells (bools t) 68) := ⟨_, rfl⟩
  rw [← hW] at HT ⊢
  clear hW
  go_loop [5, 6] (fun v i => ∃ n : Nat, n ≤ 6 ∧ i = .int .i64 ((n : Int) + 1) ∧ v = .int .i64 (Plain.decTo t s n : Nat)) (fun _ i => 7 - (intOf i).toNat)
  case atStart => exact ⟨0, Nat.zero_le _, rfl, rfl⟩
  case round =>
    obtain ⟨n, hn, rfl, rfl⟩ := hrel
    have hd := Plain.decTo_lt t s n hn
    by_cases hlt : n < 6
    · obtain ⟨q, hq⟩ : ∃ q, q = 2 ^ n := ⟨_, rfl⟩
      have hq32 : q ≤ 32 := by rw [hq]; exact pow_small hlt
      have hpow : (2 : Int) ^ n = (q : Int) := by rw [hq]; simp
      have HP := Lib.hid hpow
      obtain ⟨d, hdd⟩ : ∃ d, d = Plain.decTo t s n := ⟨_, rfl⟩
      rw [← hdd] at hd ⊢
      obtain ⟨o1, ho1⟩ : ∃ o, o = Plain.clr s q := ⟨_, rfl⟩
      obtain ⟨o2, ho2⟩ : ∃ o, o = s ||| q := ⟨_, rfl⟩
      have h1 : o1 < 64 := by rw [ho1]; exact clr_lt q hs
      have h2 : o2 < 64 := by rw [ho2]; exact Nat.or_lt_two_pow (n := 6) hs (by omega)
      have e1 : bits .andNot .i64 (s : Int) (q : Int) = (o1 : Int) := by rw [ho1]; exact clr_small hs (by omega)
      have e2 : bits .or .i64 (s : Int) (q : Int) = (o2 : Int) := by rw [ho2]; exact or_small s q hs (by omega)
      have e3 : bits .or .i64 (d : Int) (q : Int) = ((d ||| q : Nat) : Int) := or_small d q hd (by omega)
      have hD : Plain.decB t s n = (!t o1 && t o2) := by rw [Plain.decB, ho1, ho2, hq]
      have hS : Plain.decTo t s (n + 1) = if (!t o1 && t o2) = true then d ||| q else d := by rw [Plain.decTo, hD, hdd, hq]
      have HS := Lib.hid hS
      have c1 := HT.out.1.cell h1
      have c2 := HT.out.1.cell h2
      have hi : (n : Int) + 1 ≤ 6 := by omega
      have i1 : (o1 : Int) < 64 := by omega
      have i2 : (o2 : Int) < 64 := by omega
      have i3 : (0 : Int) ≤ (o1 : Int) := by omega
      have i4 : (0 : Int) ≤ (o2 : Int) := by omega
      clear hq hpow hdd ho1 ho2 hD hS
      go_wp2_with fail
      refine (nailSet_any n q _ (by omega) HP.out).mono ?_
      rintro e w' ⟨rfl, rfl⟩
      cases hb1 : t o1 with
      | true =>
        rw [hb1] at c1 HS
        have HS2 : Hid (Plain.decTo t s (n + 1) = d) := Lib.hid HS.out
        clear hb1 HS
        go_wp2_with fail
        go_round
        case rel => exact ⟨n + 1, by omega, by go_num, by rw [HS2.out]⟩
        case measure => simp [intOf]; omega
      | false =>
        rw [hb1] at c1 HS
        cases hb2 : t o2 with
        | true =>
          rw [hb2] at c2 HS
          have HS2 : Hid (Plain.decTo t s (n + 1) = d ||| q) := Lib.hid HS.out
          clear hb1 hb2 HS
          go_wp2_with fail
          go_round
          case rel => exact ⟨n + 1, by omega, by go_num, by rw [HS2.out]⟩
          case measure => simp [intOf]; omega
        | false =>
          rw [hb2] at c2 HS
          have HS2 : Hid (Plain.decTo t s (n + 1) = d) := Lib.hid HS.out
          clear hb1 hb2 HS
          go_wp2_with fail
          go_round
          case rel => exact ⟨n + 1, by omega, by go_num, by rw [HS2.out]⟩
          case measure => simp [intOf]; omega
    · obtain rfl : n = 6 := by omega
      go_wp2_with fail
      go_ret
      exact ⟨rfl, HT.out.2⟩
/-- A whole table loaded by an operation whose guard says yes. -/
theorem wpList_load_if {ops : Array Oper} {rest : List Oper} {o : Oper} {a : Act} {w : World} {Q : Exit → Act → World → Prop} (hw : Region.wanted o (yielded ops a.tmps) = true) (x : Operand) (ho : o.op = .load 68 x)
    (g : Nat) (hx : a.eval x = .pointer (some ⟨g, 0, none⟩)) (t : Nat → Bool) (hg : TabF w g t) (h : wpList Tryz.prog ops Q rest (a.put o.dst (.agg (bools t))) w) : wpList Tryz.prog ops Q (o :: rest) a w :=
  BigFrame.wpList_want hw fun _ hK => wp_load_row 68 x ho g hx 68 (bools t) (0, 0) _ hg Tryz.underlying68 rfl info64f (hK _ _ h)
set_option maxRecDepth 100000 in
set_option maxHeartbeats 800000 in
theorem isLeast_any (t : Nat → Bool) (s : Nat) (w : World) (hs : s < 64) :
    Calls Tryz.prog 72 #[.agg (bools t), .int .i64 (s : Int)] w (Val (.bool (Plain.edgeB t true s)) w) := by
  have HT := Lib.hid (tabF_box w t)
  have HE := Lib.hid (Plain.least_edge t hs)
  have c1 := HT.out.1.cell hs
  have i1 : (s : Int) < 64 := by omega
  have i2 : (0 : Int) ≤ (s : Int) := by omega
  go_enter Tryz.func72, Tryz.ntmps72
  cases hb : t s with
  | false =>
    rw [hb] at c1 HE
    have HE2 : Hid (Plain.edgeB t true s = false) := Lib.hid HE.out.symm
    clear hb
    go_wp2_with fail
    go_ret
    exact ⟨ret_bool HE2.out.symm, HT.out.2⟩
  | true =>
    rw [hb] at c1 HE
    have HE2 : Hid (Plain.edgeB t true s = (Plain.decN t s == s)) := Lib.hid HE.out.symm
    clear hb
    go_wp2_with (refine wpList_load_if rfl _ rfl w.heap.size rfl t HT.out.1 ?_)
    refine (deciders_any t s _ hs).mono ?_
    rintro e w1 ⟨rfl, hb⟩
    have HB := Lib.hid (HT.out.2.trans (hb.mono HT.out.2.size))
    clear hb
    by_cases h0 : Plain.decN t s = s
    · have hq : ((Plain.decN t s : Int) == (s : Int)) = true := by simp [h0]
      have HE3 : Hid (Plain.edgeB t true s = true) := Lib.hid (by rw [HE2.out]; simp [h0])
      clear h0
      go_wp2_with fail
      go_ret
      exact ⟨ret_bool HE3.out.symm, HB.out⟩
    · have hq : ((Plain.decN t s : Int) == (s : Int)) = false := by simp; omega
      have HE3 : Hid (Plain.edgeB t true s = false) := Lib.hid (by rw [HE2.out]; simpa using h0)
      clear h0
      go_wp2_with fail
      go_ret
      exact ⟨ret_bool HE3.out.symm, HB.out⟩

end Go.Proofs.YtobjifggelmhcaaGreat

namespace Go.Proofs.YtobjifggelmhcaaGreat
open Go.ChangeShapes Go.WideShapes Go.ChangeAt Go.RowKit
set_option linter.unusedVariables false

set_option maxRecDepth 100000 in
set_option maxHeartbeats 800000 in
theorem setsThat_isLeast (t : Nat → Bool) (w : World) :
    Calls Tryz.prog 71 #[.func (.func 72) #[.agg (bools t)] #[]] w (ListPost (Plain.edges t true) w) := by
  obtain ⟨i0, hi0, hz0, hz1, hz2⟩ := info_parts infoInt
  have HS := Lib.hid (coll_start w)
  go_enter Tryz.func71, Tryz.ntmps71
  go_wp2_with fail
  go_loopw [3, 6] (fun u i wr => ∃ k : Nat, k ≤ 64 ∧ i = .int .i64 k ∧ Coll (Plain.edgesTo t true k) w.heap.size w u wr) (fun _ i _ => 64 - (intOf i).toNat)
  case atStart => exact ⟨0, Nat.zero_le _, rfl, HS.out⟩
  case round =>
    obtain ⟨k, hk, rfl, hrel⟩ := hrel
    have hll := Plain.edgesTo_le t true k
    by_cases hlt : k < 64
    · have HK := Lib.hid hrel
      obtain ⟨L, hL⟩ : ∃ L, L = Plain.edgesTo t true k := ⟨_, rfl⟩
      rw [← hL] at HK hll
      have HL := Lib.hid hL
      have hi : (k : Int) < 64 := by omega
      have hi0' : (0 : Int) ≤ (k : Int) := by omega
      clear hrel hL
      go_wp2_with fail
      refine (isLeast_any t k _ hlt).mono ?_
      rintro e w1 ⟨rfl, hb⟩
      have HK1 := Lib.hid (HK.out.later hb)
      clear hb HK
      cases he : Plain.edgeB t true k with
      | false =>
        have HN : Hid (Plain.edgesTo t true (k + 1) = L) := Lib.hid (by rw [Plain.edgesTo, he, HL.out]; rfl)
        clear he
        go_wp2_with fail
        go_roundw
        case rel => exact ⟨k + 1, by omega, by go_num, by rw [HN.out]; exact HK1.out⟩
        case measure => simp [intOf]; omega
      | true =>
        have HN : Hid (Plain.edgesTo t true (k + 1) = L ++ [(k : Int)]) := Lib.hid (by rw [Plain.edgesTo, he, HL.out]; rfl)
        clear he
        go_wp2_with (at_builtin; refine wpList_append_own _ rfl _ _ 22 rfl w.heap.size 3 i0 (.int .i64 0) 1 8 Tryz.underlying22 hi0 hz0 hz1 hz2 rfl (by decide) _ _ _ rfl (HK1.out.1.alloc _) ⟨w1.heap.size, 0, none⟩ 1 1 [.int .i64 (k : Int)] rfl rfl ?c1 ?c2 ?c3 ?c4 ?c5 ?_)
        case c1 => exact cell_one_new _ _ _
        case c2 => simp [Value.oneCell']
        case c3 => unfold maxLen; omega
        case c4 => omega
        case c5 => exact Nat.le_trans HK1.out.2.2 (by simp)
        intro v' w2 hown' hgrow _
        have hR := Lib.hid (coll_push (x := (k : Int)) HK1.out hown' hgrow)
        clear hown' hgrow
        go_wp2_with fail
        go_roundw
        case rel => exact ⟨k + 1, by omega, by go_num, by rw [HN.out]; exact hR.out⟩
        case measure => simp [intOf]; omega
    · obtain rfl : k = 64 := by omega
      have HR := Lib.hid (coll_res hrel)
      clear hrel
      go_wp2_with fail
      go_ret
      exact ⟨_, rfl, HR.out.1, HR.out.2⟩

end Go.Proofs.YtobjifggelmhcaaGreat

namespace Go.Proofs.YtobjifggelmhcaaGreat
open Go.ChangeShapes Go.WideShapes Go.ChangeAt Go.RowKit
set_option linter.unusedVariables false

/-- What a function value tells of the sets, in every world that leaves alone what lay before. -/
def Tells (g : Nat) (bs cs : Array Value) (t : Nat → Bool) (w : World) : Prop :=
  ∀ (s : Nat) (W : World), s < 64 → Below w.heap.size w W → Calls Tryz.prog g (bs ++ #[.int .i64 (s : Int)] ++ cs) W (Val (.bool (t s)) W)
theorem Tells.on {g : Nat} {bs cs : Array Value} {t : Nat → Bool} {w w' : World} (h : Tells g bs cs t w) (hb : Below w.heap.size w w') : Tells g bs cs t w' :=
  fun s W hs hW => h s W hs (hb.trans (hW.mono hb.size))
set_option maxRecDepth 100000 in
set_option maxHeartbeats 800000 in
theorem tableThat_any (g : Nat) (bs cs : Array Value) (t : Nat → Bool) (w : World) (eg : ∀ args w, (callFunc g args).run Tryz.prog w = .ok (.enter g args) w) (hp : Hid (Tells g bs cs t w)) :
    Calls Tryz.prog 57 #[.func (.func g) bs cs] w (Val (.agg (bools t)) w) := by
  have H0 := Lib.hid (two64F_start w)
  go_enter Tryz.func57, Tryz.ntmps57
  go_wp2_with (refine wpList_store_row rfl 68 _ _ rfl (w.heap.size + 1) (bools fun _ => false) rfl (by rw [bools_zero]; rfl) 68 (bools fun _ => false) (by rw [bools_zero]; exact heap_alloc2_new _ _ _) info64f rfl (bools_one _) ?_)
  rw [← bools_zero]
  obtain ⟨W, hW⟩ : ∃ W, W = (((w.alloc (.cells (bools fun _ => false) 68)).alloc (.cells (bools fun _ => false) 68)).setRow (w.heap.size + 1) (bools fun _ => false)) := ⟨_, rfl⟩
  rw [← hW] at H0 ⊢
  clear hW
  go_loopw [4, 6] (fun _ i wr => ∃ k : Nat, k ≤ 64 ∧ i = .int .i64 k ∧ Two64F w wr (upTo t k) (fun _ => false)) (fun _ i _ => 64 - (intOf i).toNat)
  case atStart => exact ⟨0, Nat.zero_le _, rfl, by rw [upTo_zero]; exact H0.out⟩
  case round =>
    obtain ⟨k, hk, rfl, hrel⟩ := hrel
    by_cases hlt : k < 64
    · have HK := Lib.hid hrel
      have hi : (k : Int) < 64 := by omega
      have hi0 : (0 : Int) ≤ (k : Int) := by omega
      have hcall := hp.out k wr hlt hrel.2.2
      clear hrel
      go_wp2_with fail
      refine hcall.mono ?_
      rintro e w1 ⟨rfl, hb⟩
      have H1 := Lib.hid (HK.out.later hb)
      have hc : w1.cell? ⟨w.heap.size + 1, k, none⟩ = some (.bool (upTo t k k)) := H1.out.1.cell hlt
      have hf : w1.frozen? ⟨w.heap.size + 1, k, none⟩ = false := H1.out.1.free k
      have H2 := Lib.hid (H1.out.set hlt)
      clear hb
      go_wp2_with fail
      go_roundw
      case rel => exact ⟨k + 1, by omega, by go_num, H2.out⟩
      case measure => simp [intOf]; omega
    · obtain rfl : k = 64 := by omega
      have T1 := hrel.1
      have T2 := hrel.2.1
      have HB := Lib.hid hrel.2.2
      rw [TabF, upTo_all] at T1
      have HT := Lib.hid T1
      have HT2 := Lib.hid T2
      have HF := Lib.hid (tabF_row (t := t) T2)
      have HB2 := Lib.hid (below_setRow HB.out (Nat.le_refl _) (bools t))
      clear T1 T2 hrel
      go_wp2_with (first
        | (refine wpList_load_row rfl 68 _ rfl (w.heap.size + 1) rfl 68 (bools t) (0, 0) _ HT.out Tryz.underlying68 rfl info64f ?_)
        | (refine wpList_store_row rfl 68 _ _ rfl w.heap.size (bools t) rfl rfl 68 _ HT2.out info64f rfl (bools_one _) ?_))
      exact bodyPost_ret (v := .agg (bools t)) (results_cell_row rfl _ _ w.heap.size 68 _ (0, 0) _ rfl HF.out Tryz.underlying68 rfl info64f) rfl ⟨rfl, HB2.out⟩

end Go.Proofs.YtobjifggelmhcaaGreat
