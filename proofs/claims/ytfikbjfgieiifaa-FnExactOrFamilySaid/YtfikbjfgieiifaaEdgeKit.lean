/- Contracts: spec.l3Edge, l3Edges: the edges of a table. Condition: a set from 0 to 63. -/
import Derived.Test.YtfikbjfgieiifaaTabKit
namespace Go.Proofs.Ytfikbjfgieiifaa
open Go.ChangeShapes Go.WideShapes Go.ChangeAt Go.RowKit
set_option linter.unusedVariables false

theorem results_tab2 {fn : Func} {p q : Tmp} {ty : TypeId} (h : fn.results = #[.cell p ty, .tmp q]) (tmps : Array Value) (w : World) (g : Nat) (cs : Array Value)
    (hp : tmps.getD p undef = .pointer (some ⟨g, 0, none⟩)) (hl : (loadVar ty ⟨g, 0, none⟩).run Try.prog w = .ok (.agg cs) w) :
    (results fn tmps).run Try.prog w = .ok (.tuple #[.agg cs, tmps.getD q undef]) w := by
  have hp' : tmps[p]?.getD undef = .pointer (some ⟨g, 0, none⟩) := by simpa using hp
  simp [results, h, hp', asAddr, hl]
theorem tab_load {w : World} {G : Nat} {t : Nat → Bool} (h : Tab w G t) : (loadVar 48 ⟨G, 0, none⟩).run Try.prog w = .ok (.agg (bools t)) w :=
  run_loadVar_row w G 48 48 _ (0, 0) _ h Try.underlying48 rfl info64
set_option maxRecDepth 100000 in
set_option maxHeartbeats 2000000 in
theorem l3Edge_any (t : Nat → Bool) (s : Nat) (v : Bool) (w : World) (hs : s < 64) :
    Calls Try.prog 57 #[.agg (bools t), .int .i64 (s : Int), .bool v] w (Val (.bool (Plain.edgeB t v s)) w) := by
  have HT := Lib.hid (tab_new w t)
  have HB := Lib.hid ((Below.refl w.heap.size w).alloc (Nat.le_refl _) (.cells (bools t) 48))
  go_enter Try.func57, Try.ntmps57
  go_wp2_with fail
  go_loop [7] (fun i => ∃ n : Nat, n ≤ 6 ∧ i = .int .i64 n ∧ Plain.edgeTo t v s n = true) (fun i => 6 - (intOf i).toNat)
  case atStart => exact ⟨0, Nat.zero_le _, rfl, rfl⟩
  case round =>
    obtain ⟨n, hn, rfl, hrel⟩ := hrel
    by_cases hlt : n < 6
    · obtain ⟨q, hq⟩ : ∃ q, q = 2 ^ n := ⟨_, rfl⟩
      have hq32 : q ≤ 32 := by rw [hq]; exact pow_small hlt
      have hpow : (2 : Int) ^ n = (q : Int) := by rw [hq]; simp
      obtain ⟨o, ho⟩ : ∃ o, o = s ^^^ q := ⟨_, rfl⟩
      have ho64 : o < 64 := by rw [ho]; exact Nat.xor_lt_two_pow (n := 6) hs (by omega)
      have hxor : bits .xor .i64 (s : Int) (q : Int) = (o : Int) := by rw [ho]; exact xor_small s q hs (by omega)
      have hH : Plain.hitB t v s n = ((t o == v) && (decide (o < s) == v)) := by rw [Plain.hitB, ho, hq]
      have hc := HT.out.cell ho64
      obtain ⟨c, hcc⟩ : ∃ c, c = t o := ⟨_, rfl⟩
      rw [← hcc] at hc hH
      have HH := Lib.hid hH
      have HR := Lib.hid hrel
      have hi : (n : Int) < 6 := by omega
      have hi0 : (0 : Int) ≤ (n : Int) := by omega
      have ho0 : (0 : Int) ≤ (o : Int) := by omega
      have ho1 : (o : Int) < 64 := by omega
      clear hq ho hH hcc hrel
      by_cases hos : o < s
      · have hos1 : (o : Int) < (s : Int) := by omega
        have hd : decide (o < s) = true := by simpa using hos
        rw [hd] at HH
        clear hd
        cases c <;> cases v
        all_goals
          go_wp2_with fail
          first
            | (go_round
               case rel => exact ⟨n + 1, by omega, by go_num, by rw [Plain.edgeTo, HR.out, HH.out]; rfl⟩
               case measure => simp [intOf]; omega)
            | (go_ret
               exact ⟨ret_bool (by rw [Plain.edgeB, Plain.edgeTo_no (n := n) (by rw [HH.out]; rfl) 6 hlt]; rfl), HB.out⟩)
      · have hos1 : ¬ (o : Int) < (s : Int) := by omega
        have hd : decide (o < s) = false := by simpa using hos
        rw [hd] at HH
        clear hd
        cases c <;> cases v
        all_goals
          go_wp2_with fail
          first
            | (go_round
               case rel => exact ⟨n + 1, by omega, by go_num, by rw [Plain.edgeTo, HR.out, HH.out]; rfl⟩
               case measure => simp [intOf]; omega)
            | (go_ret
               exact ⟨ret_bool (by rw [Plain.edgeB, Plain.edgeTo_no (n := n) (by rw [HH.out]; rfl) 6 hlt]; rfl), HB.out⟩)
    · obtain rfl : n = 6 := by omega
      have hc := HT.out.cell hs
      have HE : Hid (Plain.edgeB t v s = (t s == v)) := Lib.hid (by rw [Plain.edgeB, hrel]; rfl)
      have hi : (s : Int) < 64 := by omega
      have hi0 : (0 : Int) ≤ (s : Int) := by omega
      clear hrel
      go_wp2_with fail
      go_ret
      exact ⟨ret_bool HE.out.symm, HB.out⟩
set_option maxRecDepth 100000 in
set_option maxHeartbeats 2000000 in
theorem l3Edges_any (t : Nat → Bool) (v : Bool) (w : World) :
    Calls Try.prog 43 #[.agg (bools t), .bool v] w (ListPost (Plain.edges t v) w) := by
  obtain ⟨i0, hi0, hz0, hz1, hz2⟩ := info_parts infoInt
  have HT := Lib.hid (tab_new w t)
  have HB := Lib.hid ((Below.refl w.heap.size w).alloc (Nat.le_refl _) (.cells (bools t) 48))
  have hsz : (w.alloc (.cells (bools t) 48)).heap.size = w.heap.size + 1 := by simp
  have hcs := coll_start (w.alloc (.cells (bools t) 48))
  rw [hsz] at hcs
  have HS := Lib.hid hcs
  clear hcs hsz
  go_enter Try.func43, Try.ntmps43
  go_wp2_with fail
  go_loopw [5, 6] (fun u i wr => ∃ k : Nat, k ≤ 64 ∧ i = .int .i64 k ∧ Coll (Plain.edgesTo t v k) (w.heap.size + 1) (w.alloc (.cells (bools t) 48)) u wr) (fun _ i _ => 64 - (intOf i).toNat)
  case atStart => exact ⟨0, Nat.zero_le _, rfl, HS.out⟩
  case round =>
    obtain ⟨k, hk, rfl, hrel⟩ := hrel
    have hll := Plain.edgesTo_le t v k
    by_cases hlt : k < 64
    · have HK := Lib.hid hrel
      have HT1 := Lib.hid (HT.out.on (by simpa using hrel.2.1))
      obtain ⟨L, hL⟩ : ∃ L, L = Plain.edgesTo t v k := ⟨_, rfl⟩
      rw [← hL] at HK hll
      have HL := Lib.hid hL
      have hi : (k : Int) < 64 := by omega
      have hi0' : (0 : Int) ≤ (k : Int) := by omega
      clear hrel hL
      go_wp2_with (refine wpList_load_row rfl 48 _ rfl w.heap.size rfl 48 (bools t) (0, 0) _ HT1.out Try.underlying48 rfl info64 ?_)
      refine (l3Edge_any t k v _ hlt).mono ?_
      rintro e w1 ⟨rfl, hb⟩
      have HK1 := Lib.hid (HK.out.later hb)
      clear hb HK HT1
      cases he : Plain.edgeB t v k with
      | false =>
        have HN : Hid (Plain.edgesTo t v (k + 1) = L) := Lib.hid (by rw [Plain.edgesTo, he, HL.out]; rfl)
        clear he
        go_wp2_with fail
        go_roundw
        case rel => exact ⟨k + 1, by omega, by go_num, by rw [HN.out]; exact HK1.out⟩
        case measure => simp [intOf]; omega
      | true =>
        have HN : Hid (Plain.edgesTo t v (k + 1) = L ++ [(k : Int)]) := Lib.hid (by rw [Plain.edgesTo, he, HL.out]; rfl)
        clear he
        go_wp2_with (at_builtin; refine wpList_append_own _ rfl _ _ 22 rfl (w.heap.size + 1) 3 i0 (.int .i64 0) 1 8 Try.underlying22 hi0 hz0 hz1 hz2 rfl (by decide) _ _ _ rfl (HK1.out.1.alloc _) ⟨w1.heap.size, 0, none⟩ 1 1 [.int .i64 (k : Int)] rfl rfl ?c1 ?c2 ?c3 ?c4 ?c5 ?_)
        case c1 => exact cell_one_new _ _ _
        case c2 => simp [Value.oneCell']
        case c3 => unfold maxLen; omega
        case c4 => omega
        case c5 => exact Nat.le_trans HK1.out.2.2 (by simp)
        intro v' w2 hown' hgrow _
        have hR := Lib.hid (coll_push (x := (k : Int)) HK1.out hown' hgrow)
        clear hown' hgrow
        go_wp2_with fail
        go_roundw
        case rel => exact ⟨k + 1, by omega, by go_num, by rw [HN.out]; exact hR.out⟩
        case measure => simp [intOf]; omega
    · obtain rfl : k = 64 := by omega
      have HR := Lib.hid (coll_res hrel)
      clear hrel
      go_wp2_with fail
      go_ret
      exact ⟨_, rfl, HR.out.1.mono (by omega), HB.out.trans (HR.out.2.mono (by omega))⟩

end Go.Proofs.Ytfikbjfgieiifaa
