/- Contract: (*spec.l1Cur).nails and spec.DrawLeftWord hand back a list of at most six numbers, in memory of their own. Condition: the code's bytes lie in memory. -/
import Derived.Test.YtmcbaejgimopmaaGreatBdDrawComm
import Derived.Test.YtmcbaejgimopmaaGreatBdSnd
import Derived.Test.YtmcbaejgimopmaaGreatTurnWalks
namespace Go.Proofs.YtmcbaejgimopmaaGreat
open Go.ChangeShapes Go.WideShapes Go.ChangeAt Go.RowKit
set_option linter.unusedVariables false

/-- The nails that are left, in a row of their own. -/
def Left (N : Nat) (A : List Int) (v va : Value) (wr : World) : Prop := wr.ownsRow N 3 1 va A.length (nums A) ∧ (va.ownBlock = none ∨ va.ownBlock ≠ v.ownBlock)
theorem Left.cur {N B : Nat} {A : List Int} {v va : Value} {wr w1 : World} (h : Left N A v va wr) (hB : B < N) (hg : wr.grownBy w1 (some B)) : Left N A v va w1 := by
  refine ⟨h.1.kept hg ?_, h.2⟩
  cases hv : va.ownBlock with
  | none => exact .inl rfl
  | some g => exact .inr (fun e => by injection e with e; have := (h.1.lt g hv).1; omega)
theorem Left.res {N : Nat} {A : List Int} {v va : Value} {wr : World} (h : Left N A v va wr) : Res N wr va A := owns_ints h.1
theorem pickSeven (B len cap m N : Nat) (a : Option Addr) (W : World) (hN : N = W.heap.size) (h : Hid (Held W B a len cap m)) (hm : m + 1 ≤ 999999) :
    Calls Tryz.prog 34 #[.pointer (some ⟨B, 0, none⟩), .slice (some ⟨N, 0, none⟩) 7 7] (W.alloc (.cells #[.int .i64 3, .int .i64 2, .int .i64 4, .int .i64 1, .int .i64 5, .int .i64 6, .int .i64 0] 3)) fun e W' => ∃ n : Nat, e = .returned (.int .i64 (n : Int)) ∧ n ≤ 6 ∧ Held W' B a len cap (m + 2) ∧ W.grownBy W' (some B) := by
  subst hN
  have k := pickInt B len cap m a [3, 2, 4, 1, 5, 6, 0] W 3 h (by simp) hm (by simp)
  simp only [intVals, List.map_cons, List.map_nil, List.length_cons, List.length_nil] at k
  refine Calls.mono k ?_
  rintro e W1 ⟨j, n, rfl, hn, hH, hg⟩
  have hmem : n ∈ [3, 2, 4, 1, 5, 6, 0] := List.mem_of_getElem? hn
  obtain ⟨u, rfl, hu⟩ : ∃ u : Nat, n = (u : Int) ∧ u ≤ 6 := ⟨n.toNat, by simp at hmem; omega, by simp at hmem; omega⟩
  exact ⟨u, rfl, hu, hH, hg⟩
theorem pickFour (B len cap m N : Nat) (a : Option Addr) (W : World) (hN : N = W.heap.size) (h : Hid (Held W B a len cap m)) (hm : m + 1 ≤ 999999) :
    Calls Tryz.prog 34 #[.pointer (some ⟨B, 0, none⟩), .slice (some ⟨N, 0, none⟩) 4 4] (W.alloc (.cells #[.int .i64 0, .int .i64 7, .int .i64 1, .int .i64 (-1)] 3)) fun e W' => ∃ x : Int, e = .returned (.int .i64 x) ∧ -1000 ≤ x ∧ x ≤ 1000 ∧ Held W' B a len cap (m + 2) ∧ W.grownBy W' (some B) := by
  subst hN
  have k := pickInt B len cap m a [0, 7, 1, -1] W 3 h (by simp) hm (by simp)
  simp only [intVals, List.map_cons, List.map_nil, List.length_cons, List.length_nil] at k
  refine Calls.mono k ?_
  rintro e W1 ⟨j, n, rfl, hn, hH, hg⟩
  have hmem : n ∈ [0, 7, 1, -1] := List.mem_of_getElem? hn
  have hnr : -1000 ≤ n ∧ n ≤ 1000 := by simp at hmem; omega
  exact ⟨n, rfl, hnr.1, hnr.2, hH, hg⟩
set_option maxRecDepth 100000 in
set_option maxHeartbeats 2000000 in
theorem curNails_any (B len cap m : Nat) (a : Option Addr) (w : World) (h : Hid (Held w B a len cap m)) (hm : m ≤ 800000) :
    Calls Tryz.prog 40 #[.pointer (some ⟨B, 0, none⟩)] w (WordPost B a len cap m w) := by
  obtain ⟨i0, hi0, hz0, hz1, hz2⟩ := info_parts infoInt
  obtain ⟨wa, hwa⟩ : ∃ wa, wa = w.alloc (.cells #[.int .i64 1, .int .i64 2, .int .i64 3, .int .i64 4, .int .i64 5, .int .i64 6] 3) := ⟨_, rfl⟩
  have hza : wa.heap.size = w.heap.size + 1 := by rw [hwa]; simp
  have HA : Hid (Held wa B a len cap m) := Lib.hid (by rw [hwa]; exact h.out.alloc _)
  have hBw := h.out.lt
  have D0 := Lib.hid (draw_start HA.out)
  have L0 : Hid (wa.ownsRow w.heap.size 3 1 (.slice (some ⟨w.heap.size, 0, none⟩) 6 6) 6 (nums [1, 2, 3, 4, 5, 6])) := Lib.hid (by
    rw [hwa]
    exact ⟨by simp [nums], .inr ⟨w.heap.size, 6, _, rfl, Nat.le_refl _, heap_alloc_new w _, Nat.le_refl _, by unfold maxLen; decide, rfl, rfl⟩⟩)
  rw [hza] at D0
  have L1 : Hid (Left w.heap.size [1, 2, 3, 4, 5, 6] (.slice (some ⟨w.heap.size + 1, 0, none⟩) 0 0) (.slice (some ⟨w.heap.size, 0, none⟩) 6 6) (wa.alloc (.cells #[] 3))) := Lib.hid ⟨L0.out.alloc _, .inr (by simp [Value.ownBlock])⟩
  have HG0 : Hid (w.grownBy wa (some B)) := Lib.hid (by rw [hwa]; exact World.grownBy_alloc w _ _)
  rw [hwa] at D0 L1
  have HWA := Lib.hid hwa
  clear hwa L0 HA
  go_enter Tryz.func40, Tryz.ntmps40
  go_wp2_with fail
  rw [HWA.out] at hza
  have HD0 : Hid (Draw [] B a len cap m wa (.slice (some ⟨w.heap.size + 1, 0, none⟩) 0 0) ((w.alloc (.cells #[.int .i64 1, .int .i64 2, .int .i64 3, .int .i64 4, .int .i64 5, .int .i64 6] 3)).alloc (.cells #[] 3))) := Lib.hid (by rw [HWA.out]; exact D0.out)
  have hzb : w.heap.size + 1 + 1 = ((w.alloc (.cells #[.int .i64 1, .int .i64 2, .int .i64 3, .int .i64 4, .int .i64 5, .int .i64 6] 3)).alloc (.cells #[] 3)).heap.size := by simp
  have HZA : Hid (wa.heap.size = w.heap.size + 1) := Lib.hid (by rw [HWA.out]; simp)
  clear D0 HWA hza
  generalize (w.alloc (.cells #[.int .i64 1, .int .i64 2, .int .i64 3, .int .i64 4, .int .i64 5, .int .i64 6] 3)).alloc (.cells #[] 3) = w1 at HD0 L1 hzb ⊢
  refine (pickSeven B len cap m _ a w1 hzb (Lib.hid HD0.out.2.2.2.1) (by omega)).mono ?_
  rintro e w2 ⟨n0, rfl, hn0, hH, hg⟩
  have D2 := Lib.hid (HD0.out.cur hH hg)
  have L2 := Lib.hid (L1.out.cur hBw hg)
  clear hH hg HD0 L1 hzb
  go_wp2_with fail
  go_loopw [3, 4, 5] (fun va v i wr => ∃ (n : Nat) (L A : List Int) (m' : Nat), n ≤ 6 ∧ i = .int .i64 (n : Int) ∧ n ≤ A.length ∧ A.length + L.length = 6 ∧ m' + 4 * n ≤ m + 100 ∧ In64 L ∧ In64 A ∧ Draw L B a len cap m' wa v wr ∧ Left w.heap.size A v va wr) (fun _ _ i _ => (intOf i).toNat)
  case atStart => exact ⟨n0, [], [1, 2, 3, 4, 5, 6], _, hn0, rfl, by simpa using hn0, rfl, by omega, fun j x hj => by simp at hj, letters_in64 (fun x hx => by simp at hx; omega), D2.out, L2.out⟩
  case round =>
    obtain ⟨n, L, A, m', hn, rfl, hnA, hAL, hm', hL64, hA64, hD, hLe⟩ := hrel
    have D3 := Lib.hid hD
    have L3 := Lib.hid hLe
    have HL64 := Lib.hid hL64
    have HA64 := Lib.hid hA64
    obtain ⟨aa, ca, rfl, hI, -, hC⟩ := hLe.res
    have HIA := Lib.hid hI
    have HCA := Lib.hid hC
    clear hD hLe hL64 hA64 D2 L2 hI hC
    by_cases hpos : 0 < n
    · have hpos' : (0 : Int) < (n : Int) := by omega
      obtain ⟨x0, hx0⟩ := at_some A 0 (by omega)
      obtain ⟨ba, oa, rfl, -⟩ := HIA.out 0 x0 hx0
      clear hx0
      go_wp2_with fail
      refine (pick_any B len cap _ A.length a _ (Lib.hid D3.out.2.2.2.1) (by omega) (by omega)).mono ?_
      rintro e w3 ⟨k, rfl, hk, hH, hg⟩
      have D4 := Lib.hid (D3.out.cur hH hg)
      have L4 := Lib.hid (L3.out.cur hBw hg)
      have hk2 : k < A.length := by omega
      obtain ⟨aa', ca', e', hI, -, hC⟩ := L4.out.res
      cases e'
      have HIB := Lib.hid hI
      clear hH hg D3 L3 hk hI hC HIA
      obtain ⟨x, hx⟩ := at_some A k hk2
      obtain ⟨b', o', e', hc⟩ := HIB.out k x hx
      cases e'
      have hx64 := Lib.hid (HA64.out k x hx)
      have hki : (k : Int) < (A.length : Int) := by omega
      clear hx
      have hza := HZA.out
      go_wp2_with (at_builtin; refine wpList_append_own _ rfl _ _ 24 rfl wa.heap.size 3 i0 (.int .i64 0) 1 8 Tryz.underlying24 hi0 hz0 hz1 hz2 rfl (by decide) _ _ _ rfl (D4.out.1.alloc _) ⟨_, 0, none⟩ 1 1 [.int .i64 x] rfl rfl ?c1 ?c2 ?c3 ?c4 ?c5 ?_)
      case c1 => exact cell_one_new _ _ _
      case c2 => simp [Value.oneCell']
      case c3 => unfold maxLen; omega
      case c4 => omega
      case c5 => exact Nat.le_trans D4.out.2.1.size (by simp)
      intro v5 w5 hown' hgrow _
      have D5 := Lib.hid (D4.out.push (x := x) (by rw [hza]; exact hown') hgrow)
      have L5 := Lib.hid (owns_ints ((L4.out.1.alloc _).kept hgrow L4.out.2))
      clear hown' hgrow D4 L4 HIB hc
      obtain ⟨aa', ca', e', hI, -, hC⟩ := L5.out
      cases e'
      have I5 := Lib.hid (hI.upto k)
      have J5 := Lib.hid (hI.from (k + 1))
      have K5 := Lib.hid (cap_upto hC (k := k) (by omega))
      have M5 := Lib.hid (cap_from hC (k := k + 1) (by omega))
      have lt5 := Lib.hid (show (A.take k).length = k by simp; omega)
      have ld5 := Lib.hid (show (A.drop (k + 1)).length = A.length - (k + 1) by simp)
      have hca := hC.1
      clear hI hC L5
      have hk0 : (0 : Int) ≤ (k : Int) := by omega
      have hk1 : (k : Int) ≤ (ca : Int) := by omega
      have hk3 : (k : Int) + 1 ≤ (A.length : Int) := by omega
      have hk4 : (0 : Int) ≤ (k : Int) + 1 := by omega
      have hk6 : IntKind.i64.wrap ((k : Int) + 1) = (k : Int) + 1 := IntWalk.i64_in _ (by omega)
      have hk5 : (A.length : Int) ≤ (ca : Int) := by omega
      have hl6 : (A.take k ++ A.drop (k + 1)).length + 1 = A.length := by simp; omega
      have h66 : In64 (A.take k ++ A.drop (k + 1)) := fun j y hy => by
        rcases List.mem_append.1 (List.mem_of_getElem? hy) with hm | hm
        · obtain ⟨i, hi⟩ := List.getElem?_of_mem (List.mem_of_mem_take hm)
          exact HA64.out i y hi
        · obtain ⟨i, hi⟩ := List.getElem?_of_mem (List.mem_of_mem_drop hm)
          exact HA64.out i y hi
      have hdone : ∀ v' w6, Coll (A.take k ++ A.drop (k + 1)) w5.heap.size w5 v' w6 → Draw (L ++ [x]) B a len cap (m' + 2) wa v5 w6 ∧ Left w.heap.size (A.take k ++ A.drop (k + 1)) v5 v' w6 := by
        intro v' w6 hc
        refine ⟨D5.out.later hc.2.1, hc.1.mono (by have := D5.out.2.1.size; omega), ?_⟩
        cases hv : v'.ownBlock with
        | none => exact .inl rfl
        | some g => exact .inr (fun e => by have h1 := (hc.1.lt g hv).1; have h2 := (D5.out.1.lt g e.symm).2; omega)
      have HK := Lib.hid hdone
      have H66 := Lib.hid h66
      clear hdone h66
      go_wp2
      have hrest : Hid (k + 1 = ca → Ints w5 (some ⟨ba, oa, none⟩) (A.drop (k + 1)) ∧ Cap (some ⟨ba, oa, none⟩) 0 0 ∧ (A.drop (k + 1)).length = 0) := Lib.hid (fun e => by
        rw [List.drop_eq_nil_of_le (by omega)]
        exact ⟨Ints.nil _ _, ⟨by omega, by omega, fun h => (by cases h), fun x h => ⟨ba, oa, by cases h; rfl⟩⟩, rfl⟩)
      by_cases he : k + 1 = ca
      · subst he
        have hk7 : (k : Int) ≤ (k : Int) + 1 := by omega
        have J7 := Lib.hid (hrest.out rfl).1
        have M7 := Lib.hid (hrest.out rfl).2.1
        have ld7 := Lib.hid (hrest.out rfl).2.2
        go_region_law (first
          | (refine step_append_ints rfl (.tmp 30) (.tmp 34) 24 i0 rfl Tryz.underlying24 hi0 hz0 hz1 hz2 w5.heap.size v1 k (A.take k) (by simp [Act.eval]) (by have := HC.out.1; rwa [lt5.out] at this) (some ⟨ba, oa, none⟩) 0 0 (A.drop (k + 1)) (by simp [Act.eval]) ld7.out (J6.out) M7.out (by omega) HC.out.2.2 ?_; intro v' w6 hown hgrow hnil; have HR := Lib.hid (HK.out _ _ (coll_more HC.out ld7.out (by rw [lt5.out]; exact hown) hgrow)); clear hown hgrow hnil)
          | (go_simp; go_at_call 65; refine (l1Own_at _ _ _ (A.take k) w5.drew lt5.out I5 K5 (by omega)).mono ?_; rintro e w1 ⟨v1, rfl, hC, hv1⟩; have HC := Lib.hid hC.undrew; have J6 := Lib.hid (J7.out.on HC.out.2.1); clear hC hv1))
        all_goals
          go_wp2_with fail
          go_roundw
          case rel => exact ⟨n - 1, _, _, _, by omega, by go_num, by omega, by simp at hl6 ⊢; omega, by omega, HL64.out.app (by have := hx64.out; omega) (by have := hx64.out; omega), H66.out, HR.out.1, HR.out.2⟩
          case measure => simp [intOf]; omega
      · have hne : ¬ (ca = k) := by omega
        have he' : ¬ (ca = k + 1) := fun e => he e.symm
        go_region_law (first
          | (refine step_append_ints rfl (.tmp 30) (.tmp 34) 24 i0 rfl Tryz.underlying24 hi0 hz0 hz1 hz2 w5.heap.size v1 k (A.take k) (by simp [Act.eval]) (by have := HC.out.1; rwa [lt5.out] at this) (some ⟨ba, oa + (k + 1), none⟩) (A.length - (k + 1)) (ca - (k + 1)) (A.drop (k + 1)) (by simp [Act.eval]) ld5.out (J6.out) M5.out (by omega) HC.out.2.2 ?_; intro v' w6 hown hgrow hnil; have HR := Lib.hid (HK.out _ _ (coll_more HC.out ld5.out (by rw [lt5.out]; exact hown) hgrow)); clear hown hgrow hnil)
          | (go_simp; go_at_call 65; refine (l1Own_at _ _ _ (A.take k) w5.drew lt5.out I5 K5 (by omega)).mono ?_; rintro e w1 ⟨v1, rfl, hC, hv1⟩; have HC := Lib.hid hC.undrew; have J6 := Lib.hid (J5.out.on HC.out.2.1); clear hC hv1))
        all_goals
          go_wp2_with fail
          go_roundw
          case rel => exact ⟨n - 1, _, _, _, by omega, by go_num, by omega, by simp at hl6 ⊢; omega, by omega, HL64.out.app (by have := hx64.out; omega) (by have := hx64.out; omega), H66.out, HR.out.1, HR.out.2⟩
          case measure => simp [intOf]; omega
    · obtain rfl : n = 0 := by omega
      obtain ⟨av, cv, rfl, hIv, hOv, hCv⟩ := D3.out.res
      have HIV := Lib.hid hIv
      have HOV := Lib.hid hOv
      clear hIv hOv hCv
      have hg0 : Hid (∀ W' : World, wa.grownBy W' (some B) → w.grownBy W' (some B)) := Lib.hid (fun W' h => HG0.out.trans h)
      have hlast : Hid (∀ L2 m2 v2 w2, In64 L2 → L2.length ≤ 6 → m2 ≤ m + 200 → Draw L2 B a len cap m2 wa v2 w2 → WordPost B a len cap m w (.returned v2) w2) := Lib.hid (fun L2 m2 v2 w2 h1 h2 h3 h4 => ⟨v2, L2, rfl, h1, by omega, h4.res.mono (by have := HZA.out; omega), h4.2.2.2.1.more (by omega), hg0.out _ h4.2.1⟩)
      by_cases hL0 : L = []
      · subst hL0
        go_wp2
        go_ret
        exact hlast.out _ _ _ _ HL64.out (by omega) (by omega) D3.out
      · have hpL : 0 < L.length := List.length_pos_iff.2 hL0
        have hpLi : (0 : Int) < (L.length : Int) := by omega
        obtain ⟨y0, hy0⟩ := at_some L 0 hpL
        obtain ⟨b, o, rfl, -⟩ := HIV.out 0 y0 hy0
        clear hy0 HIV HOV
        go_wp2_with fail
        refine (one_any B len cap _ 24 a _ (Lib.hid D3.out.2.2.2.1) (by omega) (by omega)).mono ?_
        rintro e w4 ⟨b24, rfl, hH, hg⟩
        have D4 := Lib.hid (D3.out.cur hH hg)
        clear hH hg
        cases b24
        · go_wp2
          go_ret
          exact hlast.out _ _ _ _ HL64.out (by omega) (by omega) D4.out
        · go_wp2_with fail
          refine (pick_any B len cap _ L.length a _ (Lib.hid D4.out.2.2.2.1) (by omega) (by omega)).mono ?_
          rintro e w5 ⟨k, rfl, hk, hH, hg⟩
          have D5 := Lib.hid (D4.out.cur hH hg)
          have hkL : k < L.length := by omega
          clear hH hg hk
          go_wp2_with fail
          refine (pickFour B len cap _ _ a w5 rfl (Lib.hid D5.out.2.2.2.1) (by omega)).mono ?_
          rintro e w6 ⟨x, rfl, hx0, hx1, hH, hg⟩
          have D6 := Lib.hid (D5.out.cur hH hg)
          clear hH hg
          obtain ⟨y, hy⟩ := at_some L k hkL
          have hc : w6.cell? ⟨b, o + k, none⟩ = some (.int .i64 y) := by
            obtain ⟨a', c', e, hI, -⟩ := D6.out.res
            obtain ⟨b', o', e', hc⟩ := hI k y hy
            cases e
            cases e'
            exact hc
          have hf : w6.frozen? ⟨b, o + k, none⟩ = false := by
            obtain ⟨a', c', e, hI, hO, -⟩ := D6.out.res
            rcases hO with h0 | ⟨b', o', e', -, -, hf⟩
            · omega
            · cases e
              cases e'
              exact hf _
          have D7 := Lib.hid (D6.out.stored (k := k) (x := x))
          have H7 := Lib.hid (in64_set (k := k) (x := x) HL64.out (by omega) (by omega))
          have hk2 : (k : Int) < (L.length : Int) := by omega
          have hk0 : (0 : Int) ≤ (k : Int) := by omega
          clear hy
          go_wp2
          go_ret
          exact hlast.out _ _ _ _ H7.out (by simp; omega) (by omega) D7.out

end Go.Proofs.YtmcbaejgimopmaaGreat
