/- Contract: (*impl.tree).value returns a tree's value. Condition: words of letters. -/
import Derived.Test.YtmcbaejgimopmaaGreatBdPTree
import Derived.Test.YtmcbaejgimopmaaGreatCommImpl
import Derived.Test.YtmcbaejgimopmaaGreatReadTree
import Derived.Test.YtmcbaejgimopmaaGreatReducedWalks
namespace Go.Proofs.YtmcbaejgimopmaaGreat
open Go.ChangeShapes Go.WideShapes Go.ChangeAt Go.RowKit
set_option linter.unusedVariables false

theorem pv_in64 {L : List Int} (h : Plain.Letters L) : In64 L := fun j x hx => by have := h.at hx; omega
theorem short_fine {xs : List Int} (h : Plain.Letters xs) : Plain.Letters (short xs) := by
  unfold short
  split
  · exact h
  · intro x hx
    cases hx
theorem val_fine : ∀ (T : PT), T.good → T.val.1.length ≤ 64 ∧ Plain.Letters T.val.1
  | .leaf ws, hg => ⟨Nat.le_trans (Plain.red_length ws) (by simpa [PT.few] using hg.2), hg.1.2.red⟩
  | .node l r, hg => by
    have h1 := val_fine l (PT.good_l hg)
    have h2 := val_fine r (PT.good_r hg)
    rw [PT.val]
    split
    · exact ⟨short_le _, short_fine (Plain.Letters.comm h1.2 h2.2)⟩
    · exact ⟨by simp, fun x hx => by cases hx⟩
set_option maxRecDepth 100000 in
set_option maxHeartbeats 1000000 in
theorem treeValue_any (T : PT) : ∀ (B p : Nat) (w : World), T.good → Hid (PTree B w T p) →
    Calls Tryz.prog 43 #[.pointer (some ⟨p, 0, none⟩)] w (SB T.val.1 T.val.2 w) := by
  induction T with
  | leaf ws =>
    intro B p w hg h
    obtain ⟨a, cap, c0, c1, c2, hi, hk⟩ := h.out.leaf_cells
    have h64 : ws.length ≤ 64 := by simpa [PT.few] using hg.2
    have HC := Lib.hid (reduced_any a cap ws w (Lib.hid hi) (Lib.hid hg.1.2) (by omega))
    have HE : Hid ((PT.leaf ws).val = (Plain.red ws, true)) := Lib.hid rfl
    rw [HE.out]
    simp only
    clear hg hi hk HE
    go_enter Tryz.func43, Tryz.ntmps43
    go_wp2_with fail
    refine (isLeaf_yes p _ c1).mono ?_
    rintro e w' ⟨rfl, rfl⟩
    go_wp2_with fail
    refine HC.out.mono ?_
    rintro e w1 ⟨v, rfl, ⟨a1, k1, rfl, hi1, ho1, hk1⟩, hb⟩
    have R : Hid (Res w.heap.size w1 (.slice a1 (Plain.red ws).length k1) (Plain.red ws)) := Lib.hid ⟨a1, k1, rfl, hi1, ho1, hk1⟩
    have B1 := Lib.hid hb
    clear hi1 ho1 hk1 hb
    go_wp2_with fail
    go_ret2
    exact ⟨_, rfl, R.out, B1.out⟩
  | node l r ihl ihr =>
    intro B p w hg h
    obtain ⟨pl, pr, c1, c2, hl, hr⟩ := h.out.node_cells
    have I1 := Lib.hid (ihl B pl w (PT.good_l hg) (Lib.hid hl))
    have I2 := Lib.hid (fun W (hh : Hid (PTree B W r pr)) => ihr B pr W (PT.good_r hg) hh)
    have f1 := val_fine l (PT.good_l hg)
    have f2 := val_fine r (PT.good_r hg)
    have hv : (PT.node l r).val = if (l.val.2 && r.val.2) = true then (short (Plain.comm l.val.1 r.val.1), shortB (Plain.comm l.val.1 r.val.1)) else ([], false) := rfl
    obtain ⟨u, hu⟩ : ∃ u, u = l.val := ⟨_, rfl⟩
    obtain ⟨v, hv2⟩ : ∃ v, v = r.val := ⟨_, rfl⟩
    rw [← hu] at I1 f1 hv
    rw [← hv2] at I2 f2 hv
    rw [hv]
    obtain ⟨us, uo⟩ := u
    obtain ⟨vs, vo⟩ := v
    simp only at I1 I2 f1 f2 ⊢
    have HR := Lib.hid hr
    clear ihl ihr hu hv2 hg hv hl hr
    have hm1 := f1.1
    have hm2 := f2.1
    have W1 : Hid (Plain.wordB us = true) := Lib.hid (Plain.wordB_iff.2 f1)
    have W2 : Hid (Plain.wordB vs = true) := Lib.hid (Plain.wordB_iff.2 f2)
    have N1 := Lib.hid (pv_in64 f1.2)
    have N2 := Lib.hid (pv_in64 f2.2)
    clear f1 f2
    cases uo with
    | false =>
      go_enter Tryz.func43, Tryz.ntmps43
      go_wp2_with fail
      refine (isLeaf_no p pl _ c1).mono ?_
      rintro e w' ⟨rfl, rfl⟩
      go_wp2_with fail
      refine I1.out.mono ?_
      rintro e w1 ⟨v, rfl, ⟨a1, k1, rfl, -, -, -⟩, hb⟩
      have B1 := Lib.hid hb
      clear hb
      go_wp2_with fail
      go_ret2
      exact ⟨_, rfl, (coll_res (coll_start w1)).1.mono B1.out.size, B1.out.trans ((coll_start w1).2.1.mono B1.out.size)⟩
    | true =>
      cases vo with
      | false =>
        go_enter Tryz.func43, Tryz.ntmps43
        go_wp2_with fail
        refine (isLeaf_no p pl _ c1).mono ?_
        rintro e w' ⟨rfl, rfl⟩
        go_wp2_with fail
        refine I1.out.mono ?_
        rintro e w1 ⟨v, rfl, ⟨a1, k1, rfl, -, -, -⟩, hb⟩
        have B1 := Lib.hid hb
        have R1 := Lib.hid (PTree.on hb HR.out)
        have c3 := cell_later hb c2
        clear hb HR
        go_wp2_with fail
        refine (I2.out _ R1).mono ?_
        rintro e w2 ⟨v, rfl, ⟨a2, k2, rfl, -, -, -⟩, hb⟩
        have B2 := Lib.hid (B1.out.trans (hb.mono B1.out.size))
        clear hb R1
        go_wp2_with fail
        go_ret2
        exact ⟨_, rfl, (coll_res (coll_start w2)).1.mono B2.out.size, B2.out.trans ((coll_start w2).2.1.mono B2.out.size)⟩
      | true =>
        have HE := Lib.hid (prod_yes (zs := commZ us vs) W1.out W2.out)
        have HC : Hid (Plain.red (commZ us vs) = Plain.comm us vs) := Lib.hid rfl
        go_enter Tryz.func43, Tryz.ntmps43
        go_wp2_with fail
        refine (isLeaf_no p pl _ c1).mono ?_
        rintro e w' ⟨rfl, rfl⟩
        go_wp2_with fail
        refine I1.out.mono ?_
        rintro e w1 ⟨v, rfl, ⟨a1, k1, rfl, hi1, -, hk1⟩, hb⟩
        have B1 := Lib.hid hb
        have R1 := Lib.hid (PTree.on hb HR.out)
        have c3 := cell_later hb c2
        have J1 := Lib.hid hi1
        have K1 := Lib.hid hk1
        clear hb HR hi1 hk1
        go_wp2_with fail
        refine (I2.out _ R1).mono ?_
        rintro e w2 ⟨v, rfl, ⟨a2, k2, rfl, hi2, -, hk2⟩, hb⟩
        have B2 := Lib.hid (B1.out.trans (hb.mono B1.out.size))
        have M1 := Lib.hid (J1.out.on hb)
        have J2 := Lib.hid hi2
        have K2 := Lib.hid hk2
        clear hb R1 J1 hi2 hk2
        go_wp2_with fail
        refine (implCommutatorOf_any a1 a2 k1 k2 us vs _ M1 K1 N1 J2 K2 N2 (by omega) (by omega)).mono ?_
        rintro e w3 ⟨v, rfl, hr, hb⟩
        have R := Lib.hid (hr.mono B2.out.size)
        have B3 := Lib.hid (B2.out.trans (hb.mono B2.out.size))
        clear hr hb
        go_wp2_with fail
        go_ret2
        exact sb_eq (by rw [HE.out.1, HC.out]) (by rw [HE.out.2, HC.out]) ⟨_, rfl, R.out, B3.out⟩

end Go.Proofs.YtmcbaejgimopmaaGreat

/- Contract: impl.parseTree. Condition: a text that fits. -/
namespace Go.Proofs.YtmcbaejgimopmaaGreat
open Go.ChangeShapes Go.WideShapes Go.ChangeAt Go.RowKit
set_option linter.unusedVariables false

/-- Behind parseTree. -/
def ParsePost (s : ByteArray) (w : World) (e : Ending) (w' : World) : Prop :=
  (∃ v, e = .returned (.tuple #[v, .bool (parsedB s)]) ∧ (parsedB s = true → ∃ p, v = .pointer (some ⟨p, 0, none⟩) ∧ PTree 0 w' (treeOf s) p)) ∧ Below w.heap.size w w'
theorem grew_below {W W' : World} {o : Obj} (h : (W.alloc o).grownBy W' (some W.heap.size)) : Below W.heap.size W W' := by
  have hb := (Below.refl _ W).alloc (Nat.le_refl _) o
  have hs : (W.alloc o).heap.size = W.heap.size + 1 := by show (W.heap.push o).size = _; simp
  refine ⟨h.os.trans hb.os, h.tape.trans hb.tape, h.output.trans hb.output, Nat.le_trans hb.size h.size, fun j hj => ?_⟩
  rw [h.block j (by omega) (by simp; omega), hb.block j hj]
set_option maxRecDepth 100000 in
set_option maxHeartbeats 1000000 in
theorem parseTree_any (s : ByteArray) (w : World) (hs : s.size ≤ 9223372036854775807) :
    Calls Tryz.prog 66 #[.string s] w (ParsePost s w) := by
  by_cases h80 : s.size ≤ 80
  · have hsi : (s.size : Int) ≤ 80 := by omega
    have HP : Hid (parsedB s = (!(parseP s.size s.data.toList false).2.2 && (parseP s.size s.data.toList false).2.1.isEmpty)) := Lib.hid (by simp [parsedB, h80])
    have HT : Hid (treeOf s = (parseP s.size s.data.toList false).1) := Lib.hid rfl
    have C1 := Lib.hid (fun R W (hr : Hid (Reader W R s.data.toList false)) => readTree_any s.size R s.data.toList false W (by simp) (by simpa using h80) hr)
    have HS := Lib.hid (bytesOf_self s)
    obtain ⟨T, rr, rF, hr⟩ : ∃ T rr rF, parseP s.size s.data.toList false = (T, rr, rF) := ⟨_, _, _, rfl⟩
    rw [hr] at HP HT C1
    simp only at HP HT
    have HR0 : Hid (Reader (w.alloc (.cells #[.string s, .bool false] 83)) w.heap.size s.data.toList false) := Lib.hid (by
      unfold Reader
      rw [HS.out]
      exact heap_alloc_new w _)
    clear hr
    go_enter Tryz.func66, Tryz.ntmps66
    go_wp2_with fail
    refine (C1.out w.heap.size _ HR0).mono ?_
    rintro e w1 ⟨p, rfl, h1, h2, h3⟩
    have HB := Lib.hid (grew_below h3)
    have HPT := Lib.hid (PTree.mono (Nat.zero_le _) h1)
    obtain ⟨c0, c1, -⟩ := Reader.cells h2
    have hem : (bytesOf rr).toList.isEmpty = rr.isEmpty := by rw [ByteArray.toList_eq, bytesOf_list]
    clear h1 h2 h3
    cases rF with
    | true =>
      have HQ : Hid (parsedB s = false) := Lib.hid (by rw [HP.out]; rfl)
      go_wp2_with fail
      go_ret2
      exact ⟨⟨_, by rw [HQ.out]; rfl, fun h => by rw [HQ.out] at h; cases h⟩, HB.out⟩
    | false =>
      cases hz : rr.isEmpty with
      | true =>
        rw [hz] at hem
        have HQ : Hid (parsedB s = true) := Lib.hid (by rw [HP.out, hz]; rfl)
        clear hz
        go_wp2_with fail
        go_ret2
        exact ⟨⟨_, by rw [HQ.out]; rfl, fun _ => ⟨p, rfl, by rw [HT.out]; exact HPT.out⟩⟩, HB.out⟩
      | false =>
        rw [hz] at hem
        have HQ : Hid (parsedB s = false) := Lib.hid (by rw [HP.out, hz]; rfl)
        clear hz
        go_wp2_with fail
        go_ret2
        exact ⟨⟨_, by rw [HQ.out]; rfl, fun h => by rw [HQ.out] at h; cases h⟩, HB.out⟩
  · have hsi : 80 < (s.size : Int) := by omega
    have HQ : Hid (parsedB s = false) := Lib.hid (by simp [parsedB, h80])
    go_enter Tryz.func66, Tryz.ntmps66
    go_wp2_with fail
    go_ret2
    exact ⟨⟨_, by rw [HQ.out]; rfl, fun h => by rw [HQ.out] at h; cases h⟩, by first | exact Below.refl _ _ | exact (Below.refl _ _).alloc (Nat.le_refl _) _⟩

end Go.Proofs.YtmcbaejgimopmaaGreat

/- Contracts: impl.TreeValue, TreeLength, told by the program's own reader. Condition: a text that fits and that the reader reads. -/
namespace Go.Proofs.YtmcbaejgimopmaaGreat
open Go.ChangeShapes Go.WideShapes Go.ChangeAt Go.RowKit
set_option linter.unusedVariables false

theorem parse_own (s : ByteArray) (w : World) (hs : s.size ≤ 9223372036854775807) (hp : parsedB s = true) : Calls Tryz.prog 66 #[.string s] w fun e w' => (∃ p, e = .returned (.tuple #[.pointer (some ⟨p, 0, none⟩), .bool true]) ∧ PTree 0 w' (treeOf s) p) ∧ Below w.heap.size w w' := by
  have h := parseTree_any s w hs
  unfold ParsePost at h
  refine h.mono ?_
  rintro e w1 ⟨⟨v, rfl, hv⟩, hb⟩
  obtain ⟨p, rfl, hq⟩ := hv hp
  exact ⟨⟨p, by rw [hp], hq⟩, hb⟩
set_option maxHeartbeats 400000 in
theorem treeLength_own (s : ByteArray) (w : World) (hs : s.size ≤ 9223372036854775807) (hp : parsedB s = true) (hr : (treeOf s).raw ≤ 1099511627776) : Calls Tryz.prog 26 #[.string s] w (Val (.tuple #[.int .i64 ((treeOf s).raw : Int), .bool true]) w) := by
  have HC := Lib.hid (parse_own s w hs hp)
  generalize treeOf s = T at HC hr ⊢
  clear hp
  go_enter Tryz.func26, Tryz.ntmps26
  go_wp2_with fail
  refine HC.out.mono ?_
  rintro e w1 ⟨⟨p, rfl, hp⟩, hb⟩
  have HP := Lib.hid hp
  clear hp
  go_wp2_with fail
  refine (rawLength_any T 0 p _ hr HP).mono ?_
  rintro e w2 ⟨rfl, n, rfl⟩
  go_wp2_with fail
  go_ret2
  exact ⟨rfl, hb.trans ((drewN_below _ _).mono hb.size)⟩
set_option maxHeartbeats 400000 in
theorem treeValue_own (s : ByteArray) (w : World) (hs : s.size ≤ 9223372036854775807) (hp : parsedB s = true) (hg : (treeOf s).good) : Calls Tryz.prog 25 #[.string s] w (SB (treeOf s).val.1 (treeOf s).val.2 w) := by
  have HC := Lib.hid (parse_own s w hs hp)
  generalize treeOf s = T at HC hg ⊢
  have HT := Lib.hid (fun q W (hh : Hid (PTree 0 W T q)) => treeValue_any T 0 q W hg hh)
  generalize T.val = u at HT ⊢
  obtain ⟨vs, vo⟩ := u
  simp only at HT ⊢
  clear hp hg
  go_enter Tryz.func25, Tryz.ntmps25
  go_wp2_with fail
  refine HC.out.mono ?_
  rintro e w1 ⟨⟨p, rfl, hp⟩, hb⟩
  have HP := Lib.hid hp
  have HB := Lib.hid hb
  clear hp hb
  go_wp2_with fail
  refine (HT.out _ _ HP).mono ?_
  rintro e w2 ⟨v, rfl, hr, hb⟩
  have R := Lib.hid (hr.mono HB.out.size)
  have B2 := Lib.hid (HB.out.trans (hb.mono HB.out.size))
  clear hr hb
  go_wp2_with fail
  go_ret2
  exact ⟨_, rfl, R.out, B2.out⟩

end Go.Proofs.YtmcbaejgimopmaaGreat
