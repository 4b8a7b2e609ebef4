/- Contract: (*impl.tree).text returns a tree's text. Condition: words of letters, a length that fits. -/
import Derived.Test.YtoikehpnpealpaaPTree
import Derived.Deep.RegionWith
import Derived.Test.YtoikehpnpealpaaTextWalks
namespace Go.Proofs.Ytoikehpnpealpaa
open Go.ChangeShapes Go.WideShapes Go.ChangeAt Go.RowKit
set_option linter.unusedVariables false

theorem pt_in64 {L : List Int} (h : Plain.Letters L) : In64 L := fun j x hx => by have := h.at hx; omega
theorem node_text (l r : PT) : bytesOf (PT.node l r).txt = ⟨#[91]⟩ ++ bytesOf l.txt ++ ⟨#[44]⟩ ++ bytesOf r.txt ++ ⟨#[93]⟩ := by
  apply ByteArray.ext
  simp [bytesOf, PT.txt]
set_option maxRecDepth 100000 in
set_option maxHeartbeats 2000000 in
theorem treeText_any (T : PT) : ∀ (B p : Nat) (w : World), T.good → T.txt.length ≤ 1048576 → Hid (PTree B w T p) →
    Calls Try.prog 73 #[.pointer (some ⟨p, 0, none⟩)] w fun e w' => e = .returned (.string (bytesOf T.txt)) ∧ Below w.heap.size w w' := by
  induction T with
  | leaf ws =>
    intro B p w hg hm h
    obtain ⟨a, cap, c0, c1, c2, hi, hk⟩ := h.out.leaf_cells
    have h64 : ws.length ≤ 64 := by simpa [PT.few] using hg.2
    have hw : Plain.wordB ws = true := Plain.wordB_iff.2 ⟨h64, hg.1.2⟩
    have HC := Lib.hid (implText_any a cap ws w (Lib.hid hi) (Lib.hid (pt_in64 hg.1.2)) (by omega))
    have HE : Hid (bytesOf (PT.leaf ws).txt = textOf ws) := Lib.hid rfl
    rw [hw, wordText_yes hw] at HC
    clear hw hg hi hk
    go_enter Try.func73, Try.ntmps73
    go_wp2_with fail
    refine (isLeaf_yes p _ c1).mono ?_
    rintro e w' ⟨rfl, rfl⟩
    go_wp2_with fail
    refine HC.out.mono ?_
    rintro e w1 ⟨rfl, hb⟩
    go_wp2_with fail
    go_ret
    exact ⟨by rw [HE.out]; rfl, hb⟩
  | node l r ihl ihr =>
    intro B p w hg hm h
    obtain ⟨pl, pr, c1, c2, hl, hr⟩ := h.out.node_cells
    have HE := Lib.hid (node_text l r)
    have hlen : (PT.node l r).txt.length = 3 + l.txt.length + r.txt.length := by simp [PT.txt]; omega
    have I1 := Lib.hid (fun W (hh : Hid (PTree B W l pl)) => ihl B pl W (PT.good_l hg) (by omega) hh)
    have I2 := Lib.hid (fun W (hh : Hid (PTree B W r pr)) => ihr B pr W (PT.good_r hg) (by omega) hh)
    have hz1 := bytesOf_size l.txt
    have hz2 := bytesOf_size r.txt
    obtain ⟨x, hx⟩ : ∃ x, x = bytesOf l.txt := ⟨_, rfl⟩
    obtain ⟨y, hy⟩ : ∃ y, y = bytesOf r.txt := ⟨_, rfl⟩
    rw [← hx] at I1 hz1 HE
    rw [← hy] at I2 hz2 HE
    have hxs : x.size ≤ 1048576 := by omega
    have hys : y.size ≤ 1048576 := by omega
    have hxy : x.size + y.size ≤ 1048576 := by omega
    rw [HE.out]
    have HL : Hid (PTree B w.drew l pl) := Lib.hid (PTree.on (Below.refl _ _).drew hl)
    have HR : Hid (PTree B w.drew r pr) := Lib.hid (PTree.on (Below.refl _ _).drew hr)
    have c3 : w.drew.cell? ⟨p, 2, none⟩ = some (.pointer (some ⟨pr, 0, none⟩)) := c2
    clear ihl ihr hl hr hx hy hg hz1 hz2 hlen hm
    go_enter Try.func73, Try.ntmps73
    go_wp2_with fail
    refine (isLeaf_no p pl _ c1).mono ?_
    rintro e w' ⟨rfl, rfl⟩
    go_wp2_with fail
    go_region_with (first
      | (refine (I1.out _ HL).mono ?_; rintro e w1 ⟨rfl, hb⟩; have B1 := Lib.hid ((Below.refl w.heap.size w).drew.trans hb); have R1 := Lib.hid (PTree.on hb HR.out); have c4 := cell_later hb c3; clear hb HL HR)
      | (refine (I2.out _ R1).mono ?_; rintro e w2 ⟨rfl, hb⟩; have B2 := Lib.hid (B1.out.trans (hb.mono B1.out.size)); clear hb R1))
    all_goals
      go_wp2_with fail
      go_ret
      exact ⟨rfl, B2.out⟩

end Go.Proofs.Ytoikehpnpealpaa
