/- Contract: (*impl.treeReader).readTree reads as parseP does, into new memory. Condition: at most 80 bytes. -/
import Derived.Test.YtmcbaejgimopmaaGreatReaderImpl
import Derived.Deep.RegionWith
namespace Go.Proofs.YtmcbaejgimopmaaGreat
open Go.ChangeShapes Go.WideShapes Go.ChangeAt Go.RowKit
set_option linter.unusedVariables false

/-- A tree's block: its two pointers. -/
def Fork (w : World) (p : Nat) (u v : Value) : Prop := w.heap[p]? = some (.cells #[.slice none 0 0, u, v] 78 (0, 0))
theorem Fork.cells {w : World} {p : Nat} {u v : Value} (h : Fork w p u v) : w.cell? ⟨p, 0, none⟩ = some (.slice none 0 0) ∧ w.cell? ⟨p, 1, none⟩ = some u ∧ w.cell? ⟨p, 2, none⟩ = some v ∧ ∀ j, w.frozen? ⟨p, j, none⟩ = false := by
  have h0 := h
  unfold Fork at h0
  refine ⟨by simp [World.cell?, h0], by simp [World.cell?, h0], by simp [World.cell?, h0], fun j => by simp [World.frozen?, h0]⟩
theorem Fork.lt {w : World} {p : Nat} {u v : Value} (h : Fork w p u v) : p < w.heap.size := (Array.getElem?_eq_some_iff.1 h).1
theorem Fork.off {w w' : World} {p R : Nat} {u v : Value} (h : Fork w p u v) (hg : w.grownBy w' (some R)) (hne : p ≠ R) : Fork w' p u v := (hg.block p h.lt (by simp; omega)).trans h
theorem Fork.set1 {w : World} {p : Nat} {u v : Value} (h : Fork w p u v) (u' : Value) : Fork (w.setCell ⟨p, 1, none⟩ u') p u' v := by
  have e1 := heap_setCell_same w p 1 _ _ u' h
  unfold Fork
  rw [e1]
  simp
theorem Fork.set2 {w : World} {p : Nat} {u v : Value} (h : Fork w p u v) (v' : Value) : Fork (w.setCell ⟨p, 2, none⟩ v') p u v' := by
  have e1 := heap_setCell_same w p 2 _ _ v' h
  unfold Fork
  rw [e1]
  simp
theorem Reader.off {w w' : World} {R p : Nat} {l : List UInt8} {F : Bool} (h : Reader w R l F) (hg : w.grownBy w' (some p)) (hne : R ≠ p) : Reader w' R l F := (hg.block R h.lt (by simp; omega)).trans h
/-- A store into a block that is new. -/
theorem grew_new {w w1 : World} {R p i : Nat} {v : Value} (h : w.grownBy w1 (some R)) (hp : w.heap.size ≤ p) : w.grownBy (w1.setCell ⟨p, i, none⟩ v) (some R) :=
  ⟨h.os, h.tape, h.output, by have := h.size; simpa [World.setCell] using this, fun k hk hne => by
    rw [Below.heap_setCell _ _ _ _ (by show k ≠ p; omega)]; exact h.block k hk hne⟩
theorem markP_yes {l : List UInt8} {F : Bool} (h : l[0]? = some 91) : markP 91 l F = (l.drop 1, F) := if_pos h
theorem tree_post {R : Nat} {r r' : PT × List UInt8 × Bool} {w w' : World} {e : Ending} (h : r = r') (k : TreePost R r' w e w') : TreePost R r w e w' := by subst h; exact k

set_option maxRecDepth 100000 in
set_option maxHeartbeats 2000000 in
theorem readTree_any (f : Nat) : ∀ (R : Nat) (l : List UInt8) (F : Bool) (w : World), l.length ≤ f → l.length ≤ 80 → Hid (Reader w R l F) →
    Calls Tryz.prog 90 #[.pointer (some ⟨R, 0, none⟩)] w (TreePost R (parseP f l F) w) := by
  induction f with
  | zero =>
    intro R l F w hf h80 h
    have hno : decide (l[0]? = some (91 : UInt8)) = false := by
      have : l = [] := List.eq_nil_of_length_eq_zero (by omega)
      rw [this]; rfl
    have HC : Hid (∀ W, Calls Tryz.prog 101 #[.string (bytesOf l), .string ⟨#[91]⟩] W fun e w' => e = .returned (.bool false) ∧ w' = W) := Lib.hid (fun W => by
      have h := Tryz.strings_HasPrefix (bytesOf l) ⟨#[91]⟩ W
      rw [bytesOf_list, show (ByteArray.mk #[91]).data.toList = [91] from rfl, has_one, hno] at h
      exact h)
    obtain ⟨c0, -, -⟩ := h.out.cells
    have HE : Hid (parseP 0 l F = leafP l F) := Lib.hid rfl
    clear hno
    go_enter Tryz.func90, Tryz.ntmps90
    go_wp2_with fail
    refine (HC.out _).mono ?_
    rintro e w' ⟨rfl, rfl⟩
    go_wp2_with fail
    refine (readLeaf_any R l F _ h h80).mono ?_
    rintro e w2 ⟨p, rfl, h1, h2, h3⟩
    have HT := Lib.hid h1
    have HR := Lib.hid h2
    have HG := Lib.hid h3
    clear h1 h2 h3
    go_wp2_with fail
    go_ret
    exact tree_post HE.out ⟨p, rfl, HT.out, HR.out, HG.out⟩
  | succ f ih =>
    intro R l F w hf h80 h
    obtain ⟨c0, -, -⟩ := h.out.cells
    by_cases h91 : l[0]? = some 91
    · have HC : Hid (∀ W, Calls Tryz.prog 101 #[.string (bytesOf l), .string ⟨#[91]⟩] W fun e w' => e = .returned (.bool true) ∧ w' = W) := Lib.hid (fun W => by
        have h := Tryz.strings_HasPrefix (bytesOf l) ⟨#[91]⟩ W
        rw [bytesOf_list, show (ByteArray.mk #[91]).data.toList = [91] from rfl, has_one, decide_eq_true h91] at h
        exact h)
      have hlr := h.out.lt
      have HE : Hid (parseP (f + 1) l F = _) := Lib.hid (by rw [parseP, if_pos h91])
      obtain ⟨A, ar, aF, ha⟩ : ∃ A ar aF, parseP f (l.drop 1) F = (A, ar, aF) := ⟨_, _, _, rfl⟩
      obtain ⟨mr, mF, hm⟩ : ∃ mr mF, markP 44 ar aF = (mr, mF) := ⟨_, _, rfl⟩
      obtain ⟨B, br, bF, hb⟩ : ∃ B br bF, parseP f mr mF = (B, br, bF) := ⟨_, _, _, rfl⟩
      obtain ⟨er, eF, he⟩ : ∃ er eF, markP 93 br bF = (er, eF) := ⟨_, _, rfl⟩
      rw [ha, hm, hb, he] at HE
      have hl1 : (l.drop 1).length + 1 ≤ l.length := by
        cases l with
        | nil => simp at h91
        | cons c l => simp
      have hl2 := parseP_le f (l.drop 1) F
      rw [ha] at hl2
      have hl3 := markP_le 44 ar aF
      rw [hm] at hl3
      simp only at hl2 hl3
      have M1 := Lib.hid (fun W (hr : Hid (Reader W R l F)) => readMark_any R 91 l F W hr)
      rw [markP_yes h91] at M1
      have I1 := Lib.hid (fun W (hr : Hid (Reader W R (l.drop 1) F)) => ih R (l.drop 1) F W (by omega) (by omega) hr)
      rw [ha] at I1
      have M2 := Lib.hid (fun W (hr : Hid (Reader W R ar aF)) => readMark_any R 44 ar aF W hr)
      rw [hm] at M2
      have I2 := Lib.hid (fun W (hr : Hid (Reader W R mr mF)) => ih R mr mF W (by omega) (by omega) hr)
      rw [hb] at I2
      have M3 := Lib.hid (fun W (hr : Hid (Reader W R br bF)) => readMark_any R 93 br bF W hr)
      rw [he] at M3
      simp only at M1 M2 M3
      clear ih ha hm hb he hl1 hl2 hl3 h91 hf h80
      go_enter Tryz.func90, Tryz.ntmps90
      go_wp2_with fail
      refine (HC.out _).mono ?_
      rintro e w' ⟨rfl, rfl⟩
      go_wp2_with fail
      -- the new block
      have HF0 : Hid (Fork (w'.alloc (.cells #[.slice none 0 0, .pointer none, .pointer none] 78)) w'.heap.size (.pointer none) (.pointer none)) := Lib.hid (heap_alloc_new w' _)
      have HB0 := (Below.refl w'.heap.size w').alloc (Nat.le_refl _) (.cells #[.slice none 0 0, .pointer none, .pointer none] 78)
      have HG0 := Lib.hid (grew_of (b := some R) HB0)
      have HR0 := Lib.hid (h.out.on HB0)
      have hpR : w'.heap.size ≠ R := by omega
      obtain ⟨p, hp⟩ : ∃ p, p = w'.heap.size := ⟨_, rfl⟩
      have HP : Hid (w'.heap.size ≤ p) := Lib.hid (Nat.le_of_eq hp.symm)
      rw [← hp] at HF0 hpR ⊢
      generalize w'.alloc (.cells #[.slice none 0 0, .pointer none, .pointer none] 78) = W0 at HF0 HG0 HR0 ⊢
      clear hp HB0
      -- the first mark
      refine (M1.out _ HR0).mono ?_
      rintro e w1 ⟨rfl, h1, h2⟩
      have HR1 := Lib.hid h1
      have HF1 := Lib.hid (HF0.out.off h2 hpR)
      have HG1 := Lib.hid (HG0.out.trans h2)
      obtain ⟨d0, d1, d2, hf⟩ := HF1.out.cells
      have d3 := hf 1
      clear h1 h2 HR0 HF0 HG0 hf
      go_wp2_with fail
      -- the first tree
      refine (I1.out _ HR1).mono ?_
      rintro e w2 ⟨pl, rfl, h1, h2, h3⟩
      have HT2 := Lib.hid (PTree.mono (B' := p + 1) (by have := HF1.out.lt; omega) h1)
      have HR2 := Lib.hid h2
      have HF2 := Lib.hid (HF1.out.off h3 hpR)
      have HG2 := Lib.hid (HG1.out.trans h3)
      obtain ⟨e0, e1, e2, hf⟩ := HF2.out.cells
      have e3 := hf 1
      have e4 := hf 2
      clear h1 h2 h3 HR1 HF1 HG1 hf
      go_wp2_with fail
      -- the store, the second mark
      have hRp : R < p := by have := HP.out; omega
      have HT3 := Lib.hid (HT2.out.off (grew_set w2 p 1 (.pointer (some ⟨pl, 0, none⟩))) (Nat.lt_succ_self p))
      have HR3 := Lib.hid (HR2.out.off (grew_set w2 p 1 (.pointer (some ⟨pl, 0, none⟩))) (by omega))
      have HF3 := Lib.hid (HF2.out.set1 (.pointer (some ⟨pl, 0, none⟩)))
      have HG3 := Lib.hid (grew_new (i := 1) (v := .pointer (some ⟨pl, 0, none⟩)) HG2.out HP.out)
      generalize w2.setCell ⟨p, 1, none⟩ (.pointer (some ⟨pl, 0, none⟩)) = W3 at HT3 HR3 HF3 HG3 ⊢
      clear HT2 HR2 HF2 HG2 e0 e1 e2 e3 e4
      refine (M2.out _ HR3).mono ?_
      rintro e w4 ⟨rfl, h1, h2⟩
      have HR4 := Lib.hid h1
      have HT4 := Lib.hid (HT3.out.off h2 (by omega))
      have HF4 := Lib.hid (HF3.out.off h2 hpR)
      have HG4 := Lib.hid (HG3.out.trans h2)
      clear h1 h2 HR3 HF3 HG3 HT3
      go_wp2_with fail
      -- the second tree
      refine (I2.out _ HR4).mono ?_
      rintro e w5 ⟨pr, rfl, h1, h2, h3⟩
      have HU5 := Lib.hid (PTree.mono (B' := p + 1) (by have := HF4.out.lt; omega) h1)
      have HT5 := Lib.hid (HT4.out.off h3 (by omega))
      have HR5 := Lib.hid h2
      have HF5 := Lib.hid (HF4.out.off h3 hpR)
      have HG5 := Lib.hid (HG4.out.trans h3)
      obtain ⟨e0, e1, e2, hf⟩ := HF5.out.cells
      have e3 := hf 1
      have e4 := hf 2
      clear h1 h2 h3 HR4 HF4 HG4 HT4 hf
      go_wp2_with fail
      -- the store, the third mark
      have HT6 := Lib.hid (HT5.out.off (grew_set w5 p 2 (.pointer (some ⟨pr, 0, none⟩))) (Nat.lt_succ_self p))
      have HU6 := Lib.hid (HU5.out.off (grew_set w5 p 2 (.pointer (some ⟨pr, 0, none⟩))) (Nat.lt_succ_self p))
      have HR6 := Lib.hid (HR5.out.off (grew_set w5 p 2 (.pointer (some ⟨pr, 0, none⟩))) (by omega))
      have HF6 := Lib.hid (HF5.out.set2 (.pointer (some ⟨pr, 0, none⟩)))
      have HG6 := Lib.hid (grew_new (i := 2) (v := .pointer (some ⟨pr, 0, none⟩)) HG5.out HP.out)
      generalize w5.setCell ⟨p, 2, none⟩ (.pointer (some ⟨pr, 0, none⟩)) = W6 at HT6 HU6 HR6 HF6 HG6 ⊢
      clear HT5 HU5 HR5 HF5 HG5 e0 e1 e2 e3 e4
      refine (M3.out _ HR6).mono ?_
      rintro e w7 ⟨rfl, h1, h2⟩
      have HR7 := Lib.hid h1
      have HT7 := Lib.hid (HT6.out.off h2 (by omega))
      have HU7 := Lib.hid (HU6.out.off h2 (by omega))
      have HF7 := Lib.hid (HF6.out.off h2 hpR)
      have HG7 := Lib.hid (HG6.out.trans h2)
      clear h1 h2 HR6 HF6 HG6 HT6 HU6
      go_wp2_with fail
      go_ret
      have hq := HP.out
      exact tree_post HE.out ⟨p, rfl, ⟨hq, pl, pr, HF7.out, HT7.out.mono (by omega), HU7.out.mono (by omega)⟩, HR7.out, HG7.out⟩
    · have hno : decide (l[0]? = some (91 : UInt8)) = false := decide_eq_false h91
      have HC : Hid (∀ W, Calls Tryz.prog 101 #[.string (bytesOf l), .string ⟨#[91]⟩] W fun e w' => e = .returned (.bool false) ∧ w' = W) := Lib.hid (fun W => by
        have h := Tryz.strings_HasPrefix (bytesOf l) ⟨#[91]⟩ W
        rw [bytesOf_list, show (ByteArray.mk #[91]).data.toList = [91] from rfl, has_one, hno] at h
        exact h)
      have HE : Hid (parseP (f + 1) l F = leafP l F) := Lib.hid (by rw [parseP, if_neg h91])
      clear hno ih h91
      go_enter Tryz.func90, Tryz.ntmps90
      go_wp2_with fail
      refine (HC.out _).mono ?_
      rintro e w' ⟨rfl, rfl⟩
      go_wp2_with fail
      refine (readLeaf_any R l F _ h h80).mono ?_
      rintro e w2 ⟨p, rfl, h1, h2, h3⟩
      have HT := Lib.hid h1
      have HR := Lib.hid h2
      have HG := Lib.hid h3
      clear h1 h2 h3
      go_wp2_with fail
      go_ret
      exact tree_post HE.out ⟨p, rfl, HT.out, HR.out, HG.out⟩

end Go.Proofs.YtmcbaejgimopmaaGreat
