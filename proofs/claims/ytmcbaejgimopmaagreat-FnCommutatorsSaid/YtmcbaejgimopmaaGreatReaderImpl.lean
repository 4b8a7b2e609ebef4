/- Contracts: (*impl.treeReader).readMark, readLeaf, readTree turn the reader's block alone and lay a tree in new memory. Condition: at most 80 bytes. -/
import Derived.Test.YtmcbaejgimopmaaGreatAnyWalks
import Derived.BigRegion
namespace Go.Proofs.YtmcbaejgimopmaaGreat
open Go.ChangeShapes Go.WideShapes Go.ChangeAt Go.RowKit
set_option linter.unusedVariables false

/-- The reader's block: what is left of the text, and whether it has failed. -/
def Reader (w : World) (R : Nat) (l : List UInt8) (F : Bool) : Prop := w.heap[R]? = some (.cells #[.string (bytesOf l), .bool F] 83 (0, 0))
theorem Reader.cells {w : World} {R : Nat} {l : List UInt8} {F : Bool} (h : Reader w R l F) : w.cell? ⟨R, 0, none⟩ = some (.string (bytesOf l)) ∧ w.cell? ⟨R, 1, none⟩ = some (.bool F) ∧ ∀ j, w.frozen? ⟨R, j, none⟩ = false := by
  have h0 := h
  unfold Reader at h0
  refine ⟨by simp [World.cell?, h0], by simp [World.cell?, h0], fun j => by simp [World.frozen?, h0]⟩
theorem Reader.lt {w : World} {R : Nat} {l : List UInt8} {F : Bool} (h : Reader w R l F) : R < w.heap.size := (Array.getElem?_eq_some_iff.1 h).1
theorem Reader.drewN {w : World} {R : Nat} {l : List UInt8} {F : Bool} (h : Reader w R l F) (n : Nat) : Reader (w.drewN n) R l F := h
theorem Reader.set {w : World} {R : Nat} {l : List UInt8} {F : Bool} (h : Reader w R l F) (l' : List UInt8) (F' : Bool) : Reader ((w.setCell ⟨R, 0, none⟩ (.string (bytesOf l'))).setCell ⟨R, 1, none⟩ (.bool F')) R l' F' := by
  have e1 := heap_setCell_same w R 0 _ _ (.string (bytesOf l')) h
  have e2 := heap_setCell_same _ R 1 _ _ (.bool F') e1
  unfold Reader
  rw [e2]
  simp
theorem Reader.set0 {w : World} {R : Nat} {l : List UInt8} {F : Bool} (h : Reader w R l F) (l' : List UInt8) : Reader (w.setCell ⟨R, 0, none⟩ (.string (bytesOf l'))) R l' F := by
  have e1 := heap_setCell_same w R 0 _ _ (.string (bytesOf l')) h
  unfold Reader
  rw [e1]
  simp
theorem Reader.on {w w' : World} {R : Nat} {l : List UInt8} {F : Bool} (h : Reader w R l F) (hb : Below w.heap.size w w') : Reader w' R l F := (hb.block R h.lt).trans h
theorem cut_one (m : UInt8) (l : List UInt8) (F : Bool) : (⟨(Lib.trimPrefix l [m]).toArray⟩ : ByteArray) = bytesOf (markP m l F).1 ∧ (F || !Lib.hasPrefix l [m]) = (markP m l F).2 := by
  unfold markP Lib.trimPrefix Lib.hasPrefix
  cases l with
  | nil => simp [bytesOf]
  | cons c l =>
    by_cases h : c = m
    · subst h; simp [bytesOf]
    · have h2 : (m == c) = false := by simpa using fun e => h e.symm
      have h3 : [m].isPrefixOf (c :: l) = false := by rw [List.isPrefixOf, h2]; rfl
      simp [bytesOf, h, h3]
theorem has_one (m : UInt8) (l : List UInt8) : Lib.hasPrefix l [m] = decide (l[0]? = some m) := by
  unfold Lib.hasPrefix
  cases l with
  | nil => simp
  | cons c l =>
    by_cases h : c = m
    · subst h; simp
    · have h2 : (m == c) = false := by simpa using fun e => h e.symm
      have h3 : [m].isPrefixOf (c :: l) = false := by rw [List.isPrefixOf, h2]; rfl
      simp [h, h3]

set_option maxRecDepth 100000 in
set_option maxHeartbeats 1000000 in
theorem readMark_any (R : Nat) (m : UInt8) (l : List UInt8) (F : Bool) (w : World) (h : Hid (Reader w R l F)) :
    Calls Tryz.prog 103 #[.pointer (some ⟨R, 0, none⟩), .string ⟨#[m]⟩] w fun e w' => e = .returned (.tuple #[]) ∧ Reader w' R (markP m l F).1 (markP m l F).2 ∧ w.grownBy w' (some R) := by
  obtain ⟨c0, c1, hf⟩ := h.out.cells
  have hf0 := hf 0
  have hf1 := hf 1
  have HC : Hid (∀ W, Calls Tryz.prog 112 #[.string (bytesOf l), .string ⟨#[m]⟩] W fun e w' => e = .returned (.tuple #[.string (bytesOf (markP m l F).1), .bool (Lib.hasPrefix l [m])]) ∧ w' = W) := Lib.hid (fun W => by
    have h := Tryz.strings_CutPrefix (bytesOf l) ⟨#[m]⟩ W
    rw [bytesOf_list, show (ByteArray.mk #[m]).data.toList = [m] from rfl, (cut_one m l F).1] at h
    exact h)
  have HO := Lib.hid (cut_one m l F).2
  generalize Lib.hasPrefix l [m] = ok at HC HO
  generalize (markP m l F).1 = l' at HC ⊢
  rw [← HO.out]
  clear hf
  go_enter Tryz.func103, Tryz.ntmps103
  go_wp2_with fail
  refine (HC.out _).mono ?_
  rintro e w' ⟨rfl, rfl⟩
  have H1 := Lib.hid (h.out.set0 l')
  have G1 := Lib.hid (grew_set w' R 0 (.string (bytesOf l')))
  cases F <;> cases ok
  all_goals
    go_wp2_with fail
    go_end0
    exact ⟨rfl, h.out.set l' _, (grew_set w' R 0 (.string (bytesOf l'))).trans (grew_set _ R 1 _)⟩

theorem ext_take (l : List UInt8) (n : Nat) : (bytesOf l).extract 0 n = bytesOf (l.take n) := by
  apply ByteArray.ext
  simp [bytesOf]
theorem ext_drop (l : List UInt8) (n : Nat) : (bytesOf l).extract n (bytesOf l).size = bytesOf (l.drop n) := by
  apply ByteArray.ext
  simp [bytesOf, ByteArray.size]
  rw [List.take_of_length_le (by simp)]

/-- Behind a reading: a tree in new memory, and the reader is further on. -/
def TreePost (R : Nat) (r : PT × List UInt8 × Bool) (w : World) (e : Ending) (w' : World) : Prop :=
  ∃ p, e = .returned (.pointer (some ⟨p, 0, none⟩)) ∧ PTree w.heap.size w' r.1 p ∧ Reader w' R r.2.1 r.2.2 ∧ w.grownBy w' (some R)
theorem leaf_done {R : Nat} {l l' : List UInt8} {F F' : Bool} {us : List Int} {a : Option Addr} {cap : Nat} {w w2 : World} (h : Reader w R l F) (h2 : Reader w2 R l F) (hg : w.grownBy w2 (some R)) (hi : Ints w2 a us) (ho : Own w.heap.size w2 a us.length) (hk : Cap a us.length cap) :
    TreePost R (.leaf us, l', F') w (.returned (.pointer (some ⟨w2.heap.size, 0, none⟩))) (((w2.setCell ⟨R, 0, none⟩ (.string (bytesOf l'))).setCell ⟨R, 1, none⟩ (.bool F')).alloc (.cells #[.slice a us.length cap, .pointer none, .pointer none] 78)) := by
  have hg2 := (grew_set w2 R 0 (.string (bytesOf l'))).trans (grew_set _ R 1 (.bool F'))
  have h3 := h2.set l' F'
  obtain ⟨W, hW⟩ : ∃ W, W = (w2.setCell ⟨R, 0, none⟩ (.string (bytesOf l'))).setCell ⟨R, 1, none⟩ (.bool F') := ⟨_, rfl⟩
  have hz : w2.heap.size = W.heap.size := by rw [hW]; simp [World.setCell]
  rw [← hW] at hg2 h3 ⊢
  rw [hz]
  have hb := (Below.refl W.heap.size W).alloc (Nat.le_refl _) (.cells #[.slice a us.length cap, .pointer none, .pointer none] 78)
  have hlt := h.lt
  exact ⟨_, rfl, ⟨by have := hg.size; omega, a, cap, heap_alloc_new W _, (ints_off hi ho hg2 hlt).on hb, (own_off ho hg2 hlt).on hb, hk⟩, h3.on hb, (hg.trans hg2).trans (grew_of hb)⟩
set_option maxRecDepth 100000 in
set_option maxHeartbeats 1000000 in
theorem readLeaf_any (R : Nat) (l : List UInt8) (F : Bool) (w : World) (h : Hid (Reader w R l F)) (h80 : l.length ≤ 80) :
    Calls Tryz.prog 102 #[.pointer (some ⟨R, 0, none⟩)] w (TreePost R (leafP l F) w) := by
  obtain ⟨c0, c1, hf⟩ := h.out.cells
  have hf0 := hf 0
  have hf1 := hf 1
  have hz := bytesOf_size l
  have hle := leafLen_le l
  have HC : Hid (∀ W, Calls Tryz.prog 110 #[.string (bytesOf l), .string ⟨#[44, 93]⟩] W fun e w' => e = .returned (.int .i64 (if leafLen l < l.length then (leafLen l : Int) else -1)) ∧ Below W.heap.size W w') := Lib.hid (fun W => by
    have h := indexAny_leaf (bytesOf l) W (by rw [bytesOf_size]; exact h80)
    rwa [bytesOf_list, bytesOf_size] at h)
  have hW : leafW l = (bytesOf l).extract 0 (leafLen l) := (ext_take l _).symm
  have hD : (bytesOf l).extract (leafLen l) l.length = bytesOf (l.drop (leafLen l)) := by rw [← ext_drop, bytesOf_size]
  have HP : Hid (∀ W, Calls Tryz.prog 111 #[.string ((bytesOf l).extract 0 (leafLen l))] W (SB (parseOut (leafW l)) (parseB (leafW l)) W)) := Lib.hid (fun W => by
    rw [← hW]
    exact implParseW_any _ W (by rw [leafW, bytesOf_size]; simp; omega))
  have HE : Hid (leafP l F = (.leaf (parseOut (leafW l)), l.drop (leafLen l), F || !parseB (leafW l) || decide ((parseOut (leafW l)).length = 0))) := Lib.hid rfl
  obtain ⟨l', hl'⟩ : ∃ l', l' = l.drop (leafLen l) := ⟨_, rfl⟩
  obtain ⟨n, hn⟩ : ∃ n, n = leafLen l := ⟨_, rfl⟩
  obtain ⟨us, hus⟩ : ∃ us, us = parseOut (leafW l) := ⟨_, rfl⟩
  obtain ⟨ok, hok⟩ : ∃ ok, ok = parseB (leafW l) := ⟨_, rfl⟩
  obtain ⟨z, hz0⟩ : ∃ z, z = decide ((parseOut (leafW l)).length = 0) := ⟨_, rfl⟩
  rw [← hl', ← hz0] at HE
  rw [← hl'] at hD
  rw [← hus] at hz0
  have hq0 : ((us.length : Int) == 0) = z := by
    rw [hz0]
    by_cases h : us.length = 0 <;> simp [h]
  rw [← hus, ← hok] at HP HE
  rw [← hn] at HC HP hD hle
  rw [HE.out]
  clear hW hf hl' hn hus hok HE hz0
  by_cases hlt : n < l.length
  · rw [if_pos hlt] at HC
    go_enter Tryz.func102, Tryz.ntmps102
    go_wp2_with fail
    refine (HC.out _).mono ?_
    rintro e w1 ⟨rfl, hb⟩
    have HR1 := Lib.hid (h.out.on hb)
    obtain ⟨c2, c3, hf⟩ := HR1.out.cells
    have hf2 := hf 0
    have hf3 := hf 1
    have HG1 := Lib.hid (grew_of (b := some R) hb)
    clear hb hf
    go_wp2_with fail
    refine (HP.out _).mono ?_
    rintro e w2 ⟨v, rfl, ⟨a, cap, rfl, hi, ho, hk⟩, hb2⟩
    have HR2 := Lib.hid (HR1.out.on hb2)
    obtain ⟨c4, c5, hf⟩ := HR2.out.cells
    have hf4 := hf 0
    have hf5 := hf 1
    have HG2 := Lib.hid (HG1.out.trans (grew_of (b := some R) hb2))
    have HI := Lib.hid hi
    have HO := Lib.hid (ho.mono HG1.out.size)
    have HK := Lib.hid hk
    clear hb2 hf hi ho hk
    cases F <;> cases ok <;> cases z
    all_goals
      go_wp2_with fail
      go_ret
      exact leaf_done h.out HR2.out HG2.out HI.out HO.out HK.out
  · rw [if_neg hlt] at HC
    obtain rfl : n = l.length := by omega
    have HEE : Hid (bytesOf l' = ByteArray.empty) := Lib.hid (by rw [← hD]; apply ByteArray.ext; simp)
    go_enter Tryz.func102, Tryz.ntmps102
    go_wp2_with fail
    refine (HC.out _).mono ?_
    rintro e w1 ⟨rfl, hb⟩
    have HR1 := Lib.hid (h.out.on hb)
    obtain ⟨c2, c3, hf⟩ := HR1.out.cells
    have hf2 := hf 0
    have hf3 := hf 1
    have HG1 := Lib.hid (grew_of (b := some R) hb)
    clear hb hf
    go_wp2_with fail
    refine (HP.out _).mono ?_
    rintro e w2 ⟨v, rfl, ⟨a, cap, rfl, hi, ho, hk⟩, hb2⟩
    have HR2 := Lib.hid (HR1.out.on hb2)
    obtain ⟨c4, c5, hf⟩ := HR2.out.cells
    have hf4 := hf 0
    have hf5 := hf 1
    have HG2 := Lib.hid (HG1.out.trans (grew_of (b := some R) hb2))
    have HI := Lib.hid hi
    have HO := Lib.hid (ho.mono HG1.out.size)
    have HK := Lib.hid hk
    clear hb2 hf hi ho hk
    cases F <;> cases ok <;> cases z
    all_goals
      go_wp2_with fail
      go_ret
      have hfin := fun b => leaf_done (l' := l') (F' := b) h.out HR2.out HG2.out HI.out HO.out HK.out
      rw [HEE.out] at hfin
      exact hfin _

end Go.Proofs.YtmcbaejgimopmaaGreat
