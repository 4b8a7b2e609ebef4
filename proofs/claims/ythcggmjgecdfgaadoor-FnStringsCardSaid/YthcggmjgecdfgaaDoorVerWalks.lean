/- Contracts: impl.AppendChecksum, spec.VerifyChecksum, impl.VerifyChecksum. Condition: the library's table of powers of ten, and its search bound, lie as a program has them. -/
import Derived.Test.YthcggmjgecdfgaaDoorSealWalks
import Derived.Test.YthcggmjgecdfgaaDoorCloneWalks
namespace Go.Proofs.YthcggmjgecdfgaaDoor
open Go.ChangeShapes Go.WideShapes Go.ChangeAt Go.RowKit

/-- The library's bound on a direct search is some int. -/
def MaxIs (w : World) : Prop := ∃ m, w.cell? ⟨2, 0, none⟩ = some (.int .i64 m)
theorem MaxIs.on {w w' : World} (h : MaxIs w) (hb : Below w.heap.size w w') : MaxIs w' := by
  obtain ⟨m, hm⟩ := h
  exact ⟨m, cell_later hb hm⟩

theorem implAppend_no (s : ByteArray) (w : World) (hT : Hid (Tab w)) (hs : s.size ≤ 9223372036854775807) (h : sealOk s = false) :
    Calls Tryd.prog 16 #[.string s] w fun e w' => e = .returned (.tuple #[.string ByteArray.empty, .bool false]) ∧ Below w.heap.size w w' := by
  have hl : s.size ≤ maxLen := by unfold maxLen; omega
  have HH := Lib.hid h
  clear h
  by_cases h1 : 4000 < s.size
  · go_enter Tryd.func16, Tryd.ntmps16
    go_wp2_with (go_at_call 31; refine (implChecksum_long _ _ hl h1).mono ?_; rintro e w' ⟨rfl, rfl⟩)
    go_ret2
    exact ⟨rfl, Below.refl _ _⟩
  · cases h2 : Plain.has s 35 with
    | true =>
      go_enter Tryd.func16, Tryd.ntmps16
      go_wp2_with (first | (go_at_call 31; refine (implChecksum_any _ _ (by omega)).mono ?_; rintro e w' ⟨rfl, rfl⟩) | (go_at_call 32; refine (contains_mark _ _).mono ?_; rintro e w' ⟨rfl, rfl⟩))
      go_ret2
      exact ⟨rfl, Below.refl _ _⟩
    | false =>
      have h3 : 4000 < s.size + 1 + (Plain.sumS s).size := by
        have := HH.out
        unfold sealOk at this
        rw [h2] at this
        simp at this
        have h4 := this (by omega)
        rw [Plain.sealS_size] at h4
        exact h4
      have hlt := Plain.sumOf_lt s.data.toList
      have h6 := Plain.sumS_size s
      have hfmt := Lib.hid (implFormatInt_any (Plain.sumOf s.data.toList : Nat) (by omega) (by omega) w hT)
      have HI := Lib.hid (Plain.intS_nat (Plain.sumOf s.data.toList))
      have HS : Hid (Plain.numS (Plain.sumOf s.data.toList) = Plain.sumS s) := Lib.hid rfl
      go_enter Tryd.func16, Tryd.ntmps16
      go_wp2_with (first | (go_at_call 31; refine (implChecksum_any _ _ (by omega)).mono ?_; rintro e w' ⟨rfl, rfl⟩) | (go_at_call 32; refine (contains_mark _ _).mono ?_; rintro e w' ⟨rfl, rfl⟩) | (go_at_call 10; refine hfmt.out.mono ?_; rw [HI.out, HS.out]; rintro e w1 ⟨rfl, hb⟩))
      go_ret2
      exact ⟨rfl, hb⟩

theorem implAppend_yes (s : ByteArray) (w : World) (hT : Hid (Tab w)) (h : sealOk s = true) :
    Calls Tryd.prog 16 #[.string s] w fun e w' => e = .returned (.tuple #[.string (Plain.sealS s), .bool true]) ∧ Below w.heap.size w w' := by
  unfold sealOk at h
  simp only [Bool.and_eq_true, decide_eq_true_eq, Bool.not_eq_true'] at h
  obtain ⟨⟨h1, h2⟩, h3⟩ := h
  rw [Plain.sealS_size] at h3
  have hlt := Plain.sumOf_lt s.data.toList
  have h6 := Plain.sumS_size s
  have hfmt := Lib.hid (implFormatInt_any (Plain.sumOf s.data.toList : Nat) (by omega) (by omega) w hT)
  have HI := Lib.hid (Plain.intS_nat (Plain.sumOf s.data.toList))
  have HS : Hid (Plain.numS (Plain.sumOf s.data.toList) = Plain.sumS s) := Lib.hid rfl
  have b1 : (s.size : Int) ≤ 8388608 := by omega
  have b2 : ((⟨#[35]⟩ : ByteArray).size : Int) ≤ 8388608 := by show ((1 : Nat) : Int) ≤ _; omega
  have b3 : ((s ++ ⟨#[35]⟩).size : Int) ≤ 8388608 := by rw [ByteArray.size_append]; show ((s.size + 1 : Nat) : Int) ≤ _; omega
  have b4 : ((Plain.sumS s).size : Int) ≤ 8388608 := by omega
  go_enter Tryd.func16, Tryd.ntmps16
  go_wp2_with (first | (go_at_call 31; refine (implChecksum_any _ _ h1).mono ?_; rintro e w' ⟨rfl, rfl⟩) | (go_at_call 32; refine (contains_mark _ _).mono ?_; rintro e w' ⟨rfl, rfl⟩) | (go_at_call 10; refine hfmt.out.mono ?_; rw [HI.out, HS.out]; rintro e w1 ⟨rfl, hb⟩))
  go_ret2
  exact ⟨rfl, hb⟩

theorem l1Split_head (s : ByteArray) (w : World) (hs : s.size ≤ 1048576) :
    Calls Tryd.prog 37 #[.string s, .int .u8 35] w fun e w' =>
      ∃ g n cap, e = .returned (.slice (some ⟨g, 0, none⟩) n cap) ∧ 0 < n ∧ w'.cell? ⟨g, 0, none⟩ = some (.string (Plain.before s 35)) ∧ Below w.heap.size w w' := by
  refine (l1Split_any s 35 w hs).mono ?_
  rintro e w' ⟨v, rfl, hown, hb⟩
  have hp := Plain.parts_pos s 35
  obtain ⟨rest, hr⟩ := Plain.parts_head s 35
  have hown0 := hown
  obtain ⟨hl, h | ⟨g, cap, cur, rfl, hg, hc, hn, hm, hz, ht⟩⟩ := hown
  · omega
  · refine ⟨g, _, cap, rfl, hp, ?_, hb⟩
    rw [World.ownsRow.cellAt hown0 0 (by omega), hr]
    rfl

theorem cut_mark (s : ByteArray) (w : World) (hM : Hid (MaxIs w)) (hs : s.size < 4294967281) :
    Calls Tryd.prog 35 #[.string s, .string ⟨#[35]⟩] w fun e w' => ∃ x y, e = .returned (.tuple #[.string (Plain.before s 35), .string x, .bool y]) ∧ ∃ n, w' = w.drewN n := by
  obtain ⟨m, hm⟩ := hM.out
  refine (Tryd.strings_Cut s ⟨#[35]⟩ m w hs hm).mono ?_
  rintro e w' ⟨rfl, n, rfl⟩
  have e1 : Plain.before s 35 = ⟨(Lib.cut s.data.toList [35]).1.toArray⟩ := by unfold Plain.before; rw [Plain.cut_one]
  rw [e1]
  exact ⟨⟨(Lib.cut s.data.toList [35]).2.1.toArray⟩, (Lib.cut s.data.toList [35]).2.2, rfl, n, rfl⟩

theorem specVerify_long (s : ByteArray) (w : World) (hs : s.size ≤ 9223372036854775807) (h : 4000 < s.size) :
    Calls Tryd.prog 20 #[.string s] w fun e w' => e = .returned (.tuple #[.string ByteArray.empty, .bool false]) ∧ Below w.heap.size w w' := by
  go_enter Tryd.func20, Tryd.ntmps20
  go_wp2_with fail
  go_ret2
  exact ⟨rfl, Below.refl _ _⟩

theorem str_eq {a b : ByteArray} (h : a = b) : (a.toList == b.toList) = true := by rw [h]; simp
theorem str_ne {a b : ByteArray} (h : ¬ a = b) : (a.toList == b.toList) = false := by
  rw [beq_eq_false_iff_ne]
  intro e
  rw [Lib.toList_data, Lib.toList_data] at e
  exact h (Plain.eq_of_list e)

theorem specVerify_no (s : ByteArray) (w : World) (h : s.size ≤ 4000) (hne : ¬ Plain.sealS (Plain.before s 35) = s) :
    Calls Tryd.prog 20 #[.string s] w fun e w' => e = .returned (.tuple #[.string ByteArray.empty, .bool false]) ∧ Below w.heap.size w w' := by
  have hsp := Lib.hid (l1Split_head s w (by omega))
  have hse := Lib.hid (fun w => l1Seal_any (Plain.before s 35) w (by have := Plain.before_size s 35; omega))
  have hq := str_ne hne
  clear hne
  go_enter Tryd.func20, Tryd.ntmps20
  go_wp2_with fail
  refine hsp.out.mono ?_
  rintro e w1 ⟨g, n, cap, rfl, hn, hc, hb⟩
  go_wp2_with (go_at_call 34; refine (hse.out _).mono ?_; rintro e w' ⟨rfl, m, rfl⟩)
  go_ret2
  exact ⟨rfl, below_drewN hb m⟩

theorem specVerify_yes (s : ByteArray) (w : World) (h : s.size ≤ 4000) (he : Plain.sealS (Plain.before s 35) = s) :
    Calls Tryd.prog 20 #[.string s] w fun e w' => e = .returned (.tuple #[.string (Plain.before s 35), .bool true]) ∧ Below w.heap.size w w' := by
  have hsp := Lib.hid (l1Split_head s w (by omega))
  have hse := Lib.hid (fun w => l1Seal_any (Plain.before s 35) w (by have := Plain.before_size s 35; omega))
  have hq := str_eq he
  clear he
  go_enter Tryd.func20, Tryd.ntmps20
  go_wp2_with fail
  refine hsp.out.mono ?_
  rintro e w1 ⟨g, n, cap, rfl, hn, hc, hb⟩
  go_wp2_with (go_at_call 34; refine (hse.out _).mono ?_; rintro e w' ⟨rfl, m, rfl⟩)
  go_ret2
  exact ⟨rfl, below_drewN hb m⟩

theorem implVerify_unsealed (s : ByteArray) (w : World) (hT : Hid (Tab w)) (hM : Hid (MaxIs w)) (hs : s.size ≤ 1048576) (hno : sealOk (Plain.before s 35) = false) :
    Calls Tryd.prog 18 #[.string s] w fun e w' => e = .returned (.tuple #[.string ByteArray.empty, .bool false]) ∧ Below w.heap.size w w' := by
  have hbs := Plain.before_size s 35
  have ha := Lib.hid (fun n => implAppend_no (Plain.before s 35) (w.drewN n) (Lib.hid (hT.out.on (below_drewN (Below.refl _ w) n))) (by omega) hno)
  clear hno
  go_enter Tryd.func18, Tryd.ntmps18
  go_wp2_with (first | (go_at_call 35; refine (cut_mark _ _ hM (by omega)).mono ?_; rintro e w' ⟨x, y, rfl, n, rfl⟩) | (go_at_call 16; refine (ha.out _).mono ?_; rintro e w1 ⟨rfl, hb⟩))
  go_ret2
  exact ⟨rfl, (below_drewN (Below.refl _ w) n).trans (hb.mono (by simp))⟩

theorem implVerify_no (s : ByteArray) (w : World) (hT : Hid (Tab w)) (hM : Hid (MaxIs w)) (hs : s.size ≤ 1048576) (hyes : sealOk (Plain.before s 35) = true) (hne : ¬ Plain.sealS (Plain.before s 35) = s) :
    Calls Tryd.prog 18 #[.string s] w fun e w' => e = .returned (.tuple #[.string ByteArray.empty, .bool false]) ∧ Below w.heap.size w w' := by
  have ha := Lib.hid (fun n => implAppend_yes (Plain.before s 35) (w.drewN n) (Lib.hid (hT.out.on (below_drewN (Below.refl _ w) n))) hyes)
  have hq := str_ne hne
  clear hyes hne
  go_enter Tryd.func18, Tryd.ntmps18
  go_wp2_with (first | (go_at_call 35; refine (cut_mark _ _ hM (by omega)).mono ?_; rintro e w' ⟨x, y, rfl, n, rfl⟩) | (go_at_call 16; refine (ha.out _).mono ?_; rintro e w1 ⟨rfl, hb⟩))
  go_ret2
  exact ⟨rfl, (below_drewN (Below.refl _ w) n).trans (hb.mono (by simp))⟩

theorem implVerify_yes (s : ByteArray) (w : World) (hT : Hid (Tab w)) (hM : Hid (MaxIs w)) (hs : s.size ≤ 1048576) (hyes : sealOk (Plain.before s 35) = true) (he : Plain.sealS (Plain.before s 35) = s) :
    Calls Tryd.prog 18 #[.string s] w fun e w' => e = .returned (.tuple #[.string (Plain.before s 35), .bool true]) ∧ Below w.heap.size w w' := by
  have hbs := Plain.before_size s 35
  have ha := Lib.hid (fun n => implAppend_yes (Plain.before s 35) (w.drewN n) (Lib.hid (hT.out.on (below_drewN (Below.refl _ w) n))) hyes)
  have hq := str_eq he
  clear hyes he
  go_enter Tryd.func18, Tryd.ntmps18
  go_wp2_with (first | (go_at_call 35; refine (cut_mark _ _ hM (by omega)).mono ?_; rintro e w' ⟨x, y, rfl, n, rfl⟩) | (go_at_call 16; refine (ha.out _).mono ?_; rintro e w1 ⟨rfl, hb⟩) | (go_at_call 36; refine (clone_any _ _ (by omega)).mono ?_; rintro e w2 ⟨rfl, hb2⟩))
  go_ret2
  exact ⟨rfl, (below_drewN (Below.refl _ w) n).trans ((hb.trans (hb2.mono hb.size)).mono (by simp))⟩

end Go.Proofs.YthcggmjgecdfgaaDoor
