/- Contracts: impl.OrWord, AndWord with their closures; both programs. Conditions: numbers of 64 bits, lengths that fit. -/
import Derived.Test.YtobjifggelmhcaaGreatJoinImpl
import Derived.Test.YtobjifggelmhcaaGreatFamLaw
namespace Go.Proofs.YtobjifggelmhcaaGreat
open Go.ChangeShapes Go.WideShapes Go.ChangeAt Go.RowKit
set_option linter.unusedVariables false

/-- What OrWord and AndWord answer. -/
def twoB (xs ys : List Int) : Bool := Plain.wordB xs && Plain.wordB ys
def orB (o : Bool) (xs ys : List Int) : Bool := twoB xs ys && Plain.joinOk o xs ys
def orW (o : Bool) (xs ys : List Int) : List Int := if twoB xs ys = true then Plain.joinW o xs ys else []
def orN (o : Bool) (xs ys : List Int) : Nat := if twoB xs ys = true then Plain.joinN o xs ys else 0
theorem or_no {o : Bool} {xs ys : List Int} (h : Plain.wordB xs = false ∨ Plain.wordB ys = false) : orW o xs ys = [] ∧ orN o xs ys = 0 ∧ orB o xs ys = false := by
  have hb : twoB xs ys = false := by rcases h with h | h <;> simp [twoB, h]
  simp [orW, orN, orB, hb]
theorem or_yes {o : Bool} {xs ys : List Int} (h1 : Plain.wordB xs = true) (h2 : Plain.wordB ys = true) : orW o xs ys = Plain.joinW o xs ys ∧ orN o xs ys = Plain.joinN o xs ys ∧ orB o xs ys = Plain.joinOk o xs ys := by simp [orW, orN, orB, twoB, h1, h2]
theorem orW_le (o : Bool) (xs ys : List Int) : (orW o xs ys).length ≤ 64 := by
  unfold orW
  split
  · exact Plain.joinW_le _ _ _
  · simp
theorem sib_later {w w1 w' : World} {out : List Int} {n : Int} {ok : Bool} {e : Ending} (hb1 : Below w.heap.size w w1) (h : SIB out n ok w1 e w') : SIB out n ok w e w' := by
  obtain ⟨v, rfl, hr, hb⟩ := h
  exact ⟨v, rfl, hr.mono hb1.size, hb1.trans (hb.mono hb1.size)⟩
set_option maxRecDepth 100000 in
set_option maxHeartbeats 800000 in
theorem or_tells (s g1 g2 : Nat) (a1 a2 : Option Addr) (c1 c2 : Nat) (xs ys : List Int) (w : World) (hs : s < 64) (q1 : Hid (At1 22 w g1 (.slice a1 xs.length c1))) (q2 : Hid (At1 22 w g2 (.slice a2 ys.length c2))) (h1 : Hid (Ints w a1 xs)) (h2 : Hid (Ints w a2 ys)) (l1 : Hid (Plain.Letters xs)) (l2 : Hid (Plain.Letters ys)) (hx : xs.length ≤ 64) (hy : ys.length ≤ 64) :
    Calls Tryz.prog 58 #[.int .i64 (s : Int), .pointer (some ⟨g1, 0, none⟩), .pointer (some ⟨g2, 0, none⟩)] w (Val (.bool (Plain.wantB true xs ys s)) w) := by
  have hc1 := q1.out.cell
  go_enter Tryz.func58, Tryz.ntmps58
  go_wp2_with fail
  clear hc1
  refine (falls_any a1 c1 xs s _ h1 l1 (by omega) hs).mono ?_
  cases hf : Plain.fallsB xs s with
  | true =>
    have HE : Hid (Plain.wantB true xs ys s = true) := Lib.hid (by simp [Plain.wantB, hf])
    clear hf
    rintro e w1 ⟨rfl, hb⟩
    have HB := Lib.hid hb
    clear hb
    go_wp2_with fail
    go_ret
    exact ⟨ret_bool HE.out.symm, HB.out⟩
  | false =>
    have HE : Hid (Plain.wantB true xs ys s = Plain.fallsB ys s) := Lib.hid (by simp [Plain.wantB, hf])
    clear hf
    rintro e w1 ⟨rfl, hb⟩
    have HB := Lib.hid hb
    have hc2 := (q2.out.on hb).cell
    clear hb
    go_wp2_with fail
    clear hc2
    refine (falls_any a2 c2 ys s _ (Lib.hid (h2.out.on HB.out)) l2 (by omega) hs).mono ?_
    rintro e w2 ⟨rfl, hb⟩
    have HB2 := Lib.hid (HB.out.trans (hb.mono HB.out.size))
    clear hb
    go_wp2_with fail
    go_ret
    exact ⟨ret_bool HE.out.symm, HB2.out⟩
set_option maxRecDepth 100000 in
set_option maxHeartbeats 4000000 in
theorem implOrWord_any (a1 a2 : Option Addr) (c1 c2 : Nat) (xs ys : List Int) (w : World) (h1 : Hid (Ints w a1 xs)) (k1 : Hid (Cap a1 xs.length c1)) (n1 : Hid (In64 xs)) (h2 : Hid (Ints w a2 ys)) (k2 : Hid (Cap a2 ys.length c2)) (n2 : Hid (In64 ys)) (hx : xs.length ≤ 1048576) (hy : ys.length ≤ 1048576) :
    Calls Tryz.prog 37 #[.slice a1 xs.length c1, .slice a2 ys.length c2] w (SIB (orW true xs ys) (orN true xs ys : Nat) (orB true xs ys) w) := by
  have hq1 : At1 22 ((w.alloc (.cells #[.slice a1 xs.length c1] 22)).alloc (.cells #[.slice a2 ys.length c2] 22)) w.heap.size (.slice a1 xs.length c1) := at1_old _ _ _
  have hq2 : At1 22 ((w.alloc (.cells #[.slice a1 xs.length c1] 22)).alloc (.cells #[.slice a2 ys.length c2] 22)) (w.heap.size + 1) (.slice a2 ys.length c2) := At1.second _ _ _
  have hcx := hq1.cell
  have H0 := Lib.hid (And.intro hq1 (And.intro hq2 (((Below.refl w.heap.size w).alloc (Nat.le_refl _) (.cells #[.slice a1 xs.length c1] 22)).alloc (by simp) (.cells #[.slice a2 ys.length c2] 22))))
  clear hq1 hq2
  cases hw1 : Plain.wordB xs with
  | false =>
    have HE := Lib.hid (or_no (o := true) (ys := ys) (.inl hw1))
    have W1 := Lib.hid hw1
    clear hw1
    go_enter Tryz.func37, Tryz.ntmps37
    go_wp2_with fail
    obtain ⟨W, hW⟩ : ∃ W, W = ((w.alloc (.cells #[.slice a1 xs.length c1] 22)).alloc (.cells #[.slice a2 ys.length c2] 22)) := ⟨_, rfl⟩
    rw [← hW] at H0 ⊢
    clear hW
    clear hcx
    refine (isWord_any _ _ xs _ (Lib.hid (h1.out.on H0.out.2.2)) n1 (by omega)).mono ?_
    rw [W1.out]
    rintro e w' ⟨rfl, rfl⟩
    have HRES := Lib.hid (coll_res (coll_start W))
    go_wp2_with fail
    go_ret3
    exact sib_of HE.out.1.symm (by rw [HE.out.2.1]; rfl) HE.out.2.2.symm ⟨_, rfl, HRES.out.1.mono H0.out.2.2.size, H0.out.2.2.trans (HRES.out.2.mono H0.out.2.2.size)⟩
  | true =>
    cases hw2 : Plain.wordB ys with
    | false =>
      have HE := Lib.hid (or_no (o := true) (xs := xs) (.inr hw2))
      have W1 := Lib.hid hw1
      have W2 := Lib.hid hw2
      clear hw1 hw2
      go_enter Tryz.func37, Tryz.ntmps37
      go_wp2_with fail
      obtain ⟨W, hW⟩ : ∃ W, W = ((w.alloc (.cells #[.slice a1 xs.length c1] 22)).alloc (.cells #[.slice a2 ys.length c2] 22)) := ⟨_, rfl⟩
      rw [← hW] at H0 ⊢
      clear hW
      clear hcx
      refine (isWord_any _ _ xs _ (Lib.hid (h1.out.on H0.out.2.2)) n1 (by omega)).mono ?_
      rw [W1.out]
      rintro e w' ⟨rfl, rfl⟩
      have hcy := H0.out.2.1.cell
      go_wp2_with fail
      clear hcy
      refine (isWord_any _ _ ys _ (Lib.hid (h2.out.on H0.out.2.2)) n2 (by omega)).mono ?_
      rw [W2.out]
      rintro e w' ⟨rfl, rfl⟩
      have HRES := Lib.hid (coll_res (coll_start W))
      go_wp2_with fail
      go_ret3
      exact sib_of HE.out.1.symm (by rw [HE.out.2.1]; rfl) HE.out.2.2.symm ⟨_, rfl, HRES.out.1.mono H0.out.2.2.size, H0.out.2.2.trans (HRES.out.2.mono H0.out.2.2.size)⟩
    | true =>
      have HE := Lib.hid (or_yes (o := true) hw1 hw2)
      have m1 := (Plain.wordB_iff.1 hw1).1
      have m2 := (Plain.wordB_iff.1 hw2).1
      have L1 := Lib.hid (Plain.wordB_iff.1 hw1).2
      have L2 := Lib.hid (Plain.wordB_iff.1 hw2).2
      have W1 := Lib.hid hw1
      have W2 := Lib.hid hw2
      obtain ⟨t, ht⟩ : ∃ t, t = Plain.wantB true xs ys := ⟨_, rfl⟩
      have HTW := Lib.hid ht
      clear hw1 hw2 ht
      go_enter Tryz.func37, Tryz.ntmps37
      go_wp2_with fail
      obtain ⟨W, hW⟩ : ∃ W, W = ((w.alloc (.cells #[.slice a1 xs.length c1] 22)).alloc (.cells #[.slice a2 ys.length c2] 22)) := ⟨_, rfl⟩
      rw [← hW] at H0 ⊢
      clear hW
      clear hcx
      refine (isWord_any _ _ xs _ (Lib.hid (h1.out.on H0.out.2.2)) n1 (by omega)).mono ?_
      rw [W1.out]
      rintro e w' ⟨rfl, rfl⟩
      have hcy := H0.out.2.1.cell
      go_wp2_with fail
      clear hcy
      refine (isWord_any _ _ ys _ (Lib.hid (h2.out.on H0.out.2.2)) n2 (by omega)).mono ?_
      rw [W2.out]
      rintro e w' ⟨rfl, rfl⟩
      go_wp2_with fail
      have hct : Tells 58 #[] #[.pointer (some ⟨w.heap.size, 0, none⟩), .pointer (some ⟨w.heap.size + 1, 0, none⟩)] t W := fun s X hs hb => by
        rw [HTW.out]
        simpa using or_tells s w.heap.size (w.heap.size + 1) a1 a2 c1 c2 xs ys X hs (Lib.hid (H0.out.1.on hb)) (Lib.hid (H0.out.2.1.on hb)) (Lib.hid (h1.out.on (H0.out.2.2.trans (hb.mono H0.out.2.2.size)))) (Lib.hid (h2.out.on (H0.out.2.2.trans (hb.mono H0.out.2.2.size)))) L1 L2 m1 m2
      refine (tableThat_any 58 #[] #[.pointer (some ⟨w.heap.size, 0, none⟩), .pointer (some ⟨w.heap.size + 1, 0, none⟩)] t _ (enters_of Tryz.func58 (by kernel_rfl) rfl) (Lib.hid hct)).mono ?_
      rintro e w4 ⟨rfl, hb⟩
      have HTN := Lib.hid (tabF_new w4 (fun _ => false))
      have HTF := Lib.hid (tabF_row (t := t) HTN.out)
      have hb5 : Below w4.heap.size w4 ((w4.alloc (.cells (bools fun _ => false) 68)).setRow w4.heap.size (bools t)) := below_setRow ((Below.refl _ w4).alloc (Nat.le_refl _) _) (Nat.le_refl _) _
      have hb6 := hb.trans (hb5.mono hb.size)
      have H5 := Lib.hid (And.intro (H0.out.1.on hb6) (And.intro (H0.out.2.1.on hb6) (H0.out.2.2.trans (hb6.mono H0.out.2.2.size))))
      have hcx5 := H5.out.1.cell
      have hcy5 := H5.out.2.1.cell
      rw [bools_zero] at hcx5 hcy5
      clear hb hct hb5 hb6
      go_wp2_with (first
        | (refine wpList_store_row rfl 68 _ _ rfl w4.heap.size (bools t) rfl rfl 68 (bools fun _ => false) (by rw [← bools_zero]; exact HTN.out) info64f rfl (bools_one _) ?_)
        | (refine wpList_load_row rfl 68 _ rfl w4.heap.size rfl 68 (bools t) (0, 0) _ (by rw [← bools_zero]; exact HTF.out) Tryz.underlying68 rfl info64f ?_))
      rw [← bools_zero]
      clear hcx5 hcy5
      obtain ⟨W5, hW5⟩ : ∃ W5, W5 = ((w4.alloc (.cells (bools fun _ => false) 68)).setRow w4.heap.size (bools t)) := ⟨_, rfl⟩
      rw [← hW5] at H5 ⊢
      clear hW5 HTN HTF
      rw [HTW.out]
      refine (firstJoined_any 61 true a1 a2 c1 c2 xs ys _ (enters_of Tryz.func61 (by kernel_rfl) rfl) (Lib.hid joins_comm) (Lib.hid (h1.out.on H5.out.2.2)) k1 (Lib.hid (h2.out.on H5.out.2.2)) k2 L1 L2 m1 m2).mono ?_
      rintro e w6 ⟨v, rfl, hr, hb⟩
      have R := Lib.hid (And.intro (hr.mono H5.out.2.2.size) (H5.out.2.2.trans (hb.mono H5.out.2.2.size)))
      clear hr hb
      go_wp2_with fail
      go_ret3
      exact sib_of HE.out.1.symm (by rw [HE.out.2.1]) HE.out.2.2.symm ⟨_, rfl, R.out.1, R.out.2⟩

end Go.Proofs.YtobjifggelmhcaaGreat
