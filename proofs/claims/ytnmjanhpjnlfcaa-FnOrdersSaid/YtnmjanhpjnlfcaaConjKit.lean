/- Contracts: impl.productOf at one, two, three lists; spec.l2Conj, spec.ConjugateWord; impl's word.conjugate, commutator, product, ConjugateWord. Conditions: numbers of 64 bits, lengths that fit. -/
import Derived.Test.YtnmjanhpjnlfcaaConcatWalks
namespace Go.Proofs.Ytnmjanhpjnlfcaa
open Go.ChangeShapes Go.WideShapes Go.ChangeAt Go.RowKit
set_option linter.unusedVariables false

theorem sb_new {w w' : World} {o : Obj} {out : List Int} {ok : Bool} {e : Ending} (h : SB out ok (w.alloc o) e w') : SB out ok w e w' := by
  obtain ⟨v, rfl, hr, hb⟩ := h
  have h1 : w.heap.size ≤ (w.alloc o).heap.size := by simp
  exact ⟨v, rfl, hr.mono h1, ((Below.refl _ w).alloc (Nat.le_refl _) o).trans (hb.mono h1)⟩
theorem sb_later {w w1 w' : World} {out : List Int} {ok : Bool} {e : Ending} (hb1 : Below w.heap.size w w1) (h : SB out ok w1 e w') : SB out ok w e w' := by
  obtain ⟨v, rfl, hr, hb⟩ := h
  exact ⟨v, rfl, hr.mono hb1.size, hb1.trans (hb.mono hb1.size)⟩
theorem fac_new1 (w : World) (f1 : Fac) (t : TypeId) (h1 : Ints w f1.1 f1.2.2) (k1 : Cap f1.1 f1.2.2.length f1.2.1) :
    Facs (w.alloc (.cells #[.slice f1.1 f1.2.2.length f1.2.1] t)) (some ⟨w.heap.size, 0, none⟩) [f1] := by
  have hb : Below w.heap.size w (w.alloc (.cells #[.slice f1.1 f1.2.2.length f1.2.1] t)) := (Below.refl _ w).alloc (Nat.le_refl _) _
  intro j f hf
  match j, hf with
  | 0, hf => simp at hf; subst hf; exact ⟨⟨_, _, rfl, by simp⟩, h1.on hb, k1⟩
  | j + 1, hf => simp at hf
theorem fac_new2 (w : World) (f1 f2 : Fac) (t : TypeId) (h1 : Ints w f1.1 f1.2.2) (k1 : Cap f1.1 f1.2.2.length f1.2.1) (h2 : Ints w f2.1 f2.2.2) (k2 : Cap f2.1 f2.2.2.length f2.2.1) :
    Facs (w.alloc (.cells #[.slice f1.1 f1.2.2.length f1.2.1, .slice f2.1 f2.2.2.length f2.2.1] t)) (some ⟨w.heap.size, 0, none⟩) [f1, f2] := by
  have hb : Below w.heap.size w (w.alloc (.cells #[.slice f1.1 f1.2.2.length f1.2.1, .slice f2.1 f2.2.2.length f2.2.1] t)) := (Below.refl _ w).alloc (Nat.le_refl _) _
  intro j f hf
  match j, hf with
  | 0, hf => simp at hf; subst hf; exact ⟨⟨_, _, rfl, by simp⟩, h1.on hb, k1⟩
  | 1, hf => simp at hf; subst hf; exact ⟨⟨_, _, rfl, by simp⟩, h2.on hb, k2⟩
  | j + 2, hf => simp at hf
theorem fac_new3 (w : World) (f1 f2 f3 : Fac) (t : TypeId) (h1 : Ints w f1.1 f1.2.2) (k1 : Cap f1.1 f1.2.2.length f1.2.1) (h2 : Ints w f2.1 f2.2.2) (k2 : Cap f2.1 f2.2.2.length f2.2.1) (h3 : Ints w f3.1 f3.2.2) (k3 : Cap f3.1 f3.2.2.length f3.2.1) :
    Facs (w.alloc (.cells #[.slice f1.1 f1.2.2.length f1.2.1, .slice f2.1 f2.2.2.length f2.2.1, .slice f3.1 f3.2.2.length f3.2.1] t)) (some ⟨w.heap.size, 0, none⟩) [f1, f2, f3] := by
  have hb : Below w.heap.size w (w.alloc (.cells #[.slice f1.1 f1.2.2.length f1.2.1, .slice f2.1 f2.2.2.length f2.2.1, .slice f3.1 f3.2.2.length f3.2.1] t)) := (Below.refl _ w).alloc (Nat.le_refl _) _
  intro j f hf
  match j, hf with
  | 0, hf => simp at hf; subst hf; exact ⟨⟨_, _, rfl, by simp⟩, h1.on hb, k1⟩
  | 1, hf => simp at hf; subst hf; exact ⟨⟨_, _, rfl, by simp⟩, h2.on hb, k2⟩
  | 2, hf => simp at hf; subst hf; exact ⟨⟨_, _, rfl, by simp⟩, h3.on hb, k3⟩
  | j + 3, hf => simp at hf

theorem product1_any (a1 : Option Addr) (c1 : Nat) (xs : List Int) (w : World) (t : TypeId) (h1 : Hid (Ints w a1 xs)) (k1 : Hid (Cap a1 xs.length c1)) (l1 : Hid (Plain.Letters xs)) (n1 : xs.length ≤ 1048576) :
    Calls Try.prog 41 #[.slice (some ⟨w.heap.size, 0, none⟩) 1 1] (w.alloc (.cells #[.slice a1 xs.length c1] t)) (SB (short (Plain.red xs)) (shortB (Plain.red xs)) w) := by
  have hf : flat [(a1, c1, xs)] = xs := by simp [flat]
  have h : Calls Try.prog 41 #[.slice (some ⟨w.heap.size, 0, none⟩) 1 1] (w.alloc (.cells #[.slice a1 xs.length c1] t)) _ :=
    product_any (some ⟨w.heap.size, 0, none⟩) 1 [(a1, c1, xs)] _ (Lib.hid (fac_new1 w (a1, c1, xs) t h1.out k1.out)) (by rw [hf]; exact l1) (by simp) (by rw [hf]; exact n1)
  rw [hf] at h
  exact h.mono fun _ _ => sb_new
theorem product2_any (a1 a2 : Option Addr) (c1 c2 : Nat) (xs ys : List Int) (w : World) (t : TypeId) (h1 : Hid (Ints w a1 xs)) (k1 : Hid (Cap a1 xs.length c1)) (h2 : Hid (Ints w a2 ys)) (k2 : Hid (Cap a2 ys.length c2)) (l1 : Hid (Plain.Letters xs)) (l2 : Hid (Plain.Letters ys)) (n1 : xs.length ≤ 1024) (n2 : ys.length ≤ 1024) :
    Calls Try.prog 41 #[.slice (some ⟨w.heap.size, 0, none⟩) 2 2] (w.alloc (.cells #[.slice a1 xs.length c1, .slice a2 ys.length c2] t)) (SB (short (Plain.red (xs ++ ys))) (shortB (Plain.red (xs ++ ys))) w) := by
  have hf : flat [(a1, c1, xs), (a2, c2, ys)] = xs ++ ys := by simp [flat]
  have h : Calls Try.prog 41 #[.slice (some ⟨w.heap.size, 0, none⟩) 2 2] (w.alloc (.cells #[.slice a1 xs.length c1, .slice a2 ys.length c2] t)) _ :=
    product_any (some ⟨w.heap.size, 0, none⟩) 2 [(a1, c1, xs), (a2, c2, ys)] _ (Lib.hid (fac_new2 w (a1, c1, xs) (a2, c2, ys) t h1.out k1.out h2.out k2.out)) (by rw [hf]; exact Lib.hid (l1.out.append l2.out)) (by simp) (by rw [hf]; simp; omega)
  rw [hf] at h
  exact h.mono fun _ _ => sb_new
theorem product3_any (a1 a2 a3 : Option Addr) (c1 c2 c3 : Nat) (xs ys zs : List Int) (w : World) (t : TypeId) (h1 : Hid (Ints w a1 xs)) (k1 : Hid (Cap a1 xs.length c1)) (h2 : Hid (Ints w a2 ys)) (k2 : Hid (Cap a2 ys.length c2)) (h3 : Hid (Ints w a3 zs)) (k3 : Hid (Cap a3 zs.length c3))
    (l1 : Hid (Plain.Letters xs)) (l2 : Hid (Plain.Letters ys)) (l3 : Hid (Plain.Letters zs)) (n1 : xs.length ≤ 1024) (n2 : ys.length ≤ 1024) (n3 : zs.length ≤ 1024) :
    Calls Try.prog 41 #[.slice (some ⟨w.heap.size, 0, none⟩) 3 3] (w.alloc (.cells #[.slice a1 xs.length c1, .slice a2 ys.length c2, .slice a3 zs.length c3] t)) (SB (short (Plain.red (xs ++ (ys ++ zs)))) (shortB (Plain.red (xs ++ (ys ++ zs)))) w) := by
  have hf : flat [(a1, c1, xs), (a2, c2, ys), (a3, c3, zs)] = xs ++ (ys ++ zs) := by simp [flat]
  have h : Calls Try.prog 41 #[.slice (some ⟨w.heap.size, 0, none⟩) 3 3] (w.alloc (.cells #[.slice a1 xs.length c1, .slice a2 ys.length c2, .slice a3 zs.length c3] t)) _ :=
    product_any (some ⟨w.heap.size, 0, none⟩) 3 [(a1, c1, xs), (a2, c2, ys), (a3, c3, zs)] _ (Lib.hid (fac_new3 w (a1, c1, xs) (a2, c2, ys) (a3, c3, zs) t h1.out k1.out h2.out k2.out h3.out k3.out)) (by rw [hf]; exact Lib.hid (l1.out.append (l2.out.append l3.out))) (by simp) (by rw [hf]; simp; omega)
  rw [hf] at h
  exact h.mono fun _ _ => sb_new

theorem conj_red (g x : List Int) : Plain.red (Plain.red (g ++ x) ++ Plain.inv g) = Plain.red (g ++ (x ++ Plain.inv g)) := by rw [Plain.red_red_append, List.append_assoc]



theorem Plain.conj_le' (g v : List Int) : (Plain.red (g ++ (v ++ Plain.inv g))).length ≤ 2 * g.length + v.length := by
  refine Nat.le_trans (Plain.red_length _) ?_
  rw [List.length_append, List.length_append, Plain.inv_length]; omega
theorem Plain.red_red' (l : List Int) : Plain.red (Plain.red l) = Plain.red l := Plain.red_of_reduced (Plain.red_reduced l)
theorem facs3_any (w : World) (f1 f2 f3 : Fac) (t : TypeId) (h1 : Hid (Ints w f1.1 f1.2.2)) (k1 : Hid (Cap f1.1 f1.2.2.length f1.2.1)) (h2 : Hid (Ints w f2.1 f2.2.2)) (k2 : Hid (Cap f2.1 f2.2.2.length f2.2.1)) (h3 : Hid (Ints w f3.1 f3.2.2)) (k3 : Hid (Cap f3.1 f3.2.2.length f3.2.1)) :
    Facs (w.alloc (.cells #[.slice f1.1 f1.2.2.length f1.2.1, .slice f2.1 f2.2.2.length f2.2.1, .slice f3.1 f3.2.2.length f3.2.1] t)) (some ⟨w.heap.size, 0, none⟩) [f1, f2, f3] := fac_new3 w f1 f2 f3 t h1.out k1.out h2.out k2.out h3.out k3.out
set_option maxRecDepth 100000 in
set_option maxHeartbeats 400000 in
/-- The conjugate of ys by gs. -/
theorem conjugate_any (a1 a2 : Option Addr) (c1 c2 : Nat) (ys gs : List Int) (w : World) (h1 : Hid (Ints w a1 ys)) (k1 : Hid (Cap a1 ys.length c1)) (h2 : Hid (Ints w a2 gs)) (k2 : Hid (Cap a2 gs.length c2))
    (l1 : Hid (Plain.Letters ys)) (l2 : Hid (Plain.Letters gs)) (hy : ys.length ≤ 100000) (hg : gs.length ≤ 100000) :
    Calls Try.prog 43 #[.slice a1 ys.length c1, .slice a2 gs.length c2] w (ListPost (Plain.red (gs ++ (ys ++ Plain.inv gs))) w) := by
  have hli : (Plain.inv gs).length ≤ 100000 := by rw [Plain.inv_length]; exact hg
  have LI := Lib.hid l2.out.inv
  obtain ⟨is, his⟩ : ∃ is, is = Plain.inv gs := ⟨_, rfl⟩
  rw [← his] at hli LI ⊢
  have HI := Lib.hid his
  clear his
  go_enter Try.func43, Try.ntmps43
  go_wp2_with fail
  refine (inverse_any _ _ gs _ h2 l2 (by omega)).mono ?_
  rw [← HI.out]
  rintro e w1 ⟨_, rfl, ⟨a4, c4, rfl, hi, ho, hk⟩, hb⟩
  have I4 := Lib.hid hi
  have K4 := Lib.hid hk
  have B3 := Lib.hid hb
  have H1 := Lib.hid (h1.out.on hb)
  have H2 := Lib.hid (h2.out.on hb)
  clear hi ho hk hb
  go_wp2_with fail
  have hfl : flat [((a2, c2, gs) : Fac), (a1, c1, ys), (a4, c4, is)] = gs ++ (ys ++ is) := by simp [flat]
  have hfs := facs3_any w1 (a2, c2, gs) (a1, c1, ys) (a4, c4, is) 43 H2 k2 H1 k1 I4 K4
  have hc := concat_any (some ⟨w1.heap.size, 0, none⟩) 3 [((a2, c2, gs) : Fac), (a1, c1, ys), (a4, c4, is)] _ (Lib.hid hfs) (by simp) (by rw [hfl]; simp; omega)
  rw [hfl] at hc
  obtain ⟨zs, hzs⟩ : ∃ zs, zs = gs ++ (ys ++ is) := ⟨_, rfl⟩
  have hzl : zs.length ≤ 300000 := by rw [hzs]; simp; omega
  have LZ : Hid (Plain.Letters zs) := Lib.hid (by rw [hzs]; exact l2.out.append (l1.out.append LI.out))
  rw [← hzs] at hc
  have HZ := Lib.hid hzs
  clear hzs hfs hfl
  refine Calls.mono hc ?_
  rintro e w2 ⟨v2, rfl, hC⟩
  obtain ⟨⟨a5, c5, rfl, hi, ho, hk⟩, hb⟩ := coll_res hC
  have I5 := Lib.hid hi
  have hB : Below w.heap.size w w2 := (B3.out.trans (((Below.refl _ w1).alloc (Nat.le_refl _) _).mono B3.out.size)).trans (hb.mono (by have := B3.out.size; simp; omega))
  have B5 := Lib.hid hB
  clear hi ho hk hb hC hc hB
  go_wp2_with fail
  refine (reduced_any _ _ zs _ I5 LZ (by omega)).mono ?_
  rintro e w3 ⟨v, rfl, hr, hb⟩
  have R := Lib.hid (And.intro (hr.mono B5.out.size) (B5.out.trans (hb.mono B5.out.size)))
  clear hr hb
  go_wp2_with fail
  go_ret
  exact ⟨_, rfl, by rw [← HZ.out]; exact R.out.1, R.out.2⟩
set_option maxRecDepth 100000 in
set_option maxHeartbeats 400000 in
theorem implConj_any (a1 a2 : Option Addr) (c1 c2 : Nat) (xs ys : List Int) (w : World) (h1 : Hid (Ints w a1 xs)) (k1 : Hid (Cap a1 xs.length c1)) (n1 : Hid (In64 xs)) (h2 : Hid (Ints w a2 ys)) (k2 : Hid (Cap a2 ys.length c2)) (n2 : Hid (In64 ys)) (hx : xs.length ≤ 9223372036854775807) (hy : ys.length ≤ 9223372036854775807) :
    Calls Try.prog 20 #[.slice a1 xs.length c1, .slice a2 ys.length c2] w (SB (prodOut xs ys (xs ++ (ys ++ Plain.inv xs))) (prodOk xs ys (xs ++ (ys ++ Plain.inv xs))) w) := by
  cases hw1 : Plain.wordB xs with
  | false =>
    have HE := Lib.hid (prod_no1 (zs := xs ++ (ys ++ Plain.inv xs)) (ys := ys) hw1)
    have W1 := Lib.hid hw1
    clear hw1
    go_enter Try.func20, Try.ntmps20
    go_wp2_with fail
    refine (isWord_any _ _ xs _ h1 n1 hx).mono ?_
    rw [W1.out]
    rintro e w' ⟨rfl, rfl⟩
    go_wp2
    go_ret2
    exact sb_eq HE.out.1 HE.out.2 ⟨_, rfl, (coll_res (coll_start w)).1, (coll_start w).2.1⟩
  | true =>
    cases hw2 : Plain.wordB ys with
    | false =>
      have HE := Lib.hid (prod_no2 (zs := xs ++ (ys ++ Plain.inv xs)) (xs := xs) hw2)
      have W1 := Lib.hid hw1
      have W2 := Lib.hid hw2
      clear hw1 hw2
      go_enter Try.func20, Try.ntmps20
      go_wp2_with fail
      refine (isWord_any _ _ xs _ h1 n1 hx).mono ?_
      rw [W1.out]
      rintro e w' ⟨rfl, rfl⟩
      go_wp2_with fail
      refine (isWord_any _ _ ys _ h2 n2 hy).mono ?_
      rw [W2.out]
      rintro e w' ⟨rfl, rfl⟩
      go_wp2
      go_ret2
      exact sb_eq HE.out.1 HE.out.2 ⟨_, rfl, (coll_res (coll_start w)).1, (coll_start w).2.1⟩
    | true =>
      have HE := Lib.hid (prod_yes (zs := xs ++ (ys ++ Plain.inv xs)) hw1 hw2)
      have L1 := Lib.hid (Plain.wordB_iff.1 hw1).2
      have m1 := (Plain.wordB_iff.1 hw1).1
      have W1 := Lib.hid hw1
      have L2 := Lib.hid (Plain.wordB_iff.1 hw2).2
      have m2 := (Plain.wordB_iff.1 hw2).1
      have W2 := Lib.hid hw2
      clear hw1 hw2
      go_enter Try.func20, Try.ntmps20
      go_wp2_with fail
      refine (isWord_any _ _ xs _ h1 n1 hx).mono ?_
      rw [W1.out]
      rintro e w' ⟨rfl, rfl⟩
      go_wp2_with fail
      refine (isWord_any _ _ ys _ h2 n2 hy).mono ?_
      rw [W2.out]
      rintro e w' ⟨rfl, rfl⟩
      have hl1 := Plain.conj_le' xs ys
      have LC := Lib.hid (L1.out.append (L2.out.append L1.out.inv)).red
      have HR := Lib.hid (Plain.red_red' (xs ++ (ys ++ Plain.inv xs)))
      obtain ⟨zs, hzs⟩ : ∃ zs, zs = Plain.red (xs ++ (ys ++ Plain.inv xs)) := ⟨_, rfl⟩
      rw [← hzs] at HE hl1 LC HR
      have HZ := Lib.hid hzs
      clear hzs
      go_wp2_with fail
      refine (conjugate_any _ _ _ _ ys xs _ h2 k2 h1 k1 L2 L1 (by omega) (by omega)).mono ?_
      rw [← HZ.out]
      rintro e w1 ⟨_, rfl, ⟨a3, c3, rfl, hi, ho, hk⟩, hb⟩
      have I3 := Lib.hid hi
      have K3 := Lib.hid hk
      have B3 := Lib.hid hb
      clear hi ho hk hb
      go_wp2_with fail
      refine (product1_any a3 c3 zs _ _ I3 K3 LC (by omega)).mono ?_
      rw [HR.out]
      rintro e w2 ⟨v, rfl, hr, hb⟩
      have R := Lib.hid (hr.mono B3.out.size)
      have B4 := Lib.hid (B3.out.trans (hb.mono B3.out.size))
      clear hr hb
      go_wp2_with fail
      go_ret2
      exact sb_eq HE.out.1 HE.out.2 ⟨_, rfl, R.out, B4.out⟩
end Go.Proofs.Ytnmjanhpjnlfcaa
