/- Contract: impl.CommutatorOf. Conditions: numbers of 64 bits, lengths that fit. -/
import Derived.Test.YtnmjanhpjnlfcaaBdCommSpec
import Derived.Test.YtnmjanhpjnlfcaaConcatWalks
namespace Go.Proofs.Ytnmjanhpjnlfcaa
open Go.ChangeShapes Go.WideShapes Go.ChangeAt Go.RowKit
set_option linter.unusedVariables false

theorem sb_made {w w' : World} {o : Obj} {out : List Int} {ok : Bool} {e : Ending} (h : SB out ok (w.alloc o) e w') : SB out ok w e w' := by
  obtain ⟨v, rfl, hr, hb⟩ := h
  have h1 : w.heap.size ≤ (w.alloc o).heap.size := by simp
  exact ⟨v, rfl, hr.mono h1, ((Below.refl _ w).alloc (Nat.le_refl _) o).trans (hb.mono h1)⟩
theorem facs_four (w : World) (f1 f2 f3 f4 : Fac) (t : TypeId) (h1 : Ints w f1.1 f1.2.2) (k1 : Cap f1.1 f1.2.2.length f1.2.1) (h2 : Ints w f2.1 f2.2.2) (k2 : Cap f2.1 f2.2.2.length f2.2.1) (h3 : Ints w f3.1 f3.2.2) (k3 : Cap f3.1 f3.2.2.length f3.2.1) (h4 : Ints w f4.1 f4.2.2) (k4 : Cap f4.1 f4.2.2.length f4.2.1) :
    Facs (w.alloc (.cells #[.slice f1.1 f1.2.2.length f1.2.1, .slice f2.1 f2.2.2.length f2.2.1, .slice f3.1 f3.2.2.length f3.2.1, .slice f4.1 f4.2.2.length f4.2.1] t)) (some ⟨w.heap.size, 0, none⟩) [f1, f2, f3, f4] := by
  have hb : Below w.heap.size w (w.alloc (.cells #[.slice f1.1 f1.2.2.length f1.2.1, .slice f2.1 f2.2.2.length f2.2.1, .slice f3.1 f3.2.2.length f3.2.1, .slice f4.1 f4.2.2.length f4.2.1] t)) := (Below.refl _ w).alloc (Nat.le_refl _) _
  intro j f hf
  match j, hf with
  | 0, hf => simp at hf; subst hf; exact ⟨⟨_, _, rfl, by simp⟩, h1.on hb, k1⟩
  | 1, hf => simp at hf; subst hf; exact ⟨⟨_, _, rfl, by simp⟩, h2.on hb, k2⟩
  | 2, hf => simp at hf; subst hf; exact ⟨⟨_, _, rfl, by simp⟩, h3.on hb, k3⟩
  | 3, hf => simp at hf; subst hf; exact ⟨⟨_, _, rfl, by simp⟩, h4.on hb, k4⟩
  | j + 4, hf => simp at hf
theorem product_four (a1 a2 a3 a4 : Option Addr) (c1 c2 c3 c4 : Nat) (xs ys zs us : List Int) (w : World) (t : TypeId) (h1 : Hid (Ints w a1 xs)) (k1 : Hid (Cap a1 xs.length c1)) (h2 : Hid (Ints w a2 ys)) (k2 : Hid (Cap a2 ys.length c2)) (h3 : Hid (Ints w a3 zs)) (k3 : Hid (Cap a3 zs.length c3)) (h4 : Hid (Ints w a4 us)) (k4 : Hid (Cap a4 us.length c4))
    (l1 : Hid (Plain.Letters xs)) (l2 : Hid (Plain.Letters ys)) (l3 : Hid (Plain.Letters zs)) (l4 : Hid (Plain.Letters us)) (n1 : xs.length ≤ 1024) (n2 : ys.length ≤ 1024) (n3 : zs.length ≤ 1024) (n4 : us.length ≤ 1024) :
    Calls Try.prog 41 #[.slice (some ⟨w.heap.size, 0, none⟩) 4 4] (w.alloc (.cells #[.slice a1 xs.length c1, .slice a2 ys.length c2, .slice a3 zs.length c3, .slice a4 us.length c4] t)) (SB (short (Plain.red (xs ++ (ys ++ (zs ++ us))))) (shortB (Plain.red (xs ++ (ys ++ (zs ++ us))))) w) := by
  have hf : flat [(a1, c1, xs), (a2, c2, ys), (a3, c3, zs), (a4, c4, us)] = xs ++ (ys ++ (zs ++ us)) := by simp [flat]
  have h : Calls Try.prog 41 #[.slice (some ⟨w.heap.size, 0, none⟩) 4 4] (w.alloc (.cells #[.slice a1 xs.length c1, .slice a2 ys.length c2, .slice a3 zs.length c3, .slice a4 us.length c4] t)) _ :=
    product_any (some ⟨w.heap.size, 0, none⟩) 4 [(a1, c1, xs), (a2, c2, ys), (a3, c3, zs), (a4, c4, us)] _ (Lib.hid (facs_four w (a1, c1, xs) (a2, c2, ys) (a3, c3, zs) (a4, c4, us) t h1.out k1.out h2.out k2.out h3.out k3.out h4.out k4.out)) (by rw [hf]; exact Lib.hid (l1.out.append (l2.out.append (l3.out.append l4.out)))) (by simp) (by rw [hf]; simp; omega)
  rw [hf] at h
  exact h.mono fun _ _ => sb_made

set_option maxRecDepth 100000 in
set_option maxHeartbeats 400000 in
theorem commutator_any (a1 a2 : Option Addr) (c1 c2 : Nat) (xs ys : List Int) (w : World) (h1 : Hid (Ints w a1 xs)) (k1 : Hid (Cap a1 xs.length c1)) (h2 : Hid (Ints w a2 ys)) (k2 : Hid (Cap a2 ys.length c2))
    (L1 : Hid (Plain.Letters xs)) (L2 : Hid (Plain.Letters ys)) (m1 : xs.length ≤ 1024) (m2 : ys.length ≤ 1024) :
    Calls Try.prog 42 #[.slice a1 xs.length c1, .slice a2 ys.length c2] w (SB (short (Plain.red (commZ xs ys))) (shortB (Plain.red (commZ xs ys))) w) := by
  have L3 := Lib.hid L1.out.inv
  have L4 := Lib.hid L2.out.inv
  have hl3 : (Plain.inv xs).length ≤ 1024 := by rw [Plain.inv_length]; exact m1
  have hl4 : (Plain.inv ys).length ≤ 1024 := by rw [Plain.inv_length]; exact m2
  obtain ⟨zs, hzs⟩ : ∃ z, z = Plain.inv xs := ⟨_, rfl⟩
  obtain ⟨us, hus⟩ : ∃ z, z = Plain.inv ys := ⟨_, rfl⟩
  have HZ : commZ xs ys = xs ++ (ys ++ (zs ++ us)) := by rw [hzs, hus]; rfl
  rw [HZ]
  rw [← hzs] at L3 hl3
  rw [← hus] at L4 hl4
  have I1 := Lib.hid (fun W (hh : Hid (Ints W a1 xs)) => inverse_any a1 c1 xs W hh L1 (by omega))
  have I2 := Lib.hid (fun W (hh : Hid (Ints W a2 ys)) => inverse_any a2 c2 ys W hh L2 (by omega))
  rw [← hzs] at I1
  rw [← hus] at I2
  obtain ⟨OUT, hOUT⟩ : ∃ z, z = short (Plain.red (xs ++ (ys ++ (zs ++ us)))) := ⟨_, rfl⟩
  obtain ⟨OK, hOK⟩ : ∃ z, z = shortB (Plain.red (xs ++ (ys ++ (zs ++ us)))) := ⟨_, rfl⟩
  rw [← hOUT, ← hOK]
  have HO := Lib.hid (And.intro hOUT hOK)
  clear hzs hus HZ hOUT hOK
  go_enter Try.func42, Try.ntmps42
  go_wp2_with fail
  refine (I1.out _ h1).mono ?_
  rintro e w1 ⟨_, rfl, ⟨a3, c3, rfl, hi, -, hk⟩, hb⟩
  have J3 := Lib.hid hi
  have K3 := Lib.hid hk
  have P1 := Lib.hid (h1.out.on hb)
  have P2 := Lib.hid (h2.out.on hb)
  have B1 := Lib.hid hb
  clear hi hk hb
  go_wp2_with fail
  refine (I2.out _ P2).mono ?_
  rintro e w2 ⟨_, rfl, ⟨a4, c4, rfl, hi, -, hk⟩, hb⟩
  have J4 := Lib.hid hi
  have K4 := Lib.hid hk
  have Q1 := Lib.hid (P1.out.on hb)
  have Q2 := Lib.hid (P2.out.on hb)
  have Q3 := Lib.hid (J3.out.on hb)
  have B2 := Lib.hid (B1.out.trans (hb.mono B1.out.size))
  clear hi hk hb
  go_wp2_with fail
  refine (product_four a1 a2 a3 a4 c1 c2 c3 c4 xs ys zs us _ _ Q1 k1 Q2 k2 Q3 K3 J4 K4 L1 L2 L3 L4 (by omega) (by omega) (by omega) (by omega)).mono ?_
  rw [← HO.out.1, ← HO.out.2]
  rintro e w3 ⟨v, rfl, hr, hb⟩
  have R := Lib.hid (hr.mono B2.out.size)
  have B4 := Lib.hid (B2.out.trans (hb.mono B2.out.size))
  clear hr hb
  go_wp2_with fail
  go_ret2
  exact ⟨_, rfl, R.out, B4.out⟩

set_option maxRecDepth 100000 in
set_option maxHeartbeats 400000 in
theorem implCommutatorOf_any (a1 a2 : Option Addr) (c1 c2 : Nat) (xs ys : List Int) (w : World) (h1 : Hid (Ints w a1 xs)) (k1 : Hid (Cap a1 xs.length c1)) (n1 : Hid (In64 xs)) (h2 : Hid (Ints w a2 ys)) (k2 : Hid (Cap a2 ys.length c2)) (n2 : Hid (In64 ys)) (hx : xs.length ≤ 9223372036854775807) (hy : ys.length ≤ 9223372036854775807) :
    Calls Try.prog 19 #[.slice a1 xs.length c1, .slice a2 ys.length c2] w (SB (prodOut xs ys (commZ xs ys)) (prodOk xs ys (commZ xs ys)) w) := by
  cases hw1 : Plain.wordB xs with
  | false =>
    have HE := Lib.hid (prod_no1 (zs := commZ xs ys) (ys := ys) hw1)
    have W1 := Lib.hid hw1
    clear hw1
    go_enter Try.func19, Try.ntmps19
    go_wp2_with fail
    refine (isWord_any _ _ xs _ h1 n1 hx).mono ?_
    rw [W1.out]
    rintro e w' ⟨rfl, rfl⟩
    go_wp2_with fail
    go_ret2
    exact sb_eq HE.out.1 HE.out.2 ⟨_, rfl, (coll_res (coll_start w)).1, (coll_start w).2.1⟩
  | true =>
    cases hw2 : Plain.wordB ys with
    | false =>
      have HE := Lib.hid (prod_no2 (zs := commZ xs ys) (xs := xs) hw2)
      have W1 := Lib.hid hw1
      have W2 := Lib.hid hw2
      clear hw1 hw2
      go_enter Try.func19, Try.ntmps19
      go_wp2_with fail
      refine (isWord_any _ _ xs _ h1 n1 hx).mono ?_
      rw [W1.out]
      rintro e w' ⟨rfl, rfl⟩
      go_wp2_with fail
      refine (isWord_any _ _ ys _ h2 n2 hy).mono ?_
      rw [W2.out]
      rintro e w' ⟨rfl, rfl⟩
      go_wp2_with fail
      go_ret2
      exact sb_eq HE.out.1 HE.out.2 ⟨_, rfl, (coll_res (coll_start w)).1, (coll_start w).2.1⟩
    | true =>
      have HE := Lib.hid (prod_yes (zs := commZ xs ys) hw1 hw2)
      have m1 := (Plain.wordB_iff.1 hw1).1
      have m2 := (Plain.wordB_iff.1 hw2).1
      have L1 := Lib.hid (Plain.wordB_iff.1 hw1).2
      have L2 := Lib.hid (Plain.wordB_iff.1 hw2).2
      have W1 := Lib.hid hw1
      have W2 := Lib.hid hw2
      clear hw1 hw2
      obtain ⟨OUT, hOUT⟩ : ∃ z, z = short (Plain.red (commZ xs ys)) := ⟨_, rfl⟩
      obtain ⟨OK, hOK⟩ : ∃ z, z = shortB (Plain.red (commZ xs ys)) := ⟨_, rfl⟩
      rw [← hOUT, ← hOK] at HE
      have HO := Lib.hid (And.intro hOUT hOK)
      clear hOUT hOK
      go_enter Try.func19, Try.ntmps19
      go_wp2_with fail
      refine (isWord_any _ _ xs _ h1 n1 hx).mono ?_
      rw [W1.out]
      rintro e w' ⟨rfl, rfl⟩
      go_wp2_with fail
      refine (isWord_any _ _ ys _ h2 n2 hy).mono ?_
      rw [W2.out]
      rintro e w' ⟨rfl, rfl⟩
      go_wp2_with fail
      refine (commutator_any a1 a2 c1 c2 xs ys _ h1 k1 h2 k2 L1 L2 (by omega) (by omega)).mono ?_
      rw [← HO.out.1, ← HO.out.2]
      rintro e w3 ⟨v, rfl, hr, hb⟩
      have R := Lib.hid (And.intro hr hb)
      clear hr hb
      go_wp2_with fail
      go_ret2
      exact sb_eq HE.out.1 HE.out.2 ⟨_, rfl, R.out.1, R.out.2⟩

end Go.Proofs.Ytnmjanhpjnlfcaa
