/- Contracts: impl.productOf at one, two, three lists; spec.l2Conj, spec.ConjugateWord; impl's word.conjugate, commutator, product, ConjugateWord. Conditions: numbers of 64 bits, lengths that fit. -/
import Derived.Test.YtmcbaejgimopmaaGreatConcatWalks
import Derived.Test.YtmcbaejgimopmaaGreatInvWalks
import Derived.Test.YtmcbaejgimopmaaGreatLawKit
import Derived.Test.YtmcbaejgimopmaaGreatWordWalks
import Derived.Laws.EntriesVeiled
namespace Go.Proofs.YtmcbaejgimopmaaGreat
open Go.ChangeShapes Go.WideShapes Go.ChangeAt Go.RowKit
set_option linter.unusedVariables false

theorem sb_new {w w' : World} {o : Obj} {out : List Int} {ok : Bool} {e : Ending} (h : SB out ok (w.alloc o) e w') : SB out ok w e w' := by
  obtain ⟨v, rfl, hr, hb⟩ := h
  have h1 : w.heap.size ≤ (w.alloc o).heap.size := by simp
  exact ⟨v, rfl, hr.mono h1, ((Below.refl _ w).alloc (Nat.le_refl _) o).trans (hb.mono h1)⟩
theorem sb_later {w w1 w' : World} {out : List Int} {ok : Bool} {e : Ending} (hb1 : Below w.heap.size w w1) (h : SB out ok w1 e w') : SB out ok w e w' := by
  obtain ⟨v, rfl, hr, hb⟩ := h
  exact ⟨v, rfl, hr.mono hb1.size, hb1.trans (hb.mono hb1.size)⟩
theorem fac_new1 (w : World) (f1 : Fac) (t : TypeId) (h1 : Ints w f1.1 f1.2.2) (k1 : Cap f1.1 f1.2.2.length f1.2.1) :
    Facs (w.alloc (.cells #[.slice f1.1 f1.2.2.length f1.2.1] t)) (some ⟨w.heap.size, 0, none⟩) [f1] := by
  have hb : Below w.heap.size w (w.alloc (.cells #[.slice f1.1 f1.2.2.length f1.2.1] t)) := (Below.refl _ w).alloc (Nat.le_refl _) _
  intro j f hf
  match j, hf with
  | 0, hf => simp at hf; subst hf; exact ⟨⟨_, _, rfl, by simp⟩, h1.on hb, k1⟩
  | j + 1, hf => simp at hf
theorem fac_new2 (w : World) (f1 f2 : Fac) (t : TypeId) (h1 : Ints w f1.1 f1.2.2) (k1 : Cap f1.1 f1.2.2.length f1.2.1) (h2 : Ints w f2.1 f2.2.2) (k2 : Cap f2.1 f2.2.2.length f2.2.1) :
    Facs (w.alloc (.cells #[.slice f1.1 f1.2.2.length f1.2.1, .slice f2.1 f2.2.2.length f2.2.1] t)) (some ⟨w.heap.size, 0, none⟩) [f1, f2] := by
  have hb : Below w.heap.size w (w.alloc (.cells #[.slice f1.1 f1.2.2.length f1.2.1, .slice f2.1 f2.2.2.length f2.2.1] t)) := (Below.refl _ w).alloc (Nat.le_refl _) _
  intro j f hf
  match j, hf with
  | 0, hf => simp at hf; subst hf; exact ⟨⟨_, _, rfl, by simp⟩, h1.on hb, k1⟩
  | 1, hf => simp at hf; subst hf; exact ⟨⟨_, _, rfl, by simp⟩, h2.on hb, k2⟩
  | j + 2, hf => simp at hf
theorem fac_new3 (w : World) (f1 f2 f3 : Fac) (t : TypeId) (h1 : Ints w f1.1 f1.2.2) (k1 : Cap f1.1 f1.2.2.length f1.2.1) (h2 : Ints w f2.1 f2.2.2) (k2 : Cap f2.1 f2.2.2.length f2.2.1) (h3 : Ints w f3.1 f3.2.2) (k3 : Cap f3.1 f3.2.2.length f3.2.1) :
    Facs (w.alloc (.cells #[.slice f1.1 f1.2.2.length f1.2.1, .slice f2.1 f2.2.2.length f2.2.1, .slice f3.1 f3.2.2.length f3.2.1] t)) (some ⟨w.heap.size, 0, none⟩) [f1, f2, f3] := by
  have hb : Below w.heap.size w (w.alloc (.cells #[.slice f1.1 f1.2.2.length f1.2.1, .slice f2.1 f2.2.2.length f2.2.1, .slice f3.1 f3.2.2.length f3.2.1] t)) := (Below.refl _ w).alloc (Nat.le_refl _) _
  intro j f hf
  match j, hf with
  | 0, hf => simp at hf; subst hf; exact ⟨⟨_, _, rfl, by simp⟩, h1.on hb, k1⟩
  | 1, hf => simp at hf; subst hf; exact ⟨⟨_, _, rfl, by simp⟩, h2.on hb, k2⟩
  | 2, hf => simp at hf; subst hf; exact ⟨⟨_, _, rfl, by simp⟩, h3.on hb, k3⟩
  | j + 3, hf => simp at hf

theorem product1_any (a1 : Option Addr) (c1 : Nat) (xs : List Int) (w : World) (t : TypeId) (h1 : Hid (Ints w a1 xs)) (k1 : Hid (Cap a1 xs.length c1)) (l1 : Hid (Plain.Letters xs)) (n1 : xs.length ≤ 1048576) :
    Calls Tryz.prog 70 #[.slice (some ⟨w.heap.size, 0, none⟩) 1 1] (w.alloc (.cells #[.slice a1 xs.length c1] t)) (SB (short (Plain.red xs)) (shortB (Plain.red xs)) w) := by
  have hf : flat [(a1, c1, xs)] = xs := by simp [flat]
  have h : Calls Tryz.prog 70 #[.slice (some ⟨w.heap.size, 0, none⟩) 1 1] (w.alloc (.cells #[.slice a1 xs.length c1] t)) _ :=
    product_any (some ⟨w.heap.size, 0, none⟩) 1 [(a1, c1, xs)] _ (Lib.hid (fac_new1 w (a1, c1, xs) t h1.out k1.out)) (by rw [hf]; exact l1) (by simp) (by rw [hf]; exact n1)
  rw [hf] at h
  exact h.mono fun _ _ => sb_new
theorem product2_any (a1 a2 : Option Addr) (c1 c2 : Nat) (xs ys : List Int) (w : World) (t : TypeId) (h1 : Hid (Ints w a1 xs)) (k1 : Hid (Cap a1 xs.length c1)) (h2 : Hid (Ints w a2 ys)) (k2 : Hid (Cap a2 ys.length c2)) (l1 : Hid (Plain.Letters xs)) (l2 : Hid (Plain.Letters ys)) (n1 : xs.length ≤ 1024) (n2 : ys.length ≤ 1024) :
    Calls Tryz.prog 70 #[.slice (some ⟨w.heap.size, 0, none⟩) 2 2] (w.alloc (.cells #[.slice a1 xs.length c1, .slice a2 ys.length c2] t)) (SB (short (Plain.red (xs ++ ys))) (shortB (Plain.red (xs ++ ys))) w) := by
  have hf : flat [(a1, c1, xs), (a2, c2, ys)] = xs ++ ys := by simp [flat]
  have h : Calls Tryz.prog 70 #[.slice (some ⟨w.heap.size, 0, none⟩) 2 2] (w.alloc (.cells #[.slice a1 xs.length c1, .slice a2 ys.length c2] t)) _ :=
    product_any (some ⟨w.heap.size, 0, none⟩) 2 [(a1, c1, xs), (a2, c2, ys)] _ (Lib.hid (fac_new2 w (a1, c1, xs) (a2, c2, ys) t h1.out k1.out h2.out k2.out)) (by rw [hf]; exact Lib.hid (l1.out.append l2.out)) (by simp) (by rw [hf]; simp; omega)
  rw [hf] at h
  exact h.mono fun _ _ => sb_new
theorem product3_any (a1 a2 a3 : Option Addr) (c1 c2 c3 : Nat) (xs ys zs : List Int) (w : World) (t : TypeId) (h1 : Hid (Ints w a1 xs)) (k1 : Hid (Cap a1 xs.length c1)) (h2 : Hid (Ints w a2 ys)) (k2 : Hid (Cap a2 ys.length c2)) (h3 : Hid (Ints w a3 zs)) (k3 : Hid (Cap a3 zs.length c3))
    (l1 : Hid (Plain.Letters xs)) (l2 : Hid (Plain.Letters ys)) (l3 : Hid (Plain.Letters zs)) (n1 : xs.length ≤ 1024) (n2 : ys.length ≤ 1024) (n3 : zs.length ≤ 1024) :
    Calls Tryz.prog 70 #[.slice (some ⟨w.heap.size, 0, none⟩) 3 3] (w.alloc (.cells #[.slice a1 xs.length c1, .slice a2 ys.length c2, .slice a3 zs.length c3] t)) (SB (short (Plain.red (xs ++ (ys ++ zs)))) (shortB (Plain.red (xs ++ (ys ++ zs)))) w) := by
  have hf : flat [(a1, c1, xs), (a2, c2, ys), (a3, c3, zs)] = xs ++ (ys ++ zs) := by simp [flat]
  have h : Calls Tryz.prog 70 #[.slice (some ⟨w.heap.size, 0, none⟩) 3 3] (w.alloc (.cells #[.slice a1 xs.length c1, .slice a2 ys.length c2, .slice a3 zs.length c3] t)) _ :=
    product_any (some ⟨w.heap.size, 0, none⟩) 3 [(a1, c1, xs), (a2, c2, ys), (a3, c3, zs)] _ (Lib.hid (fac_new3 w (a1, c1, xs) (a2, c2, ys) (a3, c3, zs) t h1.out k1.out h2.out k2.out h3.out k3.out)) (by rw [hf]; exact Lib.hid (l1.out.append (l2.out.append l3.out))) (by simp) (by rw [hf]; simp; omega)
  rw [hf] at h
  exact h.mono fun _ _ => sb_new

theorem conj_red (g x : List Int) : Plain.red (Plain.red (g ++ x) ++ Plain.inv g) = Plain.red (g ++ (x ++ Plain.inv g)) := by rw [Plain.red_red_append, List.append_assoc]
set_option maxRecDepth 100000 in
set_option maxHeartbeats 400000 in
theorem l2Conj_any (a1 a2 : Option Addr) (c1 c2 : Nat) (xs ys : List Int) (w : World) (h1 : Hid (Ints w a1 xs)) (k1 : Hid (Cap a1 xs.length c1)) (h2 : Hid (Ints w a2 ys)) (k2 : Hid (Cap a2 ys.length c2))
    (l1 : Hid (Plain.Letters xs)) (l2 : Hid (Plain.Letters ys)) (hx : xs.length ≤ 100000) (hy : ys.length ≤ 100000) :
    Calls Tryz.prog 55 #[.slice a1 xs.length c1, .slice a2 ys.length c2] w (ListPost (Plain.red (xs ++ (ys ++ Plain.inv xs))) w) := by
  have hlz : (Plain.red (xs ++ ys)).length ≤ 200000 := Nat.le_trans (Plain.red_length _) (by simp; omega)
  have hli : (Plain.inv xs).length ≤ 100000 := by rw [Plain.inv_length]; exact hx
  have LZ := Lib.hid (l1.out.append l2.out).red
  have LI := Lib.hid l1.out.inv
  have HC := Lib.hid (conj_red xs ys)
  obtain ⟨zs, hzs⟩ : ∃ zs, zs = Plain.red (xs ++ ys) := ⟨_, rfl⟩
  obtain ⟨is, his⟩ : ∃ is, is = Plain.inv xs := ⟨_, rfl⟩
  rw [← hzs] at hlz LZ HC
  rw [← his] at hli LI HC
  have HZ := Lib.hid hzs
  have HI := Lib.hid his
  clear hzs his
  go_enter Tryz.func55, Tryz.ntmps55
  go_wp2_with fail
  refine (l2Join_any _ _ _ _ xs ys _ h1 k1 h2 k2 l1 l2 (by omega)).mono ?_
  rw [← HZ.out]
  rintro e w1 ⟨_, rfl, ⟨a3, c3, rfl, hi, ho, hk⟩, hb⟩
  have I3 := Lib.hid hi
  have K3 := Lib.hid hk
  have B3 := Lib.hid hb
  have H1 := Lib.hid (h1.out.on hb)
  clear hi ho hk hb
  go_wp2_with fail
  refine (l2Inverse_any _ _ xs _ H1 l1 (by omega)).mono ?_
  rw [← HI.out]
  rintro e w2 ⟨_, rfl, ⟨a4, c4, rfl, hi, ho, hk⟩, hb⟩
  have I4 := Lib.hid hi
  have K4 := Lib.hid hk
  have J3 := Lib.hid (I3.out.on hb)
  have B4 := Lib.hid (B3.out.trans (hb.mono B3.out.size))
  clear hi ho hk hb
  go_wp2_with fail
  refine (l2Join_any _ _ _ _ zs is _ J3 K3 I4 K4 LZ LI (by omega)).mono ?_
  rw [HC.out, HI.out]
  rintro e w3 ⟨v, rfl, hr, hb⟩
  have R := Lib.hid (hr.mono B4.out.size)
  have B5 := Lib.hid (B4.out.trans (hb.mono B4.out.size))
  clear hr hb
  go_wp2
  go_ret
  exact ⟨_, rfl, R.out, B5.out⟩



theorem Plain.conj_le' (g v : List Int) : (Plain.red (g ++ (v ++ Plain.inv g))).length ≤ 2 * g.length + v.length := by
  refine Nat.le_trans (Plain.red_length _) ?_
  rw [List.length_append, List.length_append, Plain.inv_length]; omega
theorem Plain.red_red' (l : List Int) : Plain.red (Plain.red l) = Plain.red l := Plain.red_of_reduced (Plain.red_reduced l)
theorem facs3_any (w : World) (f1 f2 f3 : Fac) (t : TypeId) (h1 : Hid (Ints w f1.1 f1.2.2)) (k1 : Hid (Cap f1.1 f1.2.2.length f1.2.1)) (h2 : Hid (Ints w f2.1 f2.2.2)) (k2 : Hid (Cap f2.1 f2.2.2.length f2.2.1)) (h3 : Hid (Ints w f3.1 f3.2.2)) (k3 : Hid (Cap f3.1 f3.2.2.length f3.2.1)) :
    Facs (w.alloc (.cells #[.slice f1.1 f1.2.2.length f1.2.1, .slice f2.1 f2.2.2.length f2.2.1, .slice f3.1 f3.2.2.length f3.2.1] t)) (some ⟨w.heap.size, 0, none⟩) [f1, f2, f3] := fac_new3 w f1 f2 f3 t h1.out k1.out h2.out k2.out h3.out k3.out
end Go.Proofs.YtmcbaejgimopmaaGreat

/- Contracts: impl.wordForms, impl.formOf at the first two forms; spec.ReduceWord, impl.ReduceWord, spec.InverseWord, impl.InverseWord. Conditions: numbers of 64 bits, lengths that fit. -/
namespace Go.Proofs.YtmcbaejgimopmaaGreat
open Go.ChangeShapes Go.WideShapes Go.ChangeAt Go.RowKit

theorem forms_any (w : World) : Calls Tryz.prog 91 #[] w fun e w' => e = .returned (.agg #[.func (.func 69) #[] #[], .func (.func 75) #[] #[], .func (.func 58) #[] #[], .func (.func 104) #[] #[]]) ∧ Below w.heap.size w w' := by
  go_enter Tryz.func91, Tryz.ntmps91
  go_wp2
  exact bodyPost_ret (v := .agg #[.func (.func 69) #[] #[], .func (.func 75) #[] #[], .func (.func 58) #[] #[], .func (.func 104) #[] #[]]) (by simp [results, Tryz.results91, go_sem]) rfl ⟨rfl, (Below.refl _ _).alloc (Nat.le_refl _) _⟩

theorem run_form0 (w : World) : (Instr.index 85 (.agg #[.func (.func 69) #[] #[], .func (.func 75) #[] #[], .func (.func 58) #[] #[], .func (.func 104) #[] #[]]) (.int .i64 0)).run Tryz.prog w = .ok (.func (.func 69) #[] #[]) w := by
  simp [Instr.index, run_underlying Tryz.underlying85, asIntOf, part, go_sem]
theorem run_form1 (w : World) : (Instr.index 85 (.agg #[.func (.func 69) #[] #[], .func (.func 75) #[] #[], .func (.func 58) #[] #[], .func (.func 104) #[] #[]]) (.int .i64 1)).run Tryz.prog w = .ok (.func (.func 75) #[] #[]) w := by
  simp [Instr.index, run_underlying Tryz.underlying85, asIntOf, part, go_sem]

theorem formOf_no (a : Option Addr) (cap : Nat) (xs : List Int) (f : Int) (w : World) (h : Hid (Ints w a xs)) (h64 : Hid (In64 xs)) (hn : xs.length ≤ 9223372036854775807) (hw : Plain.wordB xs = false) :
    Calls Tryz.prog 68 #[.slice a xs.length cap, .int .i64 f] w (SB [] false w) := by
  have HW := Lib.hid hw
  clear hw
  go_enter Tryz.func68, Tryz.ntmps68
  go_wp2_with (go_at_call 35; refine (isWord_any _ _ xs _ h h64 hn).mono ?_; rw [HW.out]; rintro e w' ⟨rfl, rfl⟩)
  go_ret2
  exact ⟨_, rfl, (coll_res (coll_start w)).1, (coll_start w).2.1⟩

set_option maxRecDepth 100000 in
theorem formOf_0 (a : Option Addr) (cap : Nat) (xs : List Int) (w : World) (h : Hid (Ints w a xs)) (h64 : Hid (In64 xs)) (hw : Plain.wordB xs = true) :
    Calls Tryz.prog 68 #[.slice a xs.length cap, .int .i64 0] w (SB (Plain.red xs) true w) := by
  have hl := Plain.wordB_iff.1 hw
  have hn := hl.1
  have HL := Lib.hid hl.2
  have HW := Lib.hid hw
  clear hw hl
  have hrf := run_form0
  go_enter Tryz.func68, Tryz.ntmps68
  go_wp2_with (go_at_call 35; refine (isWord_any _ _ xs _ h h64 (by omega)).mono ?_; rw [HW.out]; rintro e w' ⟨rfl, rfl⟩)
  go_wp2_with fail
  refine (forms_any _).mono ?_
  rintro e w1 ⟨rfl, hb1⟩
  have H1 := Lib.hid (h.out.on hb1)
  have B1 := Lib.hid hb1
  clear hb1
  go_wp2_with fail
  refine (reduced_any _ _ xs _ H1 HL (by omega)).mono ?_
  rintro e w2 ⟨v, rfl, hr, hb⟩
  have R := Lib.hid (hr.mono B1.out.size)
  have B2 := Lib.hid (B1.out.trans (hb.mono B1.out.size))
  clear hr hb
  go_wp2
  go_ret2
  exact ⟨_, rfl, R.out, B2.out⟩

set_option maxRecDepth 100000 in
theorem formOf_1 (a : Option Addr) (cap : Nat) (xs : List Int) (w : World) (h : Hid (Ints w a xs)) (h64 : Hid (In64 xs)) (hw : Plain.wordB xs = true) :
    Calls Tryz.prog 68 #[.slice a xs.length cap, .int .i64 1] w (SB (Plain.inv xs) true w) := by
  have hl := Plain.wordB_iff.1 hw
  have hn := hl.1
  have HL := Lib.hid hl.2
  have HW := Lib.hid hw
  clear hw hl
  have hrf := run_form1
  go_enter Tryz.func68, Tryz.ntmps68
  go_wp2_with (go_at_call 35; refine (isWord_any _ _ xs _ h h64 (by omega)).mono ?_; rw [HW.out]; rintro e w' ⟨rfl, rfl⟩)
  go_wp2_with fail
  refine (forms_any _).mono ?_
  rintro e w1 ⟨rfl, hb1⟩
  have H1 := Lib.hid (h.out.on hb1)
  have B1 := Lib.hid hb1
  clear hb1
  go_wp2_with fail
  refine (inverse_any _ _ xs _ H1 HL (by omega)).mono ?_
  rintro e w2 ⟨v, rfl, hr, hb⟩
  have R := Lib.hid (hr.mono B1.out.size)
  have B2 := Lib.hid (B1.out.trans (hb.mono B1.out.size))
  clear hr hb
  go_wp2
  go_ret2
  exact ⟨_, rfl, R.out, B2.out⟩

/-- What a form comes to: empty for what is no word. -/
def ifWord (xs out : List Int) : List Int := if Plain.wordB xs = true then out else []
theorem ifWord_yes {xs out : List Int} (h : Plain.wordB xs = true) : ifWord xs out = out := if_pos h
theorem ifWord_no {xs out : List Int} (h : Plain.wordB xs = false) : ifWord xs out = [] := if_neg (by rw [h]; simp)
theorem ifWord_le {xs out : List Int} {n : Nat} (h : out.length ≤ n) : (ifWord xs out).length ≤ n := by
  by_cases hw : Plain.wordB xs = true
  · rw [ifWord_yes hw]; exact h
  · rw [ifWord_no (by simpa using hw)]; exact Nat.zero_le _





end Go.Proofs.YtmcbaejgimopmaaGreat

/- Contracts: spec.JoinWords, impl.JoinWords. Conditions: numbers of 64 bits, lengths that fit. -/
namespace Go.Proofs.YtmcbaejgimopmaaGreat
open Go.ChangeShapes Go.WideShapes Go.ChangeAt Go.RowKit


set_option maxRecDepth 100000 in
set_option maxHeartbeats 400000 in
theorem implJoinW_any (a1 a2 : Option Addr) (c1 c2 : Nat) (xs ys : List Int) (w : World) (h1 : Hid (Ints w a1 xs)) (k1 : Hid (Cap a1 xs.length c1)) (n1 : Hid (In64 xs)) (h2 : Hid (Ints w a2 ys)) (k2 : Hid (Cap a2 ys.length c2)) (n2 : Hid (In64 ys)) (hx : xs.length ≤ 9223372036854775807) (hy : ys.length ≤ 9223372036854775807) :
    Calls Tryz.prog 29 #[.slice a1 xs.length c1, .slice a2 ys.length c2] w (SB (prodOut xs ys (xs ++ ys)) (prodOk xs ys (xs ++ ys)) w) := by
  cases hw1 : Plain.wordB xs with
  | false =>
    have HE := Lib.hid (prod_no1 (zs := xs ++ ys) (ys := ys) hw1)
    have W1 := Lib.hid hw1
    clear hw1
    go_enter Tryz.func29, Tryz.ntmps29
    go_wp2_with fail
    refine (isWord_any _ _ xs _ h1 n1 hx).mono ?_
    rw [W1.out]
    rintro e w' ⟨rfl, rfl⟩
    go_wp2
    go_ret2
    exact sb_eq HE.out.1 HE.out.2 ⟨_, rfl, (coll_res (coll_start w)).1, (coll_start w).2.1⟩
  | true =>
    cases hw2 : Plain.wordB ys with
    | false =>
      have HE := Lib.hid (prod_no2 (zs := xs ++ ys) (xs := xs) hw2)
      have W1 := Lib.hid hw1
      have W2 := Lib.hid hw2
      clear hw1 hw2
      go_enter Tryz.func29, Tryz.ntmps29
      go_wp2_with fail
      refine (isWord_any _ _ xs _ h1 n1 hx).mono ?_
      rw [W1.out]
      rintro e w' ⟨rfl, rfl⟩
      go_wp2_with fail
      refine (isWord_any _ _ ys _ h2 n2 hy).mono ?_
      rw [W2.out]
      rintro e w' ⟨rfl, rfl⟩
      go_wp2
      go_ret2
      exact sb_eq HE.out.1 HE.out.2 ⟨_, rfl, (coll_res (coll_start w)).1, (coll_start w).2.1⟩
    | true =>
      have HE := Lib.hid (prod_yes (zs := xs ++ ys) hw1 hw2)
      have L1 := Lib.hid (Plain.wordB_iff.1 hw1).2
      have m1 := (Plain.wordB_iff.1 hw1).1
      have W1 := Lib.hid hw1
      have L2 := Lib.hid (Plain.wordB_iff.1 hw2).2
      have m2 := (Plain.wordB_iff.1 hw2).1
      have W2 := Lib.hid hw2
      clear hw1 hw2
      go_enter Tryz.func29, Tryz.ntmps29
      go_wp2_with fail
      refine (isWord_any _ _ xs _ h1 n1 hx).mono ?_
      rw [W1.out]
      rintro e w' ⟨rfl, rfl⟩
      go_wp2_with fail
      refine (isWord_any _ _ ys _ h2 n2 hy).mono ?_
      rw [W2.out]
      rintro e w' ⟨rfl, rfl⟩
      go_wp2_with fail
      refine (product2_any a1 a2 c1 c2 xs ys _ _ h1 k1 h2 k2 L1 L2 (by omega) (by omega)).mono ?_
      rintro e w2 ⟨v, rfl, hr, hb⟩
      have R := Lib.hid hr
      have B4 := Lib.hid hb
      clear hr hb
      go_wp2
      go_ret2
      exact sb_eq HE.out.1 HE.out.2 ⟨_, rfl, R.out, B4.out⟩

end Go.Proofs.YtmcbaejgimopmaaGreat
