/- Contracts: impl's word.isSameTo; SameToOrder and IsBalancedLoop of both. Conditions: numbers of 64 bits, lengths that fit. -/
import Derived.Test.YtnmjanhpjnlfcaaWindEq
namespace Go.Proofs.Ytnmjanhpjnlfcaa
open Go.ChangeShapes Go.WideShapes Go.ChangeAt Go.RowKit
set_option linter.unusedVariables false

theorem ret_bb8 {a b c d : Bool} (h1 : a = b) (h2 : c = d) : Ending.returned (.tuple #[.bool a, .bool c]) = .returned (.tuple #[.bool b, .bool d]) := by rw [h1, h2]
/-- Whether the coefficients of lists of at most n nails are the same. -/
def sameN (u v : List Int) (n : Nat) : Bool := eqTo (Plain.cntL (n + 1)) (Plain.cof u) (Plain.cof v)
set_option maxRecDepth 100000 in
set_option maxHeartbeats 800000 in
theorem isSameTo_any (a b : Option Addr) (cap cap2 l : Nat) (us vs : List Int) (w : World) (h : Hid (Ints w a us)) (h2 : Hid (Ints w b vs)) (hU : Hid (Plain.Letters us)) (hV : Hid (Plain.Letters vs)) (hn : us.length ≤ 64) (hn2 : vs.length ≤ 64) (hl : l ≤ 3) :
    Calls Try.prog 39 #[.slice a us.length cap, .slice b vs.length cap2, .int .i64 (l : Int)] w (Val (.bool (sameN us vs l)) w) := by
  obtain ⟨C, hC⟩ : ∃ C, C = Plain.cutC (Plain.cntL (l + 1)) (Plain.cof us) := ⟨_, rfl⟩
  obtain ⟨D, hD⟩ : ∃ D, D = Plain.cutC (Plain.cntL (l + 1)) (Plain.cof vs) := ⟨_, rfl⟩
  have HE : Hid (sameN us vs l = eqTo 259 C D) := Lib.hid (by rw [hC, hD, eqTo_cut (Plain.cntL_le hl)]; rfl)
  have hsC : Plain.Small C := by rw [hC]; exact Plain.small_cut (Plain.small_cof hn)
  have hsD : Plain.Small D := by rw [hD]; exact Plain.small_cut (Plain.small_cof hn2)
  have H1 := Lib.hid (fun (w3 : World) (h3 : Hid (Ints w3 a us)) => coefficients_any a cap l us w3 h3 hU hn hl)
  have H2 := Lib.hid (fun (w3 : World) (h3 : Hid (Ints w3 b vs)) => coefficients_any b cap2 l vs w3 h3 hV hn2 hl)
  rw [← hC] at H1
  rw [← hD] at H2
  obtain ⟨e, he⟩ : ∃ e, e = eqTo 259 C D := ⟨_, rfl⟩
  rw [← he] at HE
  have heq : ∀ w3 : World, Sem.run Try.prog (Op.equalIn 10000 55 (.agg (coefs (l : Int) C)) (.agg (coefs (l : Int) D))) w3 = .ok e w3 := fun w3 => by rw [run_coefs l hl w3 C D hsC hsD, he]
  clear hC hD hsC hsD he
  go_enter Try.func39, Try.ntmps39
  go_wp2_with fail
  refine (H1.out _ h).mono ?_
  rintro e1 w1 ⟨rfl, hb⟩
  have B1 := Lib.hid hb
  have HI := Lib.hid (h2.out.on hb)
  clear hb
  go_wp2_with fail
  refine (H2.out _ HI).mono ?_
  rintro e2 w2 ⟨rfl, hb⟩
  have B2 := Lib.hid (B1.out.trans (hb.mono B1.out.size))
  clear hb
  go_wp2_with fail
  go_ret
  exact ⟨ret_bool HE.out.symm, B2.out⟩
/-- What SameToOrder answers. -/
def sameB (us vs : List Int) (n : Int) : Bool := Plain.wordB us && Plain.wordB vs && decide (0 ≤ n ∧ n ≤ 3)
def sameV (us vs : List Int) (n : Int) : Bool := sameB us vs n && sameN us vs n.toNat
theorem same_no {us vs : List Int} {n : Int} (h : sameB us vs n = false) : sameV us vs n = false ∧ sameB us vs n = false := ⟨by rw [sameV, h]; rfl, h⟩
theorem same_yes {us vs : List Int} {n : Nat} (h1 : Plain.wordB us = true) (h2 : Plain.wordB vs = true) (h3 : n ≤ 3) : sameV us vs (n : Int) = sameN us vs n ∧ sameB us vs (n : Int) = true := by
  have : sameB us vs (n : Int) = true := by rw [sameB, h1, h2, decide_eq_true (by omega)]; rfl
  exact ⟨by rw [sameV, this]; simp, this⟩
theorem same0 (u v : List Int) : sameN u v 0 = true := by
  unfold sameN
  rw [eqTo_iff]
  intro i hi
  have : i = 0 := by have : Plain.cntL (0 + 1) = 1 := rfl; omega
  subst this
  rw [(Plain.bd_cof u).1, (Plain.bd_cof v).1]
theorem same1 (u v : List Int) : sameN u v 1 = eqTo 6 (fun i => Plain.cof u (i + 1)) (fun i => Plain.cof v (i + 1)) := by
  have h0 := same0 u v
  unfold sameN at h0 ⊢
  rw [show Plain.cntL (1 + 1) = Plain.cntL (0 + 1) + 6 from rfl, eqTo_add, h0, Bool.true_and]
  exact eqTo_cong (fun i _ => by rw [show Plain.cntL (0 + 1) = 1 from rfl, Nat.add_comm]) (fun i _ => by rw [show Plain.cntL (0 + 1) = 1 from rfl, Nat.add_comm])
theorem same2 (u v : List Int) : sameN u v 2 = (sameN u v 1 && eqTo 36 (fun i => Plain.cof u (6 + i + 1)) (fun i => Plain.cof v (6 + i + 1))) := by
  show eqTo (7 + 36) _ _ = _
  rw [eqTo_add]
  show (sameN u v 1 && _) = _
  rw [eqTo_cong (f' := fun i => Plain.cof u (6 + i + 1)) (g' := fun i => Plain.cof v (6 + i + 1)) (fun i _ => by rw [show 7 + i = 6 + i + 1 by omega]) (fun i _ => by rw [show 7 + i = 6 + i + 1 by omega])]
theorem same3 (u v : List Int) : sameN u v 3 = (sameN u v 2 && eqTo 216 (fun i => Plain.cof u (42 + i + 1)) (fun i => Plain.cof v (42 + i + 1))) := by
  show eqTo (43 + 216) _ _ = _
  rw [eqTo_add]
  show (sameN u v 2 && _) = _
  rw [eqTo_cong (f' := fun i => Plain.cof u (42 + i + 1)) (g' := fun i => Plain.cof v (42 + i + 1)) (fun i _ => by rw [show 43 + i = 42 + i + 1 by omega]) (fun i _ => by rw [show 43 + i = 42 + i + 1 by omega])]
theorem ser_range {w : World} {G : Nat} {c : Nat → Int} (h : SerAt w G c) {o n : Nat} (hn : o + n ≤ 258) : w.rangeAt G o ((List.range n).map (intsV fun i => c (o + i + 1))) := fun j v hv => by
  have hj : j < n := by have := (List.getElem?_eq_some_iff.1 hv).1; simpa using this
  simp [hj] at hv
  rw [← hv]
  exact h.cell (k := o + j) (by omega)
theorem wpList_load_part {ops : Array Oper} {rest : List Oper} {op : Oper} {a : Act} {w : World} {Q : Exit → Act → World → Prop} (hw : Region.wanted op (yielded ops a.tmps) = true) (ty : TypeId) (x : Operand) (ho : op.op = .load ty x)
    (b o : Nat) (hx : a.eval x = .pointer (some ⟨b, o, none⟩)) (cs : Array Value) (hl : Sem.run Try.prog (Instr.loadAt ty (.pointer (some ⟨b, o, none⟩))) w = .ok (.agg cs) w)
    (h : wpList Try.prog ops Q rest (a.put op.dst (.agg cs)) w) : wpList Try.prog ops Q (op :: rest) a w :=
  wpList_step fun K hK => by
    rw [if_pos hw]
    unfold Oper.wp execOp
    simp only [ho, hx, Sem.run_bind, hl, Result.andThen_ok, Sem.run_pure]
    exact hK _ _ h
theorem load_part {w : World} {G : Nat} {c : Nat → Int} (h : SerAt w G c) {o n : Nat} {T : TypeId} {d : TypeDesc} (hn : o + n ≤ 258) (hu : Try.prog.underlying T = some d) (hd : d.isRow = true) (hi : (Try.prog.info? T).map (·.size) = some n) :
    Sem.run Try.prog (Instr.loadAt T (.pointer (some ⟨G, o, none⟩))) w = .ok (.agg (arrN n (intsV fun i => c (o + i + 1)))) w :=
  run_loadAt_mid w G o T _ d (ser_range h hn) hu hd (by rw [hi]; simp)

set_option maxRecDepth 100000 in
set_option maxHeartbeats 8000000 in
theorem implSameToOrder_any (a b : Option Addr) (cap cap2 : Nat) (us vs : List Int) (n : Int) (w : World) (h : Hid (Ints w a us)) (h2 : Hid (Ints w b vs)) (h64 : Hid (In64 us)) (h642 : Hid (In64 vs)) (hn : us.length ≤ 1048576) (hn2 : vs.length ≤ 1048576) (hr : -9223372036854775808 ≤ n ∧ n ≤ 9223372036854775807) :
    Calls Try.prog 15 #[.slice a us.length cap, .slice b vs.length cap2, .int .i64 n] w (Val (.tuple #[.bool (sameV us vs n), .bool (sameB us vs n)]) w) := by
  cases hw : Plain.wordB us with
  | false =>
    have HE := Lib.hid (same_no (us := us) (vs := vs) (n := n) (by simp [sameB, hw]))
    have HW := Lib.hid hw
    clear hw
    go_enter Try.func15, Try.ntmps15
    go_wp2_with fail
    refine (isWord_any _ _ us _ h h64 (by omega)).mono ?_
    rw [HW.out]
    rintro e w1 ⟨rfl, rfl⟩
    go_wp2_with fail
    go_ret2
    exact ⟨ret_bb8 HE.out.1.symm HE.out.2.symm, Below.refl _ _⟩
  | true =>
    cases hv : Plain.wordB vs with
    | false =>
      have HE := Lib.hid (same_no (us := us) (vs := vs) (n := n) (by simp [sameB, hv]))
      have HW := Lib.hid hw
      have HV := Lib.hid hv
      clear hw hv
      go_enter Try.func15, Try.ntmps15
      go_wp2_with fail
      refine (isWord_any _ _ us _ h h64 (by omega)).mono ?_
      rw [HW.out]
      rintro e w1 ⟨rfl, rfl⟩
      go_wp2_with fail
      refine (isWord_any _ _ vs _ h2 h642 (by omega)).mono ?_
      rw [HV.out]
      rintro e w2 ⟨rfl, rfl⟩
      go_wp2_with fail
      go_ret2
      exact ⟨ret_bb8 HE.out.1.symm HE.out.2.symm, Below.refl _ _⟩
    | true =>
      by_cases h0 : 0 ≤ n
      · by_cases h3 : n ≤ 3
        · obtain ⟨k, rfl⟩ : ∃ k : Nat, n = (k : Int) := ⟨n.toNat, by omega⟩
          have HE := Lib.hid (same_yes (n := k) hw hv (by omega))
          have HU := Lib.hid (Plain.wordB_iff.1 hw).2
          have HU2 := Lib.hid (Plain.wordB_iff.1 hv).2
          have hu64 := (Plain.wordB_iff.1 hw).1
          have hv64 := (Plain.wordB_iff.1 hv).1
          have HW := Lib.hid hw
          have HV := Lib.hid hv
          clear hw hv
          go_enter Try.func15, Try.ntmps15
          go_wp2_with fail
          refine (isWord_any _ _ us _ h h64 (by omega)).mono ?_
          rw [HW.out]
          rintro e w1 ⟨rfl, rfl⟩
          go_wp2_with fail
          refine (isWord_any _ _ vs _ h2 h642 (by omega)).mono ?_
          rw [HV.out]
          rintro e w2 ⟨rfl, rfl⟩
          go_wp2_with fail
          refine (isSameTo_any _ _ _ _ k us vs _ h h2 HU HU2 hu64 hv64 (by omega)).mono ?_
          rintro e w3 ⟨rfl, hb⟩
          have B3 := Lib.hid hb
          clear hb
          go_wp2_with fail
          go_ret2
          exact ⟨ret_bb8 HE.out.1.symm HE.out.2.symm, B3.out⟩
        · have HE := Lib.hid (same_no (us := us) (vs := vs) (n := n) (by simp [sameB]; omega))
          have HW := Lib.hid hw
          have HV := Lib.hid hv
          clear hw hv
          go_enter Try.func15, Try.ntmps15
          go_wp2_with fail
          refine (isWord_any _ _ us _ h h64 (by omega)).mono ?_
          rw [HW.out]
          rintro e w1 ⟨rfl, rfl⟩
          go_wp2_with fail
          refine (isWord_any _ _ vs _ h2 h642 (by omega)).mono ?_
          rw [HV.out]
          rintro e w2 ⟨rfl, rfl⟩
          go_wp2_with fail
          go_ret2
          exact ⟨ret_bb8 HE.out.1.symm HE.out.2.symm, Below.refl _ _⟩
      · have HE := Lib.hid (same_no (us := us) (vs := vs) (n := n) (by simp [sameB]; omega))
        have HW := Lib.hid hw
        have HV := Lib.hid hv
        clear hw hv
        go_enter Try.func15, Try.ntmps15
        go_wp2_with fail
        refine (isWord_any _ _ us _ h h64 (by omega)).mono ?_
        rw [HW.out]
        rintro e w1 ⟨rfl, rfl⟩
        go_wp2_with fail
        refine (isWord_any _ _ vs _ h2 h642 (by omega)).mono ?_
        rw [HV.out]
        rintro e w2 ⟨rfl, rfl⟩
        go_wp2_with fail
        go_ret2
        exact ⟨ret_bb8 HE.out.1.symm HE.out.2.symm, Below.refl _ _⟩
set_option maxRecDepth 100000 in
set_option maxHeartbeats 8000000 in
theorem specSameToOrder_any (a b : Option Addr) (cap cap2 : Nat) (us vs : List Int) (n : Int) (w : World) (h : Hid (Ints w a us)) (h2 : Hid (Ints w b vs)) (h64 : Hid (In64 us)) (h642 : Hid (In64 vs)) (hn : us.length ≤ 1048576) (hn2 : vs.length ≤ 1048576) (hr : -9223372036854775808 ≤ n ∧ n ≤ 9223372036854775807) :
    Calls Try.prog 16 #[.slice a us.length cap, .slice b vs.length cap2, .int .i64 n] w (Val (.tuple #[.bool (sameV us vs n), .bool (sameB us vs n)]) w) := by
  cases hw : Plain.wordB us with
  | false =>
    have HE := Lib.hid (same_no (us := us) (vs := vs) (n := n) (by simp [sameB, hw]))
    have HW := Lib.hid hw
    clear hw
    go_enter Try.func16, Try.ntmps16
    go_wp2_with fail
    refine (l2Word_any _ _ us _ h h64 (by omega)).mono ?_
    rw [HW.out]
    rintro e w1 ⟨rfl, rfl⟩
    go_wp2_with fail
    go_ret2
    exact ⟨ret_bb8 HE.out.1.symm HE.out.2.symm, Below.refl _ _⟩
  | true =>
    cases hv : Plain.wordB vs with
    | false =>
      have HE := Lib.hid (same_no (us := us) (vs := vs) (n := n) (by simp [sameB, hv]))
      have HW := Lib.hid hw
      have HV := Lib.hid hv
      clear hw hv
      go_enter Try.func16, Try.ntmps16
      go_wp2_with fail
      refine (l2Word_any _ _ us _ h h64 (by omega)).mono ?_
      rw [HW.out]
      rintro e w1 ⟨rfl, rfl⟩
      go_wp2_with fail
      refine (l2Word_any _ _ vs _ h2 h642 (by omega)).mono ?_
      rw [HV.out]
      rintro e w2 ⟨rfl, rfl⟩
      go_wp2_with fail
      go_ret2
      exact ⟨ret_bb8 HE.out.1.symm HE.out.2.symm, Below.refl _ _⟩
    | true =>
      cases h03 : decide (0 ≤ n ∧ n ≤ 3) with
      | false =>
        have HE := Lib.hid (same_no (us := us) (vs := vs) (n := n) (by rw [sameB, h03]; simp))
        have H03 := Lib.hid h03
        clear h03
        have HW := Lib.hid hw
        have HV := Lib.hid hv
        clear hw hv
        go_enter Try.func16, Try.ntmps16
        go_wp2_with fail
        refine (l2Word_any _ _ us _ h h64 (by omega)).mono ?_
        rw [HW.out]
        rintro e w1 ⟨rfl, rfl⟩
        go_wp2_with fail
        refine (l2Word_any _ _ vs _ h2 h642 (by omega)).mono ?_
        rw [HV.out]
        rintro e w2 ⟨rfl, rfl⟩
        go_wp2_with fail
        refine (l1In_any n 0 3 _ hr).mono ?_
        rw [H03.out]
        rintro e w3 ⟨rfl, rfl⟩
        go_wp2_with fail
        go_ret2
        exact ⟨ret_bb8 HE.out.1.symm HE.out.2.symm, Below.refl _ _⟩
      | true =>
        have h03' := of_decide_eq_true h03
        obtain ⟨k, rfl⟩ : ∃ k : Nat, n = (k : Int) := ⟨n.toNat, by omega⟩
        have H03 := Lib.hid h03
        clear h03
        have HE := Lib.hid (same_yes (n := k) hw hv (by omega))
        have HU := Lib.hid (Plain.wordB_iff.1 hw).2
        have HU2 := Lib.hid (Plain.wordB_iff.1 hv).2
        have hu64 := (Plain.wordB_iff.1 hw).1
        have hv64 := (Plain.wordB_iff.1 hv).1
        have hsu := Plain.small_cof hu64
        have hsv := Plain.small_cof hv64
        have HQ1 := Lib.hid (same1 us vs)
        have HQ2 := Lib.hid (same2 us vs)
        have HQ3 := Lib.hid (same3 us vs)
        have R1 := Lib.hid (fun w3 => run_six w3 (fun i => Plain.cof us (0 + i + 1)) (fun i => Plain.cof vs (0 + i + 1)) (fun i hi => hsu _ (by omega)) (fun i hi => hsv _ (by omega)))
        have R2 := Lib.hid (fun w3 => run_36 w3 (fun i => Plain.cof us (6 + i + 1)) (fun i => Plain.cof vs (6 + i + 1)) (fun i hi => hsu _ (by omega)) (fun i hi => hsv _ (by omega)))
        have R3 := Lib.hid (fun w3 => run_216 w3 (fun i => Plain.cof us (42 + i + 1)) (fun i => Plain.cof vs (42 + i + 1)) (fun i hi => hsu _ (by omega)) (fun i hi => hsv _ (by omega)))
        have hz : (fun i => Plain.cof us (0 + i + 1)) = (fun i => Plain.cof us (i + 1)) := by funext i; rw [Nat.zero_add]
        have hz2 : (fun i => Plain.cof vs (0 + i + 1)) = (fun i => Plain.cof vs (i + 1)) := by funext i; rw [Nat.zero_add]
        have HZ : Hid (sameN us vs 1 = eqTo 6 (fun i => Plain.cof us (0 + i + 1)) (fun i => Plain.cof vs (0 + i + 1))) := Lib.hid (by rw [hz, hz2]; exact HQ1.out)
        clear hsu hsv hz hz2 HQ1
        have HW := Lib.hid hw
        have HV := Lib.hid hv
        clear hw hv
        go_enter Try.func16, Try.ntmps16
        go_wp2_with fail
        refine (l2Word_any _ _ us _ h h64 (by omega)).mono ?_
        rw [HW.out]
        rintro e w1 ⟨rfl, rfl⟩
        go_wp2_with fail
        refine (l2Word_any _ _ vs _ h2 h642 (by omega)).mono ?_
        rw [HV.out]
        rintro e w2 ⟨rfl, rfl⟩
        go_wp2_with fail
        refine (l1In_any _ 0 3 _ hr).mono ?_
        rw [H03.out]
        rintro e w3 ⟨rfl, rfl⟩
        go_wp2_with fail
        refine (l8Of_any _ _ us _ h HU hu64).mono ?_
        rintro e w4 ⟨rfl, hb⟩
        have B4 := Lib.hid hb
        have HI := Lib.hid (h2.out.on hb)
        clear hb
        go_wp2_with fail
        refine (l8Of_any _ _ vs _ HI HU2 hv64).mono ?_
        rintro e w5 ⟨rfl, hb⟩
        have B5 := Lib.hid (B4.out.trans (hb.mono B4.out.size))
        clear hb
        have hbw := ((B5.out.alloc B5.out.size (.cells Try.zeroCells49 49)).alloc (by have := B5.out.size; simp; omega) (.cells Try.zeroCells49 49))
        have k1 : SerAt ((w5.alloc (.cells Try.zeroCells49 49)).alloc (.cells Try.zeroCells49 49)) w5.heap.size (fun _ => 0) := by rw [SerAt, sers_zero]; exact heap_alloc2_old _ _ _
        have k2 : SerAt ((w5.alloc (.cells Try.zeroCells49 49)).alloc (.cells Try.zeroCells49 49)) (w5.heap.size + 1) (fun _ => 0) := by rw [SerAt, sers_zero]; exact heap_alloc2_new _ _ _
        have j1 : SerAt (((w5.alloc (.cells Try.zeroCells49 49)).alloc (.cells Try.zeroCells49 49)).setRow w5.heap.size (sers (Plain.cof us))) w5.heap.size (Plain.cof us) := serAt_row k1
        have j2 : SerAt (((w5.alloc (.cells Try.zeroCells49 49)).alloc (.cells Try.zeroCells49 49)).setRow w5.heap.size (sers (Plain.cof us))) (w5.heap.size + 1) (fun _ => 0) := k2.other (by omega)
        have HS1 : Hid (SerAt ((((w5.alloc (.cells Try.zeroCells49 49)).alloc (.cells Try.zeroCells49 49)).setRow w5.heap.size (sers (Plain.cof us))).setRow (w5.heap.size + 1) (sers (Plain.cof vs))) w5.heap.size (Plain.cof us)) := Lib.hid (j1.other (by omega))
        have HS2 : Hid (SerAt ((((w5.alloc (.cells Try.zeroCells49 49)).alloc (.cells Try.zeroCells49 49)).setRow w5.heap.size (sers (Plain.cof us))).setRow (w5.heap.size + 1) (sers (Plain.cof vs))) (w5.heap.size + 1) (Plain.cof vs)) := Lib.hid (serAt_row j2)
        have HBW := Lib.hid (below_setRow (below_setRow hbw B5.out.size (sers (Plain.cof us))) (Nat.le_succ_of_le B5.out.size) (sers (Plain.cof vs)))
        have K1 := Lib.hid k1
        have J2 := Lib.hid j2
        clear hbw k1 k2 j1 j2 B5 B4 HI
        go_upto_region 4 with (first
          | (refine wpList_store_row rfl 49 _ _ rfl w5.heap.size (sers (Plain.cof us)) rfl rfl 49 (sers fun _ => 0) K1.out (infoSers _) (by rw [sers_size, sers_size]) (sers_one _) ?_)
          | (refine wpList_store_row rfl 49 _ _ rfl (w5.heap.size + 1) (sers (Plain.cof vs)) rfl rfl 49 (sers fun _ => 0) J2.out (infoSers _) (by rw [sers_size, sers_size]) (sers_one _) ?_))
        generalize ((((w5.alloc (.cells Try.zeroCells49 49)).alloc (.cells Try.zeroCells49 49)).setRow w5.heap.size (sers (Plain.cof us))).setRow (w5.heap.size + 1) (sers (Plain.cof vs))) = W at HS1 HS2 HBW ⊢
        have l11 := load_part HS1.out (o := 0) (n := 6) (T := 45) (by omega) Try.underlying45 rfl (by kernel_rfl)
        have l12 := load_part HS2.out (o := 0) (n := 6) (T := 45) (by omega) Try.underlying45 rfl (by kernel_rfl)
        have l21 := load_part HS1.out (o := 6) (n := 36) (T := 46) (by omega) Try.underlying46 rfl (by kernel_rfl)
        have l22 := load_part HS2.out (o := 6) (n := 36) (T := 46) (by omega) Try.underlying46 rfl (by kernel_rfl)
        have l31 := load_part HS1.out (o := 42) (n := 216) (T := 47) (by omega) Try.underlying47 rfl (by kernel_rfl)
        have l32 := load_part HS2.out (o := 42) (n := 216) (T := 47) (by omega) Try.underlying47 rfl (by kernel_rfl)
        have q1 := R1.out W
        have q2 := R2.out W
        have q3 := R3.out W
        obtain ⟨e1, he1⟩ : ∃ e1, e1 = eqTo 6 (fun i => Plain.cof us (0 + i + 1)) (fun i => Plain.cof vs (0 + i + 1)) := ⟨_, rfl⟩
        obtain ⟨e2, he2⟩ : ∃ e2, e2 = eqTo 36 (fun i => Plain.cof us (6 + i + 1)) (fun i => Plain.cof vs (6 + i + 1)) := ⟨_, rfl⟩
        obtain ⟨e3, he3⟩ : ∃ e3, e3 = eqTo 216 (fun i => Plain.cof us (42 + i + 1)) (fun i => Plain.cof vs (42 + i + 1)) := ⟨_, rfl⟩
        rw [← he1] at q1 HZ
        rw [← he2] at q2 HQ2
        rw [← he3] at q3 HQ3
        clear he1 he2 he3 R1 R2 R3 HS1 HS2 K1 J2
        generalize arrN 6 (intsV fun i => Plain.cof us (0 + i + 1)) = A1 at l11 q1
        generalize arrN 6 (intsV fun i => Plain.cof vs (0 + i + 1)) = A2 at l12 q1
        generalize arrN 36 (intsV fun i => Plain.cof us (6 + i + 1)) = A3 at l21 q2
        generalize arrN 36 (intsV fun i => Plain.cof vs (6 + i + 1)) = A4 at l22 q2
        generalize arrN 216 (intsV fun i => Plain.cof us (42 + i + 1)) = A5 at l31 q3
        generalize arrN 216 (intsV fun i => Plain.cof vs (42 + i + 1)) = A6 at l32 q3
        have L11 := Lib.hid l11
        have L12 := Lib.hid l12
        have L21 := Lib.hid l21
        have L22 := Lib.hid l22
        have L31 := Lib.hid l31
        have L32 := Lib.hid l32
        clear l11 l12 l21 l22 l31 l32
        obtain rfl | rfl | rfl | rfl : k = 0 ∨ k = 1 ∨ k = 2 ∨ k = 3 := by omega
        · have HF : Hid (sameV us vs ((0 : Nat) : Int) = true) := Lib.hid (by rw [HE.out.1, same0])
          go_wp2_with fail
          go_ret2
          exact ⟨ret_bb8 HF.out.symm HE.out.2.symm, HBW.out⟩
        · cases e1 <;> (
            go_wp2_with (first
              | (refine wpList_load_part (by rfl) 45 _ rfl w5.heap.size 0 rfl A1 L11.out ?_)
              | (refine wpList_load_part (by rfl) 45 _ rfl (w5.heap.size + 1) 0 rfl A2 L12.out ?_)
              | (refine wpList_load_part (by rfl) 46 _ rfl w5.heap.size 6 rfl A3 L21.out ?_)
              | (refine wpList_load_part (by rfl) 46 _ rfl (w5.heap.size + 1) 6 rfl A4 L22.out ?_)
              | (refine wpList_load_part (by rfl) 47 _ rfl w5.heap.size 42 rfl A5 L31.out ?_)
              | (refine wpList_load_part (by rfl) 47 _ rfl (w5.heap.size + 1) 42 rfl A6 L32.out ?_))
            go_ret2
            exact ⟨ret_bb8 (by first | (rw [HE.out.1, HZ.out]; done) | (rw [HE.out.1, HZ.out]; rfl)) HE.out.2.symm, HBW.out⟩)
        · cases e1 <;> cases e2 <;> (
            go_wp2_with (first
              | (refine wpList_load_part (by rfl) 45 _ rfl w5.heap.size 0 rfl A1 L11.out ?_)
              | (refine wpList_load_part (by rfl) 45 _ rfl (w5.heap.size + 1) 0 rfl A2 L12.out ?_)
              | (refine wpList_load_part (by rfl) 46 _ rfl w5.heap.size 6 rfl A3 L21.out ?_)
              | (refine wpList_load_part (by rfl) 46 _ rfl (w5.heap.size + 1) 6 rfl A4 L22.out ?_)
              | (refine wpList_load_part (by rfl) 47 _ rfl w5.heap.size 42 rfl A5 L31.out ?_)
              | (refine wpList_load_part (by rfl) 47 _ rfl (w5.heap.size + 1) 42 rfl A6 L32.out ?_))
            go_ret2
            exact ⟨ret_bb8 (by first | (rw [HE.out.1, HQ2.out, HZ.out]; done) | (rw [HE.out.1, HQ2.out, HZ.out]; rfl)) HE.out.2.symm, HBW.out⟩)
        · cases e1 <;> cases e2 <;> cases e3 <;> (
            go_wp2_with (first
              | (refine wpList_load_part (by rfl) 45 _ rfl w5.heap.size 0 rfl A1 L11.out ?_)
              | (refine wpList_load_part (by rfl) 45 _ rfl (w5.heap.size + 1) 0 rfl A2 L12.out ?_)
              | (refine wpList_load_part (by rfl) 46 _ rfl w5.heap.size 6 rfl A3 L21.out ?_)
              | (refine wpList_load_part (by rfl) 46 _ rfl (w5.heap.size + 1) 6 rfl A4 L22.out ?_)
              | (refine wpList_load_part (by rfl) 47 _ rfl w5.heap.size 42 rfl A5 L31.out ?_)
              | (refine wpList_load_part (by rfl) 47 _ rfl (w5.heap.size + 1) 42 rfl A6 L32.out ?_))
            go_ret2
            exact ⟨ret_bb8 (by first | (rw [HE.out.1, HQ3.out, HQ2.out, HZ.out]; done) | (rw [HE.out.1, HQ3.out, HQ2.out, HZ.out]; rfl)) HE.out.2.symm, HBW.out⟩)

theorem bothSameToOrder (us : List Int) (h64 : Hid (In64 us)) (hn : us.length ≤ 1048576) (vs : List Int) (h642 : Hid (In64 vs)) (hn2 : vs.length ≤ 1048576) (n : Int) (n1 : -9223372036854775808 ≤ n) (n2 : n ≤ 9223372036854775807) : ∃ (m : Bool) (c : Bool),
    (∀ a cap a2 cap2 w, Hid (Ints w a us) → Hid (Ints w a2 vs) → Calls Try.prog 16 #[.slice a us.length cap, .slice a2 vs.length cap2, .int .i64 n] w (Val (.tuple #[.bool m, .bool c]) w)) ∧
    (∀ a cap a2 cap2 w, Hid (Ints w a us) → Hid (Ints w a2 vs) → Calls Try.prog 15 #[.slice a us.length cap, .slice a2 vs.length cap2, .int .i64 n] w (Val (.tuple #[.bool m, .bool c]) w)) :=
  ⟨_, _, fun a cap a2 cap2 w h h2 => specSameToOrder_any a a2 cap cap2 us vs n w h h2 h64 h642 hn hn2 ⟨n1, n2⟩, fun a cap a2 cap2 w h h2 => implSameToOrder_any a a2 cap cap2 us vs n w h h2 h64 h642 hn hn2 ⟨n1, n2⟩⟩

end Go.Proofs.Ytnmjanhpjnlfcaa
