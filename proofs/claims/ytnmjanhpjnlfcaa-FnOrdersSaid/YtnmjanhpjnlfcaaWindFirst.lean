/- Contracts: FirstCoefficient of both. Conditions: numbers of 64 bits, lengths that fit. -/
import Derived.Test.YtnmjanhpjnlfcaaWindAt
import Derived.Test.YtnmjanhpjnlfcaaWindOrd
namespace Go.Proofs.Ytnmjanhpjnlfcaa
open Go.ChangeShapes Go.WideShapes Go.ChangeAt Go.RowKit
set_option linter.unusedVariables false

/-- A list, a number and a bool. -/
def SIB (out : List Int) (m : Int) (ok : Bool) (w : World) (e : Ending) (w' : World) : Prop := ∃ v, e = .returned (.tuple #[v, .int .i64 m, .bool ok]) ∧ Res w.heap.size w' v out ∧ Below w.heap.size w w'
/-- What FirstCoefficient answers. -/
def fcQ (us : List Int) : Option Nat := if Plain.wordB us = true then Plain.firstQ (Plain.cof us) else none
def fcL (us : List Int) : List Int := match fcQ us with | none => [] | some q => Plain.listP q
def fcV (us : List Int) : Int := match fcQ us with | none => 0 | some q => Plain.cof us q
def fcB (us : List Int) : Bool := (fcQ us).isSome
theorem fc_none {us : List Int} (h : fcQ us = none) : fcL us = [] ∧ fcV us = 0 ∧ fcB us = false := by unfold fcL fcV fcB; rw [h]; exact ⟨rfl, rfl, rfl⟩
theorem fc_some {us : List Int} {q : Nat} (h : fcQ us = some q) : fcL us = Plain.listP q ∧ fcV us = Plain.cof us q ∧ fcB us = true := by unfold fcL fcV fcB; rw [h]; exact ⟨rfl, rfl, rfl⟩
theorem fcQ_no {us : List Int} (h : Plain.wordB us = false) : fcQ us = none := if_neg (by rw [h]; simp)
theorem fcQ_yes {us : List Int} (h : Plain.wordB us = true) : fcQ us = Plain.firstQ (Plain.cof us) := if_pos h
theorem fcL_len (us : List Int) : (fcL us).length ≤ 1048576 := by
  unfold fcL
  split
  · simp
  · rename_i q h
    unfold fcQ at h
    split at h
    · unfold Plain.firstQ at h
      rw [List.find?_range_eq_some] at h
      exact Nat.le_trans (Plain.listP_len (List.mem_range.1 h.2.1)) (by omega)
    · cases h
theorem first_facts {c : Nat → Int} {q : Nat} (h : Plain.firstQ c = some q) : 0 < q ∧ q < 259 ∧ c q ≠ 0 ∧ ∀ p, 0 < p → p < q → c p = 0 := by
  unfold Plain.firstQ at h
  rw [List.find?_range_eq_some] at h
  obtain ⟨hp, hr, hz⟩ := h
  simp at hp
  refine ⟨hp.1, List.mem_range.1 hr, hp.2, fun p h0 h1 => ?_⟩
  have := hz p h1
  simp at this
  omega
theorem first_zero {c : Nat → Int} (h : Plain.firstQ c = none) : ∀ p, 0 < p → p < 259 → c p = 0 := fun q h0 h1 => by
  have := List.find?_eq_none.1 h q (List.mem_range.2 h1)
  simp at this
  omega
theorem res_empty (B : Nat) (w : World) (g : Nat) : Res B w (.slice (some ⟨g, 0, none⟩) 0 0) [] := ⟨_, _, rfl, Ints.nil _ _, .inl rfl, ⟨Nat.le_refl _, by decide, fun h => (by cases h), fun x h => ⟨_, _, by cases h; rfl⟩⟩⟩
theorem sib_none {us : List Int} (h : fcQ us = none) (w w' : World) (g : Nat) (hb : Below w.heap.size w w') : SIB (fcL us) (fcV us) (fcB us) w (.returned (.tuple #[.slice (some ⟨g, 0, none⟩) 0 0, .int .i64 0, .bool false])) w' := by
  obtain ⟨e1, e2, e3⟩ := fc_none h
  rw [e1, e2, e3]
  exact ⟨_, rfl, res_empty _ _ _, hb⟩
theorem sib_some {us : List Int} {q : Nat} (h : fcQ us = some q) {w w' : World} {v : Value} {X : Int} (hX : X = Plain.cof us q) (hr : Res w.heap.size w' v (Plain.listP q)) (hb : Below w.heap.size w w') : SIB (fcL us) (fcV us) (fcB us) w (.returned (.tuple #[v, .int .i64 X, .bool true])) w' := by
  obtain ⟨e1, e2, e3⟩ := fc_some h
  rw [e1, e2, e3, hX]
  exact ⟨_, rfl, hr, hb⟩
set_option maxRecDepth 100000 in
set_option maxHeartbeats 1600000 in
theorem specFirstCoefficient_any (a : Option Addr) (cap : Nat) (us : List Int) (w : World) (h : Hid (Ints w a us)) (h64 : Hid (In64 us)) (hn : us.length ≤ 1048576) :
    Calls Try.prog 10 #[.slice a us.length cap] w (SIB (fcL us) (fcV us) (fcB us) w) := by
  cases hw : Plain.wordB us with
  | false =>
    have HE := Lib.hid (fcQ_no hw)
    have HW := Lib.hid hw
    have HB : Hid (Below w.heap.size w (w.alloc (.cells #[] 3))) := Lib.hid ((Below.refl _ _).alloc (Nat.le_refl _) _)
    clear hw
    go_enter Try.func10, Try.ntmps10
    go_wp2_with fail
    refine (l2Word_any _ _ us _ h h64 (by omega)).mono ?_
    rw [HW.out]
    rintro e w1 ⟨rfl, rfl⟩
    go_wp2_with fail
    go_ret3
    exact sib_none HE.out _ _ _ HB.out
  | true =>
    have HE := Lib.hid (fcQ_yes hw)
    have HW := Lib.hid hw
    have HU := Lib.hid (Plain.wordB_iff.1 hw).2
    have hu64 := (Plain.wordB_iff.1 hw).1
    have HC0 : Hid (Plain.cof us 0 = 1) := Lib.hid (Plain.bd_cof us).1
    have hK := Plain.ord_ok (Plain.cof us)
    obtain ⟨K, hKe⟩ : ∃ K, K = Plain.ordK (Plain.cof us) := ⟨_, rfl⟩
    rw [← hKe] at hK
    have HKE := Lib.hid hKe
    have hKp := hK.pos
    have hK4 := hK.le
    have HO := Lib.hid hK
    clear hK hKe hw
    go_enter Try.func10, Try.ntmps10
    go_wp2_with fail
    refine (l2Word_any _ _ us _ h h64 (by omega)).mono ?_
    rw [HW.out]
    rintro e w1 ⟨rfl, rfl⟩
    go_wp2_with fail
    refine (l8Of_any _ _ us _ h HU hu64).mono ?_
    rintro e w3 ⟨rfl, hb⟩
    have HS : Hid (SerAt ((w3.alloc (.cells Try.zeroCells49 49)).setRow w3.heap.size (sers (Plain.cof us))) w3.heap.size (Plain.cof us)) := Lib.hid (serAt_row (heap_alloc_new w3 _))
    have HB : Hid (Below w.heap.size w ((w3.alloc (.cells Try.zeroCells49 49)).setRow w3.heap.size (sers (Plain.cof us)))) := Lib.hid (below_setRow (hb.alloc hb.size _) hb.size _)
    clear hb
    go_upto_region 4 with (refine wpList_store_row rfl 49 _ _ rfl w3.heap.size (sers (Plain.cof us)) rfl rfl 49 (sers fun _ => 0) (by rw [sers_zero]; exact heap_alloc_new _ _) (infoSers _) (by rw [sers_size, sers_size]) (sers_one _) ?_)
    have hlt3 : w3.heap.size < ((w3.alloc (.cells Try.zeroCells49 49)).setRow w3.heap.size (sers (Plain.cof us))).heap.size := HS.out.lt
    generalize ((w3.alloc (.cells Try.zeroCells49 49)).setRow w3.heap.size (sers (Plain.cof us))) = W at HS HB hlt3 ⊢
    go_wp2_with fail
    go_loopw [6] (fun i wr => ∃ k : Nat, 1 ≤ k ∧ k ≤ K ∧ i = .int .i64 (k : Int) ∧ Below W.heap.size W wr) (fun i _ => 5 - (intOf i).toNat)
    case atStart => exact ⟨1, by omega, hKp, rfl, Below.refl _ _⟩
    case round =>
      obtain ⟨k, hk1, hk, rfl, hrel⟩ := hrel
      have HRel := Lib.hid hrel
      have HSr := Lib.hid (HS.out.on hrel)
      clear hrel
      by_cases hlt : k < K
      · have HZ := Lib.hid (HO.out.zero k hk1 hlt)
        have hk3 : (k : Int) ≤ 3 := by omega
        go_wp2_with (refine wpList_load_row rfl 49 _ rfl w3.heap.size rfl 49 (sers (Plain.cof us)) (0, 0) _ HSr.out Try.underlying49 rfl (infoSers _) ?_)
        refine (l8First_no (Plain.cof us) k _ (by omega) HC0 HZ).mono ?_
        rintro e w4 ⟨v4, rfl, -, hb⟩
        have HB4 := Lib.hid (HRel.out.trans (hb.mono HRel.out.size))
        clear hb
        go_wp2_with fail
        go_roundw
        case rel => exact ⟨k + 1, by omega, by omega, by go_num, HB4.out⟩
        case measure => simp [intOf]; omega
      · obtain rfl : k = K := by omega
        by_cases hk3 : k ≤ 3
        · obtain ⟨i, hi, hc, hz, hf⟩ := HO.out.first hk3
          have HF := Lib.hid hf
          have HCN := Lib.hid hc
          have HZ := Lib.hid hz
          have hk3i : (k : Int) ≤ 3 := by omega
          clear hc hz hf
          go_wp2_with (refine wpList_load_row rfl 49 _ rfl w3.heap.size rfl 49 (sers (Plain.cof us)) (0, 0) _ HSr.out Try.underlying49 rfl (infoSers _) ?_)
          refine (l8First_yes (Plain.cof us) k _ hk3 HC0 i hi HCN HZ).mono ?_
          rintro e w4 ⟨v4, rfl, hres, hb⟩
          have HB4 := Lib.hid (HRel.out.trans (hb.mono HRel.out.size))
          have HB5 := Lib.hid (HB.out.trans (HB4.out.mono HB.out.size))
          have HRes := Lib.hid hres
          clear hres hb
          have HQ : Hid (Plain.cntL k + i < 259) := Lib.hid (by have := Plain.manyL_cnt k; have := Plain.cntL_le hk3; omega)
          have hfact := Plain.listP_fact HQ.out
          have HLB := Lib.hid hfact.1
          have HPl : Hid (Plain.cof us (Plain.placeL (Plain.listP (Plain.cntL k + i))) = Plain.cof us (Plain.cntL k + i)) := Lib.hid (by rw [hfact.2.1])
          obtain ⟨a9, c9, rfl, hi9, ho9, hc9⟩ := HRes.out
          have HS4 := Lib.hid (HS.out.on HB4.out)
          have HI9 := Lib.hid hi9
          have HO9 := Lib.hid ho9
          have HC9 := Lib.hid hc9
          clear hfact hi9 ho9 hc9
          have HG := Lib.hid (fun (W3 : World) (hI : Hid (Ints W3 a9 (Plain.listP (Plain.cntL k + i)))) => l8Get_any a9 c9 (Plain.listP (Plain.cntL k + i)) (Plain.cof us) W3 hI HLB HC0)
          rw [HPl.out] at HG
          obtain ⟨X, hX⟩ : ∃ X, X = Plain.cof us (Plain.cntL k + i) := ⟨_, rfl⟩
          rw [← hX] at HG
          have HXE := Lib.hid hX
          clear hX HPl
          go_wp2_with (refine wpList_load_row rfl 49 _ rfl w3.heap.size rfl 49 (sers (Plain.cof us)) (0, 0) _ HS4.out Try.underlying49 rfl (infoSers _) ?_)
          refine (HG.out _ HI9).mono ?_
          rintro e w5 ⟨rfl, hb⟩
          have HB6 := Lib.hid (HB5.out.trans (hb.mono HB5.out.size))
          have HR9 : Hid (Res w.heap.size w5 (.slice a9 (Plain.listP (Plain.cntL k + i)).length c9) (Plain.listP (Plain.cntL k + i))) := Lib.hid ⟨_, _, rfl, HI9.out.on hb, (HO9.out.mono (by have := HB.out.size; have := HRel.out.size; omega)).on hb, HC9.out⟩
          clear hb
          go_wp2_with fail
          go_ret3
          exact sib_some (HE.out.trans HF.out) HXE.out HR9.out HB6.out
        · have hk3i : ¬ ((k : Int) ≤ 3) := by omega
          have HB5 := Lib.hid (HB.out.trans (HRel.out.mono HB.out.size))
          have HFN := Lib.hid (HO.out.none4 (by omega))
          have HBA : Hid (Below w.heap.size w (wr.alloc (.cells #[] 3))) := Lib.hid (HB5.out.alloc HB5.out.size _)
          go_wp2_with fail
          go_ret3
          exact sib_none (HE.out.trans HFN.out) _ _ _ HBA.out

set_option maxRecDepth 100000 in
set_option maxHeartbeats 1600000 in
theorem implFirstCoefficient_any (a : Option Addr) (cap : Nat) (us : List Int) (w : World) (h : Hid (Ints w a us)) (h64 : Hid (In64 us)) (hn : us.length ≤ 1048576) :
    Calls Try.prog 9 #[.slice a us.length cap] w (SIB (fcL us) (fcV us) (fcB us) w) := by
  cases hw : Plain.wordB us with
  | false =>
    have HE := Lib.hid (fcQ_no hw)
    have HW := Lib.hid hw
    have HB : Hid (Below w.heap.size w (w.alloc (.cells #[] 3))) := Lib.hid ((Below.refl _ _).alloc (Nat.le_refl _) _)
    clear hw
    go_enter Try.func9, Try.ntmps9
    go_wp2_with fail
    refine (isWord_any _ _ us _ h h64 (by omega)).mono ?_
    rw [HW.out]
    rintro e w1 ⟨rfl, rfl⟩
    go_wp2_with fail
    go_ret3
    exact sib_none HE.out _ _ _ HB.out
  | true =>
    have HE := Lib.hid (fcQ_yes hw)
    have HW := Lib.hid hw
    have HU := Lib.hid (Plain.wordB_iff.1 hw).2
    have hu64 := (Plain.wordB_iff.1 hw).1
    obtain ⟨C, hC⟩ : ∃ C, C = Plain.cutC (Plain.cntL (3 + 1)) (Plain.cof us) := ⟨_, rfl⟩
    have HCE : Hid (∀ q, q < 259 → C q = Plain.cof us q) := Lib.hid (fun q hq => by rw [hC]; exact Plain.cutC_in hq)
    have HCall := Lib.hid (fun (w3 : World) (h3' : Hid (Ints w3 a us)) => coefficients_any a cap 3 us w3 h3' HU hu64 (by omega))
    rw [← hC] at HCall
    have hfc : ∀ w3 : World, Sem.run Try.prog (Instr.field 55 (.agg (coefs 3 C)) 1) w3 = .ok (.agg (c259 C)) w3 := field_coefs 3 C
    clear hw hC
    cases hq : Plain.firstQ (Plain.cof us) with
    | none =>
      have HFQ := Lib.hid hq
      have HZ : Hid (∀ p, 0 < p → p < 259 → C p = 0) := Lib.hid (fun p h0 h1 => by rw [HCE.out p h1]; exact first_zero hq p h0 h1)
      clear hq
      go_enter Try.func9, Try.ntmps9
      go_wp2_with fail
      refine (isWord_any _ _ us _ h h64 (by omega)).mono ?_
      rw [HW.out]
      rintro e w1 ⟨rfl, rfl⟩
      go_wp2_with fail
      refine (HCall.out _ h).mono ?_
      rintro e w3 ⟨rfl, hb⟩
      have B3 := Lib.hid hb
      clear hb
      go_wp2_with fail
      clear hfc
      go_loopw [14] (fun i wr => ∃ k : Nat, k ≤ 259 ∧ i = .int .i64 (k : Int) ∧ wr = w3) (fun i _ => 260 - (intOf i).toNat)
      case atStart => exact ⟨0, Nat.zero_le _, rfl, rfl⟩
      case round =>
        obtain ⟨k, hk, rfl, rfl⟩ := hrel
        by_cases hlt : k < 259
        · have hk9 : (k : Int) < 259 := by omega
          by_cases h0 : k = 0
          · subst h0
            obtain ⟨Y, hY⟩ : ∃ Y, Y = C 0 := ⟨_, rfl⟩
            have hix : ∀ w3 : World, Sem.run Try.prog (Instr.index 53 (.agg (c259 C)) (.int .i64 0)) w3 = .ok (.int .i64 Y) w3 := fun w3 => by rw [hY]; exact index_c259 C 0 w3 (by omega)
            clear hY
            go_wp2_with fail
            go_roundw
            case rel => exact ⟨1, by omega, rfl, trivial⟩
            case measure => simp [intOf]
          · have hz := HZ.out k (by omega) (by omega)
            have hix : ∀ w3 : World, Sem.run Try.prog (Instr.index 53 (.agg (c259 C)) (.int .i64 (k : Int))) w3 = .ok (.int .i64 0) w3 := fun w3 => by rw [← hz]; exact index_c259 C k w3 hk9
            have hkp : (0 : Int) < (k : Int) := by omega
            clear hz
            go_wp2_with fail
            go_roundw
            case rel => exact ⟨k + 1, by omega, by go_num, trivial⟩
            case measure => simp [intOf]; omega
        · obtain rfl : k = 259 := by omega
          have HBA : Hid (Below w.heap.size w (wr.alloc (.cells #[] 3))) := Lib.hid (B3.out.alloc B3.out.size _)
          go_wp2_with fail
          go_ret3
          exact sib_none (HE.out.trans HFQ.out) _ _ _ HBA.out
    | some q =>
      obtain ⟨hq0, hq9, hqn, hqz⟩ := first_facts hq
      have HFQ := Lib.hid hq
      have HZ : Hid (∀ p, 0 < p → p < q → C p = 0) := Lib.hid (fun p h0 h1 => by rw [HCE.out p (by omega)]; exact hqz p h0 h1)
      have HCQ := Lib.hid (HCE.out q hq9)
      have HN0 : Hid (C q ≠ 0) := Lib.hid (by rw [HCQ.out]; exact hqn)
      clear hq hqn hqz
      go_enter Try.func9, Try.ntmps9
      go_wp2_with fail
      refine (isWord_any _ _ us _ h h64 (by omega)).mono ?_
      rw [HW.out]
      rintro e w1 ⟨rfl, rfl⟩
      go_wp2_with fail
      refine (HCall.out _ h).mono ?_
      rintro e w3 ⟨rfl, hb⟩
      have B3 := Lib.hid hb
      clear hb
      go_wp2_with fail
      clear hfc
      go_loopw [14] (fun i wr => ∃ k : Nat, k ≤ q ∧ i = .int .i64 (k : Int) ∧ wr = w3) (fun i _ => 260 - (intOf i).toNat)
      case atStart => exact ⟨0, Nat.zero_le _, rfl, rfl⟩
      case round =>
        obtain ⟨k, hk, rfl, rfl⟩ := hrel
        by_cases hlt : k < q
        · have hk9 : (k : Int) < 259 := by omega
          by_cases h0 : k = 0
          · subst h0
            obtain ⟨Y, hY⟩ : ∃ Y, Y = C 0 := ⟨_, rfl⟩
            have hix : ∀ w3 : World, Sem.run Try.prog (Instr.index 53 (.agg (c259 C)) (.int .i64 0)) w3 = .ok (.int .i64 Y) w3 := fun w3 => by rw [hY]; exact index_c259 C 0 w3 (by omega)
            clear hY
            go_wp2_with fail
            go_roundw
            case rel => exact ⟨1, by omega, rfl, trivial⟩
            case measure => simp [intOf]
          · have hz := HZ.out k (by omega) (by omega)
            have hix : ∀ w3 : World, Sem.run Try.prog (Instr.index 53 (.agg (c259 C)) (.int .i64 (k : Int))) w3 = .ok (.int .i64 0) w3 := fun w3 => by rw [← hz]; exact index_c259 C k w3 hk9
            have hkp : (0 : Int) < (k : Int) := by omega
            clear hz
            go_wp2_with fail
            go_roundw
            case rel => exact ⟨k + 1, by omega, by go_num, trivial⟩
            case measure => simp [intOf]; omega
        · obtain rfl : k = q := by omega
          have hk9 : (k : Int) < 259 := by omega
          have hkp : (0 : Int) < (k : Int) := by omega
          obtain ⟨X, hX⟩ : ∃ X, X = C k := ⟨_, rfl⟩
          have hX0 : (X != 0) = true := by rw [hX]; simpa using HN0.out
          have HXE : Hid (X = Plain.cof us k) := Lib.hid (by rw [hX]; exact HCQ.out)
          have hix : ∀ w3 : World, Sem.run Try.prog (Instr.index 53 (.agg (c259 C)) (.int .i64 (k : Int))) w3 = .ok (.int .i64 X) w3 := fun w3 => by rw [hX]; exact index_c259 C k w3 hk9
          clear hX
          go_wp2_with fail
          refine (listAt_any k _ (by omega)).mono ?_
          rintro e w4 ⟨v4, rfl, hC4⟩
          have HR := Lib.hid (coll_res hC4)
          have HB4 := Lib.hid (B3.out.trans (HR.out.2.mono B3.out.size))
          clear hC4
          go_wp2_with fail
          go_ret3
          obtain ⟨a9, c9, e9, hi9, ho9, hc9⟩ := HR.out.1
          exact sib_some (HE.out.trans HFQ.out) HXE.out ⟨a9, c9, e9, hi9, ho9.mono B3.out.size, hc9⟩ HB4.out
theorem bothFirstCoefficient (us : List Int) (h64 : Hid (In64 us)) (hn : us.length ≤ 1048576) : ∃ (out : List Int) (m : Int) (c : Bool), out.length ≤ 1048576 ∧
    (∀ a cap w, Hid (Ints w a us) → Calls Try.prog 10 #[.slice a us.length cap] w (SIB out m c w)) ∧
    (∀ a cap w, Hid (Ints w a us) → Calls Try.prog 9 #[.slice a us.length cap] w (SIB out m c w)) :=
  ⟨_, _, _, fcL_len us, fun a cap w h => specFirstCoefficient_any a cap us w h h64 hn, fun a cap w h => implFirstCoefficient_any a cap us w h h64 hn⟩

end Go.Proofs.Ytnmjanhpjnlfcaa
