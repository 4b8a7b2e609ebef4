/- Contracts: impl's word.order, OrderOf of both. Conditions: numbers of 64 bits, lengths that fit. -/
import Derived.Test.YtnmjanhpjnlfcaaReducedWalks
import Derived.Test.YtnmjanhpjnlfcaaWindFst
import Derived.Test.YtnmjanhpjnlfcaaWindPair
import Derived.Test.YtnmjanhpjnlfcaaWindSame
namespace Go.Proofs.Ytnmjanhpjnlfcaa.Plain
set_option linter.unusedVariables false
/-- The length of the first list with a coefficient other than 0, 4 if there is none. -/
def ordK (c : Nat → Int) : Nat := match firstQ c with
  | none => 4
  | some q => lenQ q
structure Ord (c : Nat → Int) (K : Nat) : Prop where
  pos : 1 ≤ K
  le : K ≤ 4
  zero : ∀ n, 1 ≤ n → n < K → ∀ j, j < manyL n → c (cntL n + j) = 0
  first : K ≤ 3 → ∃ i, i < manyL K ∧ c (cntL K + i) ≠ 0 ∧ (∀ j, j < i → c (cntL K + j) = 0) ∧ firstQ c = some (cntL K + i)
  none4 : K = 4 → firstQ c = none
theorem cnt_vals : cntL 1 = 1 ∧ cntL 2 = 7 ∧ cntL 3 = 43 ∧ cntL 4 = 259 ∧ manyL 1 = 6 ∧ manyL 2 = 36 ∧ manyL 3 = 216 := by decide
theorem ord_ok (c : Nat → Int) : Ord c (ordK c) := by
  obtain ⟨e1, e2, e3, e4, m1, m2, m3⟩ := cnt_vals
  cases h : firstQ c with
  | none =>
    have hK : ordK c = 4 := by unfold ordK; rw [h]
    rw [hK]
    have hz : ∀ q, 0 < q → q < 259 → c q = 0 := fun q h0 h1 => by
      have := List.find?_eq_none.1 h q (List.mem_range.2 h1)
      simp at this
      omega
    refine ⟨by omega, by omega, fun n h1 h2 j hj => ?_, fun h => by omega, fun _ => h⟩
    have : n = 1 ∨ n = 2 ∨ n = 3 := by omega
    rcases this with rfl | rfl | rfl
    · rw [m1] at hj; rw [e1]; exact hz _ (by omega) (by omega)
    · rw [m2] at hj; rw [e2]; exact hz _ (by omega) (by omega)
    · rw [m3] at hj; rw [e3]; exact hz _ (by omega) (by omega)
  | some q =>
    have hK : ordK c = lenQ q := by unfold ordK; rw [h]
    rw [hK]
    have hq := h
    unfold firstQ at hq
    rw [List.find?_range_eq_some] at hq
    obtain ⟨hp, hr, hz⟩ := hq
    simp at hp
    have hr' : q < 259 := List.mem_range.1 hr
    have hz' : ∀ p, 0 < p → p < q → c p = 0 := fun p h0 h1 => by
      have := hz p h1
      simp at this
      omega
    have hl : (lenQ q = 1 ∧ 1 ≤ q ∧ q < 7) ∨ (lenQ q = 2 ∧ 7 ≤ q ∧ q < 43) ∨ (lenQ q = 3 ∧ 43 ≤ q ∧ q < 259) := by
      unfold lenQ
      rw [if_neg (by omega)]
      by_cases a : q < 7
      · rw [if_pos a]; omega
      · rw [if_neg a]
        by_cases b : q < 43
        · rw [if_pos b]; omega
        · rw [if_neg b]; omega
    rcases hl with ⟨hl, ha, hb⟩ | ⟨hl, ha, hb⟩ | ⟨hl, ha, hb⟩ <;> rw [hl]
    · refine ⟨by omega, by omega, fun n h1 h2 => by omega, fun _ => ⟨q - 1, by omega, ?_, fun j hj => ?_, ?_⟩, fun h => by omega⟩
      · rw [e1, show 1 + (q - 1) = q by omega]; exact hp.2
      · rw [e1]; exact hz' _ (by omega) (by omega)
      · rw [e1, show 1 + (q - 1) = q by omega]; exact h
    · refine ⟨by omega, by omega, fun n h1 h2 j hj => ?_, fun _ => ⟨q - 7, by omega, ?_, fun j hj => ?_, ?_⟩, fun h => by omega⟩
      · obtain rfl : n = 1 := by omega
        rw [m1] at hj; rw [e1]; exact hz' _ (by omega) (by omega)
      · rw [e2, show 7 + (q - 7) = q by omega]; exact hp.2
      · rw [e2]; exact hz' _ (by omega) (by omega)
      · rw [e2, show 7 + (q - 7) = q by omega]; exact h
    · refine ⟨by omega, by omega, fun n h1 h2 j hj => ?_, fun _ => ⟨q - 43, by omega, ?_, fun j hj => ?_, ?_⟩, fun h => by omega⟩
      · have : n = 1 ∨ n = 2 := by omega
        rcases this with rfl | rfl
        · rw [m1] at hj; rw [e1]; exact hz' _ (by omega) (by omega)
        · rw [m2] at hj; rw [e2]; exact hz' _ (by omega) (by omega)
      · rw [e3, show 43 + (q - 43) = q by omega]; exact hp.2
      · rw [e3]; exact hz' _ (by omega) (by omega)
      · rw [e3, show 43 + (q - 43) = q by omega]; exact h
/-- All places of lists of at most n nails are 0. -/
theorem Ord.below {c : Nat → Int} {K : Nat} (h : Ord c K) : ∀ n, n < K → ∀ q, 0 < q → q < cntL (n + 1) → c q = 0 := fun n => by
  induction n with
  | zero => intro _ q h0 h1; exact absurd h1 (by show ¬ q < 1; omega)
  | succ n ih =>
    intro hn q h0 h1
    by_cases hq : q < cntL (n + 1)
    · exact ih (by omega) q h0 hq
    · have := manyL_cnt (n + 1)
      have hz := h.zero (n + 1) (by omega) hn (q - cntL (n + 1)) (by omega)
      rwa [show cntL (n + 1) + (q - cntL (n + 1)) = q by omega] at hz
end Go.Proofs.Ytnmjanhpjnlfcaa.Plain
namespace Go.Proofs.Ytnmjanhpjnlfcaa
open Go.ChangeShapes Go.WideShapes Go.ChangeAt Go.RowKit
set_option linter.unusedVariables false

theorem same_zero {us : List Int} {K n : Nat} (h : Plain.Ord (Plain.cof us) K) (hn : n < K) : sameN us [] n = true := by
  unfold sameN
  rw [eqTo_iff]
  intro q hq
  by_cases h0 : q = 0
  · subst h0; rw [(Plain.bd_cof us).1, (Plain.bd_cof []).1]
  · rw [h.below n hn q (by omega) hq, Plain.cof_nil]
    exact (if_neg h0).symm
theorem same_not {us : List Int} {K : Nat} (h : Plain.Ord (Plain.cof us) K) (hK : K ≤ 3) : sameN us [] K = false := by
  obtain ⟨i, hi, hc, -, -⟩ := h.first hK
  have hm := Plain.manyL_cnt K
  have h1 : 1 ≤ Plain.cntL K := by have := h.pos; obtain ⟨k, rfl⟩ : ∃ k, K = k + 1 := ⟨K - 1, by omega⟩; show 1 ≤ 1 + 6 * _; omega
  rw [Bool.eq_false_iff]
  intro he
  unfold sameN at he
  rw [eqTo_iff] at he
  have := he (Plain.cntL K + i) (by omega)
  rw [Plain.cof_nil] at this
  exact hc (this.trans (if_neg (by omega)))
/-- What OrderOf answers. -/
def ordN (us : List Int) : Nat := if (Plain.red us).length = 0 then 0 else Plain.ordK (Plain.cof us)
def ordV (us : List Int) : Int := if Plain.wordB us = true then (ordN us : Nat) else 0
theorem ord_no {us : List Int} (h : Plain.wordB us = false) : ordV us = 0 := if_neg (by rw [h]; simp)
theorem ord_yes {us : List Int} (h : Plain.wordB us = true) : ordV us = (ordN us : Nat) := if_pos h
set_option maxRecDepth 100000 in
set_option maxHeartbeats 1600000 in
theorem order_any (a : Option Addr) (cap : Nat) (us : List Int) (w : World) (h : Hid (Ints w a us)) (hL : Hid (Plain.Letters us)) (hn : us.length ≤ 64) :
    Calls Try.prog 23 #[.slice a us.length cap] w (Val (.int .i64 (ordN us : Nat)) w) := by
  have hK := Plain.ord_ok (Plain.cof us)
  obtain ⟨K, hKe⟩ : ∃ K, K = Plain.ordK (Plain.cof us) := ⟨_, rfl⟩
  rw [← hKe] at hK
  have HKE := Lib.hid hKe
  have hKp := hK.pos
  have hK4 := hK.le
  have HO := Lib.hid hK
  have HRL := Lib.hid (show (Plain.red us).length ≤ 64 from Nat.le_trans (Plain.red_length us) hn)
  clear hK hKe
  go_enter Try.func23, Try.ntmps23
  go_wp2_with fail
  refine (reduced_any _ _ us _ h hL (by omega)).mono ?_
  rintro e w1 ⟨v, rfl, ⟨a1, c1, rfl, -, -, -⟩, hb⟩
  have HB1 := Lib.hid hb
  have HI1 := Lib.hid (h.out.on hb)
  clear hb
  by_cases hz : (Plain.red us).length = 0
  · have HE : Hid (ordN us = 0) := Lib.hid (if_pos hz)
    rw [hz]
    clear hz
    go_wp2_with fail
    go_ret
    exact ⟨by rw [HE.out]; rfl, HB1.out⟩
  · have HE : Hid (ordN us = K) := Lib.hid ((if_neg hz).trans HKE.out.symm)
    have hzi : (((Plain.red us).length : Int) == 0) = false := by simpa using hz
    clear hz
    go_wp2_with fail
    clear hzi
    go_loopw [3] (fun i wr => ∃ k : Nat, 1 ≤ k ∧ k ≤ K ∧ i = .int .i64 (k : Int) ∧ Below w.heap.size w wr) (fun i _ => 5 - (intOf i).toNat)
    case atStart => exact ⟨1, by omega, hKp, rfl, HB1.out⟩
    case round =>
      obtain ⟨k, hk1, hk, rfl, hrel⟩ := hrel
      have HB := Lib.hid hrel
      clear hrel
      by_cases hlt : k < K
      · have HS := Lib.hid (same_zero HO.out hlt)
        have hk3 : (k : Int) ≤ 3 := by omega
        have HC := Lib.hid (fun (b : Option Addr) (c2 : Nat) (W : World) (hI : Hid (Ints W a us)) => isSameTo_any a b cap c2 k us [] W hI (Lib.hid (Ints.nil W b)) hL (Lib.hid (fun x hx => by simp at hx)) hn (by simp) (by omega))
        go_wp2_with fail
        refine (HC.out _ _ _ (Lib.hid ((h.out.on HB.out).on ((Below.refl _ _).alloc (Nat.le_refl _) _)))).mono ?_
        rw [HS.out]
        rintro e w3 ⟨rfl, hb⟩
        have HB3 : Hid (Below w.heap.size w w3) := Lib.hid ((HB.out.alloc HB.out.size _).trans (hb.mono (by have := HB.out.size; simp; omega)))
        clear hb
        go_wp2_with fail
        go_roundw
        case rel => exact ⟨k + 1, by omega, by omega, by go_num, HB3.out⟩
        case measure => simp [intOf]; omega
      · obtain rfl : k = K := by omega
        by_cases hk3 : k ≤ 3
        · have HS := Lib.hid (same_not HO.out hk3)
          have hk3i : (k : Int) ≤ 3 := by omega
          have HC := Lib.hid (fun (b : Option Addr) (c2 : Nat) (W : World) (hI : Hid (Ints W a us)) => isSameTo_any a b cap c2 k us [] W hI (Lib.hid (Ints.nil W b)) hL (Lib.hid (fun x hx => by simp at hx)) hn (by simp) hk3)
          go_wp2_with fail
          refine (HC.out _ _ _ (Lib.hid ((h.out.on HB.out).on ((Below.refl _ _).alloc (Nat.le_refl _) _)))).mono ?_
          rw [HS.out]
          rintro e w3 ⟨rfl, hb⟩
          have HB3 : Hid (Below w.heap.size w w3) := Lib.hid ((HB.out.alloc HB.out.size _).trans (hb.mono (by have := HB.out.size; simp; omega)))
          clear hb
          go_wp2_with fail
          go_ret
          exact ⟨by rw [HE.out]; rfl, HB3.out⟩
        · have hk3i : ¬ ((k : Int) ≤ 3) := by omega
          go_wp2_with fail
          go_ret
          exact ⟨by rw [HE.out]; rfl, HB.out⟩
theorem implOrderOf_any (a : Option Addr) (cap : Nat) (us : List Int) (w : World) (h : Hid (Ints w a us)) (h64 : Hid (In64 us)) (hn : us.length ≤ 1048576) :
    Calls Try.prog 6 #[.slice a us.length cap] w (Val (.tuple #[.int .i64 (ordV us), .bool (Plain.wordB us)]) w) := by
  cases hw : Plain.wordB us with
  | false =>
    have HE := Lib.hid (ord_no hw)
    have HW := Lib.hid hw
    clear hw
    go_enter Try.func6, Try.ntmps6
    go_wp2_with fail
    refine (isWord_any _ _ us _ h h64 (by omega)).mono ?_
    rw [HW.out]
    rintro e w1 ⟨rfl, rfl⟩
    go_wp2_with fail
    go_ret2
    exact ⟨ret_ib8 HE.out.symm rfl, Below.refl _ _⟩
  | true =>
    have HE := Lib.hid (ord_yes hw)
    have HW := Lib.hid hw
    have HU := Lib.hid (Plain.wordB_iff.1 hw).2
    have hu64 := (Plain.wordB_iff.1 hw).1
    clear hw
    go_enter Try.func6, Try.ntmps6
    go_wp2_with fail
    refine (isWord_any _ _ us _ h h64 (by omega)).mono ?_
    rw [HW.out]
    rintro e w1 ⟨rfl, rfl⟩
    go_wp2_with fail
    refine (order_any _ _ us _ h HU hu64).mono ?_
    rintro e w2 ⟨rfl, hb⟩
    have HB := Lib.hid hb
    clear hb
    go_wp2_with fail
    go_ret2
    exact ⟨ret_ib8 HE.out.symm rfl, HB.out⟩

set_option maxRecDepth 100000 in
set_option maxHeartbeats 1600000 in
theorem specOrderOf_any (a : Option Addr) (cap : Nat) (us : List Int) (w : World) (h : Hid (Ints w a us)) (h64 : Hid (In64 us)) (hn : us.length ≤ 1048576) :
    Calls Try.prog 7 #[.slice a us.length cap] w (Val (.tuple #[.int .i64 (ordV us), .bool (Plain.wordB us)]) w) := by
  cases hw : Plain.wordB us with
  | false =>
    have HE := Lib.hid (ord_no hw)
    have HW := Lib.hid hw
    clear hw
    go_enter Try.func7, Try.ntmps7
    go_wp2_with fail
    refine (l2Word_any _ _ us _ h h64 (by omega)).mono ?_
    rw [HW.out]
    rintro e w1 ⟨rfl, rfl⟩
    go_wp2_with fail
    go_ret2
    exact ⟨ret_ib8 HE.out.symm rfl, Below.refl _ _⟩
  | true =>
    have HE := Lib.hid (ord_yes hw)
    have HRL := Lib.hid (show (Plain.red us).length ≤ 64 from Nat.le_trans (Plain.red_length us) (Plain.wordB_iff.1 hw).1)
    have HW := Lib.hid hw
    have HU := Lib.hid (Plain.wordB_iff.1 hw).2
    have hu64 := (Plain.wordB_iff.1 hw).1
    have HC0 : Hid (Plain.cof us 0 = 1) := Lib.hid (Plain.bd_cof us).1
    have hK := Plain.ord_ok (Plain.cof us)
    obtain ⟨K, hKe⟩ : ∃ K, K = Plain.ordK (Plain.cof us) := ⟨_, rfl⟩
    rw [← hKe] at hK
    have HKE := Lib.hid hKe
    have hKp := hK.pos
    have hK4 := hK.le
    have HO := Lib.hid hK
    clear hK hKe hw
    go_enter Try.func7, Try.ntmps7
    go_wp2_with fail
    refine (l2Word_any _ _ us _ h h64 (by omega)).mono ?_
    rw [HW.out]
    rintro e w1 ⟨rfl, rfl⟩
    go_wp2_with fail
    refine (l2Reduce_any _ _ us _ h HU (by omega)).mono ?_
    rintro e w2 ⟨v, rfl, ⟨a1, c1, rfl, -, -, -⟩, hb⟩
    have HB2 := Lib.hid hb
    have HI2 := Lib.hid (h.out.on hb)
    clear hb
    by_cases hz : (Plain.red us).length = 0
    · have HE2 : Hid (ordV us = 0) := Lib.hid (by rw [HE.out]; unfold ordN; rw [if_pos hz]; rfl)
      rw [hz]
      clear hz
      go_wp2_with fail
      go_ret2
      exact ⟨ret_ib8 HE2.out.symm rfl, HB2.out⟩
    have HE2 : Hid (ordV us = (K : Int)) := Lib.hid (by rw [HE.out]; unfold ordN; rw [if_neg hz, HKE.out])
    have hzi : (((Plain.red us).length : Int) == 0) = false := by simpa using hz
    clear hz
    go_wp2_with fail
    refine (l8Of_any _ _ us _ HI2 HU hu64).mono ?_
    rintro e w3 ⟨rfl, hb⟩
    have HS : Hid (SerAt ((w3.alloc (.cells Try.zeroCells49 49)).setRow w3.heap.size (sers (Plain.cof us))) w3.heap.size (Plain.cof us)) := Lib.hid (serAt_row (heap_alloc_new w3 _))
    have HB : Hid (Below w.heap.size w ((w3.alloc (.cells Try.zeroCells49 49)).setRow w3.heap.size (sers (Plain.cof us)))) := Lib.hid (below_setRow ((HB2.out.trans (hb.mono HB2.out.size)).alloc (Nat.le_trans HB2.out.size hb.size) _) (Nat.le_trans HB2.out.size hb.size) _)
    clear hb
    go_upto_region 6 with (refine wpList_store_row rfl 49 _ _ rfl w3.heap.size (sers (Plain.cof us)) rfl rfl 49 (sers fun _ => 0) (by rw [sers_zero]; exact heap_alloc_new _ _) (infoSers _) (by rw [sers_size, sers_size]) (sers_one _) ?_)
    have hlt3 : w3.heap.size < ((w3.alloc (.cells Try.zeroCells49 49)).setRow w3.heap.size (sers (Plain.cof us))).heap.size := HS.out.lt
    generalize ((w3.alloc (.cells Try.zeroCells49 49)).setRow w3.heap.size (sers (Plain.cof us))) = W at HS HB hlt3 ⊢
    go_wp2_with fail
    go_loopw [5] (fun i wr => ∃ k : Nat, 1 ≤ k ∧ k ≤ K ∧ i = .int .i64 (k : Int) ∧ Below W.heap.size W wr) (fun i _ => 5 - (intOf i).toNat)
    case atStart => exact ⟨1, by omega, hKp, rfl, Below.refl _ _⟩
    case round =>
      obtain ⟨k, hk1, hk, rfl, hrel⟩ := hrel
      have HRel := Lib.hid hrel
      have HSr := Lib.hid (HS.out.on hrel)
      clear hrel
      by_cases hlt : k < K
      · have HZ := Lib.hid (HO.out.zero k hk1 hlt)
        have hk3 : (k : Int) ≤ 3 := by omega
        go_wp2_with (refine wpList_load_row rfl 49 _ rfl w3.heap.size rfl 49 (sers (Plain.cof us)) (0, 0) _ HSr.out Try.underlying49 rfl (infoSers _) ?_)
        refine (l8First_no (Plain.cof us) k _ (by omega) HC0 HZ).mono ?_
        rintro e w4 ⟨v4, rfl, -, hb⟩
        have HB4 := Lib.hid (HRel.out.trans (hb.mono HRel.out.size))
        clear hb
        go_wp2_with fail
        go_roundw
        case rel => exact ⟨k + 1, by omega, by omega, by go_num, HB4.out⟩
        case measure => simp [intOf]; omega
      · obtain rfl : k = K := by omega
        by_cases hk3 : k ≤ 3
        · obtain ⟨i, hi, hc, hz, hf⟩ := HO.out.first hk3
          have HF := Lib.hid hf
          have HCN := Lib.hid hc
          have HZ := Lib.hid hz
          have hk3i : (k : Int) ≤ 3 := by omega
          clear hc hz hf
          go_wp2_with (refine wpList_load_row rfl 49 _ rfl w3.heap.size rfl 49 (sers (Plain.cof us)) (0, 0) _ HSr.out Try.underlying49 rfl (infoSers _) ?_)
          refine (l8First_yes (Plain.cof us) k _ hk3 HC0 i hi HCN HZ).mono ?_
          rintro e w4 ⟨v4, rfl, hres, hb⟩
          have HB4 := Lib.hid (HRel.out.trans (hb.mono HRel.out.size))
          have HB5 := Lib.hid (HB.out.trans (HB4.out.mono HB.out.size))
          have HRes := Lib.hid hres
          clear hres hb
          go_wp2_with fail
          go_ret2
          exact ⟨ret_ib8 HE2.out.symm rfl, HB5.out⟩
        · have hk3i : ¬ ((k : Int) ≤ 3) := by omega
          have HB5 := Lib.hid (HB.out.trans (HRel.out.mono HB.out.size))
          go_wp2_with fail
          go_ret2
          exact ⟨ret_ib8 (by rw [HE2.out]; omega) rfl, HB5.out⟩

theorem bothOrderOf (us : List Int) (h64 : Hid (In64 us)) (hn : us.length ≤ 1048576) : ∃ (m : Int) (c : Bool),
    (∀ a cap w, Hid (Ints w a us) → Calls Try.prog 7 #[.slice a us.length cap] w (Val (.tuple #[.int .i64 m, .bool c]) w)) ∧
    (∀ a cap w, Hid (Ints w a us) → Calls Try.prog 6 #[.slice a us.length cap] w (Val (.tuple #[.int .i64 m, .bool c]) w)) :=
  ⟨_, _, fun a cap w h => specOrderOf_any a cap us w h h64 hn, fun a cap w h => implOrderOf_any a cap us w h h64 hn⟩

end Go.Proofs.Ytnmjanhpjnlfcaa
