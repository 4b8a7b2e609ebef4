/- Contracts: spec.l3Set, l3In, l3Take, TakeOut, l3Falls, DoesFall: what is left of a word when nails are taken out. Conditions: letters, sets from 0 to 63, lengths that fit. -/
import Derived.Test.YtldomcinlngmlaaNailOf
import Derived.Test.YtldomcinlngmlaaNailsWalks
import Derived.Test.YtldomcinlngmlaaFall
import Derived.Test.YtldomcinlngmlaaInvWalks
import Derived.Test.YtldomcinlngmlaaWordWalks
import Derived.Test.YtldomcinlngmlaaLawKit
namespace Go.Proofs.Ytldomcinlngmlaa
open Go.ChangeShapes Go.WideShapes Go.ChangeAt Go.RowKit
set_option linter.unusedVariables false

def setB (n : Int) : Bool := decide (0 ≤ n ∧ n ≤ 63)
theorem and_bit (a : Nat) (ha : a < 64) : bits .and .i64 (a : Int) 1 = ((a % 2 : Nat) : Int) := by
  show IntKind.i64.wrap ((BitVec.ofInt 64 (a : Int) &&& BitVec.ofInt 64 ((1 : Nat) : Int)).toNat : Int) = _
  rw [BitVec.toNat_and, ofInt_u64 a (by omega), ofInt_u64 1 (by omega), Nat.and_one_is_mod]
  exact IntWalk.i64_in _ (by omega)
theorem bit_at (s p : Nat) (hs : s < 64) : bits .and .i64 ((s : Int) / ((2 ^ p : Nat) : Int)) 1 = if s.testBit p = true then 1 else 0 := by
  have he : (s : Int) / ((2 ^ p : Nat) : Int) = ((s / 2 ^ p : Nat) : Int) := (Int.natCast_ediv _ _).symm
  have hl : s / 2 ^ p < 64 := Nat.lt_of_le_of_lt (Nat.div_le_self _ _) hs
  rw [he, and_bit _ hl, Nat.testBit_eq_decide_div_mod_eq]
  generalize s / 2 ^ p = z
  by_cases h : z % 2 = 1
  · simp [h]
  · simp [h]; omega

theorem l3Set_any (n : Int) (w : World) (h : -9223372036854775808 ≤ n ∧ n ≤ 9223372036854775807) : Calls Try.prog 46 #[.int .i64 n] w fun e w' => e = .returned (.bool (setB n)) ∧ w = w' := by
  go_enter Try.func46, Try.ntmps46
  go_wp2_with fail
  refine (l1In_any n 0 63 _ h).mono ?_
  rintro e w' ⟨rfl, rfl⟩
  go_wp2_with fail
  go_ret
  exact ⟨ret_bool (by simp [setB]), rfl⟩

theorem l3In_any (s p : Nat) (w : World) (hs : s < 64) (hp : p ≤ 5) : Calls Try.prog 65 #[.int .i64 (s : Int), .int .i64 ((p : Int) + 1)] w fun e w' => e = .returned (.bool (s.testBit p)) ∧ w = w' := by
  have hb := bit_at s p hs
  have h6 : p = 0 ∨ p = 1 ∨ p = 2 ∨ p = 3 ∨ p = 4 ∨ p = 5 := by omega
  cases ht : s.testBit p with
  | true =>
    rw [ht] at hb
    rcases h6 with rfl | rfl | rfl | rfl | rfl | rfl
    all_goals
      simp at hb
      clear ht
      go_enter Try.func65, Try.ntmps65
      go_wp2_with fail
      go_ret
      exact ⟨rfl, rfl⟩
  | false =>
    rw [ht] at hb
    rcases h6 with rfl | rfl | rfl | rfl | rfl | rfl
    all_goals
      simp at hb
      clear ht
      go_enter Try.func65, Try.ntmps65
      go_wp2_with fail
      go_ret
      exact ⟨rfl, rfl⟩
/-- A letter's nail is in a set. -/
theorem l3In_nail (s : Nat) (x : Int) (w : World) (hs : s < 64) (hx : x ≠ 0 ∧ -6 ≤ x ∧ x ≤ 6) : Calls Try.prog 65 #[.int .i64 (s : Int), .int .i64 (Plain.nail x)] w fun e w' => e = .returned (.bool (Plain.inB s x)) ∧ w = w' := by
  obtain ⟨p, q, hp, hp5, -, -, -⟩ := nail_parts hx
  rw [hp, Plain.inB, hp]
  rw [show ((p : Int) + 1).toNat - 1 = p by omega]
  exact l3In_any s p w hs hp5

set_option maxRecDepth 100000 in
set_option maxHeartbeats 800000 in
theorem l3Take_any (a : Option Addr) (cap : Nat) (xs : List Int) (s : Nat) (w : World) (h : Hid (Ints w a xs)) (hl : Hid (Plain.Letters xs)) (hn : xs.length ≤ 1048576) (hs : s < 64) :
    Calls Try.prog 47 #[.slice a xs.length cap, .int .i64 (s : Int)] w (ListPost (Plain.takeOut xs s) w) := by
  obtain ⟨i0, hi0, hz0, hz1, hz2⟩ := info_parts infoInt
  go_enter Try.func47, Try.ntmps47
  go_wp2_with fail
  go_loopw [5, 6] (fun v i wr => ∃ k : Nat, k ≤ xs.length ∧ i = .int .i64 k ∧ Coll (Plain.without (xs.take k) s) w.heap.size w v wr) (fun _ i _ => xs.length - (intOf i).toNat)
  case atStart => exact ⟨0, Nat.zero_le _, rfl, coll_start w⟩
  case round =>
    obtain ⟨k, hk, rfl, hrel⟩ := hrel
    have hll := Plain.without_le (xs.take k) s
    have htl : (xs.take k).length ≤ k := List.length_take_le _ _
    by_cases hlt : k < xs.length
    · obtain ⟨x, hx⟩ := at_some xs k hlt
      obtain ⟨b, o, rfl, hc0⟩ := h.out k x hx
      have HX := Lib.hid (hl.out.at hx)
      have HS := Lib.hid (Plain.without_take s hx)
      have hc : wr.cell? ⟨b, o + k, none⟩ = some (.int .i64 x) := cell_later hrel.2.1 hc0
      obtain ⟨L, hL⟩ : ∃ L, L = Plain.without (xs.take k) s := ⟨_, rfl⟩
      rw [← hL] at HS hrel hll
      have HK := Lib.hid hrel
      have hLl : L.length ≤ 1048576 := by omega
      have hi : (k : Int) < (xs.length : Int) := by omega
      have hi0' : (0 : Int) ≤ (k : Int) := by omega
      clear hrel hc0 hx hL hll htl
      go_wp2_with fail
      refine (l2Nail_any x _ HX.out.2).mono ?_
      rintro e w' ⟨rfl, rfl⟩
      go_wp2_with fail
      refine (l3In_nail s x _ hs HX.out).mono ?_
      rintro e w' ⟨rfl, rfl⟩
      cases hb : Plain.inB s x with
      | true =>
        rw [hb] at HS
        have HS2 := Lib.hid (HS.out.trans (if_pos rfl))
        clear HS hb
        go_wp2_with fail
        go_roundw
        case rel => exact ⟨k + 1, by omega, by go_num, by rw [HS2.out]; exact HK.out⟩
        case measure => simp [intOf]; omega
      | false =>
        rw [hb] at HS
        have HS2 := Lib.hid (HS.out.trans (if_neg (by simp)))
        clear HS hb
        go_wp2_with (at_builtin; refine wpList_append_own _ rfl _ _ 22 rfl w.heap.size 3 i0 (.int .i64 0) 1 8 Try.underlying22 hi0 hz0 hz1 hz2 rfl (by decide) _ _ _ rfl (HK.out.1.alloc _) ⟨wr.heap.size, 0, none⟩ 1 1 [.int .i64 x] rfl rfl ?c1 ?c2 ?c3 ?c4 ?c5 ?_)
        case c1 => exact cell_one_new _ _ _
        case c2 => simp [Value.oneCell']
        case c3 => unfold maxLen; omega
        case c4 => omega
        case c5 => exact Nat.le_trans HK.out.2.2 (by simp)
        intro v' w1 hown' hgrow _
        have hR := Lib.hid (coll_push (x := x) HK.out hown' hgrow)
        clear hown' hgrow
        go_wp2_with fail
        go_roundw
        case rel => exact ⟨k + 1, by omega, by go_num, by rw [HS2.out]; exact hR.out⟩
        case measure => simp [intOf]; omega
    · obtain rfl : k = xs.length := by omega
      rw [List.take_length] at hrel
      have HR := Lib.hid (coll_res hrel)
      have hL2 := Plain.without_le xs s
      have HL := Lib.hid (hl.out.without s)
      obtain ⟨L, hL⟩ : ∃ L, L = Plain.without xs s := ⟨_, rfl⟩
      have HT : Hid (Plain.red L = Plain.takeOut xs s) := Lib.hid (by rw [hL]; rfl)
      rw [← hL] at HR HL hL2
      obtain ⟨a2, c2, rfl, hi2, -, -⟩ := HR.out.1
      have HI := Lib.hid hi2
      have HB := Lib.hid HR.out.2
      clear hL hi2 hrel hll htl HR
      go_wp2_with fail
      refine (l2Reduce_any a2 c2 L _ HI HL (by omega)).mono ?_
      rintro e w1 ⟨v, rfl, hr, hb⟩
      have HO := Lib.hid (And.intro (hr.mono HB.out.size) (HB.out.trans (hb.mono HB.out.size)))
      rw [HT.out] at HO
      clear hr hb
      go_wp2_with fail
      go_ret
      exact ⟨_, rfl, HO.out.1, HO.out.2⟩

/-- What TakeOut answers. -/
def takeB (xs : List Int) (n : Int) : Bool := Plain.wordB xs && setB n
def takeW (xs : List Int) (n : Int) : List Int := if takeB xs n = true then Plain.takeOut xs n.toNat else []
theorem takeW_le (xs : List Int) (n : Int) : (takeW xs n).length ≤ xs.length := by
  unfold takeW
  split
  · exact Plain.takeOut_le xs _
  · simp
theorem set_nat {n : Int} (h : setB n = true) : ∃ s : Nat, n = (s : Int) ∧ s < 64 := by
  have h' : 0 ≤ n ∧ n ≤ 63 := by simpa [setB] using h
  obtain ⟨s, rfl⟩ := Int.eq_ofNat_of_zero_le h'.1
  exact ⟨s, rfl, by omega⟩
theorem take_yes {xs : List Int} {s : Nat} (h : Plain.wordB xs = true) (hs : setB (s : Int) = true) : takeW xs (s : Int) = Plain.takeOut xs s ∧ takeB xs (s : Int) = true := by
  have hb : takeB xs (s : Int) = true := by simp [takeB, h, hs]
  exact ⟨by rw [takeW, if_pos hb]; rfl, hb⟩
theorem take_no {xs : List Int} {n : Int} (h : Plain.wordB xs = false ∨ setB n = false) : takeW xs n = [] ∧ takeB xs n = false := by
  have hb : takeB xs n = false := by rcases h with h | h <;> simp [takeB, h]
  exact ⟨by rw [takeW, if_neg (by rw [hb]; simp)], hb⟩
theorem sb_of {out out' : List Int} {ok ok' : Bool} {w w' : World} {e : Ending} (h1 : out = out') (h2 : ok = ok') (h : SB out ok w e w') : SB out' ok' w e w' := by subst h1; subst h2; exact h
set_option maxHeartbeats 400000 in
theorem specTakeOut_any (a : Option Addr) (cap : Nat) (xs : List Int) (n : Int) (w : World) (h : Hid (Ints w a xs)) (h64 : Hid (In64 xs)) (hn : xs.length ≤ 9223372036854775807) (hr : -9223372036854775808 ≤ n ∧ n ≤ 9223372036854775807) :
    Calls Try.prog 15 #[.slice a xs.length cap, .int .i64 n] w (SB (takeW xs n) (takeB xs n) w) := by
  have HS := Lib.hid (coll_res (coll_start w))
  cases hw : Plain.wordB xs with
  | false =>
    have HE := Lib.hid (take_no (n := n) (.inl hw))
    have HW := Lib.hid hw
    clear hw hr
    go_enter Try.func15, Try.ntmps15
    go_wp2_with fail
    refine (l2Word_any _ _ xs _ h h64 hn).mono ?_
    rw [HW.out]
    rintro e w' ⟨rfl, rfl⟩
    go_wp2_with fail
    go_ret2
    exact sb_of HE.out.1.symm HE.out.2.symm ⟨_, rfl, HS.out.1, HS.out.2⟩
  | true =>
    have m1 := (Plain.wordB_iff.1 hw).1
    have HL := Lib.hid (Plain.wordB_iff.1 hw).2
    have HW := Lib.hid hw
    cases hs : setB n with
    | false =>
      have HE := Lib.hid (take_no (xs := xs) (.inr hs))
      have HN := Lib.hid hs
      have HR := Lib.hid hr
      clear hw hs hr
      go_enter Try.func15, Try.ntmps15
      go_wp2_with fail
      refine (l2Word_any _ _ xs _ h h64 hn).mono ?_
      rw [HW.out]
      rintro e w' ⟨rfl, rfl⟩
      go_wp2_with fail
      refine (l3Set_any n _ HR.out).mono ?_
      rw [HN.out]
      rintro e w' ⟨rfl, rfl⟩
      go_wp2_with fail
      go_ret2
      exact sb_of HE.out.1.symm HE.out.2.symm ⟨_, rfl, HS.out.1, HS.out.2⟩
    | true =>
      obtain ⟨s, rfl, hs64⟩ := set_nat hs
      have HE := Lib.hid (take_yes hw hs)
      have HN := Lib.hid hs
      have HR := Lib.hid hr
      clear hw hs hr
      go_enter Try.func15, Try.ntmps15
      go_wp2_with fail
      refine (l2Word_any _ _ xs _ h h64 hn).mono ?_
      rw [HW.out]
      rintro e w' ⟨rfl, rfl⟩
      go_wp2_with fail
      refine (l3Set_any (s : Int) _ HR.out).mono ?_
      rw [HN.out]
      rintro e w' ⟨rfl, rfl⟩
      go_wp2_with fail
      refine (l3Take_any _ _ xs s _ h HL (by omega) hs64).mono ?_
      rintro e w1 ⟨v, rfl, hr, hb⟩
      have HO := Lib.hid (And.intro hr hb)
      clear hr hb
      go_wp2_with fail
      go_ret2
      exact sb_of HE.out.1.symm HE.out.2.symm ⟨_, rfl, HO.out.1, HO.out.2⟩

set_option maxHeartbeats 400000 in
theorem l3Falls_any (a : Option Addr) (cap : Nat) (xs : List Int) (s : Nat) (w : World) (h : Hid (Ints w a xs)) (hl : Hid (Plain.Letters xs)) (hn : xs.length ≤ 1048576) (hs : s < 64) :
    Calls Try.prog 51 #[.slice a xs.length cap, .int .i64 (s : Int)] w (Val (.bool (Plain.fallsB xs s)) w) := by
  have hle := Plain.takeOut_le xs s
  obtain ⟨L, hL⟩ : ∃ L, L = Plain.takeOut xs s := ⟨_, rfl⟩
  have HF : Hid (Plain.fallsB xs s = decide (L.length = 0)) := Lib.hid (by rw [hL]; rfl)
  rw [← hL] at hle
  have HL := Lib.hid hL
  clear hL
  go_enter Try.func51, Try.ntmps51
  go_wp2_with fail
  refine (l3Take_any a cap xs s _ h hl hn hs).mono ?_
  rw [← HL.out]
  rintro e w1 ⟨v, rfl, ⟨a2, c2, rfl, -, -, -⟩, hb⟩
  have HB := Lib.hid hb
  clear hb
  by_cases h0 : L.length = 0
  · have HF2 : Hid (Plain.fallsB xs s = true) := Lib.hid (by rw [HF.out]; simp [h0])
    have hq : ((L.length : Int) == 0) = true := by simp [h0]
    have HQ := Lib.hid h0
    clear h0
    go_wp2_with fail
    go_ret
    exact ⟨ret_bool HF2.out.symm, HB.out⟩
  · have HF2 : Hid (Plain.fallsB xs s = false) := Lib.hid (by rw [HF.out]; simp [h0])
    have hq : ((L.length : Int) == 0) = false := by simpa using h0
    clear h0
    go_wp2_with fail
    go_ret
    exact ⟨ret_bool HF2.out.symm, HB.out⟩

def fallW (xs : List Int) (n : Int) : Bool := takeB xs n && Plain.fallsB xs n.toNat
theorem fall_yes {xs : List Int} {s : Nat} (h : Plain.wordB xs = true) (hs : setB (s : Int) = true) : fallW xs (s : Int) = Plain.fallsB xs s ∧ takeB xs (s : Int) = true := by
  have hb := (take_yes h hs).2
  exact ⟨by rw [fallW, hb]; rfl, hb⟩
theorem fall_no {xs : List Int} {n : Int} (h : Plain.wordB xs = false ∨ setB n = false) : fallW xs n = false ∧ takeB xs n = false := by
  have hb := (take_no h).2
  exact ⟨by rw [fallW, hb]; rfl, hb⟩
theorem val_bb {a b a' b' : Bool} {w w' : World} {e : Ending} (h1 : a = a') (h2 : b = b') (h : Val (.tuple #[.bool a, .bool b]) w e w') : Val (.tuple #[.bool a', .bool b']) w e w' := by subst h1; subst h2; exact h
set_option maxHeartbeats 400000 in
theorem specDoesFall_any (a : Option Addr) (cap : Nat) (xs : List Int) (n : Int) (w : World) (h : Hid (Ints w a xs)) (h64 : Hid (In64 xs)) (hn : xs.length ≤ 9223372036854775807) (hr : -9223372036854775808 ≤ n ∧ n ≤ 9223372036854775807) :
    Calls Try.prog 21 #[.slice a xs.length cap, .int .i64 n] w (Val (.tuple #[.bool (fallW xs n), .bool (takeB xs n)]) w) := by
  cases hw : Plain.wordB xs with
  | false =>
    have HE := Lib.hid (fall_no (n := n) (.inl hw))
    have HW := Lib.hid hw
    clear hw hr
    go_enter Try.func21, Try.ntmps21
    go_wp2_with fail
    refine (l2Word_any _ _ xs _ h h64 hn).mono ?_
    rw [HW.out]
    rintro e w' ⟨rfl, rfl⟩
    go_wp2_with fail
    go_ret2
    exact val_bb HE.out.1.symm HE.out.2.symm ⟨rfl, Below.refl _ _⟩
  | true =>
    have m1 := (Plain.wordB_iff.1 hw).1
    have HL := Lib.hid (Plain.wordB_iff.1 hw).2
    have HW := Lib.hid hw
    cases hs : setB n with
    | false =>
      have HE := Lib.hid (fall_no (xs := xs) (.inr hs))
      have HN := Lib.hid hs
      have HR := Lib.hid hr
      clear hw hs hr
      go_enter Try.func21, Try.ntmps21
      go_wp2_with fail
      refine (l2Word_any _ _ xs _ h h64 hn).mono ?_
      rw [HW.out]
      rintro e w' ⟨rfl, rfl⟩
      go_wp2_with fail
      refine (l3Set_any n _ HR.out).mono ?_
      rw [HN.out]
      rintro e w' ⟨rfl, rfl⟩
      go_wp2_with fail
      go_ret2
      exact val_bb HE.out.1.symm HE.out.2.symm ⟨rfl, Below.refl _ _⟩
    | true =>
      obtain ⟨s, rfl, hs64⟩ := set_nat hs
      have HE := Lib.hid (fall_yes hw hs)
      have HN := Lib.hid hs
      have HR := Lib.hid hr
      clear hw hs hr
      go_enter Try.func21, Try.ntmps21
      go_wp2_with fail
      refine (l2Word_any _ _ xs _ h h64 hn).mono ?_
      rw [HW.out]
      rintro e w' ⟨rfl, rfl⟩
      go_wp2_with fail
      refine (l3Set_any (s : Int) _ HR.out).mono ?_
      rw [HN.out]
      rintro e w' ⟨rfl, rfl⟩
      go_wp2_with fail
      refine (l3Falls_any _ _ xs s _ h HL (by omega) hs64).mono ?_
      rintro e w1 ⟨rfl, hb⟩
      have HO := Lib.hid hb
      clear hb
      go_wp2_with fail
      go_ret2
      exact val_bb HE.out.1.symm HE.out.2.symm ⟨rfl, HO.out⟩

end Go.Proofs.Ytldomcinlngmlaa
