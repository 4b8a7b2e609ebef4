/- Contracts: spec.LeastFalls, GreatestHangs, l3Many, FewestNails, l3Matter, MatteringNails. Conditions: numbers of 64 bits, lengths that fit. -/
import Derived.Test.YtkooibimeoojeaaEdge
namespace Go.Proofs.Ytkooibimeoojeaa
open Go.ChangeShapes Go.WideShapes Go.ChangeAt Go.RowKit
set_option linter.unusedVariables false

/-- All least sets that fall, or all greatest ones that hang; none of what is no word. -/
def edgesW (xs : List Int) (v : Bool) : List Int := if Plain.wordB xs = true then Plain.edges (Plain.fallsB xs) v else []
theorem edgesW_yes {xs : List Int} {v : Bool} (h : Plain.wordB xs = true) : edgesW xs v = Plain.edges (Plain.fallsB xs) v := if_pos h
theorem edgesW_no {xs : List Int} {v : Bool} (h : Plain.wordB xs = false) : edgesW xs v = [] := if_neg (by rw [h]; simp)
theorem edgesW_le (xs : List Int) (v : Bool) : (edgesW xs v).length ≤ 64 := by
  unfold edgesW
  split
  · exact Plain.edges_le _ v
  · simp
set_option maxHeartbeats 400000 in
theorem specLeastFalls_any (a : Option Addr) (cap : Nat) (xs : List Int) (w : World) (h : Hid (Ints w a xs)) (h64 : Hid (In64 xs)) (hn : xs.length ≤ 9223372036854775807) :
    Calls Try.prog 18 #[.slice a xs.length cap] w (SB (edgesW xs true) (Plain.wordB xs) w) := by
  cases hw : Plain.wordB xs with
  | false =>
    have HE := Lib.hid (edgesW_no (v := true) hw)
    have HW := Lib.hid hw
    have HS := Lib.hid (coll_res (coll_start w))
    clear hw
    go_enter Try.func18, Try.ntmps18
    go_wp2_with fail
    refine (l2Word_any _ _ xs _ h h64 hn).mono ?_
    rw [HW.out]
    rintro e w' ⟨rfl, rfl⟩
    go_wp2_with fail
    go_ret2
    exact sb_of HE.out.symm rfl ⟨_, rfl, HS.out.1, HS.out.2⟩
  | true =>
    have m1 := (Plain.wordB_iff.1 hw).1
    have HL := Lib.hid (Plain.wordB_iff.1 hw).2
    have HE := Lib.hid (edgesW_yes (v := true) hw)
    have HW := Lib.hid hw
    clear hw
    go_enter Try.func18, Try.ntmps18
    go_wp2_with fail
    refine (l2Word_any _ _ xs _ h h64 hn).mono ?_
    rw [HW.out]
    rintro e w' ⟨rfl, rfl⟩
    go_wp2_with fail
    refine (l3Table_any _ _ xs _ h HL (by omega)).mono ?_
    rintro e w1 ⟨rfl, hb⟩
    have HB := Lib.hid hb
    clear hb
    go_wp2_with fail
    refine (l3Edges_any _ true _).mono ?_
    rintro e w2 ⟨v, rfl, hr, hb⟩
    have HR := Lib.hid (And.intro (hr.mono HB.out.size) (HB.out.trans (hb.mono HB.out.size)))
    clear hr hb
    go_wp2_with fail
    go_ret2
    exact sb_of HE.out.symm rfl ⟨_, rfl, HR.out.1, HR.out.2⟩
set_option maxHeartbeats 400000 in
theorem specGreatestHangs_any (a : Option Addr) (cap : Nat) (xs : List Int) (w : World) (h : Hid (Ints w a xs)) (h64 : Hid (In64 xs)) (hn : xs.length ≤ 9223372036854775807) :
    Calls Try.prog 24 #[.slice a xs.length cap] w (SB (edgesW xs false) (Plain.wordB xs) w) := by
  cases hw : Plain.wordB xs with
  | false =>
    have HE := Lib.hid (edgesW_no (v := false) hw)
    have HW := Lib.hid hw
    have HS := Lib.hid (coll_res (coll_start w))
    clear hw
    go_enter Try.func24, Try.ntmps24
    go_wp2_with fail
    refine (l2Word_any _ _ xs _ h h64 hn).mono ?_
    rw [HW.out]
    rintro e w' ⟨rfl, rfl⟩
    go_wp2_with fail
    go_ret2
    exact sb_of HE.out.symm rfl ⟨_, rfl, HS.out.1, HS.out.2⟩
  | true =>
    have m1 := (Plain.wordB_iff.1 hw).1
    have HL := Lib.hid (Plain.wordB_iff.1 hw).2
    have HE := Lib.hid (edgesW_yes (v := false) hw)
    have HW := Lib.hid hw
    clear hw
    go_enter Try.func24, Try.ntmps24
    go_wp2_with fail
    refine (l2Word_any _ _ xs _ h h64 hn).mono ?_
    rw [HW.out]
    rintro e w' ⟨rfl, rfl⟩
    go_wp2_with fail
    refine (l3Table_any _ _ xs _ h HL (by omega)).mono ?_
    rintro e w1 ⟨rfl, hb⟩
    have HB := Lib.hid hb
    clear hb
    go_wp2_with fail
    refine (l3Edges_any _ false _).mono ?_
    rintro e w2 ⟨v, rfl, hr, hb⟩
    have HR := Lib.hid (And.intro (hr.mono HB.out.size) (HB.out.trans (hb.mono HB.out.size)))
    clear hr hb
    go_wp2_with fail
    go_ret2
    exact sb_of HE.out.symm rfl ⟨_, rfl, HR.out.1, HR.out.2⟩

/-! the fewest nails -/
def bestW (xs : List Int) : Nat := if Plain.wordB xs = true then Plain.best (Plain.fallsB xs) else 0
theorem bestW_yes {xs : List Int} (h : Plain.wordB xs = true) : bestW xs = Plain.best (Plain.fallsB xs) := if_pos h
theorem bestW_no {xs : List Int} (h : Plain.wordB xs = false) : bestW xs = 0 := if_neg (by rw [h]; simp)
def manyW (xs : List Int) : Nat := if Plain.wordB xs = true then Plain.many (Plain.best (Plain.fallsB xs)) else 0
theorem manyW_yes {xs : List Int} (h : Plain.wordB xs = true) : manyW xs = Plain.many (Plain.best (Plain.fallsB xs)) := if_pos h
theorem manyW_no {xs : List Int} (h : Plain.wordB xs = false) : manyW xs = 0 := if_neg (by rw [h]; simp)
theorem val_iib {a b a' b' : Nat} {c : Bool} {w w' : World} {e : Ending} (h1 : a = a') (h2 : b = b') (h : Val (.tuple #[.int .i64 (a : Int), .int .i64 (b : Int), .bool c]) w e w') : Val (.tuple #[.int .i64 (a' : Int), .int .i64 (b' : Int), .bool c]) w e w' := by subst h1; subst h2; exact h
theorem val_ib {a a' : Nat} {c c' : Bool} {w w' : World} {e : Ending} (h1 : a = a') (h2 : c = c') (h : Val (.tuple #[.int .i64 (a : Int), .bool c]) w e w') : Val (.tuple #[.int .i64 (a' : Int), .bool c']) w e w' := by subst h1; subst h2; exact h
set_option maxRecDepth 100000 in
set_option maxHeartbeats 1000000 in
theorem specFewest_any (a : Option Addr) (cap : Nat) (xs : List Int) (w : World) (h : Hid (Ints w a xs)) (h64 : Hid (In64 xs)) (hn : xs.length ≤ 9223372036854775807) :
    Calls Try.prog 22 #[.slice a xs.length cap] w (Val (.tuple #[.int .i64 (manyW xs : Nat), .int .i64 (bestW xs : Nat), .bool (Plain.wordB xs)]) w) := by
  cases hw : Plain.wordB xs with
  | false =>
    have HE := Lib.hid (bestW_no hw)
    have HE2 := Lib.hid (manyW_no hw)
    have HW := Lib.hid hw
    clear hw
    go_enter Try.func22, Try.ntmps22
    go_wp2_with fail
    refine (l2Word_any _ _ xs _ h h64 hn).mono ?_
    rw [HW.out]
    rintro e w' ⟨rfl, rfl⟩
    go_wp2_with fail
    go_ret3
    exact val_iib HE2.out.symm HE.out.symm ⟨rfl, Below.refl _ _⟩
  | true =>
    have m1 := (Plain.wordB_iff.1 hw).1
    have HL := Lib.hid (Plain.wordB_iff.1 hw).2
    have HE := Lib.hid (bestW_yes hw)
    have HE2 := Lib.hid (manyW_yes hw)
    have HW := Lib.hid hw
    clear hw
    obtain ⟨t, ht⟩ : ∃ t, t = Plain.fallsB xs := ⟨_, rfl⟩
    rw [← ht] at HE HE2
    have HTT := Lib.hid ht
    clear ht
    go_enter Try.func22, Try.ntmps22
    go_wp2_with fail
    refine (l2Word_any _ _ xs _ h h64 hn).mono ?_
    rw [HW.out]
    rintro e w' ⟨rfl, rfl⟩
    go_wp2_with fail
    refine (l3Table_any _ _ xs _ h HL (by omega)).mono ?_
    rw [← HTT.out]
    rintro e w1 ⟨rfl, hb⟩
    have HB := Lib.hid (hb.alloc hb.size (.cells (bools fun _ => false) 23))
    have HT0 := Lib.hid (tab_new w1 (fun _ => false))
    have HB1 := Lib.hid (below_setRow HB.out hb.size (bools t))
    have HT := Lib.hid (tab_row (t := t) HT0.out)
    clear hb
    go_wp2_with (refine wpList_store_row rfl 23 _ _ rfl w1.heap.size (bools t) rfl rfl 23 (bools fun _ => false) (by rw [bools_zero]; exact heap_alloc_new _ _) info64 rfl (bools_one _) ?_)
    rw [← bools_zero]
    obtain ⟨W, hW⟩ : ∃ W, W = ((w1.alloc (.cells (bools fun _ => false) 23)).setRow w1.heap.size (bools t)) := ⟨_, rfl⟩
    rw [← hW] at HB1 HT ⊢
    clear hW HB HT0
    go_loop [5, 7] (fun b i => ∃ k : Nat, k ≤ 63 ∧ i = .int .i64 (62 - (k : Int)) ∧ b = .int .i64 (Plain.bestTo t k : Nat)) (fun _ i => (intOf i + 1).toNat)
    case atStart => exact ⟨0, Nat.zero_le _, rfl, rfl⟩
    case round =>
      obtain ⟨k, hk, rfl, rfl⟩ := hrel
      have hb64 := Plain.bestTo_lt t k
      obtain ⟨b, hbb⟩ : ∃ b, b = Plain.bestTo t k := ⟨_, rfl⟩
      rw [← hbb] at hb64 ⊢
      by_cases hlt : k < 63
      · obtain ⟨s, hs⟩ : ∃ s, s = 62 - k := ⟨_, rfl⟩
        have hs64 : s < 64 := by omega
        rw [show (62 : Int) - (k : Int) = (s : Int) by omega]
        have hc := HT.out.cell hs64
        have hml := Plain.many_le s
        have hml2 := Plain.many_le b
        have HN : Hid (Plain.bestTo t (k + 1) = if (t s && decide (Plain.many s ≤ Plain.many b)) = true then s else b) := Lib.hid (by rw [Plain.bestTo, ← hbb, hs])
        have hsk := hs
        have hi0 : (0 : Int) ≤ (s : Int) := by omega
        have hi1 : (s : Int) < 64 := by omega
        have HBB := Lib.hid hbb
        have HSK := Lib.hid hs
        clear hs hsk hbb
        cases hts : t s with
        | false =>
          rw [hts] at hc HN
          have HN2 : Hid (Plain.bestTo t (k + 1) = b) := Lib.hid HN.out
          clear hts HN
          go_wp2_with fail
          go_round
          case rel => exact ⟨k + 1, by omega, by have := HSK.out; congr 1; omega, by rw [HN2.out]⟩
          case measure => simp [intOf]
        | true =>
          rw [hts] at hc HN
          clear hts
          go_wp2_with fail
          refine (l3Many_any s _ hs64).mono ?_
          rintro e w' ⟨rfl, rfl⟩
          go_wp2_with fail
          refine (l3Many_any b _ hb64).mono ?_
          rintro e w' ⟨rfl, rfl⟩
          by_cases hle : Plain.many s ≤ Plain.many b
          · have HN2 : Hid (Plain.bestTo t (k + 1) = s) := Lib.hid (by rw [HN.out]; simp [hle])
            have hle1 : ((Plain.many s : Nat) : Int) ≤ ((Plain.many b : Nat) : Int) := by omega
            clear hle HN
            go_wp2_with fail
            go_round
            case rel => exact ⟨k + 1, by omega, by have := HSK.out; congr 1; omega, by rw [HN2.out]⟩
            case measure => simp [intOf]
          · have HN2 : Hid (Plain.bestTo t (k + 1) = b) := Lib.hid (by rw [HN.out]; simp [hle])
            have hle1 : ¬ ((Plain.many s : Nat) : Int) ≤ ((Plain.many b : Nat) : Int) := by omega
            clear hle HN
            go_wp2_with fail
            go_round
            case rel => exact ⟨k + 1, by omega, by have := HSK.out; congr 1; omega, by rw [HN2.out]⟩
            case measure => simp [intOf]
      · obtain rfl : k = 63 := by omega
        have HBB : Hid (b = Plain.best t) := Lib.hid hbb
        clear hbb
        go_wp2_with fail
        refine (l3Many_any b _ hb64).mono ?_
        rintro e w' ⟨rfl, rfl⟩
        go_wp2_with fail
        go_ret3
        exact val_iib (by rw [HE2.out, HBB.out]) (by rw [HE.out, HBB.out]) ⟨rfl, HB1.out⟩

/-! the nails that matter -/
theorem tellsTo_step {t : Nat → Bool} {n k : Nat} {b : Bool} (h : Plain.tells t n k = b) : Plain.tellsTo t n (k + 1) = (Plain.tellsTo t n k || b) := by rw [Plain.tellsTo, h]
/-- What the inner loop has collected. -/
def inner (t : Nat → Bool) (n k : Nat) : Nat := if Plain.tellsTo t n k = true then Plain.matterTo t n ||| 2 ^ n else Plain.matterTo t n
theorem inner_zero (t : Nat → Bool) (n : Nat) : inner t n 0 = Plain.matterTo t n := if_neg (by simp [Plain.tellsTo])
theorem inner_all (t : Nat → Bool) (n : Nat) : inner t n 64 = Plain.matterTo t (n + 1) := rfl
theorem inner_no {t : Nat → Bool} {n k : Nat} (h : Plain.tells t n k = false) : inner t n (k + 1) = inner t n k := by unfold inner; rw [tellsTo_step h, Bool.or_false]
theorem inner_yes {t : Nat → Bool} {n k : Nat} (h : Plain.tells t n k = true) : inner t n (k + 1) = inner t n k ||| 2 ^ n := by
  unfold inner
  rw [tellsTo_step h, Bool.or_true, if_pos rfl]
  split
  · rw [Nat.or_assoc, Nat.or_self]
  · rfl
theorem inner_lt {t : Nat → Bool} {n k : Nat} (h : n < 6) : inner t n k < 64 := by
  have h1 := Plain.matterTo_lt t n (by omega)
  unfold inner
  split
  · exact Nat.or_lt_two_pow (n := 6) h1 (Nat.pow_lt_pow_right (by decide) h)
  · exact h1

set_option maxRecDepth 100000 in
set_option maxHeartbeats 2000000 in
theorem l3Matter_any (t : Nat → Bool) (w : World) :
    Calls Try.prog 51 #[.agg (bools t)] w (Val (.int .i64 (Plain.matter t : Nat)) w) := by
  have HT := Lib.hid (tab_new w t)
  have HB := Lib.hid ((Below.refl w.heap.size w).alloc (Nat.le_refl _) (.cells (bools t) 23))
  go_enter Try.func51, Try.ntmps51
  go_wp2_with fail
  go_loopw [3, 4, 5] (fun m i j wr => ∃ n : Nat, n ≤ 6 ∧ i = .int .i64 ((n : Int) + 1) ∧ m = .int .i64 (Plain.matterTo t n : Nat) ∧ Tab wr w.heap.size t ∧ Below w.heap.size w wr) (fun _ i _ _ => 8 - (intOf i).toNat)
  case atStart => exact ⟨0, Nat.zero_le _, rfl, rfl, HT.out, HB.out⟩
  case round =>
    obtain ⟨n, hn, rfl, rfl, hT1, hB1⟩ := hrel
    have HT1 := Lib.hid hT1
    have HB1 := Lib.hid hB1
    clear hT1 hB1
    by_cases hlt : n < 6
    · have hi : (n : Int) + 1 ≤ 6 := by omega
      rw [← inner_zero]
      go_wp2_with fail
      obtain ⟨wo, rfl⟩ : ∃ wo : World, wo = wr := ⟨_, rfl⟩
      go_loopw [3, 5] (fun m j wr => ∃ k : Nat, k ≤ 64 ∧ j = .int .i64 (k : Int) ∧ m = .int .i64 (inner t n k : Nat) ∧ Tab wr w.heap.size t ∧ Below w.heap.size w wr) (fun _ j _ => 64 - (intOf j).toNat)
      case atStart => exact ⟨0, Nat.zero_le _, rfl, rfl, HT1.out, HB1.out⟩
      case round =>
        obtain ⟨k, hk, rfl, rfl, hT2, hB2⟩ := hrel
        have HT2 := Lib.hid hT2
        have HB2 := Lib.hid hB2
        clear hT2 hB2
        have hm64 := inner_lt (t := t) (k := k) hlt
        by_cases hlt2 : k < 64
        · obtain ⟨m, hm⟩ : ∃ m, m = inner t n k := ⟨_, rfl⟩
          rw [← hm] at hm64 ⊢
          have HM := Lib.hid hm
          clear hm
          obtain ⟨q, hq⟩ : ∃ q, q = 2 ^ n := ⟨_, rfl⟩
          have hq32 : q ≤ 32 := by rw [hq]; exact pow_small hlt
          have hpow : (2 : Int) ^ n = (q : Int) := by rw [hq]; simp
          obtain ⟨o, ho⟩ : ∃ o, o = k ||| q := ⟨_, rfl⟩
          have ho64 : o < 64 := by rw [ho]; exact Nat.or_lt_two_pow (n := 6) hlt2 (by omega)
          have hor : bits .or .i64 (k : Int) (q : Int) = (o : Int) := by rw [ho]; exact or_small k q hlt2 (by omega)
          have hor2 := or_small m q hm64 (by omega)
          have hmo64 : m ||| q < 64 := Nat.or_lt_two_pow (n := 6) hm64 (by omega)
          have hc1 := HT2.out.cell hlt2
          have hc2 := HT2.out.cell ho64
          have hTell : Plain.tells t n k = (!k.testBit n && (t k != t o)) := by rw [Plain.tells, ho, hq]
          have HM2 : Hid (m ||| q = inner t n k ||| 2 ^ n) := Lib.hid (by rw [HM.out, hq])
          have hj0 : (0 : Int) ≤ (k : Int) := by omega
          have hj1 : (k : Int) < 64 := by omega
          have ho0 : (0 : Int) ≤ (o : Int) := by omega
          have ho1 : (o : Int) < 64 := by omega
          have hn0 : (0 : Int) ≤ (n : Int) := by omega
          have hw1 : IntKind.i64.wrap ((n : Int) + 1 - 1) = (n : Int) := by rw [show (n : Int) + 1 - 1 = (n : Int) by omega]; exact IntWalk.i64_in _ (by omega)
          have hcall := fun W => l3In_any k n W hlt2 (by omega)
          clear hq ho
          cases htb : k.testBit n with
          | true =>
            rw [htb] at hcall hTell
            have HC := Lib.hid hcall
            have HN := Lib.hid (inner_no (t := t) (n := n) (k := k) (by rw [hTell]; rfl))
            clear hcall hTell htb hw1
            go_wp2_with fail
            go_quiet ((go_at_call 56; exact Calls.quiet_of_same ((HC.out _).mono fun _ _ h => ⟨h.1, h.2.symm⟩)))
            go_wp2_with fail
            go_roundw
            case rel => exact ⟨k + 1, by omega, by go_num, by rw [HN.out, ← HM.out], HT2.out, below_drewN HB2.out _⟩
            case measure => simp [intOf]; omega
          | false =>
            rw [htb] at hcall hTell
            have HC := Lib.hid hcall
            cases h1 : t k <;> cases h2 : t o
            all_goals
              rw [h1, h2] at hTell
              rw [h1] at hc1
              rw [h2] at hc2
              have HTell := Lib.hid hTell
              clear hcall hTell htb hw1 h1 h2
              go_wp2_with fail
              go_quiet ((go_at_call 56; exact Calls.quiet_of_same ((HC.out _).mono fun _ _ h => ⟨h.1, h.2.symm⟩)))
              go_wp2_with fail
              go_roundw
              case rel => first
                | exact ⟨k + 1, by omega, by go_num, by rw [inner_no (by rw [HTell.out]; rfl), ← HM.out], HT2.out, below_drewN HB2.out _⟩
                | exact ⟨k + 1, by omega, by go_num, by rw [inner_yes (by rw [HTell.out]; rfl), ← HM2.out], HT2.out, below_drewN HB2.out _⟩
              case measure => simp [intOf]; omega
        · obtain rfl : k = 64 := by omega
          rw [inner_all] at *
          have hm2 := Plain.matterTo_lt t (n + 1) (by omega)
          go_wp2_with fail
          go_roundw
          case rel => exact ⟨n + 1, by omega, by go_num, rfl, HT2.out, HB2.out⟩
          case measure => simp [intOf]; omega
    · obtain rfl : n = 6 := by omega
      go_wp2_with fail
      go_ret
      exact ⟨rfl, HB1.out⟩

end Go.Proofs.Ytkooibimeoojeaa
