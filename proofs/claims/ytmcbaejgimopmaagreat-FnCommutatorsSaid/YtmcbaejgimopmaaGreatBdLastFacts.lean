/- Contracts: spec.TurnWord, impl.TurnWord. Conditions: numbers of 64 bits, lengths that fit. -/
import Derived.Test.YtmcbaejgimopmaaGreatBdJoinWWalks
import Derived.Test.YtmcbaejgimopmaaGreatBdNailText
import Derived.Test.YtmcbaejgimopmaaGreatBdNailsWalks
import Derived.Test.YtmcbaejgimopmaaGreatCommFacts
import Derived.Test.YtmcbaejgimopmaaGreatCommImpl
import Derived.Test.YtmcbaejgimopmaaGreatPtRead
import Derived.Test.YtmcbaejgimopmaaGreatTurnWalks
import Derived.Test.YtmcbaejgimopmaaGreatWicksSpec
namespace Go.Proofs.YtmcbaejgimopmaaGreat
open Go.ChangeShapes Go.WideShapes Go.ChangeAt Go.RowKit
set_option linter.unusedVariables false

/-- A place of a list; 0 for the empty one. -/
def placeB (xs : List Int) (n : Int) : Bool := decide (0 ≤ n ∧ n ≤ ((xs.length - 1 : Nat) : Int))
def turnB (xs : List Int) (n : Int) : Bool := Plain.wordB xs && placeB xs n
def turnOut (xs : List Int) (n : Int) : List Int := if turnB xs n = true then turn xs n.toNat else []
theorem turn_no {xs : List Int} {n : Int} (h : Plain.wordB xs = false ∨ placeB xs n = false) : turnOut xs n = [] ∧ turnB xs n = false := by
  have hb : turnB xs n = false := by rcases h with h | h <;> simp [turnB, h]
  simp [turnOut, hb]
theorem turn_yes {xs : List Int} {k : Nat} (h : Plain.wordB xs = true) (hk : k ≤ xs.length - 1) : turnOut xs (k : Int) = turn xs k ∧ turnB xs (k : Int) = true := by
  have hb : turnB xs (k : Int) = true := by simp [turnB, placeB, h]; omega
  simp [turnOut, hb]
theorem turnOut_le (xs : List Int) (n : Int) : (turnOut xs n).length ≤ xs.length := by
  unfold turnOut
  split
  · rw [turn_length]; exact Nat.le_refl _
  · simp
theorem most_len (xs : List Int) (hm : xs.length ≤ 64) (w : World) : Calls Tryz.prog 72 #[.int .i64 ((xs.length : Int) - 1), .int .i64 0] w fun e w' => e = .returned (.int .i64 ((xs.length - 1 : Nat) : Int)) ∧ w = w' := by
  by_cases h0 : xs.length = 0
  · rw [h0]
    exact l1Most_le _ _ w (by omega) (by omega) (by omega)
  · rw [show ((xs.length - 1 : Nat) : Int) = (xs.length : Int) - 1 by omega]
    exact l1Most_ge _ _ w (by omega) (by omega) (by omega)


set_option maxRecDepth 100000 in
set_option maxHeartbeats 800000 in
theorem implTurnW_any (a : Option Addr) (cap : Nat) (xs : List Int) (n : Int) (w : World) (h : Hid (Ints w a xs)) (hk : Hid (Cap a xs.length cap)) (h64 : Hid (In64 xs)) (hx : xs.length ≤ 9223372036854775807) (hr : -9223372036854775808 ≤ n ∧ n ≤ 9223372036854775807) :
    Calls Tryz.prog 28 #[.slice a xs.length cap, .int .i64 n] w (SB (turnOut xs n) (turnB xs n) w) := by
  obtain ⟨hr1, hr2⟩ := hr
  cases hw : Plain.wordB xs with
  | false =>
    have HE := Lib.hid (turn_no (n := n) (.inl hw))
    have W1 := Lib.hid hw
    clear hw
    go_enter Tryz.func28, Tryz.ntmps28
    go_wp2_with fail
    refine (isWord_any _ _ xs _ h h64 hx).mono ?_
    rw [W1.out]
    rintro e w' ⟨rfl, rfl⟩
    go_wp2
    go_ret2
    exact sb_eq HE.out.1 HE.out.2 ⟨_, rfl, (coll_res (coll_start w)).1, (coll_start w).2.1⟩
  | true =>
    have m1 := (Plain.wordB_iff.1 hw).1
    have W1 := Lib.hid hw
    by_cases hneg : n < 0
    · have HE := Lib.hid (turn_no (xs := xs) (n := n) (.inr (decide_eq_false (by omega))))
      have hd : decide (n < 0) = true := decide_eq_true hneg
      clear hw
      go_enter Tryz.func28, Tryz.ntmps28
      go_wp2_with fail
      refine (isWord_any _ _ xs _ h h64 hx).mono ?_
      rw [W1.out]
      rintro e w' ⟨rfl, rfl⟩
      go_wp2
      go_ret2
      exact sb_eq HE.out.1 HE.out.2 ⟨_, rfl, (coll_res (coll_start w)).1, (coll_start w).2.1⟩
    · obtain ⟨k, rfl⟩ := Int.eq_ofNat_of_zero_le (show 0 ≤ n by omega)
      have hd : decide ((k : Int) < 0) = false := decide_eq_false (by omega)
      by_cases h0 : xs.length = 0
      · have hc : ((xs.length : Int) - 1) = -1 := by omega
        by_cases hk0 : k = 0
        · subst hk0
          obtain rfl : xs = [] := List.eq_nil_of_length_eq_zero h0
          have HE := Lib.hid (turn_yes (k := 0) hw (by omega))
          have hT : ∀ w', Hid (Ints w' a []) → Calls Tryz.prog 59 #[.slice a 0 cap, .int .i64 0] w' (ListPost (turn [] 0) w') := fun w' h' => turned_any a cap [] 0 w' h' hk (by omega) (by simp)
          have h' : Hid (Ints w a []) := h
          clear hw h0 hc
          go_enter Tryz.func28, Tryz.ntmps28
          go_wp2_with fail
          refine (isWord_any _ _ [] _ h h64 hx).mono ?_
          rw [W1.out]
          rintro e w' ⟨rfl, rfl⟩
          go_wp2_with fail
          refine (hT _ h').mono ?_
          rintro e w2 ⟨v, rfl, hr, hb⟩
          have R := Lib.hid hr
          have B2 := Lib.hid hb
          clear hr hb
          go_wp2
          go_ret2
          exact sb_eq HE.out.1 HE.out.2 ⟨_, rfl, R.out, B2.out⟩
        · have HE := Lib.hid (turn_no (xs := xs) (n := (k : Int)) (.inr (decide_eq_false (by omega))))
          have hd2 : decide ((0 : Int) < (k : Int)) = true := decide_eq_true (by omega)
          have hd3 : 0 < k := by omega
          have H0 := Lib.hid h0
          clear hw h0 hc
          have hc : ((xs.length : Int) - 1) = -1 := by have := H0.out; omega
          go_enter Tryz.func28, Tryz.ntmps28
          go_wp2_with fail
          refine (isWord_any _ _ xs _ h h64 hx).mono ?_
          rw [W1.out]
          rintro e w' ⟨rfl, rfl⟩
          go_wp2
          go_ret2
          exact sb_eq HE.out.1 HE.out.2 ⟨_, rfl, (coll_res (coll_start w)).1, (coll_start w).2.1⟩
      · obtain ⟨m, hm⟩ : ∃ m, xs.length = m + 1 := ⟨xs.length - 1, by omega⟩
        have hc : ((xs.length : Int) - 1) = (m : Int) := by omega
        have hm0 : (0 : Int) ≤ (m : Int) := by omega
        by_cases hkm : k ≤ m
        · have HE := Lib.hid (turn_yes (k := k) hw (by omega))
          have hd2 : decide ((m : Int) < (k : Int)) = false := decide_eq_false (by omega)
          have hd3 : ¬ m < k := by omega
          have HM := Lib.hid hm
          have H0 := Lib.hid h0
          clear hw hm h0
          go_enter Tryz.func28, Tryz.ntmps28
          go_wp2_with fail
          refine (isWord_any _ _ xs _ h h64 hx).mono ?_
          rw [W1.out]
          rintro e w' ⟨rfl, rfl⟩
          go_wp2_with fail
          refine (turned_any _ _ xs k _ h hk (by have := HM.out; omega) (by omega)).mono ?_
          rintro e w2 ⟨v, rfl, hr, hb⟩
          have R := Lib.hid hr
          have B2 := Lib.hid hb
          clear hr hb
          go_wp2
          go_ret2
          exact sb_eq HE.out.1 HE.out.2 ⟨_, rfl, R.out, B2.out⟩
        · have HE := Lib.hid (turn_no (xs := xs) (n := (k : Int)) (.inr (decide_eq_false (by omega))))
          have hd2 : decide ((m : Int) < (k : Int)) = true := decide_eq_true (by omega)
          have hd3 : m < k := by omega
          have HM := Lib.hid hm
          have H0 := Lib.hid h0
          clear hw hm h0
          go_enter Tryz.func28, Tryz.ntmps28
          go_wp2_with fail
          refine (isWord_any _ _ xs _ h h64 hx).mono ?_
          rw [W1.out]
          rintro e w' ⟨rfl, rfl⟩
          go_wp2
          go_ret2
          exact sb_eq HE.out.1 HE.out.2 ⟨_, rfl, (coll_res (coll_start w)).1, (coll_start w).2.1⟩

end Go.Proofs.YtmcbaejgimopmaaGreat

/- Plain mathematics for FnCommutators: what is told of different nails: the text of the balanced tree is read back, its value is the balanced word, the lengths are those told. No condition. -/
namespace Go.Proofs.YtmcbaejgimopmaaGreat
open Go.ChangeShapes Go.WideShapes Go.ChangeAt Go.RowKit
set_option linter.unusedVariables false

theorem nails_one {ns : List Int} (h : Plain.nailsOk ns = true) : lenB ns.length = true := by
  obtain ⟨h1, h6⟩ := (Plain.nailsOk_iff.1 h).1
  exact decide_eq_true (by omega)
theorem two_facts {ns : List Int} (h : Plain.nailsOk ns = true) :
    parsedB (treeText ns) = true ∧ (treeOf (treeText ns)).good ∧ (treeOf (treeText ns)).raw = balL ns.length ∧ (treeOf (treeText ns)).val = (nailW ns (Plain.bal 3 ns), true) ∧
      nailW_B ns (Plain.bal 3 ns) = true ∧ (nailW ns (Plain.bal 3 ns)).length = balL ns.length ∧ balL ns.length ≤ 64 ∧ (treeText ns).size ≤ 80 := by
  obtain ⟨h1, h6⟩ := (Plain.nailsOk_iff.1 h).1
  have hm := (Plain.nailsOk_letters h).2
  have hraw := balT_raw 3 (ns := ns) h1 (by omega)
  have hT : treeText ns = bytesOf (balT 3 ns).txt := by rw [treeText_yes h, balT_text 3 h1 (by omega)]
  have hg := balT_good 3 (ns := ns) h1 (by omega) hm
  have hz : (treeText ns).size ≤ 80 := by rw [hT, bytesOf_size]; omega
  obtain ⟨hto, hpa⟩ := parsed_of hz hg (by rw [hT, bytesOf_list])
  have hb : balL ns.length = Plain.balLen 3 ns.length := by rw [balL_yes (nails_one h), Int.toNat_natCast, balLen_six h1 h6]
  have hlit := bal_lit 3 (ns := ns) h1 (by omega) (fun x hx => (hm x hx).1) (nails_nodup h)
  have hl64 : (Plain.bal 3 ns).length ≤ 64 := Plain.bal_le 3 ns
  obtain ⟨n1, n2⟩ := nailW_yes (out := Plain.bal 3 ns) h
  obtain ⟨s1, s2⟩ := short_yes hl64
  rw [s1] at n1
  rw [s2] at n2
  have hlen : (Plain.bal 3 ns).length = Plain.balLen 3 ns.length := hlit.2.2.2
  refine ⟨hpa, by rw [hto]; exact hg, by rw [hto, hb]; exact hraw.1, by rw [hto, balT_val 3 (by omega) h1 (by omega), s1, s2, n1], n2, by rw [n1, hb, hlen], by rw [hb, ← hlen]; exact hl64, hz⟩
theorem two_is (ns : List Int) : nailW_B ns (Plain.bal 3 ns) = Plain.nailsOk ns := by
  cases h : Plain.nailsOk ns with
  | true => exact (two_facts h).2.2.2.2.1
  | false => exact (nailW_no h).2
theorem one_facts {ns : List Int} (h : nailW_B ns (Plain.leftTo ns (ns.length - 1)) = true) : lenB ns.length = true ∧ (nailW ns (Plain.leftTo ns (ns.length - 1))).length = leftL ns.length ∧ leftL ns.length ≤ 64 := by
  have hn : Plain.nailsOk ns = true := by
    cases hw : Plain.nailsOk ns with
    | true => rfl
    | false => rw [(nailW_no hw).2] at h; cases h
  obtain ⟨h1, h6⟩ := (Plain.nailsOk_iff.1 hn).1
  have hm := (Plain.nailsOk_letters hn).2
  obtain ⟨n1, n2⟩ := nailW_yes (out := Plain.leftTo ns (ns.length - 1)) hn
  rw [n2] at h
  have h64 : (Plain.leftTo ns (ns.length - 1)).length ≤ 64 := by simpa [shortB] using h
  have hlit := left_lit (ns := ns) (fun x hx => (hm x hx).1) (nails_nodup hn) (ns.length - 1) (by omega)
  have hl : leftL ns.length = Plain.leftLen (ns.length - 1) := by rw [leftL_yes (nails_one hn), Int.toNat_natCast]
  have hlen : (Plain.leftTo ns (ns.length - 1)).length = Plain.leftLen (ns.length - 1) := hlit.2.2.2
  refine ⟨nails_one hn, by rw [n1, (short_yes h64).1, hl, hlen], by rw [hl, ← hlen]; exact h64⟩

end Go.Proofs.YtmcbaejgimopmaaGreat

/- Plain mathematics for FnCommutators: the words that the parts of Wicks' form make, and the commutator turned round. No condition. -/
namespace Go.Proofs.YtmcbaejgimopmaaGreat
open Go.ChangeShapes Go.WideShapes Go.ChangeAt Go.RowKit
set_option linter.unusedVariables false

theorem wicks_word {x : List Int} (h : wicksOk x = true) : Plain.wordB x = true := by
  cases hw : Plain.wordB x with
  | true => rfl
  | false => rw [wicksOk, wicksAt, if_neg (by rw [hw]; simp)] at h; cases h
theorem prod_short {a b z : List Int} (ha : Plain.wordB a = true) (hb : Plain.wordB b = true) (hz : (Plain.red z).length ≤ 64) : prodOut a b z = Plain.red z ∧ prodOk a b z = true := by
  obtain ⟨h1, h2⟩ := prod_yes (zs := z) ha hb
  obtain ⟨s1, s2⟩ := short_yes hz
  rw [s1] at h1
  rw [s2] at h2
  exact ⟨h1, h2⟩
theorem word_of {a : List Int} (h : a.length ≤ 64) (hl : Plain.Letters a) : Plain.wordB a = true := Plain.wordB_iff.2 ⟨h, hl⟩
theorem six_facts {x : List Int} (hok : wicksOk x = true) :
    (Plain.core (Plain.red x)).length ≤ 64 ∧ Plain.Letters (Plain.core (Plain.red x)) ∧ turnOut (Plain.core (Plain.red x)) (wicksK x) = turn (Plain.core (Plain.red x)) (wicksK x) ∧ turnB (Plain.core (Plain.red x)) (wicksK x) = true ∧
    (Plain.Letters (wicksA x) ∧ Plain.Letters (wicksB x) ∧ Plain.Letters (wicksC x)) ∧
    (prodOut (wicksA x) (wicksB x) (wicksA x ++ wicksB x) = Plain.red (wicksA x ++ wicksB x) ∧ prodOk (wicksA x) (wicksB x) (wicksA x ++ wicksB x) = true) ∧
    (prodOut (wicksC x) (Plain.inv (wicksA x)) (wicksC x ++ Plain.inv (wicksA x)) = Plain.red (wicksC x ++ Plain.inv (wicksA x)) ∧ prodOk (wicksC x) (Plain.inv (wicksA x)) (wicksC x ++ Plain.inv (wicksA x)) = true) ∧
    (prodOut (Plain.red (wicksA x ++ wicksB x)) (Plain.red (wicksC x ++ Plain.inv (wicksA x))) (commZ (Plain.red (wicksA x ++ wicksB x)) (Plain.red (wicksC x ++ Plain.inv (wicksA x)))) = turn (Plain.core (Plain.red x)) (wicksK x) ∧
      prodOk (Plain.red (wicksA x ++ wicksB x)) (Plain.red (wicksC x ++ Plain.inv (wicksA x))) (commZ (Plain.red (wicksA x ++ wicksB x)) (Plain.red (wicksC x ++ Plain.inv (wicksA x)))) = true) ∧
    2 * ((wicksA x).length + (wicksB x).length + (wicksC x).length) = (Plain.core (Plain.red x)).length := by
  obtain ⟨hA, hB, hC, hK, hk, hsum, hmade⟩ := wicks_made (wicks_word hok) hok
  obtain ⟨cl, cL⟩ := Plain.wordB_iff.1 hK
  obtain ⟨al, aL⟩ := Plain.wordB_iff.1 hA
  obtain ⟨bl, bL⟩ := Plain.wordB_iff.1 hB
  obtain ⟨dl, dL⟩ := Plain.wordB_iff.1 hC
  obtain ⟨t1, t2⟩ := turn_yes hK hk
  have e1 : (Plain.red (wicksA x ++ wicksB x)).length ≤ 64 := Nat.le_trans (Plain.red_length _) (by rw [List.length_append]; omega)
  have e2 : (Plain.red (wicksC x ++ Plain.inv (wicksA x))).length ≤ 64 := Nat.le_trans (Plain.red_length _) (by rw [List.length_append, Plain.inv_length]; omega)
  have hI : Plain.wordB (Plain.inv (wicksA x)) = true := word_of (by rw [Plain.inv_length]; exact al) aL.inv
  have w1 := word_of e1 (aL.append bL).red
  have w2 := word_of e2 (dL.append aL.inv).red
  have p3 := prod_short w1 w2 (by rw [hmade, turn_length]; exact cl)
  rw [hmade] at p3
  exact ⟨cl, cL, t1, t2, ⟨aL, bL, dL⟩, prod_short hA hB e1, prod_short hC hI e2, p3, hsum⟩
theorem comm_turned (u v : List Int) : Plain.comm v u = Plain.inv (Plain.comm u v) := by
  have ir : ∀ z : List Int, Plain.inv (Plain.red z) = Plain.red (Plain.inv z) := fun z => by rw [← red_of_inv, Plain.red_of_reduced (lit_inv (Plain.red_reduced z))]
  rw [Plain.comm, Plain.comm, ir]
  congr 1
  simp only [Plain.inv_append, Plain.inv_inv, List.append_assoc]
theorem ok_facts {u v : List Int} (h : prodOk u v (commZ u v) = true) : Plain.Letters (prodOut u v (commZ u v)) ∧ (prodOut u v (commZ u v)).length ≤ 64 ∧ prodOut v u (commZ v u) = Plain.inv (prodOut u v (commZ u v)) ∧ prodOk v u (commZ v u) = true := by
  have hb : Plain.wordB u = true ∧ Plain.wordB v = true ∧ (Plain.red (commZ u v)).length ≤ 64 := by
    simp only [prodOk, bothB, shortB, Bool.and_eq_true, decide_eq_true_eq] at h
    exact ⟨h.1.1, h.1.2, h.2⟩
  obtain ⟨h1, h2, h3⟩ := hb
  have e := comm_turned u v
  have e' : Plain.red (commZ v u) = Plain.inv (Plain.red (commZ u v)) := e
  have p1 := prod_short h1 h2 h3
  have p2 := prod_short (z := commZ v u) h2 h1 (by rw [e', Plain.inv_length]; exact h3)
  have hL : Plain.Letters (Plain.red (commZ u v)) := Plain.Letters.comm (Plain.wordB_iff.1 h1).2 (Plain.wordB_iff.1 h2).2
  rw [p1.1, p2.1]
  exact ⟨hL, h3, e', p2.2⟩

end Go.Proofs.YtmcbaejgimopmaaGreat
