/- Contracts: spec.l2Join, l2Short; what products come to. Conditions: letters, lengths that fit. -/
import Derived.Test.YtmcbaejgimopmaaGreatComm
import Derived.Test.YtmcbaejgimopmaaGreatInvWalks
import Derived.Test.YtmcbaejgimopmaaGreatLawKit
import Derived.Test.YtmcbaejgimopmaaGreatWordWalks
namespace Go.Proofs.YtmcbaejgimopmaaGreat
open Go.ChangeShapes Go.WideShapes Go.ChangeAt Go.RowKit
set_option linter.unusedVariables false

theorem ListPost.of {xs : List Int} {w w' : World} {e : Ending} (h : RedPost xs w e w') : ListPost (Plain.red xs) w e w' := h

set_option maxRecDepth 100000 in
set_option maxHeartbeats 400000 in
theorem l2Join_any (a1 a2 : Option Addr) (c1 c2 : Nat) (xs ys : List Int) (w : World) (h1 : Hid (Ints w a1 xs)) (k1 : Hid (Cap a1 xs.length c1)) (h2 : Hid (Ints w a2 ys)) (k2 : Hid (Cap a2 ys.length c2))
    (l1 : Hid (Plain.Letters xs)) (l2 : Hid (Plain.Letters ys)) (hn : xs.length + ys.length ≤ 1048576) :
    Calls Tryz.prog 73 #[.slice a1 xs.length c1, .slice a2 ys.length c2] w (ListPost (Plain.red (xs ++ ys)) w) := by
  obtain ⟨i0, hi0, hz0, hz1, hz2⟩ := info_parts infoInt
  go_enter Tryz.func73, Tryz.ntmps73
  go_wp2_with fail
  refine (l1Own_any _ _ xs _ h1 k1 (by omega)).mono ?_
  rintro e w1 ⟨v1, rfl, hC, hne⟩
  have HC := Lib.hid hC
  have HY := Lib.hid (h2.out.on hC.2.1)
  clear hC hne
  go_wp2_with (at_builtin; refine wpList_append_ints rfl _ _ 24 i0 rfl Tryz.underlying24 hi0 hz0 hz1 hz2 w.heap.size _ xs.length xs rfl HC.out.1 a2 ys.length c2 ys rfl rfl HY.out k2.out (by omega) HC.out.2.2 ?_)
  intro v' w2 hown hgrow hnil
  have hR := coll_more HC.out rfl hown hgrow
  obtain ⟨zs, hzs⟩ : ∃ zs, zs = xs ++ ys := ⟨_, rfl⟩
  have hl3 : zs.length ≤ 1048576 := by rw [hzs]; simpa using hn
  have L3 : Hid (Plain.Letters zs) := Lib.hid (by rw [hzs]; exact l1.out.append l2.out)
  have HZ := Lib.hid hzs
  rw [← hzs] at hR
  have HR := Lib.hid hR
  clear hown hgrow hnil hzs hR
  obtain ⟨⟨a3, c3, rfl, hi3, -, -⟩, hb3⟩ := coll_res HR.out
  have I3 := Lib.hid hi3
  have B3 := Lib.hid hb3
  clear hi3 hb3 HR
  go_wp2_with fail
  refine (l2Reduce_any _ _ zs _ I3 L3 hl3).mono ?_
  rintro e w3 ⟨v, rfl, hr, hb⟩
  have R := Lib.hid (hr.mono B3.out.size)
  have B4 := Lib.hid (B3.out.trans (hb.mono B3.out.size))
  clear hr hb
  go_wp2
  go_ret
  exact ⟨_, rfl, by rw [← HZ.out]; exact R.out, B4.out⟩

/-- A product of at most 64 letters, or none. -/
def shortB (xs : List Int) : Bool := decide (xs.length ≤ 64)
def short (xs : List Int) : List Int := if xs.length ≤ 64 then xs else []
theorem short_yes {xs : List Int} (h : xs.length ≤ 64) : short xs = xs ∧ shortB xs = true := ⟨if_pos h, by simp [shortB, h]⟩
theorem short_no {xs : List Int} (h : ¬ xs.length ≤ 64) : short xs = [] ∧ shortB xs = false := ⟨if_neg h, by simp [shortB, h]⟩
theorem short_le (xs : List Int) : (short xs).length ≤ 64 := by
  by_cases h : xs.length ≤ 64
  · rw [(short_yes h).1]; exact h
  · rw [(short_no h).1]; exact Nat.zero_le _
theorem sb_eq {out out' : List Int} {ok ok' : Bool} {w w' : World} {e : Ending} (h1 : out = out') (h2 : ok = ok') (h : SB out' ok' w e w') : SB out ok w e w' := by subst h1 h2; exact h

theorem l2Short_any (a : Option Addr) (c : Nat) (xs : List Int) (w : World) (h : Hid (Ints w a xs)) (B : Nat) (ho : Hid (Own B w a xs.length)) (k : Hid (Cap a xs.length c)) (hB : B ≤ w.heap.size) (hn : xs.length ≤ 9223372036854775807) :
    Calls Tryz.prog 38 #[.slice a xs.length c] w fun e w' => ∃ v, e = .returned (.tuple #[v, .bool (shortB xs)]) ∧ Res B w' v (short xs) ∧ Below w.heap.size w w' := by
  have R : Hid (Res B w (.slice a xs.length c) xs) := Lib.hid ⟨a, c, rfl, h.out, ho.out, k.out⟩
  by_cases hs : xs.length ≤ 64
  · have HS := Lib.hid (short_yes hs)
    go_enter Tryz.func38, Tryz.ntmps38
    go_wp2
    go_ret2
    rw [HS.out.1, HS.out.2]
    exact ⟨_, rfl, R.out, Below.refl _ _⟩
  · have HS := Lib.hid (short_no hs)
    go_enter Tryz.func38, Tryz.ntmps38
    go_wp2
    go_ret2
    rw [HS.out.1, HS.out.2]
    exact ⟨_, rfl, (coll_res (coll_start w)).1.mono hB, (coll_start w).2.1⟩

/-- Both are words. -/
def bothB (xs ys : List Int) : Bool := Plain.wordB xs && Plain.wordB ys
/-- What a product comes to. -/
def prodOut (xs ys zs : List Int) : List Int := if bothB xs ys = true then short (Plain.red zs) else []
def prodOk (xs ys zs : List Int) : Bool := bothB xs ys && shortB (Plain.red zs)
theorem prod_yes {xs ys zs : List Int} (h1 : Plain.wordB xs = true) (h2 : Plain.wordB ys = true) : prodOut xs ys zs = short (Plain.red zs) ∧ prodOk xs ys zs = shortB (Plain.red zs) := by simp [prodOut, prodOk, bothB, h1, h2]
theorem prod_no1 {xs ys zs : List Int} (h1 : Plain.wordB xs = false) : prodOut xs ys zs = [] ∧ prodOk xs ys zs = false := by simp [prodOut, prodOk, bothB, h1]
theorem prod_no2 {xs ys zs : List Int} (h2 : Plain.wordB ys = false) : prodOut xs ys zs = [] ∧ prodOk xs ys zs = false := by simp [prodOut, prodOk, bothB, h2]
theorem prod_le (xs ys zs : List Int) : (prodOut xs ys zs).length ≤ 1048576 := by
  have := short_le (Plain.red zs)
  unfold prodOut
  split
  · omega
  · simp

end Go.Proofs.YtmcbaejgimopmaaGreat

/- Contracts: spec.l4Commutator, CommutatorOf, l1Has, l4Nails, LeftWord, LeftLength, l4Length, BalancedLength. Conditions: letters, numbers of 64 bits, lengths that fit. -/
namespace Go.Proofs.YtmcbaejgimopmaaGreat
open Go.ChangeShapes Go.WideShapes Go.ChangeAt Go.RowKit
set_option linter.unusedVariables false

set_option maxRecDepth 100000 in
set_option maxHeartbeats 400000 in
theorem l4Commutator_any (a1 a2 : Option Addr) (c1 c2 : Nat) (xs ys : List Int) (w : World) (h1 : Hid (Ints w a1 xs)) (k1 : Hid (Cap a1 xs.length c1)) (h2 : Hid (Ints w a2 ys)) (k2 : Hid (Cap a2 ys.length c2))
    (l1 : Hid (Plain.Letters xs)) (l2 : Hid (Plain.Letters ys)) (hx : xs.length ≤ 100000) (hy : ys.length ≤ 100000) :
    Calls Tryz.prog 39 #[.slice a1 xs.length c1, .slice a2 ys.length c2] w (ListPost (Plain.comm xs ys) w) := by
  have hpl : (Plain.red (xs ++ ys)).length ≤ 200000 := Nat.le_trans (Plain.red_length _) (by simp; omega)
  have hil : (Plain.inv xs).length ≤ 100000 := by rw [Plain.inv_length]; exact hx
  have hjl : (Plain.inv ys).length ≤ 100000 := by rw [Plain.inv_length]; exact hy
  have hql : (Plain.red (Plain.inv xs ++ Plain.inv ys)).length ≤ 200000 := Nat.le_trans (Plain.red_length _) (by simp; omega)
  have LP := Lib.hid (l1.out.append l2.out).red
  have LI := Lib.hid l1.out.inv
  have LJ := Lib.hid l2.out.inv
  have LQ := Lib.hid (l1.out.inv.append l2.out.inv).red
  have HC := Lib.hid (Plain.comm_red xs ys)
  obtain ⟨ps, hps⟩ : ∃ z, z = Plain.red (xs ++ ys) := ⟨_, rfl⟩
  obtain ⟨is, his⟩ : ∃ z, z = Plain.inv xs := ⟨_, rfl⟩
  obtain ⟨js, hjs⟩ : ∃ z, z = Plain.inv ys := ⟨_, rfl⟩
  rw [← his, ← hjs] at hql LQ HC
  obtain ⟨qs, hqs⟩ : ∃ z, z = Plain.red (is ++ js) := ⟨_, rfl⟩
  rw [← hps] at hpl LP HC
  rw [← his] at hil LI
  rw [← hjs] at hjl LJ
  rw [← hqs] at hql LQ HC
  have HP := Lib.hid hps
  have HI := Lib.hid his
  have HJ := Lib.hid hjs
  have HQ := Lib.hid hqs
  clear hps his hjs hqs
  go_enter Tryz.func39, Tryz.ntmps39
  go_wp2_with fail
  refine (l2Join_any _ _ _ _ xs ys _ h1 k1 h2 k2 l1 l2 (by omega)).mono ?_
  rw [← HP.out]
  rintro e w1 ⟨_, rfl, ⟨a3, c3, rfl, hi, -, hk⟩, hb⟩
  have I3 := Lib.hid hi
  have K3 := Lib.hid hk
  have B3 := Lib.hid hb
  have H1 := Lib.hid (h1.out.on hb)
  have H2 := Lib.hid (h2.out.on hb)
  clear hi hk hb
  go_wp2_with fail
  refine (l2Inverse_any _ _ xs _ H1 l1 (by omega)).mono ?_
  rw [← HI.out]
  rintro e w2 ⟨_, rfl, ⟨a4, c4, rfl, hi, -, hk⟩, hb⟩
  have I4 := Lib.hid hi
  have K4 := Lib.hid hk
  have J3 := Lib.hid (I3.out.on hb)
  have G2 := Lib.hid (H2.out.on hb)
  have B4 := Lib.hid (B3.out.trans (hb.mono B3.out.size))
  clear hi hk hb I3 H1 H2
  go_wp2_with fail
  refine (l2Inverse_any _ _ ys _ G2 l2 (by omega)).mono ?_
  rw [← HJ.out]
  rintro e w3 ⟨_, rfl, ⟨a5, c5, rfl, hi, -, hk⟩, hb⟩
  have I5 := Lib.hid hi
  have K5 := Lib.hid hk
  have M3 := Lib.hid (J3.out.on hb)
  have J4 := Lib.hid (I4.out.on hb)
  have B5 := Lib.hid (B4.out.trans (hb.mono B4.out.size))
  clear hi hk hb I4 J3 G2
  go_wp2_with fail
  refine (l2Join_any _ _ _ _ is js _ J4 K4 I5 K5 LI LJ (by omega)).mono ?_
  rw [← HQ.out]
  rintro e w4 ⟨_, rfl, ⟨a6, c6, rfl, hi, -, hk⟩, hb⟩
  have I6 := Lib.hid hi
  have K6 := Lib.hid hk
  have N3 := Lib.hid (M3.out.on hb)
  have B6 := Lib.hid (B5.out.trans (hb.mono B5.out.size))
  clear hi hk hb M3 J4 I5
  go_wp2_with fail
  refine (l2Join_any _ _ _ _ ps qs _ N3 K3 I6 K6 LP LQ (by omega)).mono ?_
  rw [HC.out]
  rintro e w5 ⟨v, rfl, hr, hb⟩
  have R := Lib.hid (And.intro (hr.mono B6.out.size) (B6.out.trans (hb.mono B6.out.size)))
  clear hr hb
  go_wp2_with fail
  go_ret
  exact ⟨_, rfl, R.out.1, R.out.2⟩

def commZ (xs ys : List Int) : List Int := xs ++ (ys ++ (Plain.inv xs ++ Plain.inv ys))
set_option maxRecDepth 100000 in
set_option maxHeartbeats 400000 in
theorem specCommutatorOf_any (a1 a2 : Option Addr) (c1 c2 : Nat) (xs ys : List Int) (w : World) (h1 : Hid (Ints w a1 xs)) (k1 : Hid (Cap a1 xs.length c1)) (n1 : Hid (In64 xs)) (h2 : Hid (Ints w a2 ys)) (k2 : Hid (Cap a2 ys.length c2)) (n2 : Hid (In64 ys)) (hx : xs.length ≤ 9223372036854775807) (hy : ys.length ≤ 9223372036854775807) :
    Calls Tryz.prog 7 #[.slice a1 xs.length c1, .slice a2 ys.length c2] w (SB (prodOut xs ys (commZ xs ys)) (prodOk xs ys (commZ xs ys)) w) := by
  cases hw1 : Plain.wordB xs with
  | false =>
    have HE := Lib.hid (prod_no1 (zs := commZ xs ys) (ys := ys) hw1)
    have W1 := Lib.hid hw1
    clear hw1
    go_enter Tryz.func7, Tryz.ntmps7
    go_wp2_with fail
    refine (l2Word_any _ _ xs _ h1 n1 hx).mono ?_
    rw [W1.out]
    rintro e w' ⟨rfl, rfl⟩
    go_wp2_with fail
    go_ret2
    exact sb_eq HE.out.1 HE.out.2 ⟨_, rfl, (coll_res (coll_start w)).1, (coll_start w).2.1⟩
  | true =>
    cases hw2 : Plain.wordB ys with
    | false =>
      have HE := Lib.hid (prod_no2 (zs := commZ xs ys) (xs := xs) hw2)
      have W1 := Lib.hid hw1
      have W2 := Lib.hid hw2
      clear hw1 hw2
      go_enter Tryz.func7, Tryz.ntmps7
      go_wp2_with fail
      refine (l2Word_any _ _ xs _ h1 n1 hx).mono ?_
      rw [W1.out]
      rintro e w' ⟨rfl, rfl⟩
      go_wp2_with fail
      refine (l2Word_any _ _ ys _ h2 n2 hy).mono ?_
      rw [W2.out]
      rintro e w' ⟨rfl, rfl⟩
      go_wp2_with fail
      go_ret2
      exact sb_eq HE.out.1 HE.out.2 ⟨_, rfl, (coll_res (coll_start w)).1, (coll_start w).2.1⟩
    | true =>
      have HE := Lib.hid (prod_yes (zs := commZ xs ys) hw1 hw2)
      have m1 := (Plain.wordB_iff.1 hw1).1
      have m2 := (Plain.wordB_iff.1 hw2).1
      have L1 := Lib.hid (Plain.wordB_iff.1 hw1).2
      have L2 := Lib.hid (Plain.wordB_iff.1 hw2).2
      have W1 := Lib.hid hw1
      have W2 := Lib.hid hw2
      have hcl := Plain.comm_le xs ys
      obtain ⟨zs, hzs⟩ : ∃ z, z = Plain.comm xs ys := ⟨_, rfl⟩
      have HZ : Hid (Plain.red (commZ xs ys) = zs) := Lib.hid hzs.symm
      have HZ2 := Lib.hid hzs
      rw [← hzs] at hcl
      clear hw1 hw2 hzs
      go_enter Tryz.func7, Tryz.ntmps7
      go_wp2_with fail
      refine (l2Word_any _ _ xs _ h1 n1 hx).mono ?_
      rw [W1.out]
      rintro e w' ⟨rfl, rfl⟩
      go_wp2_with fail
      refine (l2Word_any _ _ ys _ h2 n2 hy).mono ?_
      rw [W2.out]
      rintro e w' ⟨rfl, rfl⟩
      go_wp2_with fail
      refine (l4Commutator_any _ _ _ _ xs ys _ h1 k1 h2 k2 L1 L2 (by omega) (by omega)).mono ?_
      rw [← HZ2.out]
      rintro e w1 ⟨_, rfl, ⟨a3, c3, rfl, hi, ho, hk⟩, hb⟩
      have I3 := Lib.hid hi
      have O3 := Lib.hid ho
      have K3 := Lib.hid hk
      have B3 := Lib.hid hb
      clear hi ho hk hb
      go_wp2_with fail
      refine (l2Short_any a3 c3 zs _ I3 w.heap.size O3 K3 B3.out.size (by omega)).mono ?_
      rintro e w2 ⟨v, rfl, hr, hb⟩
      have R := Lib.hid (And.intro hr (B3.out.trans (hb.mono B3.out.size)))
      clear hr hb
      go_wp2_with fail
      go_ret2
      exact sb_eq (by rw [HE.out.1, HZ.out]) (by rw [HE.out.2, HZ.out]) ⟨_, rfl, R.out.1, R.out.2⟩

end Go.Proofs.YtmcbaejgimopmaaGreat
