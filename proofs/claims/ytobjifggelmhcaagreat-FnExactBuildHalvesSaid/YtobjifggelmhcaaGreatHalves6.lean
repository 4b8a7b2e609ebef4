/- Contracts: spec.l6Halves, impl.firstHalf, builtOfHalves; BuildHalves of both. Conditions: numbers of 64 bits, lengths that fit. -/
import Derived.Test.YtobjifggelmhcaaGreatBuild6
namespace Go.Proofs.YtobjifggelmhcaaGreat
open Go.ChangeShapes Go.WideShapes Go.ChangeAt Go.RowKit
set_option linter.unusedVariables false

def halvesO (xs : List Int) : Option (List Int) := Plain.halves (xs.length + 1) xs
def halvesW (xs : List Int) : List Int := (halvesO xs).getD []
def halvesB (xs : List Int) : Bool := (halvesO xs).isSome
theorem halvesO_nil {xs : List Int} (h : xs.length = 0) : halvesO xs = none := by rw [halvesO, Plain.halves_eq, if_pos h]
theorem halvesO_one {xs : List Int} (h : xs.length = 1) : halvesO xs = some (Plain.setAt xs 0) := by rw [halvesO, Plain.halves_eq, if_neg (by omega), if_pos h]
theorem halvesO_two {xs : List Int} {m : Nat} (h : 2 ≤ xs.length) (hm : m = (xs.length + 1) / 2) : halvesO xs = match halvesO (xs.take m), halvesO (xs.drop m) with
    | some u, some v => if Plain.joinOk true u v = true then some (Plain.joinW true u v) else none
    | _, _ => none := by
  subst hm
  have h1 : halvesO (xs.take ((xs.length + 1) / 2)) = Plain.halves xs.length (xs.take ((xs.length + 1) / 2)) := by
    obtain ⟨n, hn⟩ : ∃ n, xs.length = n + 1 := ⟨xs.length - 1, by omega⟩
    rw [halvesO, hn]
    exact Plain.halves_more _ n _ (Nat.le_refl _) (by rw [List.length_take]; omega)
  have h2 : halvesO (xs.drop ((xs.length + 1) / 2)) = Plain.halves xs.length (xs.drop ((xs.length + 1) / 2)) := by
    obtain ⟨n, hn⟩ : ∃ n, xs.length = n + 1 := ⟨xs.length - 1, by omega⟩
    rw [halvesO, hn]
    exact Plain.halves_more _ n _ (Nat.le_refl _) (by rw [List.length_drop]; omega)
  rw [h1, h2, halvesO, Plain.halves_eq, if_neg (by omega), if_neg (by omega)]
  cases Plain.halves xs.length (List.take ((xs.length + 1) / 2) xs) <;> cases Plain.halves xs.length (List.drop ((xs.length + 1) / 2) xs) <;> rfl
theorem halvesW_word (xs : List Int) : (halvesW xs).length ≤ 64 ∧ Plain.Letters (halvesW xs) := by
  unfold halvesW
  rcases h : halvesO xs with _ | u
  · exact ⟨by simp, Plain.Letters.nil⟩
  · exact Plain.wordB_iff.1 (Plain.halves_word _ _ _ h)
theorem halves_none {xs : List Int} (h : halvesO xs = none) : halvesW xs = [] ∧ halvesB xs = false := by simp [halvesW, halvesB, h]
theorem halves_some {xs u : List Int} (h : halvesO xs = some u) : halvesW xs = u ∧ halvesB xs = true := by simp [halvesW, halvesB, h]
theorem halves_isSome {xs : List Int} (h : halvesB xs = true) : halvesO xs = some (halvesW xs) := by
  rw [halvesB] at h
  rw [halvesW]
  rcases hk : halvesO xs with _ | u
  · rw [hk] at h; cases h
  · rfl
theorem halves_isNone {xs : List Int} (h : halvesB xs = false) : halvesO xs = none := by
  rw [halvesB] at h
  rcases hk : halvesO xs with _ | u
  · rfl
  · rw [hk] at h; cases h
theorem sets_take {xs : List Int} (h : Plain.setsB xs = true) (m : Nat) : Plain.setsB (xs.take m) = true := List.all_eq_true.2 fun x hx => List.all_eq_true.1 h x (List.mem_of_mem_take hx)
theorem sets_drop {xs : List Int} (h : Plain.setsB xs = true) (m : Nat) : Plain.setsB (xs.drop m) = true := List.all_eq_true.2 fun x hx => List.all_eq_true.1 h x (List.mem_of_mem_drop hx)
theorem half_any (n m : Nat) (w : World) (hm : m = (n + 1) / 2) (h : n ≤ 1048576) : Calls Tryz.prog 36 #[.int .i64 (n : Int)] w fun e w' => e = .returned (.int .i64 (m : Int)) ∧ w = w' := by
  have h1 : Int.tdiv ((n : Int) + 1) 2 = (m : Int) := by rw [Int.tdiv_eq_ediv_of_nonneg (by omega)]; omega
  have h2 : ((n : Int) + 1) / 2 = (m : Int) := by omega
  clear hm
  go_enter Tryz.func36, Tryz.ntmps36
  go_wp2_with fail
  go_ret
  exact ⟨rfl, rfl⟩
theorem join_empty {o : Bool} {u v : List Int} (h : Plain.joinOk o u v = false) : Plain.joinW o u v = [] := by
  rw [Plain.joinOk] at h
  rw [Plain.joinW]
  split
  · rename_i k hk; rw [hk] at h; cases h
  · rfl
set_option maxRecDepth 100000 in
set_option maxHeartbeats 4000000 in
theorem l6Halves_any (n : Nat) : ∀ (xs : List Int) (a : Option Addr) (cap : Nat) (w : World), xs.length ≤ n → Hid (Ints w a xs) → Hid (Cap a xs.length cap) → Hid (Plain.setsB xs = true) → xs.length ≤ 1048576 →
    Calls Tryz.prog 18 #[.slice a xs.length cap] w (SB (halvesW xs) (halvesB xs) w) := by
  induction n with
  | zero =>
    intro xs a cap w hxn h k hs hn
    have h0 : xs.length = 0 := by omega
    have HE := Lib.hid (halves_none (halvesO_nil h0))
    have HS := Lib.hid (coll_res (coll_start w))
    have hq : ((xs.length : Int) == 0) = true := by simp [h0]
    clear h0 hxn
    go_enter Tryz.func18, Tryz.ntmps18
    go_wp2_with fail
    go_ret2
    exact sb_of HE.out.1.symm HE.out.2.symm ⟨_, rfl, HS.out.1, HS.out.2⟩
  | succ n ih =>
    intro xs a cap w hxn h k hs hn
    by_cases h0 : xs.length = 0
    · have HE := Lib.hid (halves_none (halvesO_nil h0))
      have HS := Lib.hid (coll_res (coll_start w))
      have hq : ((xs.length : Int) == 0) = true := by simp [h0]
      clear h0 hxn ih
      go_enter Tryz.func18, Tryz.ntmps18
      go_wp2_with fail
      go_ret2
      exact sb_of HE.out.1.symm HE.out.2.symm ⟨_, rfl, HS.out.1, HS.out.2⟩
    · have hpos : 0 < xs.length := by omega
      have hq0 : ((xs.length : Int) == 0) = false := by simp; intro e; exact h0 (by rw [e]; rfl)
      clear h0
      by_cases h1 : xs.length = 1
      · obtain ⟨x0, hx0⟩ := at_some xs 0 (by omega)
        obtain ⟨s0, rfl, hs0, hset0⟩ := set_elem hs.out hx0
        obtain ⟨b, o, rfl, hc⟩ := h.out 0 _ hx0
        rw [Nat.add_zero] at hc
        have hq1 : ((xs.length : Int) == 1) = true := by simp [h1]
        have hl := Plain.setWord_le s0
        have HM := Lib.hid (fun W => l6Set_any s0 W hs0)
        have HE := Lib.hid (halves_some (halvesO_one h1))
        rw [hset0] at HE
        obtain ⟨L0, hL0⟩ : ∃ L, L = Plain.setWord s0 := ⟨_, rfl⟩
        rw [← hL0] at hl HM HE
        clear hx0 hset0 hL0 h1 hxn ih
        go_enter Tryz.func18, Tryz.ntmps18
        go_wp2_with fail
        clear hc
        refine (HM.out _).mono ?_
        rintro e w1 ⟨v, rfl, hr, hb⟩
        have R := Lib.hid (And.intro hr hb)
        clear hr hb
        go_wp2_with fail
        go_ret2
        exact sb_of HE.out.1.symm HE.out.2.symm ⟨_, rfl, R.out.1, R.out.2⟩
      · obtain ⟨x0, hx0⟩ := at_some xs 0 (by omega)
        obtain ⟨b, o, rfl, -⟩ := h.out 0 _ hx0
        have hq1 : ((xs.length : Int) == 1) = false := by simp; intro e; exact h1 (by omega)
        have hx2 : 2 ≤ xs.length := by omega
        obtain ⟨m, hm⟩ : ∃ m, m = (xs.length + 1) / 2 := ⟨_, rfl⟩
        have HO := Lib.hid (halvesO_two hx2 hm)
        have hd1 : Int.tdiv ((xs.length : Int) + 1) 2 = (m : Int) := by rw [Int.tdiv_eq_ediv_of_nonneg (by omega)]; omega
        have hd2 : ((xs.length : Int) + 1) / 2 = (m : Int) := by omega
        have hmv := Lib.hid hm
        have hm1 : 1 ≤ m := by omega
        have hm2 : m < xs.length := by omega
        have hc1 := k.out.1
        have hc2 := k.out.2.1
        have l1 : (xs.take m).length = m := by simp; omega
        have l2 : (xs.drop m).length = xs.length - m := by simp
        have C1 := Lib.hid (fun W hh => ih (xs.take m) (some ⟨b, o, none⟩) cap W (by omega) hh (Lib.hid (by rw [l1]; exact cap_upto k.out (by omega))) (Lib.hid (sets_take hs.out m)) (by omega))
        have C2 := Lib.hid (fun W hh => ih (xs.drop m) (some ⟨b, o + m, none⟩) (cap - m) W (by omega) hh (Lib.hid (by rw [l2]; exact cap_from k.out (by omega))) (Lib.hid (sets_drop hs.out m)) (by omega))
        rw [l1] at C1
        rw [l2] at C2
        have IT := Lib.hid (h.out.upto m)
        have ID := Lib.hid (h.out.from m)
        have hw1 := halvesW_word (xs.take m)
        have hw2 := halvesW_word (xs.drop m)
        have hu64 := hw1.1
        have hv64 := hw2.1
        have LU := Lib.hid hw1.2
        have LV := Lib.hid hw2.2
        have hne : ¬ cap = m := by omega
        have hk1 : (m : Int) ≤ (xs.length : Int) := by omega
        have hk2 : (0 : Int) ≤ (m : Int) := by omega
        have hk3 : (m : Int) ≤ (cap : Int) := by omega
        have hk4 : (xs.length : Int) ≤ (cap : Int) := by omega
        obtain ⟨ts, hts⟩ : ∃ ts, ts = xs.take m := ⟨_, rfl⟩
        obtain ⟨ds, hds⟩ : ∃ ds, ds = xs.drop m := ⟨_, rfl⟩
        rw [← hts] at HO C1 IT hu64 LU
        rw [← hds] at HO C2 ID hv64 LV
        clear hm hx0 h1 hw1 hw2 hts hds l1 l2 ih hxn
        cases hb1 : halvesB ts with
        | false =>
          have HE : Hid (halvesW xs = [] ∧ halvesB xs = false) := Lib.hid (halves_none (by rw [HO.out, halves_isNone hb1]))
          rw [hb1] at C1
          clear hb1
          go_enter Tryz.func18, Tryz.ntmps18
          go_wp2_with fail
          refine (C1.out _ IT).mono ?_
          rintro e w1 ⟨v1, rfl, -, hb⟩
          have HB1 := Lib.hid hb
          clear hb
          have ID1 := Lib.hid (ID.out.on HB1.out)
          go_wp2_with fail
          refine (C2.out _ ID1).mono ?_
          rintro e w2 ⟨v2, rfl, -, hb⟩
          have HB2 := Lib.hid (HB1.out.trans (hb.mono HB1.out.size))
          have HS := Lib.hid (coll_res (coll_start w2))
          clear hb
          go_wp2_with fail
          go_ret2
          exact sb_of HE.out.1.symm HE.out.2.symm ⟨_, rfl, HS.out.1.mono HB2.out.size, HB2.out.trans (HS.out.2.mono HB2.out.size)⟩
        | true =>
          have HT := Lib.hid (halves_isSome hb1)
          have HUW : Hid (Plain.wordB (halvesW ts) = true) := Lib.hid (Plain.word_of LU.out hu64)
          rw [hb1] at C1
          clear hb1
          obtain ⟨u, hu⟩ : ∃ u, u = halvesW ts := ⟨_, rfl⟩
          rw [← hu] at HT C1 hu64 LU HUW
          clear hu
          cases hb2 : halvesB ds with
          | false =>
            have HE : Hid (halvesW xs = [] ∧ halvesB xs = false) := Lib.hid (halves_none (by rw [HO.out, HT.out, halves_isNone hb2]))
            rw [hb2] at C2
            clear hb2
            go_enter Tryz.func18, Tryz.ntmps18
            go_wp2_with fail
            refine (C1.out _ IT).mono ?_
            rintro e w1 ⟨_, rfl, ⟨a1, c1, rfl, hi1, ho1, hk1⟩, hb⟩
            have H1 := Lib.hid (And.intro hi1 (And.intro hk1 hb))
            have ID1 := Lib.hid (ID.out.on hb)
            clear hi1 ho1 hk1 hb
            go_wp2_with fail
            refine (C2.out _ ID1).mono ?_
            rintro e w2 ⟨v2, rfl, -, hb⟩
            have HB2 := Lib.hid (H1.out.2.2.trans (hb.mono H1.out.2.2.size))
            have HS := Lib.hid (coll_res (coll_start w2))
            clear hb
            go_wp2_with fail
            go_ret2
            exact sb_of HE.out.1.symm HE.out.2.symm ⟨_, rfl, HS.out.1.mono HB2.out.size, HB2.out.trans (HS.out.2.mono HB2.out.size)⟩
          | true =>
            have HD := Lib.hid (halves_isSome hb2)
            have HVW : Hid (Plain.wordB (halvesW ds) = true) := Lib.hid (Plain.word_of LV.out hv64)
            rw [hb2] at C2
            clear hb2
            obtain ⟨v, hv⟩ : ∃ v, v = halvesW ds := ⟨_, rfl⟩
            rw [← hv] at HD C2 hv64 LV HVW
            clear hv
            go_enter Tryz.func18, Tryz.ntmps18
            go_wp2_with fail
            refine (C1.out _ IT).mono ?_
            rintro e w1 ⟨_, rfl, ⟨a1, c1, rfl, hi1, ho1, hk1⟩, hb⟩
            have H1 := Lib.hid (And.intro hi1 (And.intro hk1 hb))
            have ID1 := Lib.hid (ID.out.on hb)
            clear hi1 ho1 hk1 hb
            go_wp2_with fail
            refine (C2.out _ ID1).mono ?_
            rintro e w2 ⟨_, rfl, ⟨a2, c2, rfl, hi2, ho2, hk2⟩, hb⟩
            have H2 := Lib.hid (And.intro (H1.out.1.on hb) (And.intro H1.out.2.1 (And.intro hi2 (And.intro hk2 (H1.out.2.2.trans (hb.mono H1.out.2.2.size))))))
            clear hi2 ho2 hk2 hb
            go_wp2_with fail
            refine (l6Join_any a1 a2 c1 c2 u v true _ (Lib.hid H2.out.1) (Lib.hid H2.out.2.1) (Lib.hid H2.out.2.2.1) (Lib.hid H2.out.2.2.2.1) LU LV hu64 hv64).mono ?_
            cases hok : Plain.joinOk true u v with
            | true =>
              have HE : Hid (halvesW xs = Plain.joinW true u v ∧ halvesB xs = true) := Lib.hid (halves_some (by rw [HO.out, HT.out, HD.out]; exact if_pos hok))
              clear hok
              rintro e w3 ⟨v3, rfl, hr, hb⟩
              have R := Lib.hid (And.intro (hr.mono H2.out.2.2.2.2.size) (H2.out.2.2.2.2.trans (hb.mono H2.out.2.2.2.2.size)))
              clear hr hb
              go_wp2_with fail
              go_ret2
              exact sb_of HE.out.1.symm HE.out.2.symm ⟨_, rfl, R.out.1, R.out.2⟩
            | false =>
              have HE : Hid (halvesW xs = [] ∧ halvesB xs = false) := Lib.hid (halves_none (by rw [HO.out, HT.out, HD.out]; exact if_neg (by rw [hok]; simp)))
              have HJW : Hid (Plain.joinW true u v = []) := Lib.hid (join_empty hok)
              clear hok
              rintro e w3 ⟨v3, rfl, hr, hb⟩
              rw [HJW.out] at hr
              have R := Lib.hid (And.intro (hr.mono H2.out.2.2.2.2.size) (H2.out.2.2.2.2.trans (hb.mono H2.out.2.2.2.2.size)))
              clear hr hb
              go_wp2_with fail
              go_ret2
              exact sb_of HE.out.1.symm HE.out.2.symm ⟨_, rfl, R.out.1, R.out.2⟩
set_option maxRecDepth 100000 in
set_option maxHeartbeats 4000000 in
theorem builtOfHalves_any (n : Nat) : ∀ (xs : List Int) (a : Option Addr) (cap : Nat) (w : World), xs.length ≤ n → Hid (Ints w a xs) → Hid (Cap a xs.length cap) → Hid (Plain.setsB xs = true) → xs.length ≤ 1048576 → 0 < xs.length →
    Calls Tryz.prog 21 #[.slice a xs.length cap] w (SB (halvesW xs) (halvesB xs) w) := by
  induction n with
  | zero =>
    intro xs a cap w hxn h k hs hn hpos
    omega
  | succ n ih =>
    intro xs a cap w hxn h k hs hn hpos
    by_cases h1 : xs.length = 1
    · obtain ⟨x0, hx0⟩ := at_some xs 0 (by omega)
      obtain ⟨s0, rfl, hs0, hset0⟩ := set_elem hs.out hx0
      obtain ⟨b, o, rfl, hc⟩ := h.out 0 _ hx0
      rw [Nat.add_zero] at hc
      have hq1 : ((xs.length : Int) == 1) = true := by simp [h1]
      have hl := Plain.setWord_le s0
      have HM := Lib.hid (fun W => setWord_any s0 W hs0)
      have HE := Lib.hid (halves_some (halvesO_one h1))
      rw [hset0] at HE
      obtain ⟨L0, hL0⟩ : ∃ L, L = Plain.setWord s0 := ⟨_, rfl⟩
      rw [← hL0] at hl HM HE
      clear hx0 hset0 hL0 h1 hxn ih
      go_enter Tryz.func21, Tryz.ntmps21
      go_wp2_with fail
      clear hc
      refine (HM.out _).mono ?_
      rintro e w1 ⟨v, rfl, hr, hb⟩
      have R := Lib.hid (And.intro hr hb)
      clear hr hb
      go_wp2_with fail
      go_ret2
      exact sb_of HE.out.1.symm HE.out.2.symm ⟨_, rfl, R.out.1, R.out.2⟩
    · obtain ⟨x0, hx0⟩ := at_some xs 0 (by omega)
      obtain ⟨b, o, rfl, -⟩ := h.out 0 _ hx0
      have hq1 : ((xs.length : Int) == 1) = false := by simp; intro e; exact h1 (by omega)
      have hx2 : 2 ≤ xs.length := by omega
      obtain ⟨m, hm⟩ : ∃ m, m = (xs.length + 1) / 2 := ⟨_, rfl⟩
      have HO := Lib.hid (halvesO_two hx2 hm)
      have hd1 : Int.tdiv ((xs.length : Int) + 1) 2 = (m : Int) := by rw [Int.tdiv_eq_ediv_of_nonneg (by omega)]; omega
      have hd2 : ((xs.length : Int) + 1) / 2 = (m : Int) := by omega
      have hmv := Lib.hid hm
      have hm1 : 1 ≤ m := by omega
      have hm2 : m < xs.length := by omega
      have hc1 := k.out.1
      have hc2 := k.out.2.1
      have l1 : (xs.take m).length = m := by simp; omega
      have l2 : (xs.drop m).length = xs.length - m := by simp
      have C1 := Lib.hid (fun W hh => ih (xs.take m) (some ⟨b, o, none⟩) cap W (by omega) hh (Lib.hid (by rw [l1]; exact cap_upto k.out (by omega))) (Lib.hid (sets_take hs.out m)) (by omega) (by omega))
      have C2 := Lib.hid (fun W hh => ih (xs.drop m) (some ⟨b, o + m, none⟩) (cap - m) W (by omega) hh (Lib.hid (by rw [l2]; exact cap_from k.out (by omega))) (Lib.hid (sets_drop hs.out m)) (by omega) (by omega))
      rw [l1] at C1
      rw [l2] at C2
      have IT := Lib.hid (h.out.upto m)
      have ID := Lib.hid (h.out.from m)
      have hw1 := halvesW_word (xs.take m)
      have hw2 := halvesW_word (xs.drop m)
      have hu64 := hw1.1
      have hv64 := hw2.1
      have LU := Lib.hid hw1.2
      have LV := Lib.hid hw2.2
      have hne : ¬ cap = m := by omega
      have hk1 : (m : Int) ≤ (xs.length : Int) := by omega
      have hk2 : (0 : Int) ≤ (m : Int) := by omega
      have hk3 : (m : Int) ≤ (cap : Int) := by omega
      have hk4 : (xs.length : Int) ≤ (cap : Int) := by omega
      obtain ⟨ts, hts⟩ : ∃ ts, ts = xs.take m := ⟨_, rfl⟩
      obtain ⟨ds, hds⟩ : ∃ ds, ds = xs.drop m := ⟨_, rfl⟩
      rw [← hts] at HO C1 IT hu64 LU
      rw [← hds] at HO C2 ID hv64 LV
      clear hm hx0 h1 hw1 hw2 hts hds l1 l2 ih hxn
      cases hb1 : halvesB ts with
      | false =>
        have HE : Hid (halvesW xs = [] ∧ halvesB xs = false) := Lib.hid (halves_none (by rw [HO.out, halves_isNone hb1]))
        rw [hb1] at C1
        clear hb1
        go_enter Tryz.func21, Tryz.ntmps21
        go_wp2_with fail
        refine (half_any xs.length m _ hmv.out (by omega)).mono ?_
        rintro e w' ⟨rfl, rfl⟩
        go_wp2_with fail
        refine (C1.out _ IT).mono ?_
        rintro e w1 ⟨v1, rfl, -, hb⟩
        have HB1 := Lib.hid hb
        clear hb
        have HS := Lib.hid (coll_res (coll_start w1))
        go_wp2_with fail
        go_ret2
        exact sb_of HE.out.1.symm HE.out.2.symm ⟨_, rfl, HS.out.1.mono HB1.out.size, HB1.out.trans (HS.out.2.mono HB1.out.size)⟩
      | true =>
        have HT := Lib.hid (halves_isSome hb1)
        have HUW : Hid (Plain.wordB (halvesW ts) = true) := Lib.hid (Plain.word_of LU.out hu64)
        rw [hb1] at C1
        clear hb1
        obtain ⟨u, hu⟩ : ∃ u, u = halvesW ts := ⟨_, rfl⟩
        rw [← hu] at HT C1 hu64 LU HUW
        clear hu
        cases hb2 : halvesB ds with
        | false =>
          have HE : Hid (halvesW xs = [] ∧ halvesB xs = false) := Lib.hid (halves_none (by rw [HO.out, HT.out, halves_isNone hb2]))
          rw [hb2] at C2
          clear hb2
          go_enter Tryz.func21, Tryz.ntmps21
          go_wp2_with fail
          refine (half_any xs.length m _ hmv.out (by omega)).mono ?_
          rintro e w' ⟨rfl, rfl⟩
          go_wp2_with fail
          refine (C1.out _ IT).mono ?_
          rintro e w1 ⟨_, rfl, ⟨a1, c1, rfl, hi1, ho1, hk1⟩, hb⟩
          have H1 := Lib.hid (And.intro hi1 (And.intro hk1 hb))
          have ID1 := Lib.hid (ID.out.on hb)
          clear hi1 ho1 hk1 hb
          go_wp2_with fail
          refine (C2.out _ ID1).mono ?_
          rintro e w2 ⟨v2, rfl, -, hb⟩
          have HB2 := Lib.hid (H1.out.2.2.trans (hb.mono H1.out.2.2.size))
          have HS := Lib.hid (coll_res (coll_start w2))
          clear hb
          go_wp2_with fail
          go_ret2
          exact sb_of HE.out.1.symm HE.out.2.symm ⟨_, rfl, HS.out.1.mono HB2.out.size, HB2.out.trans (HS.out.2.mono HB2.out.size)⟩
        | true =>
          have HD := Lib.hid (halves_isSome hb2)
          have HVW : Hid (Plain.wordB (halvesW ds) = true) := Lib.hid (Plain.word_of LV.out hv64)
          rw [hb2] at C2
          clear hb2
          obtain ⟨v, hv⟩ : ∃ v, v = halvesW ds := ⟨_, rfl⟩
          rw [← hv] at HD C2 hv64 LV HVW
          clear hv
          go_enter Tryz.func21, Tryz.ntmps21
          go_wp2_with fail
          refine (half_any xs.length m _ hmv.out (by omega)).mono ?_
          rintro e w' ⟨rfl, rfl⟩
          go_wp2_with fail
          refine (C1.out _ IT).mono ?_
          rintro e w1 ⟨_, rfl, ⟨a1, c1, rfl, hi1, ho1, hk1⟩, hb⟩
          have H1 := Lib.hid (And.intro hi1 (And.intro hk1 hb))
          have ID1 := Lib.hid (ID.out.on hb)
          clear hi1 ho1 hk1 hb
          go_wp2_with fail
          refine (C2.out _ ID1).mono ?_
          rintro e w2 ⟨_, rfl, ⟨a2, c2, rfl, hi2, ho2, hk2⟩, hb⟩
          have H2 := Lib.hid (And.intro (H1.out.1.on hb) (And.intro H1.out.2.1 (And.intro hi2 (And.intro hk2 (H1.out.2.2.trans (hb.mono H1.out.2.2.size))))))
          clear hi2 ho2 hk2 hb
          go_wp2_with fail
          have HOY := Lib.hid (or_yes (o := true) HUW.out HVW.out)
          refine (implOrWord_any a1 a2 c1 c2 u v _ (Lib.hid H2.out.1) (Lib.hid H2.out.2.1) (Lib.hid (letters64 LU.out)) (Lib.hid H2.out.2.2.1) (Lib.hid H2.out.2.2.2.1) (Lib.hid (letters64 LV.out)) (by omega) (by omega)).mono ?_
          rw [HOY.out.1, HOY.out.2.1, HOY.out.2.2]
          cases hok : Plain.joinOk true u v with
          | true =>
            have HE : Hid (halvesW xs = Plain.joinW true u v ∧ halvesB xs = true) := Lib.hid (halves_some (by rw [HO.out, HT.out, HD.out]; exact if_pos hok))
            clear hok
            rintro e w3 ⟨v3, rfl, hr, hb⟩
            have R := Lib.hid (And.intro (hr.mono H2.out.2.2.2.2.size) (H2.out.2.2.2.2.trans (hb.mono H2.out.2.2.2.2.size)))
            clear hr hb
            go_wp2_with fail
            go_ret2
            exact sb_of HE.out.1.symm HE.out.2.symm ⟨_, rfl, R.out.1, R.out.2⟩
          | false =>
            have HE : Hid (halvesW xs = [] ∧ halvesB xs = false) := Lib.hid (halves_none (by rw [HO.out, HT.out, HD.out]; exact if_neg (by rw [hok]; simp)))
            have HJW : Hid (Plain.joinW true u v = []) := Lib.hid (join_empty hok)
            clear hok
            rintro e w3 ⟨v3, rfl, hr, hb⟩
            rw [HJW.out] at hr
            have R := Lib.hid (And.intro (hr.mono H2.out.2.2.2.2.size) (H2.out.2.2.2.2.trans (hb.mono H2.out.2.2.2.2.size)))
            clear hr hb
            go_wp2_with fail
            go_ret2
            exact sb_of HE.out.1.symm HE.out.2.symm ⟨_, rfl, R.out.1, R.out.2⟩
/-- What BuildHalves answers. -/
def bhB (fs : List Int) : Bool := Plain.famB fs && halvesB fs
def bhW (fs : List Int) : List Int := if Plain.famB fs = true then halvesW fs else []
theorem bh_no {fs : List Int} (h : Plain.famB fs = false) : bhW fs = [] ∧ bhB fs = false := by simp [bhW, bhB, h]
theorem bh_yes {fs : List Int} (h : Plain.famB fs = true) : bhW fs = halvesW fs ∧ bhB fs = halvesB fs := by simp [bhW, bhB, h]
theorem bh_nil {fs : List Int} (h : fs.length = 0) : bhW fs = [] ∧ bhB fs = false := by
  have := halves_none (halvesO_nil h)
  simp [bhW, bhB, this.1, this.2]
theorem bhW_le (fs : List Int) : (bhW fs).length ≤ 64 := by
  unfold bhW
  split
  · exact (halvesW_word fs).1
  · simp
set_option maxRecDepth 100000 in
set_option maxHeartbeats 800000 in
theorem specBuildHalves_any (a : Option Addr) (c : Nat) (fs : List Int) (w : World) (h1 : Hid (Ints w a fs)) (k1 : Hid (Cap a fs.length c)) (n1 : Hid (In64 fs)) (hx : fs.length ≤ 1048576) :
    Calls Tryz.prog 6 #[.agg #[.slice a fs.length c]] w (SB (bhW fs) (bhB fs) w) := by
  have hb0 := (Below.refl w.heap.size w).alloc (Nat.le_refl _) (.cells #[.slice a fs.length c] 28)
  have hf0 := famAt_new w (.slice a fs.length c)
  have hcf := hf0.cell
  have H0 := Lib.hid (And.intro hb0 (And.intro (h1.out.on hb0) hf0))
  clear hb0 hf0
  cases hf : Plain.famB fs with
  | false =>
    have HE := Lib.hid (bh_no hf)
    have HF := Lib.hid hf
    clear hf
    go_enter Tryz.func6, Tryz.ntmps6
    go_wp2_with fail
    obtain ⟨W, hW⟩ : ∃ W, W = w.alloc (.cells #[.slice a fs.length c] 28) := ⟨_, rfl⟩
    rw [← hW] at H0 ⊢
    clear hW hcf
    refine (l5Family_any _ _ fs _ (Lib.hid H0.out.2.1) n1 (by omega)).mono ?_
    rw [HF.out]
    rintro e w2 ⟨rfl, hb⟩
    have H2 := Lib.hid (And.intro (H0.out.1.trans (hb.mono H0.out.1.size)) (And.intro (H0.out.2.1.on hb) (H0.out.2.2.on hb)))
    clear hb
    have HS := Lib.hid (coll_res (coll_start w2))
    go_wp2_with fail
    go_ret2
    exact sb_of HE.out.1.symm HE.out.2.symm ⟨_, rfl, HS.out.1.mono H2.out.1.size, H2.out.1.trans (HS.out.2.mono H2.out.1.size)⟩
  | true =>
    have HSB := Lib.hid (Plain.fam_sets hf)
    have HE0 := Lib.hid (bh_yes hf)
    have HF := Lib.hid hf
    clear hf
    have HE := HE0
    go_enter Tryz.func6, Tryz.ntmps6
    go_wp2_with fail
    obtain ⟨W, hW⟩ : ∃ W, W = w.alloc (.cells #[.slice a fs.length c] 28) := ⟨_, rfl⟩
    rw [← hW] at H0 ⊢
    clear hW hcf
    refine (l5Family_any _ _ fs _ (Lib.hid H0.out.2.1) n1 (by omega)).mono ?_
    rw [HF.out]
    rintro e w2 ⟨rfl, hb⟩
    have H2 := Lib.hid (And.intro (H0.out.1.trans (hb.mono H0.out.1.size)) (And.intro (H0.out.2.1.on hb) (H0.out.2.2.on hb)))
    clear hb
    have hcg := H2.out.2.2.cell
    go_wp2_with fail
    clear hcg
    refine (l6Halves_any fs.length fs a c _ (Nat.le_refl _) (Lib.hid H2.out.2.1) k1 HSB (by omega)).mono ?_
    rintro e w3 ⟨v, rfl, hr, hb⟩
    have R := Lib.hid (And.intro (hr.mono H2.out.1.size) (H2.out.1.trans (hb.mono H2.out.1.size)))
    clear hr hb
    go_wp2_with fail
    go_ret2
    exact sb_of HE.out.1.symm HE.out.2.symm ⟨_, rfl, R.out.1, R.out.2⟩
set_option maxRecDepth 100000 in
set_option maxHeartbeats 800000 in
theorem implBuildHalves_any (a : Option Addr) (c : Nat) (fs : List Int) (w : World) (h1 : Hid (Ints w a fs)) (k1 : Hid (Cap a fs.length c)) (n1 : Hid (In64 fs)) (hx : fs.length ≤ 1048576) :
    Calls Tryz.prog 8 #[.agg #[.slice a fs.length c]] w (SB (bhW fs) (bhB fs) w) := by
  have hb0 := (Below.refl w.heap.size w).alloc (Nat.le_refl _) (.cells #[.slice a fs.length c] 28)
  have hf0 := famAt_new w (.slice a fs.length c)
  have hcf := hf0.cell
  have H0 := Lib.hid (And.intro hb0 (And.intro (h1.out.on hb0) hf0))
  clear hb0 hf0
  cases hf : Plain.famB fs with
  | false =>
    have HE := Lib.hid (bh_no hf)
    have HF := Lib.hid hf
    clear hf
    go_enter Tryz.func8, Tryz.ntmps8
    go_wp2_with fail
    obtain ⟨W, hW⟩ : ∃ W, W = w.alloc (.cells #[.slice a fs.length c] 28) := ⟨_, rfl⟩
    rw [← hW] at H0 ⊢
    clear hW hcf
    refine (implIsFamily_any _ _ fs _ (Lib.hid H0.out.2.1) n1 (by omega)).mono ?_
    rw [HF.out]
    rintro e w2 ⟨rfl, hb⟩
    have H2 := Lib.hid (And.intro (H0.out.1.trans (hb.mono H0.out.1.size)) (And.intro (H0.out.2.1.on hb) (H0.out.2.2.on hb)))
    clear hb
    have HS := Lib.hid (coll_res (coll_start w2))
    go_wp2_with fail
    go_ret2
    exact sb_of HE.out.1.symm HE.out.2.symm ⟨_, rfl, HS.out.1.mono H2.out.1.size, H2.out.1.trans (HS.out.2.mono H2.out.1.size)⟩
  | true =>
    have HSB := Lib.hid (Plain.fam_sets hf)
    have HE0 := Lib.hid (bh_yes hf)
    have HF := Lib.hid hf
    clear hf
    by_cases h0 : fs.length = 0
    · have HE := Lib.hid (bh_nil h0)
      have hq : ((fs.length : Int) == 0) = true := by simp [h0]
      clear h0
      go_enter Tryz.func8, Tryz.ntmps8
      go_wp2_with fail
      obtain ⟨W, hW⟩ : ∃ W, W = w.alloc (.cells #[.slice a fs.length c] 28) := ⟨_, rfl⟩
      rw [← hW] at H0 ⊢
      clear hW hcf
      refine (implIsFamily_any _ _ fs _ (Lib.hid H0.out.2.1) n1 (by omega)).mono ?_
      rw [HF.out]
      rintro e w2 ⟨rfl, hb⟩
      have H2 := Lib.hid (And.intro (H0.out.1.trans (hb.mono H0.out.1.size)) (And.intro (H0.out.2.1.on hb) (H0.out.2.2.on hb)))
      have hcg := H2.out.2.2.cell
      clear hb
      have HS := Lib.hid (coll_res (coll_start w2))
      go_wp2_with fail
      go_ret2
      exact sb_of HE.out.1.symm HE.out.2.symm ⟨_, rfl, HS.out.1.mono H2.out.1.size, H2.out.1.trans (HS.out.2.mono H2.out.1.size)⟩
    · have hq : ((fs.length : Int) == 0) = false := by simp; intro e; exact h0 (by rw [e]; rfl)
      have hpos : 0 < fs.length := by omega
      have HE := HE0
      clear h0
      go_enter Tryz.func8, Tryz.ntmps8
      go_wp2_with fail
      obtain ⟨W, hW⟩ : ∃ W, W = w.alloc (.cells #[.slice a fs.length c] 28) := ⟨_, rfl⟩
      rw [← hW] at H0 ⊢
      clear hW hcf
      refine (implIsFamily_any _ _ fs _ (Lib.hid H0.out.2.1) n1 (by omega)).mono ?_
      rw [HF.out]
      rintro e w2 ⟨rfl, hb⟩
      have H2 := Lib.hid (And.intro (H0.out.1.trans (hb.mono H0.out.1.size)) (And.intro (H0.out.2.1.on hb) (H0.out.2.2.on hb)))
      clear hb
      have hcg := H2.out.2.2.cell
      go_wp2_with fail
      clear hcg
      refine (builtOfHalves_any fs.length fs a c _ (Nat.le_refl _) (Lib.hid H2.out.2.1) k1 HSB (by omega) hpos).mono ?_
      rintro e w3 ⟨v, rfl, hr, hb⟩
      have R := Lib.hid (And.intro (hr.mono H2.out.1.size) (H2.out.1.trans (hb.mono H2.out.1.size)))
      clear hr hb
      go_wp2_with fail
      go_ret2
      exact sb_of HE.out.1.symm HE.out.2.symm ⟨_, rfl, R.out.1, R.out.2⟩
theorem bothBuildHalves (fs : List Int) (n1 : Hid (In64 fs)) (hx : fs.length ≤ 1048576) : ∃ (out : List Int) (ok : Bool), out.length ≤ 1048576 ∧
    (∀ a c w, Hid (Ints w a fs) → Hid (Cap a fs.length c) → Calls Tryz.prog 6 #[.agg #[.slice a fs.length c]] w (SB out ok w)) ∧
    (∀ a c w, Hid (Ints w a fs) → Hid (Cap a fs.length c) → Calls Tryz.prog 8 #[.agg #[.slice a fs.length c]] w (SB out ok w)) :=
  ⟨_, _, Nat.le_trans (bhW_le fs) (by decide), fun a c w h k => specBuildHalves_any a c fs w h k n1 hx, fun a c w h k => implBuildHalves_any a c fs w h k n1 hx⟩

end Go.Proofs.YtobjifggelmhcaaGreat
