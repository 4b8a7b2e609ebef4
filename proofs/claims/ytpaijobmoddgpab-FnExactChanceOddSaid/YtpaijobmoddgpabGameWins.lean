/- Contracts: spec.l9Drop, l9Keep, l9Number, CanDrop, CanKeep, KeepNumber. Conditions: numbers of 64 bits, lengths that fit. -/
import Derived.Test.YtpaijobmoddgpabGameSpec
import Derived.Test.YtpaijobmoddgpabTab
import Derived.Test.YtpaijobmoddgpabEdgeKit
import Derived.Test.YtpaijobmoddgpabNailList
namespace Go.Proofs.Ytpaijobmoddgpab
open Go.ChangeShapes Go.WideShapes Go.ChangeAt Go.RowKit
set_option linter.unusedVariables false

theorem any_take {α : Type} {l : List α} {f : α → Bool} {k : Nat} {x : α} (h : l[k]? = some x) (h1 : (l.take k).any f = false) (h2 : f x = false) : (l.take (k + 1)).any f = false := by
  rw [List.take_add_one, h, List.any_append, h1]
  simp [h2]
theorem tab_box (W : World) (t : Nat → Bool) : Tab (W.alloc (.cells (bools t) 37)) W.heap.size t ∧ Below W.heap.size W (W.alloc (.cells (bools t) 37)) := ⟨tab_new W t, (Below.refl _ _).alloc (Nat.le_refl _) _⟩
set_option maxRecDepth 100000 in
set_option maxHeartbeats 1600000 in
theorem l9Drop_any (t : Nat → Bool) (n m : Nat) (hn : n ≤ 6) (hm : Hid (m = 2 ^ n - 1)) : ∀ c s, Plain.cnt m s ≤ c → s < 64 → ∀ W : World,
    Calls Try.prog 56 #[.agg (bools t), .int .i64 (n : Int), .int .i64 (s : Int)] W (Val (.bool (Plain.dropV t m s)) W)
  | c, s, hc, hs, W => by
    obtain ⟨l, hl⟩ : ∃ l, l = Plain.inP m s := ⟨_, rfl⟩
    have HV : Hid (Plain.dropV t m s = l.any fun p => t (s ||| 2 ^ p) || !Plain.dropV t m (s ||| 2 ^ p)) := Lib.hid (by rw [hl]; exact Plain.dropV_eq t m s)
    have IH : Hid (∀ p, p ∈ l → s ||| 2 ^ p < 64 ∧ p < 6 ∧ ∀ V : World, Calls Try.prog 56 #[.agg (bools t), .int .i64 (n : Int), .int .i64 ((s ||| 2 ^ p : Nat) : Int)] V (Val (.bool (Plain.dropV t m (s ||| 2 ^ p))) V)) := Lib.hid fun p hp => by
      rw [hl] at hp
      have hlt := Plain.cnt_less hp
      have hp6 := (Plain.mem_inP.1 hp).1
      refine ⟨Plain.or_lt hs hp6, hp6, fun V => ?_⟩
      match c, hc with
      | 0, hc => omega
      | c' + 1, hc => exact l9Drop_any t n m hn hm c' (s ||| 2 ^ p) (by omega) (Plain.or_lt hs hp6) V
    have HMV : Hid (∀ V, Calls Try.prog 47 #[.int .i64 (n : Int), .int .i64 (s : Int)] V (OwnL (nailZ l) V)) := Lib.hid (fun V => by rw [hl, hm.out]; exact l9Moves_any n s V hn hs)
    have hl6 : l.length ≤ 6 := by rw [hl]; exact Plain.cnt_le _ _
    rw [HV.out]
    clear hl hc
    obtain ⟨W0, hW0⟩ : ∃ W0, W0 = W.alloc (.cells (bools t) 37) := ⟨_, rfl⟩
    obtain ⟨t1, t2⟩ := tab_box W t
    rw [← hW0] at t1 t2
    have HT0 := Lib.hid t1
    have HB0 := Lib.hid t2
    clear t1 t2
    go_enter Try.func56, Try.ntmps56
    go_wp2_with fail
    rw [← hW0]
    clear hW0
    refine (HMV.out _).mono ?_
    rintro e W2 ⟨v, rfl, hown, hb⟩
    obtain ⟨ma, mc, rfl, hm1, -, hm3⟩ := owns_ints hown
    have hnl := nailZ_le l
    rw [hnl] at hm3
    have hmc := hm3.1
    have HT2 := Lib.hid (HT0.out.on hb)
    have HM2 := Lib.hid hm1
    have HB2 := Lib.hid (HB0.out.trans (hb.mono HB0.out.size))
    clear hown hb hm1 hm3
    rw [hnl]
    go_wp2_with fail
    go_loopw [8] (fun i wr => ∃ j : Nat, j ≤ l.length ∧ i = .int .i64 j ∧ ((l.take j).any fun p => t (s ||| 2 ^ p) || !Plain.dropV t m (s ||| 2 ^ p)) = false ∧ Below W2.heap.size W2 wr) (fun i _ => 8 - (intOf i).toNat)
    case atStart => exact ⟨0, Nat.zero_le _, rfl, rfl, Below.refl _ _⟩
    case round =>
      obtain ⟨j, hj, rfl, hno, hb⟩ := hrel
      have HN := Lib.hid hno
      have HBR := Lib.hid hb
      clear hno hb
      by_cases hlt : j < l.length
      · obtain ⟨p, hp⟩ := at_some l j hlt
        obtain ⟨hu, hp6, IHP⟩ := IH.out p (List.mem_of_getElem? hp)
        obtain ⟨b0, o0, rfl, hc0⟩ := HM2.out j _ (nailZ_at hp)
        have hcell := cell_later HBR.out hc0
        have HP := Lib.hid hp
        have HI := Lib.hid IHP
        obtain ⟨u, hu2⟩ : ∃ u, u = s ||| 2 ^ p := ⟨_, rfl⟩
        have HOUT : Hid (∀ V, Calls Try.prog 48 #[.int .i64 (s : Int), .int .i64 ((p : Int) + 1)] V fun e w' => e = .returned (.int .i64 (u : Int)) ∧ V = w') := Lib.hid (fun V => by rw [hu2]; exact l9Out_any s p (2 ^ p) V hs hp6 (pow_nat p))
        have HU := Lib.hid hu2
        rw [← hu2] at HI hu
        have HTB := Lib.hid (HT2.out.on HBR.out)
        have hq := HTB.out.cell hu
        have hi : (j : Int) < (l.length : Int) := by omega
        have hi00 : (0 : Int) ≤ (j : Int) := by omega
        have hi2 : (u : Int) < 64 := by omega
        have hi3 : (0 : Int) ≤ (u : Int) := by omega
        clear hp IHP hc0 hu2
        go_wp2_with fail
        refine (HOUT.out _).mono ?_
        rintro e w' ⟨rfl, rfl⟩
        cases ht : t u with
        | true =>
          rw [ht] at hq
          have HE : Hid ((l.any fun p => t (s ||| 2 ^ p) || !Plain.dropV t m (s ||| 2 ^ p)) = true) := Lib.hid (List.any_eq_true.2 ⟨p, List.mem_of_getElem? HP.out, by rw [← HU.out, ht]; rfl⟩)
          clear ht
          go_wp2_with (first | (refine wpList_load9_if rfl 37 _ rfl W.heap.size rfl (bools t) (tab_load HTB.out) ?_))
          go_ret
          exact ⟨ret_bool HE.out.symm, HB2.out.trans (HBR.out.mono HB2.out.size)⟩
        | false =>
          rw [ht] at hq
          have HTT := Lib.hid ht
          clear ht
          go_wp2_with (first | (refine wpList_load9_if rfl 37 _ rfl W.heap.size rfl (bools t) (tab_load HTB.out) ?_))
          refine (HI.out _).mono ?_
          cases hv : Plain.dropV t m u with
          | true =>
            rintro e w9 ⟨rfl, hb⟩
            have HB9 := Lib.hid (HBR.out.trans (hb.mono HBR.out.size))
            have HN2 := Lib.hid (any_take HP.out HN.out (by rw [← HU.out, HTT.out, hv]; rfl))
            clear hb hv
            go_wp2_with fail
            go_roundw
            case rel => exact ⟨j + 1, by omega, by go_num, HN2.out, HB9.out⟩
            case measure => simp [intOf]; omega
          | false =>
            rintro e w9 ⟨rfl, hb⟩
            have HB9 := Lib.hid (HB2.out.trans ((HBR.out.trans (hb.mono HBR.out.size)).mono HB2.out.size))
            have HE : Hid ((l.any fun p => t (s ||| 2 ^ p) || !Plain.dropV t m (s ||| 2 ^ p)) = true) := Lib.hid (List.any_eq_true.2 ⟨p, List.mem_of_getElem? HP.out, by rw [← HU.out, HTT.out, hv]; rfl⟩)
            clear hb hv
            go_wp2_with fail
            go_ret
            exact ⟨ret_bool HE.out.symm, HB9.out⟩
      · obtain rfl : j = l.length := by omega
        have HE := HN
        rw [List.take_length] at HE
        go_wp2_with fail
        go_ret
        exact ⟨ret_bool HE.out.symm, HB2.out.trans (HBR.out.mono HB2.out.size)⟩
termination_by c => c
set_option maxRecDepth 100000 in
set_option maxHeartbeats 1600000 in
theorem l9Keep_any (t : Nat → Bool) (n m : Nat) (hn : n ≤ 6) (hm : Hid (m = 2 ^ n - 1)) : ∀ c s, Plain.cnt m s ≤ c → s < 64 → ∀ W : World,
    Calls Try.prog 57 #[.agg (bools t), .int .i64 (n : Int), .int .i64 (s : Int)] W (Val (.bool (Plain.keepV t m s)) W)
  | c, s, hc, hs, W => by
    obtain ⟨l, hl⟩ : ∃ l, l = Plain.inP m s := ⟨_, rfl⟩
    have HV : Hid (Plain.keepV t m s = l.any fun p => !t (s ||| 2 ^ p) && !Plain.keepV t m (s ||| 2 ^ p)) := Lib.hid (by rw [hl]; exact Plain.keepV_eq t m s)
    have IH : Hid (∀ p, p ∈ l → s ||| 2 ^ p < 64 ∧ p < 6 ∧ ∀ V : World, Calls Try.prog 57 #[.agg (bools t), .int .i64 (n : Int), .int .i64 ((s ||| 2 ^ p : Nat) : Int)] V (Val (.bool (Plain.keepV t m (s ||| 2 ^ p))) V)) := Lib.hid fun p hp => by
      rw [hl] at hp
      have hlt := Plain.cnt_less hp
      have hp6 := (Plain.mem_inP.1 hp).1
      refine ⟨Plain.or_lt hs hp6, hp6, fun V => ?_⟩
      match c, hc with
      | 0, hc => omega
      | c' + 1, hc => exact l9Keep_any t n m hn hm c' (s ||| 2 ^ p) (by omega) (Plain.or_lt hs hp6) V
    have HMV : Hid (∀ V, Calls Try.prog 47 #[.int .i64 (n : Int), .int .i64 (s : Int)] V (OwnL (nailZ l) V)) := Lib.hid (fun V => by rw [hl, hm.out]; exact l9Moves_any n s V hn hs)
    have hl6 : l.length ≤ 6 := by rw [hl]; exact Plain.cnt_le _ _
    rw [HV.out]
    clear hl hc
    obtain ⟨W0, hW0⟩ : ∃ W0, W0 = W.alloc (.cells (bools t) 37) := ⟨_, rfl⟩
    obtain ⟨t1, t2⟩ := tab_box W t
    rw [← hW0] at t1 t2
    have HT0 := Lib.hid t1
    have HB0 := Lib.hid t2
    clear t1 t2
    go_enter Try.func57, Try.ntmps57
    go_wp2_with fail
    rw [← hW0]
    clear hW0
    refine (HMV.out _).mono ?_
    rintro e W2 ⟨v, rfl, hown, hb⟩
    obtain ⟨ma, mc, rfl, hm1, -, hm3⟩ := owns_ints hown
    have hnl := nailZ_le l
    rw [hnl] at hm3
    have hmc := hm3.1
    have HT2 := Lib.hid (HT0.out.on hb)
    have HM2 := Lib.hid hm1
    have HB2 := Lib.hid (HB0.out.trans (hb.mono HB0.out.size))
    clear hown hb hm1 hm3
    rw [hnl]
    go_wp2_with fail
    go_loopw [8] (fun i wr => ∃ j : Nat, j ≤ l.length ∧ i = .int .i64 j ∧ ((l.take j).any fun p => !t (s ||| 2 ^ p) && !Plain.keepV t m (s ||| 2 ^ p)) = false ∧ Below W2.heap.size W2 wr) (fun i _ => 8 - (intOf i).toNat)
    case atStart => exact ⟨0, Nat.zero_le _, rfl, rfl, Below.refl _ _⟩
    case round =>
      obtain ⟨j, hj, rfl, hno, hb⟩ := hrel
      have HN := Lib.hid hno
      have HBR := Lib.hid hb
      clear hno hb
      by_cases hlt : j < l.length
      · obtain ⟨p, hp⟩ := at_some l j hlt
        obtain ⟨hu, hp6, IHP⟩ := IH.out p (List.mem_of_getElem? hp)
        obtain ⟨b0, o0, rfl, hc0⟩ := HM2.out j _ (nailZ_at hp)
        have hcell := cell_later HBR.out hc0
        have HP := Lib.hid hp
        have HI := Lib.hid IHP
        obtain ⟨u, hu2⟩ : ∃ u, u = s ||| 2 ^ p := ⟨_, rfl⟩
        have HOUT : Hid (∀ V, Calls Try.prog 48 #[.int .i64 (s : Int), .int .i64 ((p : Int) + 1)] V fun e w' => e = .returned (.int .i64 (u : Int)) ∧ V = w') := Lib.hid (fun V => by rw [hu2]; exact l9Out_any s p (2 ^ p) V hs hp6 (pow_nat p))
        have HU := Lib.hid hu2
        rw [← hu2] at HI hu
        have HTB := Lib.hid (HT2.out.on HBR.out)
        have hq := HTB.out.cell hu
        have hi : (j : Int) < (l.length : Int) := by omega
        have hi00 : (0 : Int) ≤ (j : Int) := by omega
        have hi2 : (u : Int) < 64 := by omega
        have hi3 : (0 : Int) ≤ (u : Int) := by omega
        clear hp IHP hc0 hu2
        go_wp2_with fail
        refine (HOUT.out _).mono ?_
        rintro e w' ⟨rfl, rfl⟩
        cases ht : t u with
        | true =>
          rw [ht] at hq
          have HN2 := Lib.hid (any_take HP.out HN.out (by rw [← HU.out, ht]; rfl))
          clear ht
          go_wp2_with (first | (refine wpList_load9_if rfl 37 _ rfl W.heap.size rfl (bools t) (tab_load HTB.out) ?_))
          go_roundw
          case rel => exact ⟨j + 1, by omega, by go_num, HN2.out, HBR.out⟩
          case measure => simp [intOf]; omega
        | false =>
          rw [ht] at hq
          have HTT := Lib.hid ht
          clear ht
          go_wp2_with (first | (refine wpList_load9_if rfl 37 _ rfl W.heap.size rfl (bools t) (tab_load HTB.out) ?_))
          refine (HI.out _).mono ?_
          cases hv : Plain.keepV t m u with
          | true =>
            rintro e w9 ⟨rfl, hb⟩
            have HB9 := Lib.hid (HBR.out.trans (hb.mono HBR.out.size))
            have HN2 := Lib.hid (any_take HP.out HN.out (by rw [← HU.out, HTT.out, hv]; rfl))
            clear hb hv
            go_wp2_with fail
            go_roundw
            case rel => exact ⟨j + 1, by omega, by go_num, HN2.out, HB9.out⟩
            case measure => simp [intOf]; omega
          | false =>
            rintro e w9 ⟨rfl, hb⟩
            have HB9 := Lib.hid (HB2.out.trans ((HBR.out.trans (hb.mono HBR.out.size)).mono HB2.out.size))
            have HE : Hid ((l.any fun p => !t (s ||| 2 ^ p) && !Plain.keepV t m (s ||| 2 ^ p)) = true) := Lib.hid (List.any_eq_true.2 ⟨p, List.mem_of_getElem? HP.out, by rw [← HU.out, HTT.out, hv]; rfl⟩)
            clear hb hv
            go_wp2_with fail
            go_ret
            exact ⟨ret_bool HE.out.symm, HB9.out⟩
      · obtain rfl : j = l.length := by omega
        have HE := HN
        rw [List.take_length] at HE
        go_wp2_with fail
        go_ret
        exact ⟨ret_bool HE.out.symm, HB2.out.trans (HBR.out.mono HB2.out.size)⟩
termination_by c => c
/-- What CanDrop and CanKeep answer. -/
def winW (k : Bool) (xs : List Int) (n s : Int) : Bool := gameB xs n s && Plain.winV (Plain.fallsB xs) (2 ^ n.toNat - 1) k s.toNat

end Go.Proofs.Ytpaijobmoddgpab
