/- Contracts: spec.l9Length, LongestGame, ShortestGame. Conditions: numbers of 64 bits, lengths that fit. -/
import Derived.Test.YtecbfndgdmpacaaGameWins
import Derived.Test.YtecbfndgdmpacaaGameLen
import Derived.Test.YtecbfndgdmpacaaLater
namespace Go.Proofs.Ytecbfndgdmpacaa
open Go.ChangeShapes Go.WideShapes Go.ChangeAt Go.RowKit
set_option linter.unusedVariables false

theorem lenV_le {t : Nat → Bool} (hmo : Plain.Mono t) {m : Nat} (hm : m < 64) (htm : t m = true) (most : Bool) {s : Nat} (hs : s < 64) (h1 : Plain.sub s m = true) : Plain.lenV t m most s ≤ 7 := by
  have h := Plain.len_lead hmo hm htm 6 s (Plain.cnt_le _ _) hs h1 7 (by have := Plain.cnt_le m s; omega)
  cases most with
  | true => rw [h.1]; exact Plain.lead_le _ _
  | false => rw [h.2]; exact Plain.lead_le _ _
theorem best_snoc (most : Bool) {l : List Nat} (h : l ≠ []) (x : Nat) : Plain.bestL most (l ++ [x]) = if most = true then max (Plain.bestL most l) x else min (Plain.bestL most l) x := by
  cases l with
  | nil => exact absurd rfl h
  | cons y l => simp [Plain.bestL]
/-- The best number so far, -1 where there is none. -/
def bestI (most : Bool) (l : List Nat) : Int := if l = [] then -1 else (Plain.bestL most l : Int)
set_option maxRecDepth 100000 in
set_option maxHeartbeats 3200000 in
theorem l9Length_any (t : Nat → Bool) (n m : Nat) (most : Bool) (hn : n ≤ 6) (hm : Hid (m = 2 ^ n - 1)) (hm64 : m < 64) (hmo : Hid (Plain.Mono t)) (htm : t m = true) : ∀ c s, Plain.cnt m s ≤ c → s < 64 → Plain.sub s m = true → ∀ W : World,
    Calls Try.prog 58 #[.agg (bools t), .int .i64 (n : Int), .int .i64 (s : Int), .bool most] W (Val (.int .i64 (Plain.lenV t m most s : Int)) W)
  | c, s, hc, hs, hsub, W => by
    obtain ⟨W0, hW0⟩ : ∃ W0, W0 = W.alloc (.cells (bools t) 43) := ⟨_, rfl⟩
    obtain ⟨t1, t2⟩ := tab_box W t
    rw [← hW0] at t1 t2
    have HT0 := Lib.hid t1
    have HB0 := Lib.hid t2
    have q0 := t1.cell hs
    rw [hW0] at q0
    have hi : (s : Int) < 64 := by omega
    have hi0 : (0 : Int) ≤ (s : Int) := by omega
    clear t1 t2
    cases hts : t s with
    | true =>
      have HE : Hid (Plain.lenV t m most s = 0) := Lib.hid (by rw [Plain.lenV_eq, if_pos hts])
      rw [hts] at q0
      rw [HE.out]
      clear hts
      go_enter Try.func58, Try.ntmps58
      go_wp2_with fail
      rw [← hW0]
      go_ret
      exact ⟨rfl, HB0.out⟩
    | false =>
      obtain ⟨l, hl⟩ : ∃ l, l = Plain.inP m s := ⟨_, rfl⟩
      obtain ⟨nx, hnx⟩ : ∃ nx : Nat → Nat, nx = fun p => 1 + Plain.lenV t m most (s ||| 2 ^ p) := ⟨_, rfl⟩
      have hne : l ≠ [] := by rw [hl]; exact Plain.some_in hm64 hs hsub htm hts
      have HV : Hid (Plain.lenV t m most s = Plain.bestL most (l.map nx)) := Lib.hid (by rw [Plain.lenV_eq, if_neg (by rw [hts]; simp), hl, hnx])
      have IH : Hid (∀ p, p ∈ l → s ||| 2 ^ p < 64 ∧ p < 6 ∧ Plain.lenV t m most (s ||| 2 ^ p) ≤ 7 ∧ ∀ V : World, Calls Try.prog 58 #[.agg (bools t), .int .i64 (n : Int), .int .i64 ((s ||| 2 ^ p : Nat) : Int), .bool most] V (Val (.int .i64 (Plain.lenV t m most (s ||| 2 ^ p) : Int)) V)) := Lib.hid fun p hp => by
        rw [hl] at hp
        have hlt := Plain.cnt_less hp
        have hp6 := (Plain.mem_inP.1 hp).1
        have hsb := Plain.sub_more hsub hp
        refine ⟨Plain.or_lt hs hp6, hp6, lenV_le hmo.out hm64 htm most (Plain.or_lt hs hp6) hsb, fun V => ?_⟩
        match c, hc with
        | 0, hc => omega
        | c' + 1, hc => exact l9Length_any t n m most hn hm hm64 hmo htm c' (s ||| 2 ^ p) (by omega) (Plain.or_lt hs hp6) hsb V
      have HMV : Hid (∀ V, Calls Try.prog 48 #[.int .i64 (n : Int), .int .i64 (s : Int)] V (OwnL (nailZ l) V)) := Lib.hid (fun V => by rw [hl, hm.out]; exact l9Moves_any n s V hn hs)
      have hl6 : l.length ≤ 6 := by rw [hl]; exact Plain.cnt_le _ _
      have HNE := Lib.hid hne
      have HNX := Lib.hid hnx
      rw [hts] at q0
      rw [HV.out]
      clear hl hc hts hne hnx
      go_enter Try.func58, Try.ntmps58
      go_wp2_with fail
      rw [← hW0]
      clear hW0 q0
      refine (HMV.out _).mono ?_
      rintro e W2 ⟨v, rfl, hown, hb⟩
      obtain ⟨ma, mc, rfl, hm1, -, hm3⟩ := owns_ints hown
      have hnl := nailZ_le l
      rw [hnl] at hm3
      have hmc := hm3.1
      have HT2 := Lib.hid (HT0.out.on hb)
      have HM2 := Lib.hid hm1
      have HB2 := Lib.hid (HB0.out.trans (hb.mono HB0.out.size))
      clear hown hb hm1 hm3
      rw [hnl]
      go_wp2_with fail
      go_loopw [9, 11] (fun u i wr => ∃ j : Nat, j ≤ l.length ∧ i = .int .i64 j ∧ u = .int .i64 (bestI most ((l.take j).map nx)) ∧ Below W2.heap.size W2 wr) (fun _ i _ => 8 - (intOf i).toNat)
      case atStart => exact ⟨0, Nat.zero_le _, rfl, rfl, Below.refl _ _⟩
      case round =>
        obtain ⟨j, hj, rfl, rfl, hb⟩ := hrel
        have HBR := Lib.hid hb
        clear hb
        by_cases hlt : j < l.length
        · obtain ⟨pp, hp⟩ := at_some l j hlt
          obtain ⟨hu, hp6, hv7, IHP⟩ := IH.out pp (List.mem_of_getElem? hp)
          obtain ⟨b0, o0, rfl, hc0⟩ := HM2.out j _ (nailZ_at hp)
          have hcell := cell_later HBR.out hc0
          have HI := Lib.hid IHP
          have HTK : Hid ((l.take (j + 1)).map nx = (l.take j).map nx ++ [1 + Plain.lenV t m most (s ||| 2 ^ pp)]) := Lib.hid (by rw [List.take_add_one, hp, List.map_append, HNX.out]; rfl)
          obtain ⟨u9, hu2⟩ : ∃ u, u = s ||| 2 ^ pp := ⟨_, rfl⟩
          have HOUT : Hid (∀ V, Calls Try.prog 49 #[.int .i64 (s : Int), .int .i64 ((pp : Int) + 1)] V fun e w' => e = .returned (.int .i64 (u9 : Int)) ∧ w' = V) := Lib.hid (fun V => by rw [hu2]; exact (l9Out_any s pp (2 ^ pp) V hs hp6 (pow_nat pp)).mono fun _ _ h => ⟨h.1, h.2.symm⟩)
          rw [← hu2] at HI hu hv7 HTK
          obtain ⟨X, hX⟩ : ∃ X, X = Plain.lenV t m most u9 := ⟨_, rfl⟩
          rw [← hX] at HI hv7 HTK
          have hadd : IntKind.i64.wrap (1 + (X : Int)) = 1 + (X : Int) := IntWalk.i64_in _ (by omega)
          have HTB := Lib.hid (HT2.out.on HBR.out)
          have hij : (j : Int) < (l.length : Int) := by omega
          have hij0 : (0 : Int) ≤ (j : Int) := by omega
          have HLS : Hid ((l.take j).map nx = [] ↔ j = 0) := Lib.hid (by
            rw [List.map_eq_nil_iff, List.take_eq_nil_iff]
            constructor
            · rintro (h | h)
              · exact h
              · rw [h] at hlt; simp at hlt
            · exact fun h => .inl h)
          obtain ⟨A9, hA9⟩ : ∃ A, A = (l.take j).map nx := ⟨_, rfl⟩
          rw [← hA9] at HTK HLS ⊢
          obtain ⟨bi, hbi⟩ : ∃ bi, bi = bestI most A9 := ⟨_, rfl⟩
          have HBI := Lib.hid hbi
          rw [← hbi]
          clear hp IHP hc0 hu2 hX hA9 hbi
          go_wp2_with fail
          have hload : ∀ p : Later wr, (loadVar 43 ⟨W.heap.size, 0, none⟩).run Try.prog p.W = .ok (.agg (bools t)) p.W := fun p => tab_load (HTB.out.on p.ok)
          have HLD := Lib.hid hload
          have hcl : ∀ p : Later wr, p.W.cell? ⟨b0, o0 + j, none⟩ = some (.int .i64 ((pp : Int) + 1)) := fun p => cell_later p.ok hcell
          clear hload
          refine wp_region_below (by kernel_rfl) (by kernel_rfl) ?_
          refine later_row rfl 43 _ rfl W.heap.size rfl (bools t) HLD.out ?_
          repeat
            (with_reducible refine wpQuiet_step (fun K hK => ?_)
             go_simp
             first
               | (refine hK _ ?_; clear hK K)
               | (apply Exists.intro
                  refine ⟨fun _ => ?_, hK _ ?_⟩
                  (first | (go_at_call 49; exact later_same (HOUT.out _)) | (go_at_call 58; exact later_of (HI.out _)))
                  clear hK K))
          refine wpQuiet_nil ?_
          intro wx hw'
          obtain ⟨pl, he⟩ := hw'
          have hwx := pl.ok
          rw [← he] at hwx
          have HB9 := Lib.hid (HBR.out.trans (hwx.mono HBR.out.size))
          clear he pl hwx hcl HLD
          try rw [hadd]
          by_cases hj0 : A9 = []
          · have hb1 : bi = -1 := by rw [HBI.out]; unfold bestI; rw [if_pos hj0]
            have HN : Hid (bestI most ((l.take (j + 1)).map nx) = 1 + (X : Int)) := Lib.hid (by
              rw [HTK.out, hj0]
              show bestI most [1 + X] = _
              unfold bestI
              rw [if_neg (by simp)]
              show ((1 + X : Nat) : Int) = _
              omega)
            subst hb1
            clear hj0 HBI
            go_wp2_with fail
            go_roundw
            case rel => exact ⟨j + 1, by omega, by go_num, by rw [HN.out], HB9.out⟩
            case measure => simp [intOf]; omega
          · obtain ⟨Bn, hBn⟩ : ∃ Bn, Bn = Plain.bestL most A9 := ⟨_, rfl⟩
            have hb1 : bi = (Bn : Int) := by rw [HBI.out]; unfold bestI; rw [if_neg hj0, hBn]
            have HN : Hid (bestI most ((l.take (j + 1)).map nx) = ((if most = true then max Bn (1 + X) else min Bn (1 + X) : Nat) : Int)) := Lib.hid (by
              rw [HTK.out]
              unfold bestI
              rw [if_neg (by simp), best_snoc most hj0, ← hBn])
            subst hb1
            have hneg : ¬ (Bn : Int) < 0 := by omega
            clear hj0 hBn HBI
            cases most with
            | true =>
              by_cases hlt2 : (Bn : Int) < 1 + (X : Int)
              · have HN2 : Hid (bestI true ((l.take (j + 1)).map nx) = 1 + (X : Int)) := Lib.hid (by rw [HN.out, if_pos rfl]; omega)
                go_wp2_with fail
                go_roundw
                case rel => exact ⟨j + 1, by omega, by go_num, by rw [HN2.out], HB9.out⟩
                case measure => simp [intOf]; omega
              · have HN2 : Hid (bestI true ((l.take (j + 1)).map nx) = (Bn : Int)) := Lib.hid (by rw [HN.out, if_pos rfl]; omega)
                go_wp2_with fail
                go_roundw
                case rel => exact ⟨j + 1, by omega, by go_num, by rw [HN2.out], HB9.out⟩
                case measure => simp [intOf]; omega
            | false =>
              by_cases hlt2 : 1 + (X : Int) < (Bn : Int)
              · have HN2 : Hid (bestI false ((l.take (j + 1)).map nx) = 1 + (X : Int)) := Lib.hid (by rw [HN.out, if_neg (by simp)]; omega)
                go_wp2_with fail
                go_roundw
                case rel => exact ⟨j + 1, by omega, by go_num, by rw [HN2.out], HB9.out⟩
                case measure => simp [intOf]; omega
              · have HN2 : Hid (bestI false ((l.take (j + 1)).map nx) = (Bn : Int)) := Lib.hid (by rw [HN.out, if_neg (by simp)]; omega)
                go_wp2_with fail
                go_roundw
                case rel => exact ⟨j + 1, by omega, by go_num, by rw [HN2.out], HB9.out⟩
                case measure => simp [intOf]; omega
        · obtain rfl : j = l.length := by omega
          rw [List.take_length]
          have HE : Hid (bestI most (l.map nx) = (Plain.bestL most (l.map nx) : Int)) := Lib.hid (by unfold bestI; rw [if_neg (fun h => HNE.out (List.map_eq_nil_iff.1 h))])
          rw [HE.out]
          go_wp2_with fail
          go_ret
          exact ⟨rfl, HB2.out.trans (HBR.out.mono HB2.out.size)⟩
termination_by c => c
theorem falls_mono (xs : List Int) : Plain.Mono (Plain.fallsB xs) := fun a q h => Plain.falls_more q h
def lenW (most : Bool) (xs : List Int) (n s : Int) : Nat := if gameB xs n s = true then Plain.lenV (Plain.fallsB xs) (2 ^ n.toNat - 1) most s.toNat else 0
theorem sub_small {n s : Nat} (h : s ≤ 2 ^ n - 1) : Plain.sub s (2 ^ n - 1) = true := Plain.sub_of fun p hp => by
  rw [Nat.testBit_two_pow_sub_one]
  refine decide_eq_true (Classical.byContradiction fun hn => ?_)
  have h1 := Nat.two_pow_pos n
  rw [Nat.testBit_lt_two_pow (Nat.lt_of_lt_of_le (show s < 2 ^ n by omega) (Nat.pow_le_pow_right (by omega) (by omega : n ≤ p)))] at hp
  cases hp
set_option maxRecDepth 100000 in
set_option maxHeartbeats 800000 in
theorem specLongestGame_any (a : Option Addr) (cap : Nat) (xs : List Int) (n s : Int) (w : World) (h : Hid (Ints w a xs)) (h64 : Hid (In64 xs)) (hl : xs.length ≤ 9223372036854775807) (hnr : -9223372036854775808 ≤ n ∧ n ≤ 9223372036854775807) (hs : -9223372036854775808 ≤ s ∧ s ≤ 9223372036854775807) : Calls Try.prog 31 #[.slice a xs.length cap, .int .i64 n, .int .i64 s] w (Val (.tuple #[.int .i64 (lenW true xs n s : Int), .bool (gameB xs n s)]) w) := by
  cases hg : gameB xs n s with
  | false =>
    have HE : Hid (lenW true xs n s = 0) := Lib.hid (by unfold lenW; rw [hg]; rfl)
    rw [HE.out]
    have HG := Lib.hid hg
    clear hg
    go_enter Try.func31, Try.ntmps31
    go_wp2_with fail
    refine (l9Good_any a cap xs n s _ h h64 hl hnr hs).mono ?_
    rw [HG.out]
    rintro e w1 ⟨rfl, hb⟩
    have HB := Lib.hid hb
    clear hb
    go_wp2_with fail
    go_ret2
    exact ⟨rfl, HB.out⟩
  | true =>
    obtain ⟨g1, g2, g3, g4, g5, g6, g7, g8, g9⟩ := game_small hg
    have HG := Lib.hid hg
    obtain ⟨N, rfl⟩ : ∃ N : Nat, n = (N : Int) := ⟨n.toNat, by omega⟩
    obtain ⟨S, rfl⟩ : ∃ S : Nat, s = (S : Int) := ⟨s.toNat, by omega⟩
    rw [Int.toNat_natCast] at g1 g2 g6 g8 g9
    have hN : N ≤ 6 := by omega
    have hl2 := (Plain.wordB_iff.1 g7).1
    have HL := Lib.hid (Plain.wordB_iff.1 g7).2
    obtain ⟨t, ht⟩ : ∃ t, t = Plain.fallsB xs := ⟨_, rfl⟩
    obtain ⟨m, hm⟩ : ∃ m, m = 2 ^ N - 1 := ⟨_, rfl⟩
    have HT := Lib.hid ht
    have HM := Lib.hid hm
    obtain ⟨v, hv⟩ : ∃ v, v = lenW true xs (N : Int) (S : Int) := ⟨_, rfl⟩
    have HC : Hid (∀ V, Calls Try.prog 58 #[.agg (bools t), .int .i64 (N : Int), .int .i64 (S : Int), .bool true] V (Val (.int .i64 (v : Int)) V)) := Lib.hid (fun V => by
      rw [hv]
      unfold lenW
      rw [hg, if_pos rfl, Int.toNat_natCast, Int.toNat_natCast, ← hm, ← ht]
      exact l9Length_any t N m true hN HM (by rw [hm]; exact g1) (Lib.hid (by rw [ht]; exact falls_mono xs)) (by rw [ht, hm]; exact g8) 6 S (Plain.cnt_le _ _) g2 (by rw [hm]; exact sub_small g6) V)
    rw [← hv]
    clear hg ht hm hv g1 g3 g4 g5 g6 g7 g8 g9
    go_enter Try.func31, Try.ntmps31
    go_wp2_with fail
    refine (l9Good_any a cap xs N S _ h h64 hl hnr hs).mono ?_
    rw [HG.out]
    rintro e w1 ⟨rfl, hb⟩
    have HB := Lib.hid hb
    have HI := Lib.hid (h.out.on hb)
    clear hb
    go_wp2_with fail
    refine (l3Table_any a cap xs _ HI HL (by omega)).mono ?_
    rw [← HT.out]
    rintro e w2 ⟨rfl, hb⟩
    have HB2 := Lib.hid (HB.out.trans (hb.mono HB.out.size))
    clear hb
    go_wp2_with fail
    refine (HC.out _).mono ?_
    rintro e w3 ⟨rfl, hb⟩
    have HB3 := Lib.hid (HB2.out.trans (hb.mono HB2.out.size))
    clear hb
    go_wp2_with fail
    go_ret2
    exact ⟨rfl, HB3.out⟩
set_option maxRecDepth 100000 in
set_option maxHeartbeats 800000 in
theorem specShortestGame_any (a : Option Addr) (cap : Nat) (xs : List Int) (n s : Int) (w : World) (h : Hid (Ints w a xs)) (h64 : Hid (In64 xs)) (hl : xs.length ≤ 9223372036854775807) (hnr : -9223372036854775808 ≤ n ∧ n ≤ 9223372036854775807) (hs : -9223372036854775808 ≤ s ∧ s ≤ 9223372036854775807) : Calls Try.prog 33 #[.slice a xs.length cap, .int .i64 n, .int .i64 s] w (Val (.tuple #[.int .i64 (lenW false xs n s : Int), .bool (gameB xs n s)]) w) := by
  cases hg : gameB xs n s with
  | false =>
    have HE : Hid (lenW false xs n s = 0) := Lib.hid (by unfold lenW; rw [hg]; rfl)
    rw [HE.out]
    have HG := Lib.hid hg
    clear hg
    go_enter Try.func33, Try.ntmps33
    go_wp2_with fail
    refine (l9Good_any a cap xs n s _ h h64 hl hnr hs).mono ?_
    rw [HG.out]
    rintro e w1 ⟨rfl, hb⟩
    have HB := Lib.hid hb
    clear hb
    go_wp2_with fail
    go_ret2
    exact ⟨rfl, HB.out⟩
  | true =>
    obtain ⟨g1, g2, g3, g4, g5, g6, g7, g8, g9⟩ := game_small hg
    have HG := Lib.hid hg
    obtain ⟨N, rfl⟩ : ∃ N : Nat, n = (N : Int) := ⟨n.toNat, by omega⟩
    obtain ⟨S, rfl⟩ : ∃ S : Nat, s = (S : Int) := ⟨s.toNat, by omega⟩
    rw [Int.toNat_natCast] at g1 g2 g6 g8 g9
    have hN : N ≤ 6 := by omega
    have hl2 := (Plain.wordB_iff.1 g7).1
    have HL := Lib.hid (Plain.wordB_iff.1 g7).2
    obtain ⟨t, ht⟩ : ∃ t, t = Plain.fallsB xs := ⟨_, rfl⟩
    obtain ⟨m, hm⟩ : ∃ m, m = 2 ^ N - 1 := ⟨_, rfl⟩
    have HT := Lib.hid ht
    have HM := Lib.hid hm
    obtain ⟨v, hv⟩ : ∃ v, v = lenW false xs (N : Int) (S : Int) := ⟨_, rfl⟩
    have HC : Hid (∀ V, Calls Try.prog 58 #[.agg (bools t), .int .i64 (N : Int), .int .i64 (S : Int), .bool false] V (Val (.int .i64 (v : Int)) V)) := Lib.hid (fun V => by
      rw [hv]
      unfold lenW
      rw [hg, if_pos rfl, Int.toNat_natCast, Int.toNat_natCast, ← hm, ← ht]
      exact l9Length_any t N m false hN HM (by rw [hm]; exact g1) (Lib.hid (by rw [ht]; exact falls_mono xs)) (by rw [ht, hm]; exact g8) 6 S (Plain.cnt_le _ _) g2 (by rw [hm]; exact sub_small g6) V)
    rw [← hv]
    clear hg ht hm hv g1 g3 g4 g5 g6 g7 g8 g9
    go_enter Try.func33, Try.ntmps33
    go_wp2_with fail
    refine (l9Good_any a cap xs N S _ h h64 hl hnr hs).mono ?_
    rw [HG.out]
    rintro e w1 ⟨rfl, hb⟩
    have HB := Lib.hid hb
    have HI := Lib.hid (h.out.on hb)
    clear hb
    go_wp2_with fail
    refine (l3Table_any a cap xs _ HI HL (by omega)).mono ?_
    rw [← HT.out]
    rintro e w2 ⟨rfl, hb⟩
    have HB2 := Lib.hid (HB.out.trans (hb.mono HB.out.size))
    clear hb
    go_wp2_with fail
    refine (HC.out _).mono ?_
    rintro e w3 ⟨rfl, hb⟩
    have HB3 := Lib.hid (HB2.out.trans (hb.mono HB2.out.size))
    clear hb
    go_wp2_with fail
    go_ret2
    exact ⟨rfl, HB3.out⟩

end Go.Proofs.Ytecbfndgdmpacaa
