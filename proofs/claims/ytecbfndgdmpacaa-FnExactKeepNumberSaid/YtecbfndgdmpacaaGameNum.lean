/- Contracts: spec.l9Number, KeepNumber. Conditions: numbers of 64 bits, lengths that fit. -/
import Derived.Test.YtecbfndgdmpacaaGameWins
import Derived.Maps.AppendAt
namespace Go.Proofs.Ytecbfndgdmpacaa
open Go.ChangeShapes Go.WideShapes Go.ChangeAt Go.RowKit
set_option linter.unusedVariables false

def castN (l : List Nat) : List Int := l.map fun x : Nat => (x : Int)
theorem castN_mem {l : List Nat} {j : Nat} : (j : Int) ∈ castN l ↔ j ∈ l := by
  unfold castN
  rw [List.mem_map]
  constructor
  · rintro ⟨x, hx, e⟩
    have : x = j := by exact_mod_cast e
    rw [← this]; exact hx
  · intro h; exact ⟨j, h, rfl⟩
def seenTo (t : Nat → Bool) (m s : Nat) (l : List Nat) (k : Nat) : List Int := castN (((l.take k).filter fun p => !t (s ||| 2 ^ p)).map fun p => Plain.num t m false (s ||| 2 ^ p))
theorem seenTo_step {t : Nat → Bool} {m s : Nat} {l : List Nat} {k p : Nat} (h : l[k]? = some p) : seenTo t m s l (k + 1) = if t (s ||| 2 ^ p) = true then seenTo t m s l k else seenTo t m s l k ++ [(Plain.num t m false (s ||| 2 ^ p) : Int)] := by
  unfold seenTo castN
  rw [List.take_add_one, h, List.filter_append, List.map_append, List.map_append]
  cases hb : t (s ||| 2 ^ p) <;> simp [hb]
theorem seenTo_le (t : Nat → Bool) (m s : Nat) (l : List Nat) (k : Nat) : (seenTo t m s l k).length ≤ l.length := by
  unfold seenTo castN
  rw [List.length_map, List.length_map]
  exact Nat.le_trans (List.length_filter_le _ _) (by rw [List.length_take]; omega)
theorem memB_iff9 {l : List Int} {x : Int} : Plain.memB l x = true ↔ x ∈ l := by
  unfold Plain.memB
  simp
set_option maxRecDepth 100000 in
set_option maxHeartbeats 3200000 in
theorem l9Number_any (t : Nat → Bool) (n m : Nat) (hn : n ≤ 6) (hm : Hid (m = 2 ^ n - 1)) : ∀ c s, Plain.cnt m s ≤ c → s < 64 → t s = false → ∀ W : World,
    Calls Try.prog 52 #[.agg (bools t), .int .i64 (n : Int), .int .i64 (s : Int)] W (Val (.int .i64 (Plain.num t m false s : Int)) W)
  | c, s, hc, hs, hts, W => by
    obtain ⟨i0, hi0, hz0, hz1, hz2⟩ := info_parts infoInt
    obtain ⟨l, hl⟩ : ∃ l, l = Plain.inP m s := ⟨_, rfl⟩
    obtain ⟨vals, hv⟩ : ∃ vals, vals = ((l.filter fun p => !t (s ||| 2 ^ p)).map fun p => Plain.num t m false (s ||| 2 ^ p)) := ⟨_, rfl⟩
    have HEND : Hid (seenTo t m s l l.length = castN vals) := Lib.hid (by unfold seenTo; rw [List.take_length, hv])
    have HNUM : Hid (Plain.num t m false s = Plain.mex vals) := Lib.hid (by rw [Plain.num_eq, Plain.movesG, hts, hv, hl]; rfl)
    have IH : Hid (∀ p, p ∈ l → s ||| 2 ^ p < 64 ∧ p < 6 ∧ (t (s ||| 2 ^ p) = false → ∀ V : World, Calls Try.prog 52 #[.agg (bools t), .int .i64 (n : Int), .int .i64 ((s ||| 2 ^ p : Nat) : Int)] V (Val (.int .i64 (Plain.num t m false (s ||| 2 ^ p) : Int)) V))) := Lib.hid fun p hp => by
      rw [hl] at hp
      have hlt := Plain.cnt_less hp
      have hp6 := (Plain.mem_inP.1 hp).1
      refine ⟨Plain.or_lt hs hp6, hp6, fun ht V => ?_⟩
      match c, hc with
      | 0, hc => omega
      | c' + 1, hc => exact l9Number_any t n m hn hm c' (s ||| 2 ^ p) (by omega) (Plain.or_lt hs hp6) ht V
    have HMV : Hid (∀ V, Calls Try.prog 48 #[.int .i64 (n : Int), .int .i64 (s : Int)] V (OwnL (nailZ l) V)) := Lib.hid (fun V => by rw [hl, hm.out]; exact l9Moves_any n s V hn hs)
    have hl6 : l.length ≤ 6 := by rw [hl]; exact Plain.cnt_le _ _
    obtain ⟨mx, hmx⟩ : ∃ mx, mx = Plain.num t m false s := ⟨_, rfl⟩
    obtain ⟨x1, x2, x3⟩ := Plain.mex_spec vals
    rw [← HNUM.out, ← hmx] at x1 x2
    have hmx6 : mx ≤ 6 := by rw [hmx]; exact Plain.num_le t m false s
    rw [← hmx]
    have X1 := Lib.hid x1
    have X2 := Lib.hid x2
    clear hl hc hv HNUM hmx x1 x2 x3 hts
    obtain ⟨W0, hW0⟩ : ∃ W0, W0 = W.alloc (.cells (bools t) 43) := ⟨_, rfl⟩
    obtain ⟨t1, t2⟩ := tab_box W t
    rw [← hW0] at t1 t2
    have HT0 := Lib.hid t1
    have HB0 := Lib.hid t2
    have hZ : W0.heap.size = W.heap.size + 1 := by rw [hW0]; simp
    have HZ := Lib.hid hZ
    obtain ⟨W1, hW1⟩ : ∃ W1, W1 = W0.alloc (.cells #[] 3) := ⟨_, rfl⟩
    have HC1 : Hid (Coll [] W0.heap.size W0 (.slice (some ⟨W.heap.size + 1, 0, none⟩) 0 0) W1) := Lib.hid (by have := coll_start W0; rw [← hW1] at this; rw [← hZ]; exact this)
    clear t1 t2 hZ
    go_enter Try.func52, Try.ntmps52
    go_wp2_with fail
    rw [← hW0, ← hW1]
    clear hW0 hW1
    refine (HMV.out _).mono ?_
    rintro e W2 ⟨v, rfl, hown, hb⟩
    obtain ⟨ma, mc, rfl, hm1, -, hm3⟩ := owns_ints hown
    have hnl := nailZ_le l
    rw [hnl] at hm3
    have hmc := hm3.1
    have HC2 := Lib.hid (HC1.out.later hb)
    have HM2 := Lib.hid (beside_start (B := W.heap.size + 1) hown hm1 ((HC1.out.1.lt (W.heap.size + 1) rfl).2))
    clear hown hb hm1 hm3
    rw [hnl]
    go_wp2_with fail
    go_loopw [7, 9] (fun u i wr => ∃ j : Nat, j ≤ l.length ∧ i = .int .i64 j ∧ Coll (seenTo t m s l j) W0.heap.size W0 u wr ∧ Beside ma (nailZ l) u wr) (fun _ i _ => 8 - (intOf i).toNat)
    case atStart => exact ⟨0, Nat.zero_le _, rfl, HC2.out, HM2.out⟩
    case round =>
      obtain ⟨j, hj, rfl, hrel, hm3⟩ := hrel
      have HK := Lib.hid hrel
      have HM3 := Lib.hid hm3
      have hle := seenTo_le t m s l j
      clear hrel hm3
      by_cases hlt : j < l.length
      · obtain ⟨p, hp⟩ := at_some l j hlt
        have HST := Lib.hid (seenTo_step (t := t) (m := m) (s := s) hp)
        obtain ⟨hu, hp6, IHP⟩ := IH.out p (List.mem_of_getElem? hp)
        obtain ⟨b0, o0, rfl, hcell⟩ := HM3.out.1 j _ (nailZ_at hp)
        have HI := Lib.hid IHP
        obtain ⟨u9, hu2⟩ : ∃ u, u = s ||| 2 ^ p := ⟨_, rfl⟩
        have HOUT : Hid (∀ V, Calls Try.prog 49 #[.int .i64 (s : Int), .int .i64 ((p : Int) + 1)] V fun e w' => e = .returned (.int .i64 (u9 : Int)) ∧ V = w') := Lib.hid (fun V => by rw [hu2]; exact l9Out_any s p (2 ^ p) V hs hp6 (pow_nat p))
        rw [← hu2] at HI hu HST
        obtain ⟨L, hL⟩ : ∃ L, L = seenTo t m s l j := ⟨_, rfl⟩
        rw [← hL] at HK HST hle
        have HTB : Hid (Tab wr W.heap.size t) := Lib.hid ((HK.out.2.1.block _ (by rw [HZ.out]; omega)).trans HT0.out)
        have hq := HTB.out.cell hu
        have hi : (j : Int) < (l.length : Int) := by omega
        have hi00 : (0 : Int) ≤ (j : Int) := by omega
        have hi2 : (u9 : Int) < 64 := by omega
        have hi3 : (0 : Int) ≤ (u9 : Int) := by omega
        clear hp IHP hu2 hL
        go_wp2_with fail
        refine (HOUT.out _).mono ?_
        rintro e w' ⟨rfl, rfl⟩
        cases ht : t u9 with
        | true =>
          have HN : Hid (seenTo t m s l (j + 1) = L) := Lib.hid (by rw [HST.out, ht]; exact if_pos rfl)
          rw [ht] at hq
          clear ht HST
          go_wp2_with fail
          go_roundw
          case rel => exact ⟨j + 1, by omega, by go_num, by rw [HN.out]; exact HK.out, HM3.out⟩
          case measure => simp [intOf]; omega
        | false =>
          have HN : Hid (seenTo t m s l (j + 1) = L ++ [(Plain.num t m false u9 : Int)]) := Lib.hid (by rw [HST.out, ht]; exact if_neg (by simp))
          have HI2 := Lib.hid (HI.out ht)
          rw [ht] at hq
          obtain ⟨x9, hx9⟩ : ∃ x, x = Plain.num t m false u9 := ⟨_, rfl⟩
          rw [← hx9] at HN HI2
          clear ht HST hx9
          go_wp2_with (first | (refine wpList_load_row rfl 43 _ rfl W.heap.size rfl 43 (bools t) (0, 0) _ HTB.out Try.underlying43 rfl (by rw [bools_size]; exact info64) ?_))
          refine (HI2.out _).mono ?_
          rintro e w3 ⟨rfl, hb⟩
          have HK4 := Lib.hid (HK.out.later hb)
          have HM4 := Lib.hid (HM3.out.later hb)
          clear hb
          go_wp2_with (at_builtin; refine wpList_append_own_at _ rfl _ _ 22 rfl W0.heap.size 3 i0 (.int .i64 0) 1 8 Try.underlying22 hi0 hz0 hz1 hz2 rfl (by decide) _ _ _ rfl (HK4.out.1.alloc _) ⟨w3.heap.size, 0, none⟩ 1 1 [.int .i64 (x9 : Int)] rfl rfl ?c1 ?c2 ?c3 ?c4 ?c5 ?_)
          case c1 => exact cell_one_new _ _ _
          case c2 => simp [Value.oneCell']
          case c3 => unfold maxLen; omega
          case c4 => omega
          case c5 => exact Nat.le_trans HK4.out.2.2 (by simp)
          intro v' w5 hown' hgrow _ hat
          have hR := Lib.hid (coll_push (x := (x9 : Int)) HK4.out hown' hgrow)
          have HM5 := Lib.hid (HM4.out.push hgrow hat)
          clear hown' hgrow hat
          go_wp2_with fail
          go_roundw
          case rel => exact ⟨j + 1, by omega, by go_num, by rw [HN.out]; exact hR.out, HM5.out⟩
          case measure => simp [intOf]; omega
      · obtain rfl : j = l.length := by omega
        have HE := HK
        rw [HEND.out] at HE
        obtain ⟨ua, uc, rfl, hui, -⟩ := owns_ints HE.out.1
        have HUI := Lib.hid hui
        have HB9 := Lib.hid (HB0.out.trans (HE.out.2.1.mono HB0.out.size))
        have hlen : (castN vals).length ≤ 1048576 := by rw [← HEND.out]; omega
        clear hui
        go_wp2_with fail
        go_loop [11] (fun i => ∃ x : Nat, x ≤ mx ∧ i = .int .i64 x) (fun i => mx - (intOf i).toNat)
        case atStart => exact ⟨0, Nat.zero_le _, rfl⟩
        case round =>
          obtain ⟨x, hx, rfl⟩ := hrel
          by_cases hxl : x < mx
          · have HD : Hid (Plain.memB (castN vals) x = true) := Lib.hid (memB_iff9.2 (castN_mem.2 (X2.out x hxl)))
            go_wp2_with fail
            refine (l1Has_any ua uc _ (castN vals) x _ rfl HUI (by omega)).mono ?_
            rw [HD.out]
            rintro e w9 ⟨rfl, rfl⟩
            go_wp2_with fail
            go_round
            case rel => exact ⟨x + 1, by omega, by go_num⟩
            case measure => simp [intOf]; omega
          · obtain rfl : x = mx := by omega
            have HD : Hid (Plain.memB (castN vals) x = false) := Lib.hid (by
              cases hb : Plain.memB (castN vals) x with
              | false => rfl
              | true => exact absurd (castN_mem.1 (memB_iff9.1 hb)) X1.out)
            go_wp2_with fail
            refine (l1Has_any ua uc _ (castN vals) x _ rfl HUI (by omega)).mono ?_
            rw [HD.out]
            rintro e w9 ⟨rfl, rfl⟩
            go_wp2_with fail
            go_ret
            exact ⟨rfl, HB9.out⟩
termination_by c => c
/-- What KeepNumber answers. -/
def numV9 (xs : List Int) (n s : Int) : Nat := if gameB xs n s = true then Plain.num (Plain.fallsB xs) (2 ^ n.toNat - 1) false s.toNat else 0
set_option maxRecDepth 100000 in
set_option maxHeartbeats 800000 in
theorem specKeepNumber_any (a : Option Addr) (cap : Nat) (xs : List Int) (n s : Int) (w : World) (h : Hid (Ints w a xs)) (h64 : Hid (In64 xs)) (hl : xs.length ≤ 9223372036854775807) (hnr : -9223372036854775808 ≤ n ∧ n ≤ 9223372036854775807) (hs : -9223372036854775808 ≤ s ∧ s ≤ 9223372036854775807) : Calls Try.prog 27 #[.slice a xs.length cap, .int .i64 n, .int .i64 s] w (Val (.tuple #[.int .i64 (numV9 xs n s : Int), .bool (gameB xs n s)]) w) := by
  cases hg : gameB xs n s with
  | false =>
    have HE : Hid (numV9 xs n s = 0) := Lib.hid (by unfold numV9; rw [hg]; rfl)
    rw [HE.out]
    have HG := Lib.hid hg
    clear hg
    go_enter Try.func27, Try.ntmps27
    go_wp2_with fail
    refine (l9Good_any a cap xs n s _ h h64 hl hnr hs).mono ?_
    rw [HG.out]
    rintro e w1 ⟨rfl, hb⟩
    have HB := Lib.hid hb
    clear hb
    go_wp2_with fail
    go_ret2
    exact ⟨rfl, HB.out⟩
  | true =>
    obtain ⟨g1, g2, g3, g4, g5, g6, g7, g8, g9⟩ := game_small hg
    have HG := Lib.hid hg
    obtain ⟨N, rfl⟩ : ∃ N : Nat, n = (N : Int) := ⟨n.toNat, by omega⟩
    obtain ⟨S, rfl⟩ : ∃ S : Nat, s = (S : Int) := ⟨s.toNat, by omega⟩
    rw [Int.toNat_natCast] at g1 g2 g6 g8 g9
    have hN : N ≤ 6 := by omega
    have hl2 := (Plain.wordB_iff.1 g7).1
    have HL := Lib.hid (Plain.wordB_iff.1 g7).2
    obtain ⟨t, ht⟩ : ∃ t, t = Plain.fallsB xs := ⟨_, rfl⟩
    obtain ⟨m, hm⟩ : ∃ m, m = 2 ^ N - 1 := ⟨_, rfl⟩
    have HT := Lib.hid ht
    have HM := Lib.hid hm
    obtain ⟨v, hv⟩ : ∃ v, v = numV9 xs (N : Int) (S : Int) := ⟨_, rfl⟩
    have HC : Hid (∀ V, Calls Try.prog 52 #[.agg (bools t), .int .i64 (N : Int), .int .i64 (S : Int)] V (Val (.int .i64 (v : Int)) V)) := Lib.hid (fun V => by
      rw [hv]
      unfold numV9
      rw [hg, if_pos rfl, Int.toNat_natCast, Int.toNat_natCast, ← hm, ← ht]
      exact l9Number_any t N m hN HM 6 S (Plain.cnt_le _ _) g2 (by rw [ht]; exact g9) V)
    rw [← hv]
    clear hg ht hm hv g1 g3 g4 g5 g6 g7 g8 g9
    go_enter Try.func27, Try.ntmps27
    go_wp2_with fail
    refine (l9Good_any a cap xs N S _ h h64 hl hnr hs).mono ?_
    rw [HG.out]
    rintro e w1 ⟨rfl, hb⟩
    have HB := Lib.hid hb
    have HI := Lib.hid (h.out.on hb)
    clear hb
    go_wp2_with fail
    refine (l3Table_any a cap xs _ HI HL (by omega)).mono ?_
    rw [← HT.out]
    rintro e w2 ⟨rfl, hb⟩
    have HB2 := Lib.hid (HB.out.trans (hb.mono HB.out.size))
    clear hb
    go_wp2_with fail
    refine (HC.out _).mono ?_
    rintro e w3 ⟨rfl, hb⟩
    have HB3 := Lib.hid (HB2.out.trans (hb.mono HB2.out.size))
    clear hb
    go_wp2_with fail
    go_ret2
    exact ⟨rfl, HB3.out⟩

end Go.Proofs.Ytecbfndgdmpacaa
