/- Contracts: RankWord of both. Conditions: numbers of 64 bits, lengths that fit. -/
import Derived.Test.YthamckchfhddjaaRank7
import Derived.Test.YthamckchfhddjaaMostWalks
import Derived.Deep.CutRange
import Derived.Deep.DeepCutAuto
import Derived.Deep.RegionLaw
namespace Go.Proofs.Ythamckchfhddjaa
open Go.ChangeShapes Go.WideShapes Go.ChangeAt Go.RowKit
set_option linter.unusedVariables false

/-- What RankWord answers. -/
def rankB (xs : List Int) (n : Int) : Bool := wordOfB xs n && decide (Plain.rankTo xs n.toNat xs.length ≤ 1000000000000)
def rankW (xs : List Int) (n : Int) : Int := if rankB xs n = true then (Plain.rankTo xs n.toNat xs.length : Nat) else 0
theorem rank_no {xs : List Int} {n : Int} (h : rankB xs n = false) : rankW xs n = 0 := if_neg (by rw [h]; simp)
theorem rank_noWord {xs : List Int} {n : Int} (h : wordOfB xs n = false) : rankB xs n = false := by simp [rankB, h]
theorem rank_fit {xs : List Int} {n : Nat} (h : wordOfB xs (n : Int) = true) (hf : Plain.rankTo xs n xs.length ≤ 1000000000000) : rankB xs (n : Int) = true ∧ rankW xs (n : Int) = (Plain.rankTo xs n xs.length : Nat) := by
  have : rankB xs (n : Int) = true := by rw [rankB, h, Int.toNat_natCast, decide_eq_true hf]; rfl
  exact ⟨this, by rw [rankW, if_pos this, Int.toNat_natCast]⟩
theorem rank_big {xs : List Int} {n : Nat} (hf : 1000000000000 < Plain.rankTo xs n xs.length) : rankB xs (n : Int) = false := by
  rw [rankB, Int.toNat_natCast, decide_eq_false (by omega)]; simp
theorem rank_nat {xs : List Int} {n : Int} (h : wordOfB xs n = true) : ∃ k : Nat, n = (k : Int) ∧ 1 ≤ k ∧ k ≤ 6 := n6_nat (wordOf_word h).2.2.1
theorem most7_any (x : Int) (w : World) : Calls Try.prog 28 #[.int .i64 x, .int .i64 0] w fun e w' => e = .returned (.int .i64 (if 0 < x then x else 0)) ∧ w = w' := by
  by_cases h : 0 < x
  · rw [if_pos h]
    go_enter Try.func28, Try.ntmps28
    go_wp2_with fail
    go_ret
    exact ⟨rfl, rfl⟩
  · rw [if_neg h]
    go_enter Try.func28, Try.ntmps28
    go_wp2_with fail
    go_ret
    exact ⟨rfl, rfl⟩
set_option maxHeartbeats 800000 in
theorem specRankWord_any (a : Option Addr) (cap : Nat) (xs : List Int) (n : Int) (w : World) (h : Hid (Ints w a xs)) (h64 : Hid (In64 xs)) (hn : xs.length ≤ 9223372036854775807) (hr : -9223372036854775808 ≤ n ∧ n ≤ 9223372036854775807) :
    Calls Try.prog 12 #[.slice a xs.length cap, .int .i64 n] w (Val (.tuple #[.int .i64 (rankW xs n), .bool (rankB xs n)]) w) := by
  cases hw : wordOfB xs n with
  | false =>
    have hb := rank_noWord hw
    have E1 := Lib.hid (rank_no hb)
    have E2 := Lib.hid hb
    have HW := Lib.hid hw
    clear hb hw
    go_enter Try.func12, Try.ntmps12
    go_wp2_with fail
    refine (l7Word_any _ _ xs n _ h h64 hn hr).mono ?_
    rw [HW.out]
    rintro e w1 ⟨rfl, hb⟩
    have B1 := Lib.hid hb
    clear hb
    go_wp2_with fail
    go_ret2
    exact ⟨ret_ib7 E1.out.symm E2.out.symm, B1.out⟩
  | true =>
    obtain ⟨n, rfl, -, -⟩ := rank_nat hw
    obtain ⟨hg, hl, hL, h1, h6⟩ := good_of hw
    have HW := Lib.hid hw
    have HL := Lib.hid hL
    by_cases hf : Plain.rankTo xs n xs.length ≤ 1000000000000
    · obtain ⟨e1, e2⟩ := rank_fit hw hf
      have E1 := Lib.hid e1
      have E2 := Lib.hid e2
      have HC := Lib.hid (capV_yes hf)
      obtain ⟨R, hR⟩ : ∃ R, R = Plain.rankTo xs n xs.length := ⟨_, rfl⟩
      rw [← hR] at E2 HC hf
      have HR := Lib.hid hR
      clear e1 e2 hw hg hL hR
      go_enter Try.func12, Try.ntmps12
      go_wp2_with fail
      refine (l7Word_any _ _ xs (n : Int) _ h h64 hn hr).mono ?_
      rw [HW.out]
      rintro e w1 ⟨rfl, hb⟩
      have B1 := Lib.hid hb
      have H1 := Lib.hid (h.out.on hb)
      clear hb
      go_wp2_with fail
      refine (l7Rank_any _ _ xs n _ H1 HL hl h1 h6).mono ?_
      rw [← HR.out, HC.out]
      rintro e w2 ⟨rfl, hb⟩
      have B2 := Lib.hid (B1.out.trans (hb.mono B1.out.size))
      clear hb
      go_wp2_with fail
      refine (most7_any (R : Int) _).mono ?_
      rw [show (if (0 : Int) < (R : Int) then (R : Int) else 0) = (R : Int) by split <;> omega]
      rintro e w' ⟨rfl, rfl⟩
      have hq : decide ((0 : Int) ≤ (R : Int)) = true := by simp
      have hq2 : (0 : Int) ≤ (R : Int) := by omega
      go_wp2_with fail
      go_ret2
      exact ⟨ret_ib7 (by rw [E2.out]) (by rw [E1.out]), B2.out⟩
    · have hb := rank_big (n := n) (xs := xs) (by omega)
      have E2 := Lib.hid (rank_no hb)
      have E1 := Lib.hid hb
      have HC := Lib.hid (capV_no (m := Plain.rankTo xs n xs.length) (by omega))
      clear hb hw hg hL
      go_enter Try.func12, Try.ntmps12
      go_wp2_with fail
      refine (l7Word_any _ _ xs (n : Int) _ h h64 hn hr).mono ?_
      rw [HW.out]
      rintro e w1 ⟨rfl, hb⟩
      have B1 := Lib.hid hb
      have H1 := Lib.hid (h.out.on hb)
      clear hb
      go_wp2_with fail
      refine (l7Rank_any _ _ xs n _ H1 HL hl h1 h6).mono ?_
      rw [HC.out]
      rintro e w2 ⟨rfl, hb⟩
      have B2 := Lib.hid (B1.out.trans (hb.mono B1.out.size))
      clear hb
      go_wp2_with fail
      refine (most7_any (-1) _).mono ?_
      rw [show (if (0 : Int) < -1 then (-1 : Int) else 0) = 0 from rfl]
      rintro e w' ⟨rfl, rfl⟩
      go_wp2_with fail
      go_ret2
      exact ⟨ret_ib7 (by rw [E2.out]) (by rw [E1.out]), B2.out⟩
set_option maxRecDepth 100000 in
set_option maxHeartbeats 4000000 in
theorem implRankWord_any (a : Option Addr) (cap : Nat) (xs : List Int) (n : Int) (w : World) (h : Hid (Ints w a xs)) (hcap : Hid (Cap a xs.length cap)) (h64 : Hid (In64 xs)) (hn : xs.length ≤ 9223372036854775807) (hr : -9223372036854775808 ≤ n ∧ n ≤ 9223372036854775807) :
    Calls Try.prog 14 #[.slice a xs.length cap, .int .i64 n] w (Val (.tuple #[.int .i64 (rankW xs n), .bool (rankB xs n)]) w) := by
  cases hw : wordOfB xs n with
  | false =>
    have hb := rank_noWord hw
    have E1 := Lib.hid (rank_no hb)
    have E2 := Lib.hid hb
    have HW := Lib.hid hw
    clear hb hw
    go_enter Try.func14, Try.ntmps14
    go_wp2_with fail
    refine (isWordOf_any _ _ xs n _ h h64 hn hr).mono ?_
    rw [HW.out]
    rintro e w1 ⟨rfl, hb⟩
    have B1 := Lib.hid hb
    clear hb
    go_wp2_with fail
    go_ret2
    exact ⟨ret_ib7 E1.out.symm E2.out.symm, B1.out⟩
  | true =>
    obtain ⟨n, rfl, -, -⟩ := rank_nat hw
    obtain ⟨hg, hl, hL, h1, h6⟩ := good_of hw
    have HW := Lib.hid hw
    have HL := Lib.hid hL
    have HG := Lib.hid hg
    have HFIT : Hid (Plain.rankTo xs n xs.length ≤ 1000000000000 → rankB xs (n : Int) = true ∧ rankW xs (n : Int) = (Plain.rankTo xs n xs.length : Nat)) := Lib.hid (rank_fit hw)
    have HBIG : Hid (1000000000000 < Plain.rankTo xs n xs.length → rankB xs (n : Int) = false ∧ rankW xs (n : Int) = 0) := Lib.hid (fun hf => ⟨rank_big hf, rank_no (rank_big hf)⟩)
    have hcl := hcap.out.1
    have hch := hcap.out.2.1
    clear hw hg hL
    go_enter Try.func14, Try.ntmps14
    go_wp2_with fail
    refine (isWordOf_any _ _ xs (n : Int) _ h h64 hn hr).mono ?_
    rw [HW.out]
    rintro e w1 ⟨rfl, hb⟩
    have B1 := Lib.hid hb
    clear hb
    go_wp2_with fail
    go_loopw [6, 15] (fun s i wr => ∃ k R : Nat, k ≤ xs.length ∧ i = .int .i64 k ∧ s = .int .i64 (R : Int) ∧ R = Plain.rankTo xs n k ∧ R ≤ 1000000000000 ∧ Below w.heap.size w wr) (fun _ i _ => xs.length - (intOf i).toNat)
    case atStart => exact ⟨0, 0, Nat.zero_le _, rfl, rfl, rfl, by decide, B1.out⟩
    case round =>
      clear B1
      obtain ⟨k, R, hk, rfl, rfl, hR, hRl, hbw⟩ := hrel
      by_cases hlt : k < xs.length
      · obtain ⟨x, hx⟩ := at_some xs k hlt
        have hxr := HL.out.at hx
        have hst := Plain.rankTo_step xs n k
        rw [show xs.getD k 0 = x by rw [List.getD_eq_getElem?_getD, hx]; rfl, ← hR] at hst
        obtain ⟨hp1, hp2, hp3⟩ := Plain.good_place HG.out hx
        have hle := Plain.rankTo_le (w := xs) h1 (show k + 1 ≤ xs.length by omega)
        have HIN := Lib.hid (h.out.on hbw)
        obtain ⟨b, o, rfl, hcx⟩ := HIN.out k x hx
        have HT := Lib.hid (take_letters HL.out k)
        have hF1 := Plain.firstR_ge n R
        have hF2 : Plain.firstR n R ≤ 14 + R * 11 := by
          unfold Plain.firstR
          split
          · omega
          · have : (R - 1) * (2 * n - 1) ≤ (R - 1) * 11 := Nat.mul_le_mul_left _ (by omega)
            omega
        have hlen : Hid ((xs.take k).length = k) := Lib.hid (by simp; omega)
        have hbl := Plain.behind_le (xs.take k) (2 * n)
        have hnob : ∀ (i : Nat) (y : Int), i < Plain.placeOf (xs.take k) x → (Plain.behind (xs.take k) (2 * n))[i]? = some y → y ≠ x := fun i y hi hy e => by
          subst e
          exact Plain.place_first HG.out hx hi hy
        obtain ⟨j, hj⟩ : ∃ j, j = Plain.placeOf (xs.take k) x := ⟨_, rfl⟩
        rw [← hj] at hp1 hp3 hst hnob
        obtain ⟨ls, hls⟩ : ∃ ls, ls = Plain.behind (xs.take k) (2 * n) := ⟨_, rfl⟩
        rw [← hls] at hp1 hbl hnob
        have HLS := Lib.hid hls
        obtain ⟨F, hF⟩ : ∃ F, F = Plain.firstR n R := ⟨_, rfl⟩
        rw [← hF] at hst hF1 hF2
        have HF := Lib.hid hF
        have HP1 := Lib.hid hp1
        have HNOB := Lib.hid hnob
        obtain ⟨R', hR'⟩ : ∃ R', R' = Plain.rankTo xs n (k + 1) := ⟨_, rfl⟩
        rw [← hR'] at hst hle
        have HR' := Lib.hid hR'
        have HST := Lib.hid hst
        have hj12 : j < 12 := by split at hp3 <;> omega
        have hls12 : ls.length ≤ 12 := by omega
        have HBW := Lib.hid hbw
        have hi : (k : Int) < (xs.length : Int) := by omega
        have hi0 : (0 : Int) ≤ (k : Int) := by omega
        have hkc : (k : Int) ≤ (cap : Int) := by omega
        have hsum : (F : Int) + (j : Int) = (R' : Int) := by omega
        have hwR : IntKind.i64.wrap (R' : Int) = (R' : Int) := IntWalk.i64_in _ (by omega)
        have hRs : R' ≤ 1000000000000 ∨ 1000000000000 < R' := by omega
        clear hx hR hp1 hp2 hp3 hnob hls hF hj hR' hst hbw
        go_wp2_with fail
        go_cut [6] from 20 to 30 (fun s wx => s = .int .i64 (R' : Int) ∧ Below wr.heap.size wr wx)
        case first =>
          have HId : Hid (Ints wr.drew (some ⟨b, o, none⟩) (xs.take k)) := Lib.hid (ints_take HIN.out k)
          have HBd : Hid (Below wr.heap.size wr wr.drew) := Lib.hid (Below.refl _ _).drew
          go_region_law (go_simp; first
            | (go_at_call 30; refine (firstR_any n R _ h1 h6 (by omega)).mono ?_; rw [← HF.out]; rintro e w2 ⟨rfl, rfl⟩)
            | (go_at_call 32; refine (behindC_any (some ⟨b, o, none⟩) k cap (xs.take k) n _ HId HT hlen (by omega) h6).mono ?_; rw [← HLS.out]; rintro e w2 ⟨v2, rfl, hC⟩; obtain ⟨la, lc, rfl, hok⟩ := facOk_coll hC; have HI2 := Lib.hid hok.1; have HB2 := Lib.hid (HBd.out.trans (hC.2.1.mono HBd.out.size)); clear hC hok)
            | (go_at_call 31; refine (index_any la lc ls x j _ HI2 (by omega) HP1 HNOB).mono ?_; rintro e w3 ⟨rfl, rfl⟩))
          all_goals
            go_wp2_with fail
            go_meet
            case rel => exact ⟨by first | rfl | rw [hwR], HB2.out⟩
        case rest =>
          obtain ⟨rfl, hb⟩ := hcut
          have HB3 := Lib.hid (HBW.out.trans (hb.mono HBW.out.size))
          clear hb
          rcases hRs with hRs | hRs
          · have hq : ¬ (1000000000000 < (R' : Int)) := by omega
            go_wp2_with fail
            go_roundw
            case rel => exact ⟨k + 1, R', by omega, by go_num, rfl, HR'.out, hRs, HB3.out⟩
            case measure => simp [intOf]; omega
          · have hq : (1000000000000 < (R' : Int)) := by omega
            have HE := Lib.hid (HBIG.out (by omega))
            go_wp2_with fail
            go_ret2
            exact ⟨ret_ib7 HE.out.2.symm HE.out.1.symm, HB3.out⟩
      · obtain rfl : k = xs.length := by omega
        have HE := Lib.hid (HFIT.out (by rw [← hR]; exact hRl))
        rw [← hR] at HE
        have hi : ¬ (xs.length : Int) < (xs.length : Int) := by omega
        have HBW := Lib.hid hbw
        clear hR hbw
        go_wp2_with fail
        go_ret2
        exact ⟨ret_ib7 HE.out.2.symm HE.out.1.symm, HBW.out⟩
theorem bothRankWord (xs : List Int) (h64 : Hid (In64 xs)) (hn : xs.length ≤ 1048576) (n : Int) (h1 : -9223372036854775808 ≤ n) (h2 : n ≤ 9223372036854775807) : ∃ (m : Int) (c : Bool),
    (∀ a cap w, Hid (Ints w a xs) → Hid (Cap a xs.length cap) → Calls Try.prog 12 #[.slice a xs.length cap, .int .i64 n] w (Val (.tuple #[.int .i64 m, .bool c]) w)) ∧
    (∀ a cap w, Hid (Ints w a xs) → Hid (Cap a xs.length cap) → Calls Try.prog 14 #[.slice a xs.length cap, .int .i64 n] w (Val (.tuple #[.int .i64 m, .bool c]) w)) :=
  ⟨_, _, fun a cap w h _ => specRankWord_any a cap xs n w h h64 (by omega) ⟨h1, h2⟩, fun a cap w h hc => implRankWord_any a cap xs n w h hc h64 (by omega) ⟨h1, h2⟩⟩

end Go.Proofs.Ythamckchfhddjaa
