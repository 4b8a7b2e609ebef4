/- Contracts: spec.DropMoves, KeepMoves. Conditions: numbers of 64 bits, lengths that fit. -/
import Derived.Test.YtecbfndgdmpacaaGameWins
import Derived.Maps.AppendAt
namespace Go.Proofs.Ytecbfndgdmpacaa
open Go.ChangeShapes Go.WideShapes Go.ChangeAt Go.RowKit
set_option linter.unusedVariables false

/-- What a loop over moves has kept. -/
def keepTo (f : Nat → Bool) (l : List Nat) (k : Nat) : List Int := nailZ ((l.take k).filter f)
theorem keepTo_step {f : Nat → Bool} {l : List Nat} {k p : Nat} (h : l[k]? = some p) : keepTo f l (k + 1) = if f p = true then keepTo f l k ++ [(p : Int) + 1] else keepTo f l k := by
  unfold keepTo nailZ
  rw [List.take_add_one, h, List.filter_append, List.map_append]
  cases hb : f p <;> simp [hb]
theorem keepTo_le (f : Nat → Bool) (l : List Nat) (k : Nat) : (keepTo f l k).length ≤ l.length := by
  unfold keepTo
  rw [nailZ_le]
  exact Nat.le_trans (List.length_filter_le _ _) (by rw [List.length_take]; omega)
/-- A table beside a list that is appended to. -/
def TabBy (G : Nat) (t : Nat → Bool) (v : Value) (wr : World) : Prop := Tab wr G t ∧ v.ownBlock ≠ some G
theorem TabBy.later {G : Nat} {t : Nat → Bool} {v : Value} {wr w1 : World} (h : TabBy G t v wr) (hb : Below wr.heap.size wr w1) : TabBy G t v w1 := ⟨h.1.on hb, h.2⟩
theorem TabBy.push {G : Nat} {t : Nat → Bool} {v v' : Value} {wr w1 : World} {o : Obj} (h : TabBy G t v wr) (hgrow : (wr.alloc o).grownBy w1 v.ownBlock) (hat : v'.ownBlock = v.ownBlock ∨ v'.ownBlock = some (wr.heap.size + 1)) : TabBy G t v' w1 := by
  have hs : (wr.alloc o).heap.size = wr.heap.size + 1 := by simp
  have h1 := h.1.on ((Below.refl _ wr).alloc (Nat.le_refl _) o)
  refine ⟨(hgrow.block G h1.lt (fun e => h.2 e.symm)).trans h1, fun e => ?_⟩
  rcases hat with q | q
  · exact h.2 (by rw [← q]; exact e)
  · rw [e] at q
    have e2 : G = wr.heap.size + 1 := Option.some.inj q
    have := h.1.lt
    omega
def moveF (k : Bool) (t : Nat → Bool) (m s p : Nat) : Bool := if k then t (s ||| 2 ^ p) || !Plain.dropV t m (s ||| 2 ^ p) else !t (s ||| 2 ^ p) && !Plain.keepV t m (s ||| 2 ^ p)
/-- What DropMoves and KeepMoves answer. -/
def moveW (k : Bool) (xs : List Int) (n s : Int) : List Int := if gameB xs n s = true then nailZ ((Plain.inP (2 ^ n.toNat - 1) s.toNat).filter (moveF k (Plain.fallsB xs) (2 ^ n.toNat - 1) s.toNat)) else []
theorem moveW_le (k : Bool) (xs : List Int) (n s : Int) : (moveW k xs n s).length ≤ 1048576 := by
  unfold moveW
  split
  · rw [nailZ_le]
    have h1 := List.length_filter_le (moveF k (Plain.fallsB xs) (2 ^ n.toNat - 1) s.toNat) (Plain.inP (2 ^ n.toNat - 1) s.toNat)
    have h2 := Plain.cnt_le (2 ^ n.toNat - 1) s.toNat
    unfold Plain.cnt at h2
    omega
  · exact Nat.zero_le _
set_option maxRecDepth 100000 in
set_option maxHeartbeats 3200000 in
theorem specDropMoves_any (a : Option Addr) (cap : Nat) (xs : List Int) (n s : Int) (w : World) (h : Hid (Ints w a xs)) (h64 : Hid (In64 xs)) (hl : xs.length ≤ 9223372036854775807) (hnr : -9223372036854775808 ≤ n ∧ n ≤ 9223372036854775807) (hs : -9223372036854775808 ≤ s ∧ s ≤ 9223372036854775807) : Calls Try.prog 19 #[.slice a xs.length cap, .int .i64 n, .int .i64 s] w (SB (moveW true xs n s) (gameB xs n s) w) := by
  obtain ⟨i0, hi0, hz0, hz1, hz2⟩ := info_parts infoInt
  obtain ⟨W, hW⟩ : ∃ W, W = w.alloc (.cells #[] 3) := ⟨_, rfl⟩
  have HS : Hid (Coll [] w.heap.size w (.slice (some ⟨w.heap.size, 0, none⟩) 0 0) W) := Lib.hid (by rw [hW]; exact coll_start w)
  have HI : Hid (Ints W a xs) := Lib.hid (h.out.on HS.out.2.1)
  cases hg : gameB xs n s with
  | false =>
    rw [show moveW true xs n s = [] by unfold moveW; rw [hg]; rfl]
    have HG := Lib.hid hg
    clear hg
    go_enter Try.func19, Try.ntmps19
    go_wp2_with fail
    rw [← hW]
    clear hW
    refine (l9Good_any a cap xs n s _ HI h64 hl hnr hs).mono ?_
    rw [HG.out]
    rintro e w1 ⟨rfl, hb⟩
    have HS1 := Lib.hid (HS.out.later hb)
    clear hb
    go_wp2_with fail
    go_ret2
    exact ⟨_, rfl, res_nil _ _ _, HS1.out.2.1⟩
  | true =>
    obtain ⟨g1, g2, g3, g4, g5, g6, g7, g8, g9⟩ := game_small hg
    have HG := Lib.hid hg
    obtain ⟨N, rfl⟩ : ∃ N : Nat, n = (N : Int) := ⟨n.toNat, by omega⟩
    obtain ⟨S, rfl⟩ : ∃ S : Nat, s = (S : Int) := ⟨s.toNat, by omega⟩
    rw [Int.toNat_natCast] at g1 g2 g6 g8 g9
    have hN : N ≤ 6 := by omega
    have hl2 := (Plain.wordB_iff.1 g7).1
    have HL := Lib.hid (Plain.wordB_iff.1 g7).2
    obtain ⟨t, ht⟩ : ∃ t, t = Plain.fallsB xs := ⟨_, rfl⟩
    obtain ⟨m, hm⟩ : ∃ m, m = 2 ^ N - 1 := ⟨_, rfl⟩
    have HT := Lib.hid ht
    have HM := Lib.hid hm
    obtain ⟨l, hl9⟩ : ∃ l, l = Plain.inP m S := ⟨_, rfl⟩
    obtain ⟨F, hF⟩ : ∃ F, F = moveF true t m S := ⟨_, rfl⟩
    have hll : l.length ≤ 6 := by rw [hl9]; exact Plain.cnt_le _ _
    have HMEM : Hid (∀ p ∈ l, p < 6) := Lib.hid (fun p hp => by rw [hl9] at hp; exact (Plain.mem_inP.1 hp).1)
    rw [show moveW true xs (N : Int) (S : Int) = keepTo F l l.length by unfold moveW keepTo; rw [hg, if_pos rfl, Int.toNat_natCast, Int.toNat_natCast, ← hm, ← ht, ← hF, ← hl9, List.take_length]]
    have HMV : Hid (∀ V, Calls Try.prog 48 #[.int .i64 (N : Int), .int .i64 (S : Int)] V (OwnL (nailZ l) V)) := Lib.hid (fun V => by rw [hl9, hm]; exact l9Moves_any N S V hN g2)
    have HFF := Lib.hid hF
    clear hg ht hm hl9 hF g1 g3 g4 g5 g6 g7 g8 g9
    go_enter Try.func19, Try.ntmps19
    go_wp2_with fail
    rw [← hW]
    clear hW
    refine (l9Good_any a cap xs N S _ HI h64 hl hnr hs).mono ?_
    rw [HG.out]
    rintro e w1 ⟨rfl, hb⟩
    have HS1 := Lib.hid (HS.out.later hb)
    have HI1 := Lib.hid (HI.out.on hb)
    clear hb
    go_wp2_with fail
    refine (l3Table_any a cap xs _ HI1 HL (by omega)).mono ?_
    rw [← HT.out]
    rintro e w2 ⟨rfl, hb⟩
    have HS2 := Lib.hid (HS1.out.later hb)
    clear hb
    go_wp2_with fail
    refine (HMV.out _).mono ?_
    rintro e w3 ⟨v, rfl, hown, hb⟩
    obtain ⟨ma, mc, rfl, hm1, -, hm3⟩ := owns_ints hown
    have hnl := nailZ_le l
    rw [hnl] at hm3
    have hmc := hm3.1
    have HS3 := Lib.hid (HS2.out.later hb)
    have HM2 := Lib.hid (beside_start (B := w.heap.size) hown hm1 ((HS2.out.1.lt w.heap.size rfl).2))
    clear hown hb hm1 hm3
    rw [hnl]
    obtain ⟨V, hV⟩ : ∃ V, V = ((w3.alloc (.cells (bools fun _ => false) 43)).setRow w3.heap.size (bools t)) := ⟨_, rfl⟩
    have hbV : Below w3.heap.size w3 V := by rw [hV]; exact below_setRow ((Below.refl _ _).alloc (Nat.le_refl _) _) (Nat.le_refl _) _
    have hTV : Tab V w3.heap.size t := by rw [hV]; exact tab_row (heap_alloc_new _ _)
    have HSV := Lib.hid (HS3.out.later hbV)
    have HMV2 := Lib.hid (HM2.out.later hbV)
    have HTV : Hid (TabBy w3.heap.size t (.slice (some ⟨w.heap.size, 0, none⟩) 0 0) V) := Lib.hid ⟨hTV, fun e => by have e2 : w.heap.size = w3.heap.size := Option.some.inj e; have := (HS3.out.1.lt w.heap.size rfl).2; omega⟩
    clear hbV hTV
    rw [bools_zero] at hV
    go_wp2_with (first | (refine wpList_store_row rfl 43 _ _ rfl w3.heap.size (bools t) rfl rfl 43 _ (heap_alloc_new _ _) info64 (by rw [bools_size]; rfl) (bools_one _) ?_))
    rw [← hV]
    clear hV
    go_loopw [8, 11] (fun u i wr => ∃ j : Nat, j ≤ l.length ∧ i = .int .i64 j ∧ Coll (keepTo F l j) w.heap.size w u wr ∧ Beside ma (nailZ l) u wr ∧ TabBy w3.heap.size t u wr) (fun _ i _ => 8 - (intOf i).toNat)
    case atStart => exact ⟨0, Nat.zero_le _, rfl, HSV.out, HMV2.out, HTV.out⟩
    case round =>
      obtain ⟨j, hj, rfl, hrel, hm3, htb⟩ := hrel
      have HK := Lib.hid hrel
      have HM3 := Lib.hid hm3
      have HT3 := Lib.hid htb
      have HTB := Lib.hid htb.1
      have hle := keepTo_le F l j
      clear hrel hm3 htb
      by_cases hlt : j < l.length
      · obtain ⟨p, hp⟩ := at_some l j hlt
        have HST := Lib.hid (keepTo_step (f := F) hp)
        obtain ⟨b0, o0, rfl, hcell⟩ := HM3.out.1 j _ (nailZ_at hp)
        have hp6 := HMEM.out p (List.mem_of_getElem? hp)
        have hu := Plain.or_lt g2 hp6
        obtain ⟨L, hL⟩ : ∃ L, L = keepTo F l j := ⟨_, rfl⟩
        rw [← hL] at HK HST hle
        obtain ⟨u9, hu9⟩ : ∃ u, u = S ||| 2 ^ p := ⟨_, rfl⟩
        have HOUT : Hid (∀ V, Calls Try.prog 49 #[.int .i64 (S : Int), .int .i64 ((p : Int) + 1)] V fun e w' => e = .returned (.int .i64 (u9 : Int)) ∧ V = w') := Lib.hid (fun V => by rw [hu9]; exact l9Out_any S p (2 ^ p) V g2 hp6 (pow_nat p))
        have HF : Hid (F p = (t u9 || !Plain.dropV t m u9)) := Lib.hid (by rw [HFF.out, hu9]; rfl)
        rw [← hu9] at hu
        have hq := HTB.out.cell hu
        have hi : (j : Int) < (l.length : Int) := by omega
        have hi00 : (0 : Int) ≤ (j : Int) := by omega
        have hi2 : (u9 : Int) < 64 := by omega
        have hi3 : (0 : Int) ≤ (u9 : Int) := by omega
        clear hp hL hu9
        go_wp2_with fail
        refine (HOUT.out _).mono ?_
        rintro e w' ⟨rfl, rfl⟩
        cases htu : t u9 with
        | true =>
          rw [htu] at hq
          have HFV : Hid (F p = true) := Lib.hid (by rw [HF.out, htu]; rfl)
          have HN : Hid (keepTo F l (j + 1) = L ++ [(p : Int) + 1]) := Lib.hid (by rw [HST.out]; exact if_pos (HFV.out))
          clear htu HST
          go_wp2_with (first | (refine wpList_load9_if rfl 43 _ rfl w3.heap.size rfl (bools t) (tab_load HTB.out) ?_) | (at_builtin; refine wpList_append_own_at _ rfl _ _ 22 rfl w.heap.size 3 i0 (.int .i64 0) 1 8 Try.underlying22 hi0 hz0 hz1 hz2 rfl (by decide) _ _ _ rfl (HK.out.1.alloc _) ⟨wr.heap.size, 0, none⟩ 1 1 [.int .i64 ((p : Int) + 1)] rfl rfl ?c1 ?c2 ?c3 ?c4 ?c5 ?_))
          case c1 => exact cell_one_new _ _ _
          case c2 => simp [Value.oneCell']
          case c3 => unfold maxLen; omega
          case c4 => omega
          case c5 => exact Nat.le_trans HK.out.2.2 (by simp)
          intro v' w5 hown' hgrow _ hat
          have hR := Lib.hid (coll_push (x := (p : Int) + 1) HK.out hown' hgrow)
          have HM5 := Lib.hid (HM3.out.push hgrow hat)
          have HT5 := Lib.hid (HT3.out.push hgrow hat)
          clear hown' hgrow hat
          go_wp2_with fail
          go_roundw
          case rel => exact ⟨j + 1, by omega, by go_num, by rw [HN.out]; exact hR.out, HM5.out, HT5.out⟩
          case measure => simp [intOf]; omega
        | false =>
          rw [htu] at hq
          have HTU := Lib.hid htu
          clear htu
          go_wp2_with (first | (refine wpList_load9_if rfl 43 _ rfl w3.heap.size rfl (bools t) (tab_load HTB.out) ?_))
          refine (l9Drop_any t N m hN HM 6 u9 (Plain.cnt_le _ _) hu _).mono ?_
          cases hv : Plain.dropV t m u9 with
          | true =>
            rintro e w9 ⟨rfl, hb⟩
            have HK4 := Lib.hid (HK.out.later hb)
            have HM4 := Lib.hid (HM3.out.later hb)
            have HT4 := Lib.hid (HT3.out.later hb)
            have HFV : Hid (F p = false) := Lib.hid (by rw [HF.out, HTU.out, hv]; rfl)
            have HN : Hid (keepTo F l (j + 1) = L) := Lib.hid (by rw [HST.out]; exact if_neg (by rw [HFV.out]; simp))
            clear hb hv HST
            go_wp2_with (first | (refine wpList_load9_if rfl 43 _ rfl w3.heap.size rfl (bools t) (tab_load HTB.out) ?_))
            go_roundw
            case rel => exact ⟨j + 1, by omega, by go_num, by rw [HN.out]; exact HK4.out, HM4.out, HT4.out⟩
            case measure => simp [intOf]; omega
          | false =>
            rintro e w9 ⟨rfl, hb⟩
            have HK4 := Lib.hid (HK.out.later hb)
            have HM4 := Lib.hid (HM3.out.later hb)
            have HT4 := Lib.hid (HT3.out.later hb)
            have hcell4 := cell_later hb hcell
            have HFV : Hid (F p = true) := Lib.hid (by rw [HF.out, HTU.out, hv]; rfl)
            have HN : Hid (keepTo F l (j + 1) = L ++ [(p : Int) + 1]) := Lib.hid (by rw [HST.out]; exact if_pos (HFV.out))
            clear hb hv HST hcell hq
            go_wp2_with (first | (refine wpList_load9_if rfl 43 _ rfl w3.heap.size rfl (bools t) (tab_load HTB.out) ?_) | (at_builtin; refine wpList_append_own_at _ rfl _ _ 22 rfl w.heap.size 3 i0 (.int .i64 0) 1 8 Try.underlying22 hi0 hz0 hz1 hz2 rfl (by decide) _ _ _ rfl (HK4.out.1.alloc _) ⟨w9.heap.size, 0, none⟩ 1 1 [.int .i64 ((p : Int) + 1)] rfl rfl ?c1 ?c2 ?c3 ?c4 ?c5 ?_))
            case c1 => exact cell_one_new _ _ _
            case c2 => simp [Value.oneCell']
            case c3 => unfold maxLen; omega
            case c4 => omega
            case c5 => exact Nat.le_trans HK4.out.2.2 (by simp)
            intro v' w5 hown' hgrow _ hat
            have hR := Lib.hid (coll_push (x := (p : Int) + 1) HK4.out hown' hgrow)
            have HM5 := Lib.hid (HM4.out.push hgrow hat)
            have HT5 := Lib.hid (HT4.out.push hgrow hat)
            clear hown' hgrow hat
            go_wp2_with fail
            go_roundw
            case rel => exact ⟨j + 1, by omega, by go_num, by rw [HN.out]; exact hR.out, HM5.out, HT5.out⟩
            case measure => simp [intOf]; omega
      · obtain rfl : j = l.length := by omega
        have HR := Lib.hid (coll_res HK.out)
        go_wp2_with fail
        go_ret2
        exact ⟨_, rfl, HR.out.1, HR.out.2⟩
set_option maxRecDepth 100000 in
set_option maxHeartbeats 3200000 in
theorem specKeepMoves_any (a : Option Addr) (cap : Nat) (xs : List Int) (n s : Int) (w : World) (h : Hid (Ints w a xs)) (h64 : Hid (In64 xs)) (hl : xs.length ≤ 9223372036854775807) (hnr : -9223372036854775808 ≤ n ∧ n ≤ 9223372036854775807) (hs : -9223372036854775808 ≤ s ∧ s ≤ 9223372036854775807) : Calls Try.prog 25 #[.slice a xs.length cap, .int .i64 n, .int .i64 s] w (SB (moveW false xs n s) (gameB xs n s) w) := by
  obtain ⟨i0, hi0, hz0, hz1, hz2⟩ := info_parts infoInt
  obtain ⟨W, hW⟩ : ∃ W, W = w.alloc (.cells #[] 3) := ⟨_, rfl⟩
  have HS : Hid (Coll [] w.heap.size w (.slice (some ⟨w.heap.size, 0, none⟩) 0 0) W) := Lib.hid (by rw [hW]; exact coll_start w)
  have HI : Hid (Ints W a xs) := Lib.hid (h.out.on HS.out.2.1)
  cases hg : gameB xs n s with
  | false =>
    rw [show moveW false xs n s = [] by unfold moveW; rw [hg]; rfl]
    have HG := Lib.hid hg
    clear hg
    go_enter Try.func25, Try.ntmps25
    go_wp2_with fail
    rw [← hW]
    clear hW
    refine (l9Good_any a cap xs n s _ HI h64 hl hnr hs).mono ?_
    rw [HG.out]
    rintro e w1 ⟨rfl, hb⟩
    have HS1 := Lib.hid (HS.out.later hb)
    clear hb
    go_wp2_with fail
    go_ret2
    exact ⟨_, rfl, res_nil _ _ _, HS1.out.2.1⟩
  | true =>
    obtain ⟨g1, g2, g3, g4, g5, g6, g7, g8, g9⟩ := game_small hg
    have HG := Lib.hid hg
    obtain ⟨N, rfl⟩ : ∃ N : Nat, n = (N : Int) := ⟨n.toNat, by omega⟩
    obtain ⟨S, rfl⟩ : ∃ S : Nat, s = (S : Int) := ⟨s.toNat, by omega⟩
    rw [Int.toNat_natCast] at g1 g2 g6 g8 g9
    have hN : N ≤ 6 := by omega
    have hl2 := (Plain.wordB_iff.1 g7).1
    have HL := Lib.hid (Plain.wordB_iff.1 g7).2
    obtain ⟨t, ht⟩ : ∃ t, t = Plain.fallsB xs := ⟨_, rfl⟩
    obtain ⟨m, hm⟩ : ∃ m, m = 2 ^ N - 1 := ⟨_, rfl⟩
    have HT := Lib.hid ht
    have HM := Lib.hid hm
    obtain ⟨l, hl9⟩ : ∃ l, l = Plain.inP m S := ⟨_, rfl⟩
    obtain ⟨F, hF⟩ : ∃ F, F = moveF false t m S := ⟨_, rfl⟩
    have hll : l.length ≤ 6 := by rw [hl9]; exact Plain.cnt_le _ _
    have HMEM : Hid (∀ p ∈ l, p < 6) := Lib.hid (fun p hp => by rw [hl9] at hp; exact (Plain.mem_inP.1 hp).1)
    rw [show moveW false xs (N : Int) (S : Int) = keepTo F l l.length by unfold moveW keepTo; rw [hg, if_pos rfl, Int.toNat_natCast, Int.toNat_natCast, ← hm, ← ht, ← hF, ← hl9, List.take_length]]
    have HMV : Hid (∀ V, Calls Try.prog 48 #[.int .i64 (N : Int), .int .i64 (S : Int)] V (OwnL (nailZ l) V)) := Lib.hid (fun V => by rw [hl9, hm]; exact l9Moves_any N S V hN g2)
    have HFF := Lib.hid hF
    clear hg ht hm hl9 hF g1 g3 g4 g5 g6 g7 g8 g9
    go_enter Try.func25, Try.ntmps25
    go_wp2_with fail
    rw [← hW]
    clear hW
    refine (l9Good_any a cap xs N S _ HI h64 hl hnr hs).mono ?_
    rw [HG.out]
    rintro e w1 ⟨rfl, hb⟩
    have HS1 := Lib.hid (HS.out.later hb)
    have HI1 := Lib.hid (HI.out.on hb)
    clear hb
    go_wp2_with fail
    refine (l3Table_any a cap xs _ HI1 HL (by omega)).mono ?_
    rw [← HT.out]
    rintro e w2 ⟨rfl, hb⟩
    have HS2 := Lib.hid (HS1.out.later hb)
    clear hb
    go_wp2_with fail
    refine (HMV.out _).mono ?_
    rintro e w3 ⟨v, rfl, hown, hb⟩
    obtain ⟨ma, mc, rfl, hm1, -, hm3⟩ := owns_ints hown
    have hnl := nailZ_le l
    rw [hnl] at hm3
    have hmc := hm3.1
    have HS3 := Lib.hid (HS2.out.later hb)
    have HM2 := Lib.hid (beside_start (B := w.heap.size) hown hm1 ((HS2.out.1.lt w.heap.size rfl).2))
    clear hown hb hm1 hm3
    rw [hnl]
    obtain ⟨V, hV⟩ : ∃ V, V = ((w3.alloc (.cells (bools fun _ => false) 43)).setRow w3.heap.size (bools t)) := ⟨_, rfl⟩
    have hbV : Below w3.heap.size w3 V := by rw [hV]; exact below_setRow ((Below.refl _ _).alloc (Nat.le_refl _) _) (Nat.le_refl _) _
    have hTV : Tab V w3.heap.size t := by rw [hV]; exact tab_row (heap_alloc_new _ _)
    have HSV := Lib.hid (HS3.out.later hbV)
    have HMV2 := Lib.hid (HM2.out.later hbV)
    have HTV : Hid (TabBy w3.heap.size t (.slice (some ⟨w.heap.size, 0, none⟩) 0 0) V) := Lib.hid ⟨hTV, fun e => by have e2 : w.heap.size = w3.heap.size := Option.some.inj e; have := (HS3.out.1.lt w.heap.size rfl).2; omega⟩
    clear hbV hTV
    rw [bools_zero] at hV
    go_wp2_with (first | (refine wpList_store_row rfl 43 _ _ rfl w3.heap.size (bools t) rfl rfl 43 _ (heap_alloc_new _ _) info64 (by rw [bools_size]; rfl) (bools_one _) ?_))
    rw [← hV]
    clear hV
    go_loopw [8, 11] (fun u i wr => ∃ j : Nat, j ≤ l.length ∧ i = .int .i64 j ∧ Coll (keepTo F l j) w.heap.size w u wr ∧ Beside ma (nailZ l) u wr ∧ TabBy w3.heap.size t u wr) (fun _ i _ => 8 - (intOf i).toNat)
    case atStart => exact ⟨0, Nat.zero_le _, rfl, HSV.out, HMV2.out, HTV.out⟩
    case round =>
      obtain ⟨j, hj, rfl, hrel, hm3, htb⟩ := hrel
      have HK := Lib.hid hrel
      have HM3 := Lib.hid hm3
      have HT3 := Lib.hid htb
      have HTB := Lib.hid htb.1
      have hle := keepTo_le F l j
      clear hrel hm3 htb
      by_cases hlt : j < l.length
      · obtain ⟨p, hp⟩ := at_some l j hlt
        have HST := Lib.hid (keepTo_step (f := F) hp)
        obtain ⟨b0, o0, rfl, hcell⟩ := HM3.out.1 j _ (nailZ_at hp)
        have hp6 := HMEM.out p (List.mem_of_getElem? hp)
        have hu := Plain.or_lt g2 hp6
        obtain ⟨L, hL⟩ : ∃ L, L = keepTo F l j := ⟨_, rfl⟩
        rw [← hL] at HK HST hle
        obtain ⟨u9, hu9⟩ : ∃ u, u = S ||| 2 ^ p := ⟨_, rfl⟩
        have HOUT : Hid (∀ V, Calls Try.prog 49 #[.int .i64 (S : Int), .int .i64 ((p : Int) + 1)] V fun e w' => e = .returned (.int .i64 (u9 : Int)) ∧ V = w') := Lib.hid (fun V => by rw [hu9]; exact l9Out_any S p (2 ^ p) V g2 hp6 (pow_nat p))
        have HF : Hid (F p = (!t u9 && !Plain.keepV t m u9)) := Lib.hid (by rw [HFF.out, hu9]; rfl)
        rw [← hu9] at hu
        have hq := HTB.out.cell hu
        have hi : (j : Int) < (l.length : Int) := by omega
        have hi00 : (0 : Int) ≤ (j : Int) := by omega
        have hi2 : (u9 : Int) < 64 := by omega
        have hi3 : (0 : Int) ≤ (u9 : Int) := by omega
        clear hp hL hu9
        go_wp2_with fail
        refine (HOUT.out _).mono ?_
        rintro e w' ⟨rfl, rfl⟩
        cases htu : t u9 with
        | true =>
          rw [htu] at hq
          have HFV : Hid (F p = false) := Lib.hid (by rw [HF.out, htu]; rfl)
          have HN : Hid (keepTo F l (j + 1) = L) := Lib.hid (by rw [HST.out]; exact if_neg (by rw [HFV.out]; simp))
          clear htu HST
          go_wp2_with (first | (refine wpList_load9_if rfl 43 _ rfl w3.heap.size rfl (bools t) (tab_load HTB.out) ?_))
          go_roundw
          case rel => exact ⟨j + 1, by omega, by go_num, by rw [HN.out]; exact HK.out, HM3.out, HT3.out⟩
          case measure => simp [intOf]; omega
        | false =>
          rw [htu] at hq
          have HTU := Lib.hid htu
          clear htu
          go_wp2_with (first | (refine wpList_load9_if rfl 43 _ rfl w3.heap.size rfl (bools t) (tab_load HTB.out) ?_))
          refine (l9Keep_any t N m hN HM 6 u9 (Plain.cnt_le _ _) hu _).mono ?_
          cases hv : Plain.keepV t m u9 with
          | true =>
            rintro e w9 ⟨rfl, hb⟩
            have HK4 := Lib.hid (HK.out.later hb)
            have HM4 := Lib.hid (HM3.out.later hb)
            have HT4 := Lib.hid (HT3.out.later hb)
            have HFV : Hid (F p = false) := Lib.hid (by rw [HF.out, HTU.out, hv]; rfl)
            have HN : Hid (keepTo F l (j + 1) = L) := Lib.hid (by rw [HST.out]; exact if_neg (by rw [HFV.out]; simp))
            clear hb hv HST
            go_wp2_with (first | (refine wpList_load9_if rfl 43 _ rfl w3.heap.size rfl (bools t) (tab_load HTB.out) ?_))
            go_roundw
            case rel => exact ⟨j + 1, by omega, by go_num, by rw [HN.out]; exact HK4.out, HM4.out, HT4.out⟩
            case measure => simp [intOf]; omega
          | false =>
            rintro e w9 ⟨rfl, hb⟩
            have HK4 := Lib.hid (HK.out.later hb)
            have HM4 := Lib.hid (HM3.out.later hb)
            have HT4 := Lib.hid (HT3.out.later hb)
            have hcell4 := cell_later hb hcell
            have HFV : Hid (F p = true) := Lib.hid (by rw [HF.out, HTU.out, hv]; rfl)
            have HN : Hid (keepTo F l (j + 1) = L ++ [(p : Int) + 1]) := Lib.hid (by rw [HST.out]; exact if_pos (HFV.out))
            clear hb hv HST hcell hq
            go_wp2_with (first | (refine wpList_load9_if rfl 43 _ rfl w3.heap.size rfl (bools t) (tab_load HTB.out) ?_) | (at_builtin; refine wpList_append_own_at _ rfl _ _ 22 rfl w.heap.size 3 i0 (.int .i64 0) 1 8 Try.underlying22 hi0 hz0 hz1 hz2 rfl (by decide) _ _ _ rfl (HK4.out.1.alloc _) ⟨w9.heap.size, 0, none⟩ 1 1 [.int .i64 ((p : Int) + 1)] rfl rfl ?c1 ?c2 ?c3 ?c4 ?c5 ?_))
            case c1 => exact cell_one_new _ _ _
            case c2 => simp [Value.oneCell']
            case c3 => unfold maxLen; omega
            case c4 => omega
            case c5 => exact Nat.le_trans HK4.out.2.2 (by simp)
            intro v' w5 hown' hgrow _ hat
            have hR := Lib.hid (coll_push (x := (p : Int) + 1) HK4.out hown' hgrow)
            have HM5 := Lib.hid (HM4.out.push hgrow hat)
            have HT5 := Lib.hid (HT4.out.push hgrow hat)
            clear hown' hgrow hat
            go_wp2_with fail
            go_roundw
            case rel => exact ⟨j + 1, by omega, by go_num, by rw [HN.out]; exact hR.out, HM5.out, HT5.out⟩
            case measure => simp [intOf]; omega
      · obtain rfl : j = l.length := by omega
        have HR := Lib.hid (coll_res HK.out)
        go_wp2_with fail
        go_ret2
        exact ⟨_, rfl, HR.out.1, HR.out.2⟩

end Go.Proofs.Ytecbfndgdmpacaa
