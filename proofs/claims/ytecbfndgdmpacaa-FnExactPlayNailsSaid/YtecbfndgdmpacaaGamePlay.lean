/- Contracts: PlayNails of both programs. Conditions: numbers of 64 bits, lengths that fit. -/
import Derived.Test.YtecbfndgdmpacaaGameSpec
import Derived.Test.YtecbfndgdmpacaaContI
namespace Go.Proofs.Ytecbfndgdmpacaa
open Go.ChangeShapes Go.WideShapes Go.ChangeAt Go.RowKit
set_option linter.unusedVariables false

/-- A nail that can be taken out now. -/
def okM (t : Nat → Bool) (m S : Nat) (x : Int) : Bool := decide (x ∈ nailZ (Plain.movesG t m true S))
def play (t : Nat → Bool) (m : Nat) : List Int → Nat → Nat × Nat
  | [], S => (S, 0)
  | x :: l, S => if okM t m S x = true then ((play t m l (S ||| 2 ^ (x.toNat - 1))).1, (play t m l (S ||| 2 ^ (x.toNat - 1))).2 + 1) else (S, 0)
theorem okM_nail {t : Nat → Bool} {m S : Nat} {x : Int} (h : okM t m S x = true) : ∃ p : Nat, p < 6 ∧ x = (p : Int) + 1 ∧ p ∈ Plain.inP m S := by
  unfold okM at h
  rw [decide_eq_true_eq] at h
  obtain ⟨p, hp, rfl⟩ := mem_nailZ h
  have := Plain.movesG_in hp
  exact ⟨p, (Plain.mem_inP.1 this).1, rfl, this⟩
theorem play_drop {t : Nat → Bool} {m S j : Nat} {l : List Int} {x : Int} (h : l[j]? = some x) : play t m (l.drop j) S = if okM t m S x = true then ((play t m (l.drop (j + 1)) (S ||| 2 ^ (x.toNat - 1))).1, (play t m (l.drop (j + 1)) (S ||| 2 ^ (x.toNat - 1))).2 + 1) else (S, 0) := by
  have hlt := at_lt h
  rw [List.drop_eq_getElem_cons hlt, show l[j] = x from by rw [List.getElem?_eq_getElem hlt] at h; exact Option.some.inj h]
  rfl
theorem play_end {t : Nat → Bool} {m S j : Nat} {l : List Int} (h : l.length ≤ j) : play t m (l.drop j) S = (S, 0) := by rw [List.drop_of_length_le h]; rfl
/-- What is left to play from number j on, set S being out. -/
def PlayAt (t : Nat → Bool) (m : Nat) (ls : List Int) (E K j S : Nat) : Prop := (play t m (ls.drop j) S).1 = E ∧ (play t m (ls.drop j) S).2 + j = K
theorem PlayAt.next {t : Nat → Bool} {m : Nat} {ls : List Int} {E K j S : Nat} {x : Int} (h : PlayAt t m ls E K j S) (hx : ls[j]? = some x) (ho : okM t m S x = true) : PlayAt t m ls E K (j + 1) (S ||| 2 ^ (x.toNat - 1)) := by
  obtain ⟨h1, h2⟩ := h
  rw [play_drop hx, if_pos ho] at h1 h2
  exact ⟨h1, by simp only at h2; omega⟩
theorem PlayAt.stop {t : Nat → Bool} {m : Nat} {ls : List Int} {E K j S : Nat} {x : Int} (h : PlayAt t m ls E K j S) (hx : ls[j]? = some x) (ho : okM t m S x = false) : S = E ∧ j = K := by
  obtain ⟨h1, h2⟩ := h
  rw [play_drop hx, if_neg (by rw [ho]; simp)] at h1 h2
  exact ⟨h1, by simp only at h2; omega⟩
theorem PlayAt.done {t : Nat → Bool} {m : Nat} {ls : List Int} {E K S : Nat} (h : PlayAt t m ls E K ls.length S) : S = E ∧ ls.length = K := by
  obtain ⟨h1, h2⟩ := h
  rw [play_end (Nat.le_refl _)] at h1 h2
  exact ⟨h1, by simp only at h2; omega⟩
def playE (xs : List Int) (n s : Int) (ls : List Int) : Nat := if gameB xs n s = true then (play (Plain.fallsB xs) (2 ^ n.toNat - 1) ls s.toNat).1 else 0
def playK (xs : List Int) (n s : Int) (ls : List Int) : Nat := if gameB xs n s = true then (play (Plain.fallsB xs) (2 ^ n.toNat - 1) ls s.toNat).2 else 0
set_option maxRecDepth 100000 in
set_option maxHeartbeats 3200000 in
theorem implPlayNails_any (a b : Option Addr) (cap cap2 : Nat) (xs ls : List Int) (n s : Int) (w : World) (h : Hid (Ints w a xs)) (h2 : Hid (Ints w b ls)) (h64 : Hid (In64 xs)) (h642 : Hid (In64 ls)) (hl : xs.length ≤ 9223372036854775807) (hl2 : ls.length ≤ 1048576) (hnr : -9223372036854775808 ≤ n ∧ n ≤ 9223372036854775807) (hs : -9223372036854775808 ≤ s ∧ s ≤ 9223372036854775807) : Calls Try.prog 41 #[.slice a xs.length cap, .int .i64 n, .int .i64 s, .slice b ls.length cap2] w (Val (.tuple #[.int .i64 (playE xs n s ls : Int), .int .i64 (playK xs n s ls : Int), .bool (gameB xs n s)]) w) := by
  cases hg : gameB xs n s with
  | false =>
    have HPV := Lib.hid (posV2_no hg)
    have HN : Hid (playE xs n s ls = 0 ∧ playK xs n s ls = 0) := Lib.hid (by unfold playE playK; rw [hg]; exact ⟨rfl, rfl⟩)
    rw [HN.out.1, HN.out.2]
    clear hg
    go_enter Try.func41, Try.ntmps41
    go_wp2_with fail
    refine (positionOf_any a cap xs n s _ h h64 hl hs).mono ?_
    rw [HPV.out]
    rintro e w1 ⟨rfl, hb1⟩
    obtain ⟨h1, h22⟩ := pos_box w w1 (fun _ => false) 0 0 hb1
    obtain ⟨V, hV⟩ : ∃ V, V = ((w1.alloc (.cells Try.zeroCells52 52)).setRow w1.heap.size (posC (fun _ => false) 0 0)) := ⟨_, rfl⟩
    have HB : Hid (Below w.heap.size w V) := Lib.hid (by rw [hV, ← posZ_zero]; exact h22)
    clear h1 h22 hb1
    go_wp2_with (first | (refine wpList_store_row rfl 52 _ _ rfl w1.heap.size (posC (fun _ => false) 0 0) rfl rfl 52 _ (heap_alloc_new _ _) (infoPosC _ _ _) (by rw [← posZ_zero]) (posC_one _ _ _) ?_))
    rw [hV] at HB
    go_ret3
    exact ⟨rfl, HB.out⟩
  | true =>
    obtain ⟨g1, g2, g3, g4, g5, g6, g7, g8, g9⟩ := game_small hg
    obtain ⟨t, ht⟩ : ∃ t, t = Plain.fallsB xs := ⟨_, rfl⟩
    obtain ⟨m, hm⟩ : ∃ m, m = 2 ^ n.toNat - 1 := ⟨_, rfl⟩
    obtain ⟨S, hS⟩ : ∃ S, S = s.toNat := ⟨_, rfl⟩
    have HPV := Lib.hid (posV2_yes hg)
    rw [← ht, ← hm, ← hS] at HPV
    rw [← hm] at g1
    rw [← hS] at g2
    rw [← ht, ← hS] at g9
    obtain ⟨E, hE⟩ : ∃ E, E = playE xs n s ls := ⟨_, rfl⟩
    obtain ⟨K, hK⟩ : ∃ K, K = playK xs n s ls := ⟨_, rfl⟩
    have HPL : Hid (PlayAt t m ls E K 0 S) := Lib.hid (by rw [hE, hK, ht, hm, hS]; unfold playE playK PlayAt; rw [hg, if_pos rfl, if_pos rfl, List.drop_zero]; exact ⟨rfl, rfl⟩)
    rw [← hE, ← hK]
    clear hg ht hm hS hE hK g3 g4 g5 g6 g7 g8 g9
    go_enter Try.func41, Try.ntmps41
    go_wp2_with fail
    refine (positionOf_any a cap xs n s _ h h64 hl hs).mono ?_
    rw [HPV.out]
    rintro e w1 ⟨rfl, hb1⟩
    have HWZ : Hid (w.heap.size ≤ w1.heap.size) := Lib.hid hb1.size
    obtain ⟨h1, h22⟩ := pos_box w w1 t m S hb1
    have HP := Lib.hid h1
    have HB := Lib.hid h22
    clear h1 h22 hb1
    obtain ⟨V, hV⟩ : ∃ V, V = ((w1.alloc (.cells (posC (fun _ => false) 0 0) 52)).setRow w1.heap.size (posC t m S)) := ⟨_, rfl⟩
    rw [← hV] at HP HB
    rw [posZ_zero] at hV
    go_wp2_with (first | (refine wpList_store_row rfl 52 _ _ rfl w1.heap.size (posC t m S) rfl rfl 52 _ (heap_alloc_new _ _) (infoPosC _ _ _) (by rw [← posZ_zero, posC_size, posC_size]) (posC_one _ _ _) ?_))
    rw [← hV]
    clear hV
    have HW1 : Hid (w.heap.size ≤ w1.heap.size) := HWZ
    go_loopw [13, 27] (fun u i wr => ∃ j S' : Nat, j ≤ ls.length ∧ i = .int .i64 j ∧ u = .int .i64 j ∧ S' < 64 ∧ PlayAt t m ls E K j S' ∧ PosAt wr w1.heap.size t m S' ∧ Below w.heap.size w wr) (fun _ i _ => ls.length - (intOf i).toNat)
    case atStart => exact ⟨0, S, Nat.zero_le _, rfl, rfl, g2, HPL.out, HP.out, HB.out⟩
    case round =>
      obtain ⟨j, S', hj, rfl, rfl, hS', hpl, hp, hb⟩ := hrel
      have HPL2 := Lib.hid hpl
      have HP2 := Lib.hid hp
      have HB2 := Lib.hid hb
      have q1 := hp.out
      clear hpl hp hb
      by_cases hlt : j < ls.length
      · obtain ⟨x, hx⟩ := at_some ls j hlt
        obtain ⟨b0, o0, rfl, hc0⟩ := h2.out j x hx
        have hcell : wr.cell? ⟨b0, o0 + j, none⟩ = some (.int .i64 x) := (HB2.out.cell (p := ⟨b0, o0 + j, none⟩) (block_lt_of_cell hc0)).trans hc0
        have HX := Lib.hid hx
        have hi : (j : Int) < (ls.length : Int) := by omega
        have hi0 : (0 : Int) ≤ (j : Int) := by omega
        have hml := moves_le t m true S'
        clear hx hc0
        go_wp2_with (first | (refine wpList_load_row rfl 52 _ rfl w1.heap.size rfl 52 (posC t m S') (0, 0) _ HP2.out Try.underlying52 rfl (infoPosC _ _ _) ?_))
        refine (nailsIn_any t m S' _ g1 hS').mono ?_
        rintro e w2 ⟨v, rfl, hown, hb⟩
        obtain ⟨va, vc, rfl, hvi, -⟩ := owns_ints hown
        have HVI := Lib.hid hvi
        have HP3 := Lib.hid (HP2.out.on hb)
        have HB3 := Lib.hid (HB2.out.trans (hb.mono HB2.out.size))
        have q3 := HP3.out.out
        clear hown hb hvi
        go_wp2_with fail
        refine (contains9_any va vc _ x _ HVI (by rw [nailZ_le]; omega)).mono ?_
        cases hok : okM t m S' x with
        | true =>
          rw [show decide (x ∈ nailZ (Plain.movesG t m true S')) = true from hok]
          rintro e w' ⟨rfl, hq⟩
          have hq := hq.symm
          subst hq
          obtain ⟨p, hp6, rfl, -⟩ := okM_nail hok
          have HNX := Lib.hid (HPL2.out.next HX.out hok)
          rw [show ((p : Int) + 1).toNat - 1 = p by omega] at HNX
          have hu := Plain.or_lt hS' hp6
          clear hok
          go_wp2_with (first | (refine wpList_load_row rfl 52 _ rfl w1.heap.size rfl 52 (posC t m S') (0, 0) _ HP3.out Try.underlying52 rfl (infoPosC _ _ _) ?_))
          refine (behind_any t m S' p _ hS' hp6).mono ?_
          rintro e w3 ⟨rfl, hb⟩
          have HP4 := Lib.hid (HP3.out.on hb)
          have HB4 := Lib.hid (HB3.out.trans (hb.mono HB3.out.size))
          have HP5 := Lib.hid (posAt_row (t := t) (m := m) (s := S' ||| 2 ^ p) HP4.out)
          have HB5 : Hid (Below w.heap.size w (w3.setRow w1.heap.size (posC t m (S' ||| 2 ^ p)))) := Lib.hid (below_setRow HB4.out HW1.out _)
          clear hb q1 q3
          go_wp2_with (first | (refine wpList_store_row rfl 52 _ _ rfl w1.heap.size (posC t m (S' ||| 2 ^ p)) rfl rfl 52 _ HP4.out (infoPosC _ _ _) (by rw [posC_size, posC_size]) (posC_one _ _ _) ?_))
          go_roundw
          case rel => exact ⟨j + 1, S' ||| 2 ^ p, by omega, by go_num, by go_num, hu, HNX.out, HP5.out, HB5.out⟩
          case measure => simp [intOf]; omega
        | false =>
          rw [show decide (x ∈ nailZ (Plain.movesG t m true S')) = false from hok]
          rintro e w' ⟨rfl, hq⟩
          have hq := hq.symm
          subst hq
          have HE := Lib.hid (HPL2.out.stop HX.out hok)
          clear hok
          go_wp2_with fail
          go_ret3
          exact ⟨by rw [HE.out.1, HE.out.2]; rfl, HB3.out⟩
      · obtain rfl : j = ls.length := by omega
        have HE := Lib.hid HPL2.out.done
        go_wp2_with fail
        go_ret3
        exact ⟨by rw [HE.out.1, HE.out.2]; rfl, HB2.out⟩
theorem ok_spec {t : Nat → Bool} {n S : Nat} {x : Int} (hn : n ≤ 6) : okM t (2 ^ n - 1) S x = (decide (1 ≤ x ∧ x ≤ (n : Int)) && !S.testBit (x.toNat - 1) && !t S) := by
  rw [Bool.eq_iff_iff, Bool.and_eq_true, Bool.and_eq_true, decide_eq_true_eq, Bool.not_eq_true', Bool.not_eq_true']
  unfold okM
  rw [decide_eq_true_eq]
  constructor
  · intro h
    obtain ⟨p, hp, rfl⟩ := mem_nailZ h
    obtain ⟨h1, h2, h3⟩ := Plain.mem_inP.1 (Plain.movesG_in hp)
    rw [Nat.testBit_two_pow_sub_one, decide_eq_true_eq] at h2
    refine ⟨⟨⟨by omega, by omega⟩, by rw [show ((p : Int) + 1).toNat - 1 = p by omega]; exact h3⟩, ?_⟩
    unfold Plain.movesG at hp
    cases ht : t S with
    | false => rfl
    | true => rw [ht] at hp; simp at hp
  · rintro ⟨⟨⟨h1, h2⟩, h3⟩, h4⟩
    unfold nailZ Plain.movesG
    rw [h4]
    refine List.mem_map.2 ⟨x.toNat - 1, ?_, by omega⟩
    simp only [Bool.false_eq_true, if_false, if_true]
    exact Plain.mem_inP.2 ⟨by omega, by rw [Nat.testBit_two_pow_sub_one]; simp; omega, h3⟩

set_option maxRecDepth 100000 in
set_option maxHeartbeats 3200000 in
theorem specPlayNails_any (a b : Option Addr) (cap cap2 : Nat) (xs ls : List Int) (n s : Int) (w : World) (h : Hid (Ints w a xs)) (h2 : Hid (Ints w b ls)) (h64 : Hid (In64 xs)) (h642 : Hid (In64 ls)) (hl : xs.length ≤ 9223372036854775807) (hl2 : ls.length ≤ 1048576) (hnr : -9223372036854775808 ≤ n ∧ n ≤ 9223372036854775807) (hs : -9223372036854775808 ≤ s ∧ s ≤ 9223372036854775807) : Calls Try.prog 40 #[.slice a xs.length cap, .int .i64 n, .int .i64 s, .slice b ls.length cap2] w (Val (.tuple #[.int .i64 (playE xs n s ls : Int), .int .i64 (playK xs n s ls : Int), .bool (gameB xs n s)]) w) := by
  cases hg : gameB xs n s with
  | false =>
    have HN : Hid (playE xs n s ls = 0 ∧ playK xs n s ls = 0) := Lib.hid (by unfold playE playK; rw [hg]; exact ⟨rfl, rfl⟩)
    rw [HN.out.1, HN.out.2]
    have HG := Lib.hid hg
    clear hg
    go_enter Try.func40, Try.ntmps40
    go_wp2_with fail
    refine (l9Good_any a cap xs n s _ h h64 hl hnr hs).mono ?_
    rw [HG.out]
    rintro e w1 ⟨rfl, hb⟩
    have HB := Lib.hid hb
    clear hb
    go_wp2_with fail
    go_ret3
    exact ⟨rfl, HB.out⟩
  | true =>
    obtain ⟨g1, g2, g3, g4, g5, g6, g7, g8, g9⟩ := game_small hg
    have HG := Lib.hid hg
    obtain ⟨N, rfl⟩ : ∃ N : Nat, n = (N : Int) := ⟨n.toNat, by omega⟩
    obtain ⟨S, rfl⟩ : ∃ S : Nat, s = (S : Int) := ⟨s.toNat, by omega⟩
    rw [Int.toNat_natCast] at g2
    have hN : N ≤ 6 := by omega
    have hl3 := (Plain.wordB_iff.1 g7).1
    have HL := Lib.hid (Plain.wordB_iff.1 g7).2
    obtain ⟨t, ht⟩ : ∃ t, t = Plain.fallsB xs := ⟨_, rfl⟩
    have HT := Lib.hid ht
    obtain ⟨E, hE⟩ : ∃ E, E = playE xs (N : Int) (S : Int) ls := ⟨_, rfl⟩
    obtain ⟨K, hK⟩ : ∃ K, K = playK xs (N : Int) (S : Int) ls := ⟨_, rfl⟩
    have HPL : Hid (PlayAt t (2 ^ N - 1) ls E K 0 S) := Lib.hid (by rw [hE, hK, ht]; unfold playE playK PlayAt; rw [hg, if_pos rfl, if_pos rfl, List.drop_zero, Int.toNat_natCast, Int.toNat_natCast]; exact ⟨rfl, rfl⟩)
    rw [← hE, ← hK]
    have hnl : (1 : Int) ≤ (N : Int) := by omega
    have hnh : (N : Int) ≤ 6 := by omega
    clear hg ht hE hK g1 g3 g4 g5 g6 g7 g8 g9
    go_enter Try.func40, Try.ntmps40
    go_wp2_with fail
    refine (l9Good_any a cap xs N S _ h h64 hl hnr hs).mono ?_
    rw [HG.out]
    rintro e w1 ⟨rfl, hb⟩
    have HB := Lib.hid hb
    clear hb
    go_wp2_with fail
    go_loopw [2, 11] (fun u i wr => ∃ j S' : Nat, j ≤ ls.length ∧ i = .int .i64 j ∧ u = .int .i64 S' ∧ S' < 64 ∧ PlayAt t (2 ^ N - 1) ls E K j S' ∧ Below w.heap.size w wr) (fun _ i _ => ls.length - (intOf i).toNat)
    case atStart => exact ⟨0, S, Nat.zero_le _, rfl, rfl, g2, HPL.out, HB.out⟩
    case round =>
      obtain ⟨j, S', hj, rfl, rfl, hS', hpl, hb⟩ := hrel
      have HPL2 := Lib.hid hpl
      have HB2 := Lib.hid hb
      clear hpl hb
      by_cases hlt : j < ls.length
      · obtain ⟨x, hx⟩ := at_some ls j hlt
        obtain ⟨b0, o0, rfl, hc0⟩ := h2.out j x hx
        have hcell : wr.cell? ⟨b0, o0 + j, none⟩ = some (.int .i64 x) := (HB2.out.cell (p := ⟨b0, o0 + j, none⟩) (block_lt_of_cell hc0)).trans hc0
        have HX := Lib.hid hx
        have hx64 := h642.out j x hx
        have hi : (j : Int) < (ls.length : Int) := by omega
        have hi0 : (0 : Int) ≤ (j : Int) := by omega
        have HOK := Lib.hid (ok_spec (t := t) (S := S') (x := x) hN)
        clear hx hc0
        by_cases hin : 1 ≤ x ∧ x ≤ (N : Int)
        · have hd : decide (1 ≤ x ∧ x ≤ (N : Int)) = true := by simpa using hin
          have HD := Lib.hid hd
          obtain ⟨p, rfl⟩ : ∃ p : Nat, x = (p : Int) + 1 := ⟨x.toNat - 1, by omega⟩
          have hp5 : p ≤ 5 := by omega
          have hpe : ((p : Int) + 1).toNat - 1 = p := by omega
          cases htb : S'.testBit p with
          | true =>
            have HE := Lib.hid (HPL2.out.stop HX.out (by rw [HOK.out, hpe, htb]; simp))
            have HTB := Lib.hid htb
            clear htb hd hpe hin
            go_wp2_with fail
            refine (l1In_any _ 1 N _ hx64).mono ?_
            rw [HD.out]
            rintro e w' ⟨rfl, rfl⟩
            go_wp2_with fail
            refine (l3In_any S' p _ hS' hp5).mono ?_
            rw [HTB.out]
            rintro e w' ⟨rfl, rfl⟩
            go_wp2_with fail
            go_ret3
            exact ⟨by rw [HE.out.1, HE.out.2]; rfl, HB2.out⟩
          | false =>
            have HTB := Lib.hid htb
            have HIX : Hid (Ints wr a xs) := Lib.hid (fun j x hx => by obtain ⟨b, o, e, hc⟩ := h.out j x hx; exact ⟨b, o, e, (HB2.out.cell (p := ⟨b, o + j, none⟩) (block_lt_of_cell hc)).trans hc⟩)
            cases hts : t S' with
            | true =>
              have HE := Lib.hid (HPL2.out.stop HX.out (by rw [HOK.out, hts]; simp))
              have HTS := Lib.hid hts
              clear htb hd hpe hin hts
              go_wp2_with fail
              refine (l1In_any _ 1 N _ hx64).mono ?_
              rw [HD.out]
              rintro e w' ⟨rfl, rfl⟩
              go_wp2_with fail
              refine (l3In_any S' p _ hS' hp5).mono ?_
              rw [HTB.out]
              rintro e w' ⟨rfl, rfl⟩
              go_wp2_with fail
              refine (l3Falls_any a cap xs S' _ HIX HL (by omega) hS').mono ?_
              rw [← HT.out, HTS.out]
              rintro e w3 ⟨rfl, hb⟩
              have HB3 := Lib.hid (HB2.out.trans (hb.mono HB2.out.size))
              clear hb
              go_wp2_with fail
              go_ret3
              exact ⟨by rw [HE.out.1, HE.out.2]; rfl, HB3.out⟩
            | false =>
              have HNX := Lib.hid (HPL2.out.next HX.out (by rw [HOK.out, hpe, htb, hts, hd]; rfl))
              rw [hpe] at HNX
              have HTS := Lib.hid hts
              have hu := Plain.or_lt hS' (show p < 6 by omega)
              have HOUT : Hid (∀ V, Calls Try.prog 49 #[.int .i64 (S' : Int), .int .i64 ((p : Int) + 1)] V fun e w' => e = .returned (.int .i64 ((S' ||| 2 ^ p : Nat) : Int)) ∧ V = w') := Lib.hid (fun V => l9Out_any S' p (2 ^ p) V hS' (by omega) (pow_nat p))
              obtain ⟨u9, hu9⟩ : ∃ u, u = S' ||| 2 ^ p := ⟨_, rfl⟩
              rw [← hu9] at HOUT HNX hu
              clear htb hd hpe hin hts hu9
              go_wp2_with fail
              refine (l1In_any _ 1 N _ hx64).mono ?_
              rw [HD.out]
              rintro e w' ⟨rfl, rfl⟩
              go_wp2_with fail
              refine (l3In_any S' p _ hS' hp5).mono ?_
              rw [HTB.out]
              rintro e w' ⟨rfl, rfl⟩
              go_wp2_with fail
              refine (l3Falls_any a cap xs S' _ HIX HL (by omega) hS').mono ?_
              rw [← HT.out, HTS.out]
              rintro e w3 ⟨rfl, hb⟩
              have HB3 := Lib.hid (HB2.out.trans (hb.mono HB2.out.size))
              have hcell3 := cell_later hb hcell
              clear hb hcell
              go_wp2_with fail
              refine (HOUT.out _).mono ?_
              rintro e w' ⟨rfl, rfl⟩
              go_wp2_with fail
              go_roundw
              case rel => exact ⟨j + 1, u9, by omega, by go_num, rfl, hu, HNX.out, HB3.out⟩
              case measure => simp [intOf]; omega
        · have hd : decide (1 ≤ x ∧ x ≤ (N : Int)) = false := by simpa using hin
          have HD := Lib.hid hd
          have HE := Lib.hid (HPL2.out.stop HX.out (by rw [HOK.out, hd]; rfl))
          clear hd hin
          go_wp2_with fail
          refine (l1In_any _ 1 N _ hx64).mono ?_
          rw [HD.out]
          rintro e w' ⟨rfl, rfl⟩
          go_wp2_with fail
          go_ret3
          exact ⟨by rw [HE.out.1, HE.out.2]; rfl, HB2.out⟩
      · obtain rfl : j = ls.length := by omega
        have HE := Lib.hid HPL2.out.done
        go_wp2_with fail
        go_ret3
        exact ⟨by rw [HE.out.1, HE.out.2]; rfl, HB2.out⟩
theorem bothPlayNails (xs : List Int) (h64 : Hid (In64 xs)) (hn : xs.length ≤ 1048576) (n : Int) (h1 : -9223372036854775808 ≤ n) (h2 : n ≤ 9223372036854775807) (s : Int) (h3 : -9223372036854775808 ≤ s) (h4 : s ≤ 9223372036854775807) (ls : List Int) (h642 : Hid (In64 ls)) (hn2 : ls.length ≤ 1048576) : ∃ (e k : Int) (c : Bool), 
    (∀ a cap b cap2 w, Hid (Ints w a xs) → Hid (Ints w b ls) → Calls Try.prog 40 #[.slice a xs.length cap, .int .i64 n, .int .i64 s, .slice b ls.length cap2] w (Val (.tuple #[.int .i64 e, .int .i64 k, .bool c]) w)) ∧
    (∀ a cap b cap2 w, Hid (Ints w a xs) → Hid (Ints w b ls) → Calls Try.prog 41 #[.slice a xs.length cap, .int .i64 n, .int .i64 s, .slice b ls.length cap2] w (Val (.tuple #[.int .i64 e, .int .i64 k, .bool c]) w)) :=
  ⟨_, _, _, fun a cap b cap2 w h h5 => specPlayNails_any a b cap cap2 xs ls n s w h h5 h64 h642 (by omega) hn2 ⟨h1, h2⟩ ⟨h3, h4⟩, fun a cap b cap2 w h h5 => implPlayNails_any a b cap cap2 xs ls n s w h h5 h64 h642 (by omega) hn2 ⟨h1, h2⟩ ⟨h3, h4⟩⟩

end Go.Proofs.Ytecbfndgdmpacaa
