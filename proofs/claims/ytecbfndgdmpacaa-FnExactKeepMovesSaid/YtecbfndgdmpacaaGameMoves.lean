/- Contracts: impl's game.winningMoves, movesThatWin, DropMoves, KeepMoves. Conditions: numbers of 64 bits, lengths that fit. -/
import Derived.Test.YtecbfndgdmpacaaGameTop
namespace Go.Proofs.Ytecbfndgdmpacaa
open Go.ChangeShapes Go.WideShapes Go.ChangeAt Go.RowKit Go.Maps
set_option linter.unusedVariables false

theorem Gm.cap {t : Nat → Bool} {m : Nat} {k : Bool} {V : World} {b N : Nat} (h : Gm t m k V b N) : Gm t m k V b 64 := by
  obtain ⟨n, D, h1, h2, h3⟩ := h
  exact ⟨64, D, Nat.le_refl _, sound_cap h2 h3, h3⟩
/-- The worlds of a game: only its map has changed, and holds right numbers. -/
def In9 (t : Nat → Bool) (m : Nat) (k : Bool) (W0 : World) (b : Nat) (V : World) : Prop := W0.grownBy V (some b) ∧ Gm t m k V b 64
theorem In9.later {t : Nat → Bool} {m : Nat} {k : Bool} {W0 V V2 : World} {b : Nat} (h : In9 t m k W0 b V) (hb : Below V.heap.size V V2) : In9 t m k W0 b V2 := ⟨but_below h.1 hb, h.2.kept (grown_none hb) (by simp)⟩
theorem In9.set {t : Nat → Bool} {m : Nat} {k : Bool} {W0 V : World} {b : Nat} (h : In9 t m k W0 b V) (hb : b < W0.heap.size) (b' o : Nat) (v : Value) (hB : W0.heap.size ≤ b') : In9 t m k W0 b (V.setCell ⟨b', o, none⟩ v) := by
  obtain ⟨h1, n, D, h2, h3, h4⟩ := h
  have e := (Below.refl W0.heap.size V).setCell (p := ⟨b', o, none⟩) hB v
  refine ⟨⟨e.os.trans h1.os, e.tape.trans h1.tape, e.output.trans h1.output, Nat.le_trans h1.size e.size, fun i hi hn => (e.block i hi).trans (h1.block i hi hn)⟩, n, D, h2, h3.setCell (by show b ≠ b'; omega) _, h4⟩
set_option maxRecDepth 100000 in
set_option maxHeartbeats 1600000 in
theorem losing_any (t : Nat → Bool) (m : Nat) (k : Bool) (W0 : World) (b h s p : Nat) (hm : m < 64) (hs : s < 64) (hp : p < 6) (hb : b < W0.heap.size) (hbh : b ≠ h) (hbh1 : b ≠ h + 1) (HG : Hid (GameAt W0 h (fOf k) b)) (HP : Hid (PosAt W0 (h + 1) t m s)) (V : World) (HI : Hid (In9 t m k W0 b V)) :
    Calls Try.prog 96 #[.int .i64 ((p : Int) + 1), .pointer (some ⟨h, 0, none⟩), .pointer (some ⟨h + 1, 0, none⟩)] V fun e V' => e = .returned (.bool (winB t m k (s ||| 2 ^ p))) ∧ V.grownBy V' (some b) ∧ Gm t m k V' b 64 := by
  have hu := Plain.or_lt hs hp
  have HBH : Hid (∀ V, Calls Try.prog 71 #[.agg (posC t m s), .int .i64 ((p : Int) + 1)] V (Val (.agg (posC t m (s ||| 2 ^ p))) V)) := Lib.hid (fun V => behind_any t m s p V hs hp)
  obtain ⟨u, hu2⟩ : ∃ u, u = s ||| 2 ^ p := ⟨_, rfl⟩
  rw [← hu2] at hu HBH ⊢
  clear hu2
  go_enter Try.func96, Try.ntmps96
  go_wp2_with fail
  refine wp_region_any (by kernel_rfl) ?_
  change wpAny _ _ _ _ _ _ _ (World.drew _)
  refine rgWm t m b h (h + 1) s u p (fOf k) (fun V2 => V.grownBy V2 (some b) ∧ Gm t m k V2 b 64) (fun r V2 => r = .bool (winB t m k u) ∧ V.grownBy V2 (some b) ∧ Gm t m k V2 b 64) _ _ _ _ _ _ _ _ _ ⟨fun V2 q => ?_, fun V2 q => ?_, fun V2 q => ?_, fun V2 q => ?_, fun r V2 hq => ?_⟩ V.drew (Lib.hid (show V.grownBy V.drew (some b) ∧ Gm t m k V.drew b 64 from ⟨⟨rfl, rfl, rfl, Nat.le_refl _, fun _ _ _ => rfl⟩, HI.out.2⟩)) _ (by kernel_rfl)
  · refine (HBH.out V2).mono ?_
    rintro e V3 ⟨rfl, hb3⟩
    exact ⟨rfl, but_below q.1 hb3, q.2.kept (grown_none hb3) (by simp)⟩
  · refine (wins_any t m k b u hm hu V2 64 (Lib.hid q.2) (by omega)).mono ?_
    rintro e V3 ⟨rfl, h1, h2⟩
    exact ⟨_, rfl, rfl, World.grownBy.trans q.1 h1, h2.cap⟩
  · have hg := World.grownBy.trans HI.out.1 q.1
    exact game_load ((hg.block _ (Array.getElem?_eq_some_iff.1 HG.out).1 (by simp; omega)).trans HG.out)
  · have hg := World.grownBy.trans HI.out.1 q.1
    exact pos_load ((hg.block _ HP.out.lt (by simp; omega)).trans HP.out)
  · obtain ⟨rfl, h1, h2⟩ := hq
    have HR := Lib.hid (And.intro h1 h2)
    clear h1 h2
    go_wp2_with fail
    go_ret
    exact ⟨rfl, HR.out⟩
/-- The moves that win. -/
def winL (t : Nat → Bool) (m : Nat) (k : Bool) (s : Nat) : List Nat := (Plain.movesG t m k s).filter fun p => !winB t m k (s ||| 2 ^ p)
set_option maxRecDepth 100000 in
set_option maxHeartbeats 1600000 in
theorem winningMoves_any (t : Nat → Bool) (m : Nat) (k : Bool) (b s : Nat) (hm : m < 64) (hs : s < 64) (W : World) (HM : Hid (Gm t m k W b 64)) :
    Calls Try.prog 79 #[.agg (gameC (fOf k) b), .agg (posC t m s)] W fun e W' => ∃ v, e = .returned v ∧ W'.ownsRow W.heap.size 3 1 v (winL t m k s).length (nums (nailZ (winL t m k s))) ∧ W.grownBy W' (some b) := by
  have hblt := HM.out.lt
  change Calls Try.prog 79 #[.agg (gameC (.func (.func (gOf k)) #[] #[]) b), .agg (posC t m s)] W _
  obtain ⟨W0, hW0⟩ : ∃ W0, W0 = (W.alloc (.cells (gameC (.func (.func (gOf k)) #[] #[]) b) 58)).alloc (.cells (posC t m s) 52) := ⟨_, rfl⟩
  have hz : W0.heap.size = W.heap.size + 2 := by rw [hW0]; simp
  have HZ := Lib.hid hz
  have HGA : Hid (GameAt W0 W.heap.size (.func (.func (gOf k)) #[] #[]) b) := Lib.hid (by rw [hW0]; exact (heap_alloc_old _ _ (by simp)).trans (heap_alloc_new _ _))
  have HPA : Hid (PosAt W0 (W.heap.size + 1) t m s) := Lib.hid (by rw [hW0]; exact heap_alloc2_new _ _ _)
  have HB0 : Hid (Below W.heap.size W W0) := Lib.hid (by rw [hW0]; exact ((Below.refl _ _).alloc (Nat.le_refl _) _).alloc (by simp) _)
  have HM0 : Hid (Gm t m k W0 b 64) := Lib.hid (HM.out.kept (grown_none HB0.out) (by simp))
  obtain ⟨c1, c2⟩ := HGA.out.cells
  have HPR := HPA
  rw [hW0] at c1 c2 HPR
  have hmv := moves_of t m k hm
  have HMV := Lib.hid hmv
  have eg := hmv.enters
  have hle := moves_le t m k s
  clear hmv hz
  go_enter Try.func79, Try.ntmps79
  go_wp2_with (first | (refine wpList_load_row rfl 52 _ rfl (W.heap.size + 1) rfl 52 (posC t m s) (0, 0) _ HPR.out Try.underlying52 rfl (infoPosC _ _ _) ?_))
  rw [← hW0]
  clear hW0 HPR c1 c2
  refine (HMV.out.call s _ hs).mono ?_
  rintro e W2 ⟨v, rfl, hown, hb2⟩
  have HO := Lib.hid hown
  have HI2 : Hid (In9 t m k W0 b W2) := Lib.hid ⟨World.grownBy.but (grown_none hb2) _, HM0.out.kept (grown_none hb2) (by simp)⟩
  have hb0 : b < W0.heap.size := HM0.out.lt
  have HA : Hid (Asks 96 #[] #[.pointer (some ⟨W.heap.size, 0, none⟩), .pointer (some ⟨W.heap.size + 1, 0, none⟩)] (fun x => winB t m k (s ||| 2 ^ (x.toNat - 1))) (nailZ (Plain.movesG t m k s)) W0.heap.size (In9 t m k W0 b)) := Lib.hid {
    enters := enters_of Try.func96 (by kernel_rfl) rfl
    call := fun x V hx hV => by
      obtain ⟨p, hp, rfl⟩ := mem_nailZ hx
      have hp6 := (Plain.mem_inP.1 (Plain.movesG_in hp)).1
      have e : (((p : Int) + 1).toNat - 1) = p := by omega
      refine Calls.mono (losing_any t m k W0 b W.heap.size s p hm hs hp6 hb0 (by omega) (by omega) HGA HPA V (Lib.hid hV)) ?_
      rintro e' V' ⟨rfl, h1, h2⟩
      refine ⟨by rw [e], ⟨World.grownBy.trans hV.1 h1, h2⟩, some b, h1, fun j hj => by cases hj; exact hb0⟩
    set := fun V b' o v hB hV => hV.set hb0 b' o v hB }
  clear hown hb2
  go_wp2_with fail
  refine (deleteI_any 96 #[] #[.pointer (some ⟨W.heap.size, 0, none⟩), .pointer (some ⟨W.heap.size + 1, 0, none⟩)] _ W0.heap.size _ v _ _ HO.out (by rw [nailZ_le]; omega) HA HI2).mono ?_
  rintro e w2 ⟨v2, rfl, hown2, hi2⟩
  rw [keepL_nailZ _ (fun p => !winB t m k (s ||| 2 ^ p)) _ (fun p hp => by simp only [Bool.not_not]; rw [show ((p : Int) + 1).toNat - 1 = p by omega]), nailZ_le] at hown2
  have HO2 := Lib.hid hown2
  have HI3 := Lib.hid hi2.1
  clear hown2 hi2
  go_wp2_with fail
  go_ret
  exact ⟨v2, rfl, World.ownsRow.mono HO2.out HB0.out.size, World.grownBy.trans (World.grownBy.but (grown_none HB0.out) _) HI3.out⟩
def winMW (k : Bool) (xs : List Int) (n s : Int) : List Int := if gameB xs n s = true then nailZ (winL (Plain.fallsB xs) (2 ^ n.toNat - 1) k s.toNat) else []
set_option maxRecDepth 100000 in
set_option maxHeartbeats 1600000 in
theorem movesThatWin_any (k : Bool) (a : Option Addr) (cap : Nat) (xs : List Int) (n s : Int) (w : World) (h : Hid (Ints w a xs)) (h64 : Hid (In64 xs)) (hl : xs.length ≤ 9223372036854775807) (hs : -9223372036854775808 ≤ s ∧ s ≤ 9223372036854775807) :
    Calls Try.prog 50 #[.slice a xs.length cap, .int .i64 n, .int .i64 s, .int .i64 (kindOf k)] w (SB (winMW k xs n s) (gameB xs n s) w) := by
  cases hg : gameB xs n s with
  | false =>
    have HPV := Lib.hid (posV2_no hg)
    rw [show winMW k xs n s = [] by unfold winMW; rw [hg]; rfl]
    clear hg
    go_enter Try.func50, Try.ntmps50
    go_wp2_with fail
    refine (positionOf_any a cap xs n s _ h h64 hl hs).mono ?_
    rw [HPV.out]
    rintro e w1 ⟨rfl, hb1⟩
    obtain ⟨h1, h2⟩ := pos_box w w1 (fun _ => false) 0 0 hb1
    obtain ⟨V, hV⟩ : ∃ V, V = ((w1.alloc (.cells Try.zeroCells52 52)).setRow w1.heap.size (posC (fun _ => false) 0 0)) := ⟨_, rfl⟩
    have HB : Hid (Below w.heap.size w V) := Lib.hid (by rw [hV, ← posZ_zero]; exact h2)
    clear h1 h2 hb1
    go_wp2_with (first | (refine wpList_store_row rfl 52 _ _ rfl w1.heap.size (posC (fun _ => false) 0 0) rfl rfl 52 _ (heap_alloc_new _ _) (infoPosC _ _ _) (by rw [← posZ_zero]) (posC_one _ _ _) ?_))
    rw [hV] at HB
    go_ret2
    exact ⟨_, rfl, res_nil _ _ _, HB.out.alloc HB.out.size _⟩
  | true =>
    obtain ⟨g1, g2, g3, g4, g5, g6, g7, g8, g9⟩ := game_small hg
    obtain ⟨t, ht⟩ : ∃ t, t = Plain.fallsB xs := ⟨_, rfl⟩
    obtain ⟨m, hm⟩ : ∃ m, m = 2 ^ n.toNat - 1 := ⟨_, rfl⟩
    obtain ⟨S, hS⟩ : ∃ S, S = s.toNat := ⟨_, rfl⟩
    have HPV := Lib.hid (posV2_yes hg)
    rw [← ht, ← hm, ← hS] at HPV
    rw [← hm] at g1
    rw [← hS] at g2
    rw [← ht, ← hS] at g9
    rw [show winMW k xs n s = nailZ (winL t m k S) by unfold winMW; rw [hg, if_pos rfl, ← ht, ← hm, ← hS]]
    have hwl : (winL t m k S).length ≤ 6 := Nat.le_trans (List.length_filter_le _ _) (moves_le t m k S)
    have HNL := Lib.hid (nailZ_le (winL t m k S))
    clear hg ht hm hS g3 g4 g5 g6 g7 g8 g9
    go_enter Try.func50, Try.ntmps50
    go_wp2_with fail
    refine (positionOf_any a cap xs n s _ h h64 hl hs).mono ?_
    rw [HPV.out]
    rintro e w1 ⟨rfl, hb1⟩
    obtain ⟨h1, h2⟩ := pos_box w w1 t m S hb1
    have HP := Lib.hid h1
    have HB := Lib.hid h2
    clear h1 h2 hb1
    obtain ⟨V, hV⟩ : ∃ V, V = ((w1.alloc (.cells (posC (fun _ => false) 0 0) 52)).setRow w1.heap.size (posC t m S)) := ⟨_, rfl⟩
    rw [← hV] at HP HB
    rw [posZ_zero] at hV
    go_wp2_with (first | (refine wpList_store_row rfl 52 _ _ rfl w1.heap.size (posC t m S) rfl rfl 52 _ (heap_alloc_new _ _) (infoPosC _ _ _) (by rw [← posZ_zero, posC_size, posC_size]) (posC_one _ _ _) ?_))
    rw [← hV]
    clear hV
    refine wp_region_any (by kernel_rfl) ?_
    change wpAny _ _ _ _ _ _ _ (World.drew _)
    refine rgMoves t m w1.heap.size S (kindOf k) (fOf k) (Q0 w w1.heap.size t m S) (Q1 w w1.heap.size t m S k) (fun r V => V.ownsRow w.heap.size 3 1 r (winL t m k S).length (nums (nailZ (winL t m k S))) ∧ Below w.heap.size w V) _ _ _ _ _ _ _ _ _ _ _ _ _ _ _ _ _ _ _ _ _ _ _ _ _ _ ⟨fun V q => q_game k V q, fun b V q => ?_, fun V q => pos_load q.2, fun b V q => pos_load q.2.1, fun r V b hq => ?_⟩ _ (Lib.hid (Q0.drew ⟨HB.out, HP.out⟩)) _ (by kernel_rfl)
    · refine (winningMoves_any t m k b S g1 g2 V (Lib.hid (q.2.2.2.mono (Nat.zero_le _)))).mono ?_
      rintro e V2 ⟨v, rfl, h1, h2⟩
      exact ⟨v, rfl, World.ownsRow.mono h1 q.1.size, grown_past q.1 h2 q.2.2.1⟩
    · have HR := Lib.hid (owns_ints hq.1)
      have HB9 := Lib.hid hq.2
      clear hq
      go_wp2_with fail
      go_ret2
      exact ⟨r, rfl, HR.out, HB9.out⟩
theorem implDropMoves_any (a : Option Addr) (cap : Nat) (xs : List Int) (n s : Int) (w : World) (h : Hid (Ints w a xs)) (h64 : Hid (In64 xs)) (hl : xs.length ≤ 9223372036854775807) (hs : -9223372036854775808 ≤ s ∧ s ≤ 9223372036854775807) : Calls Try.prog 20 #[.slice a xs.length cap, .int .i64 n, .int .i64 s] w (SB (winMW true xs n s) (gameB xs n s) w) := by
  have HC : Hid (Calls Try.prog 50 #[.slice a xs.length cap, .int .i64 n, .int .i64 s, .int .i64 0] w (SB (winMW true xs n s) (gameB xs n s) w)) := Lib.hid (movesThatWin_any true a cap xs n s w h h64 hl hs)
  go_enter Try.func20, Try.ntmps20
  go_wp2_with fail
  refine HC.out.mono ?_
  rintro e w1 ⟨v, rfl, hr, hb⟩
  have HR := Lib.hid hr
  have HB := Lib.hid hb
  clear hr hb
  go_wp2_with fail
  go_ret2
  exact ⟨v, rfl, HR.out, HB.out⟩
theorem implKeepMoves_any (a : Option Addr) (cap : Nat) (xs : List Int) (n s : Int) (w : World) (h : Hid (Ints w a xs)) (h64 : Hid (In64 xs)) (hl : xs.length ≤ 9223372036854775807) (hs : -9223372036854775808 ≤ s ∧ s ≤ 9223372036854775807) : Calls Try.prog 26 #[.slice a xs.length cap, .int .i64 n, .int .i64 s] w (SB (winMW false xs n s) (gameB xs n s) w) := by
  have HC : Hid (Calls Try.prog 50 #[.slice a xs.length cap, .int .i64 n, .int .i64 s, .int .i64 1] w (SB (winMW false xs n s) (gameB xs n s) w)) := Lib.hid (movesThatWin_any false a cap xs n s w h h64 hl hs)
  go_enter Try.func26, Try.ntmps26
  go_wp2_with fail
  refine HC.out.mono ?_
  rintro e w1 ⟨v, rfl, hr, hb⟩
  have HR := Lib.hid hr
  have HB := Lib.hid hb
  clear hr hb
  go_wp2_with fail
  go_ret2
  exact ⟨v, rfl, HR.out, HB.out⟩

end Go.Proofs.Ytecbfndgdmpacaa
