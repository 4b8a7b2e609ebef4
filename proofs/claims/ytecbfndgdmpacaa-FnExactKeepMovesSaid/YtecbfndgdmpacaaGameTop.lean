/- Contracts: impl's canWin, CanDrop, CanKeep, KeepNumber. Conditions: numbers of 64 bits, lengths that fit. -/
import Derived.Test.YtecbfndgdmpacaaGameImpl
import Derived.Deep.Quiet
namespace Go.Proofs.Ytecbfndgdmpacaa
open Go.ChangeShapes Go.WideShapes Go.ChangeAt Go.RowKit Go.Maps
set_option linter.unusedVariables false

/-- What a region that begins a game knows: ahead of the game, behind it. -/
def Q0 (w : World) (h : Nat) (t : Nat → Bool) (m s : Nat) (V : World) : Prop := Below w.heap.size w V ∧ PosAt V h t m s
def Q1 (w : World) (h : Nat) (t : Nat → Bool) (m s : Nat) (k : Bool) (b : Nat) (V : World) : Prop := Below w.heap.size w V ∧ PosAt V h t m s ∧ w.heap.size ≤ b ∧ Gm t m k V b 0
theorem Q0.drew {w : World} {h : Nat} {t : Nat → Bool} {m s : Nat} {V : World} (q : Q0 w h t m s V) : Q0 w h t m s V.drew := ⟨q.1.drew, q.2⟩
theorem q_game {w : World} {h : Nat} {t : Nat → Bool} {m s : Nat} (k : Bool) (V : World) (q : Q0 w h t m s V) : Calls Try.prog 54 #[.int .i64 (kindOf k)] V fun e V2 => ∃ b, e = .returned (.agg (gameC (fOf k) b)) ∧ Q1 w h t m s k b V2 :=
  (newGame_any t m k V).mono fun e V2 ⟨b, h1, h2, h3, h4⟩ => ⟨b, h1, q.1.trans (h2.mono q.1.size), q.2.on h2, Nat.le_trans q.1.size h3, h4⟩
theorem grown_past {w V V2 : World} {b : Nat} (h : Below w.heap.size w V) (hg : V.grownBy V2 (some b)) (hb : w.heap.size ≤ b) : Below w.heap.size w V2 := h.grown hg h.size (fun j hj => by cases hj; exact hb)
def canB (xs : List Int) (n s : Int) (k : Bool) : Bool := gameB xs n s && winB (Plain.fallsB xs) (2 ^ n.toNat - 1) k s.toNat
set_option maxRecDepth 100000 in
set_option maxHeartbeats 1600000 in
theorem canWin_any (k : Bool) (a : Option Addr) (cap : Nat) (xs : List Int) (n s : Int) (w : World) (h : Hid (Ints w a xs)) (h64 : Hid (In64 xs)) (hl : xs.length ≤ 9223372036854775807) (hs : -9223372036854775808 ≤ s ∧ s ≤ 9223372036854775807) :
    Calls Try.prog 47 #[.slice a xs.length cap, .int .i64 n, .int .i64 s, .int .i64 (kindOf k)] w (Val (.tuple #[.bool (canB xs n s k), .bool (gameB xs n s)]) w) := by
  cases hg : gameB xs n s with
  | false =>
    have HPV := Lib.hid (posV2_no hg)
    rw [show canB xs n s k = false by unfold canB; rw [hg]; rfl]
    clear hg
    go_enter Try.func47, Try.ntmps47
    go_wp2_with fail
    refine (positionOf_any a cap xs n s _ h h64 hl hs).mono ?_
    rw [HPV.out]
    rintro e w1 ⟨rfl, hb1⟩
    obtain ⟨h1, h2⟩ := pos_box w w1 (fun _ => false) 0 0 hb1
    obtain ⟨V, hV⟩ : ∃ V, V = ((w1.alloc (.cells Try.zeroCells52 52)).setRow w1.heap.size (posC (fun _ => false) 0 0)) := ⟨_, rfl⟩
    have HB : Hid (Below w.heap.size w V) := Lib.hid (by rw [hV, ← posZ_zero]; exact h2)
    clear h1 h2 hb1
    go_wp2_with (first | (refine wpList_store_row rfl 52 _ _ rfl w1.heap.size (posC (fun _ => false) 0 0) rfl rfl 52 _ (heap_alloc_new _ _) (infoPosC _ _ _) (by rw [← posZ_zero]) (posC_one _ _ _) ?_))
    rw [← hV]
    clear hV
    refine wp_region_quiet_lit (by kernel_rfl) (by kernel_rfl) ?_
    repeat
      (with_reducible refine wpQuiet_step (fun K hK => ?_)
       go_simp
       first
         | (refine hK _ ?_; clear hK K)
         | (apply Exists.intro
            refine ⟨fun _ => ?_, hK _ ?_⟩
            fail
            clear hK K))
    refine wpQuiet_nil ?_
    rintro _ ⟨nq, rfl⟩
    go_wp2_with fail
    go_ret2
    exact val_bb rfl rfl ⟨rfl, below_drewN HB.out _⟩
  | true =>
    obtain ⟨g1, g2, g3, g4, g5, g6, g7, g8, g9⟩ := game_small hg
    obtain ⟨t, ht⟩ : ∃ t, t = Plain.fallsB xs := ⟨_, rfl⟩
    obtain ⟨m, hm⟩ : ∃ m, m = 2 ^ n.toNat - 1 := ⟨_, rfl⟩
    obtain ⟨S, hS⟩ : ∃ S, S = s.toNat := ⟨_, rfl⟩
    have HPV := Lib.hid (posV2_yes hg)
    rw [← ht, ← hm, ← hS] at HPV
    rw [← hm] at g1
    rw [← hS] at g2
    rw [← ht, ← hS] at g9
    obtain ⟨v, hv⟩ : ∃ v, v = canB xs n s k := ⟨_, rfl⟩
    have HV : Hid (winB t m k S = v) := Lib.hid (by rw [hv, ht, hm, hS]; unfold canB; rw [hg]; rfl)
    rw [← hv]
    clear hg ht hm hS hv g3 g4 g5 g6 g7 g8 g9
    go_enter Try.func47, Try.ntmps47
    go_wp2_with fail
    refine (positionOf_any a cap xs n s _ h h64 hl hs).mono ?_
    rw [HPV.out]
    rintro e w1 ⟨rfl, hb1⟩
    obtain ⟨h1, h2⟩ := pos_box w w1 t m S hb1
    have HP := Lib.hid h1
    have HB := Lib.hid h2
    clear h1 h2 hb1
    obtain ⟨V, hV⟩ : ∃ V, V = ((w1.alloc (.cells (posC (fun _ => false) 0 0) 52)).setRow w1.heap.size (posC t m S)) := ⟨_, rfl⟩
    rw [← hV] at HP HB
    rw [posZ_zero] at hV
    go_wp2_with (first | (refine wpList_store_row rfl 52 _ _ rfl w1.heap.size (posC t m S) rfl rfl 52 _ (heap_alloc_new _ _) (infoPosC _ _ _) (by rw [← posZ_zero, posC_size, posC_size]) (posC_one _ _ _) ?_))
    rw [← hV]
    clear hV
    refine wp_region_any (by kernel_rfl) ?_
    change wpAny _ _ _ _ _ _ _ (World.drew _)
    refine rgWin t m w1.heap.size S (kindOf k) (fOf k) (Q0 w w1.heap.size t m S) (Q1 w w1.heap.size t m S k) (fun r V => r = .bool v ∧ Below w.heap.size w V) _ _ _ _ _ _ _ _ _ _ _ _ _ _ _ _ _ _ _ _ _ _ _ _ _ _ ⟨fun V q => q_game k V q, fun b V q => ?_, fun V q => pos_load q.2, fun b V q => pos_load q.2.1, fun r V b hq => ?_⟩ _ (Lib.hid (Q0.drew ⟨HB.out, HP.out⟩)) _ (by kernel_rfl)
    · refine (wins_any t m k b S g1 g2 V 0 (Lib.hid q.2.2.2) (by omega)).mono ?_
      rintro e V2 ⟨rfl, h1, h2⟩
      exact ⟨_, rfl, by rw [HV.out], grown_past q.1 h1 q.2.2.1⟩
    · obtain ⟨rfl, hb⟩ := hq
      have HB9 := Lib.hid hb
      clear hb
      go_wp2_with fail
      go_ret2
      exact val_bb rfl rfl ⟨rfl, HB9.out⟩
theorem implCanDrop_any (a : Option Addr) (cap : Nat) (xs : List Int) (n s : Int) (w : World) (h : Hid (Ints w a xs)) (h64 : Hid (In64 xs)) (hl : xs.length ≤ 9223372036854775807) (hs : -9223372036854775808 ≤ s ∧ s ≤ 9223372036854775807) : Calls Try.prog 17 #[.slice a xs.length cap, .int .i64 n, .int .i64 s] w (Val (.tuple #[.bool (canB xs n s true), .bool (gameB xs n s)]) w) := by
  have HC : Hid (Calls Try.prog 47 #[.slice a xs.length cap, .int .i64 n, .int .i64 s, .int .i64 0] w (Val (.tuple #[.bool (canB xs n s true), .bool (gameB xs n s)]) w)) := Lib.hid (canWin_any true a cap xs n s w h h64 hl hs)
  go_enter Try.func17, Try.ntmps17
  go_wp2_with fail
  refine HC.out.mono ?_
  rintro e w1 ⟨rfl, hb⟩
  have HB := Lib.hid hb
  clear hb
  go_wp2_with fail
  go_ret2
  exact val_bb rfl rfl ⟨rfl, HB.out⟩
theorem implCanKeep_any (a : Option Addr) (cap : Nat) (xs : List Int) (n s : Int) (w : World) (h : Hid (Ints w a xs)) (h64 : Hid (In64 xs)) (hl : xs.length ≤ 9223372036854775807) (hs : -9223372036854775808 ≤ s ∧ s ≤ 9223372036854775807) : Calls Try.prog 24 #[.slice a xs.length cap, .int .i64 n, .int .i64 s] w (Val (.tuple #[.bool (canB xs n s false), .bool (gameB xs n s)]) w) := by
  have HC : Hid (Calls Try.prog 47 #[.slice a xs.length cap, .int .i64 n, .int .i64 s, .int .i64 1] w (Val (.tuple #[.bool (canB xs n s false), .bool (gameB xs n s)]) w)) := Lib.hid (canWin_any false a cap xs n s w h h64 hl hs)
  go_enter Try.func24, Try.ntmps24
  go_wp2_with fail
  refine HC.out.mono ?_
  rintro e w1 ⟨rfl, hb⟩
  have HB := Lib.hid hb
  clear hb
  go_wp2_with fail
  go_ret2
  exact val_bb rfl rfl ⟨rfl, HB.out⟩
def numW (xs : List Int) (n s : Int) : Nat := if gameB xs n s = true then Plain.num (Plain.fallsB xs) (2 ^ n.toNat - 1) false s.toNat else 0
set_option maxRecDepth 100000 in
set_option maxHeartbeats 1600000 in
theorem implKeepNumber_any (a : Option Addr) (cap : Nat) (xs : List Int) (n s : Int) (w : World) (h : Hid (Ints w a xs)) (h64 : Hid (In64 xs)) (hl : xs.length ≤ 9223372036854775807) (hs : -9223372036854775808 ≤ s ∧ s ≤ 9223372036854775807) : Calls Try.prog 28 #[.slice a xs.length cap, .int .i64 n, .int .i64 s] w (Val (.tuple #[.int .i64 (numW xs n s : Int), .bool (gameB xs n s)]) w) := by
  cases hg : gameB xs n s with
  | false =>
    have HPV := Lib.hid (posV2_no hg)
    have HN : Hid (numW xs n s = 0) := Lib.hid (by unfold numW; rw [hg]; rfl)
    rw [HN.out]
    clear hg
    go_enter Try.func28, Try.ntmps28
    go_wp2_with fail
    refine (positionOf_any a cap xs n s _ h h64 hl hs).mono ?_
    rw [HPV.out]
    rintro e w1 ⟨rfl, hb1⟩
    obtain ⟨h1, h2⟩ := pos_box w w1 (fun _ => false) 0 0 hb1
    obtain ⟨V, hV⟩ : ∃ V, V = ((w1.alloc (.cells Try.zeroCells52 52)).setRow w1.heap.size (posC (fun _ => false) 0 0)) := ⟨_, rfl⟩
    have HB : Hid (Below w.heap.size w V) := Lib.hid (by rw [hV, ← posZ_zero]; exact h2)
    clear h1 h2 hb1
    go_wp2_with (first | (refine wpList_store_row rfl 52 _ _ rfl w1.heap.size (posC (fun _ => false) 0 0) rfl rfl 52 _ (heap_alloc_new _ _) (infoPosC _ _ _) (by rw [← posZ_zero]) (posC_one _ _ _) ?_))
    rw [hV] at HB
    go_ret2
    exact ⟨rfl, HB.out⟩
  | true =>
    obtain ⟨g1, g2, g3, g4, g5, g6, g7, g8, g9⟩ := game_small hg
    obtain ⟨t, ht⟩ : ∃ t, t = Plain.fallsB xs := ⟨_, rfl⟩
    obtain ⟨m, hm⟩ : ∃ m, m = 2 ^ n.toNat - 1 := ⟨_, rfl⟩
    obtain ⟨S, hS⟩ : ∃ S, S = s.toNat := ⟨_, rfl⟩
    have HPV := Lib.hid (posV2_yes hg)
    rw [← ht, ← hm, ← hS] at HPV
    rw [← hm] at g1
    rw [← hS] at g2
    rw [← ht, ← hS] at g9
    obtain ⟨v, hv⟩ : ∃ v, v = numW xs n s := ⟨_, rfl⟩
    have HV : Hid (Plain.num t m false S = v) := Lib.hid (by rw [hv, ht, hm, hS]; unfold numW; rw [hg]; rfl)
    rw [← hv]
    clear hg ht hm hS hv g3 g4 g5 g6 g7 g8 g9
    go_enter Try.func28, Try.ntmps28
    go_wp2_with fail
    refine (positionOf_any a cap xs n s _ h h64 hl hs).mono ?_
    rw [HPV.out]
    rintro e w1 ⟨rfl, hb1⟩
    obtain ⟨h1, h2⟩ := pos_box w w1 t m S hb1
    have HP := Lib.hid h1
    have HB := Lib.hid h2
    clear h1 h2 hb1
    obtain ⟨V, hV⟩ : ∃ V, V = ((w1.alloc (.cells (posC (fun _ => false) 0 0) 52)).setRow w1.heap.size (posC t m S)) := ⟨_, rfl⟩
    rw [← hV] at HP HB
    rw [posZ_zero] at hV
    go_wp2_with (first | (refine wpList_store_row rfl 52 _ _ rfl w1.heap.size (posC t m S) rfl rfl 52 _ (heap_alloc_new _ _) (infoPosC _ _ _) (by rw [← posZ_zero, posC_size, posC_size]) (posC_one _ _ _) ?_))
    rw [← hV]
    clear hV
    refine wp_region_any (by kernel_rfl) ?_
    change wpAny _ _ _ _ _ _ _ (World.drew _)
    refine rgKeep t m w1.heap.size S (fOf false) (Q0 w w1.heap.size t m S) (Q1 w w1.heap.size t m S false) (fun r V => r = .int .i64 (v : Int) ∧ Below w.heap.size w V) _ _ _ _ _ _ _ _ _ _ _ _ _ _ _ _ _ _ _ _ _ _ _ ⟨fun V q => q_game false V q, fun b V q => ?_, fun V q => pos_load q.2, fun b V q => pos_load q.2.1, fun r V b hq => ?_⟩ _ (Lib.hid (Q0.drew ⟨HB.out, HP.out⟩)) _ (by kernel_rfl)
    · refine (number_any t m false (gOf false) b g1 (Lib.hid (moves_of t m false g1)) 6 S (Plain.cnt_le _ _) g2 V 0 (Lib.hid q.2.2.2) (by omega)).mono ?_
      rintro e V2 ⟨rfl, h1, h2⟩
      exact ⟨_, rfl, by rw [HV.out], grown_past q.1 h1 q.2.2.1⟩
    · obtain ⟨rfl, hb⟩ := hq
      have HB9 := Lib.hid hb
      clear hb
      go_wp2_with fail
      go_ret2
      exact ⟨rfl, HB9.out⟩

end Go.Proofs.Ytecbfndgdmpacaa
