/- Contracts: spec.LeftWord, LeftLength, l4Length, BalancedLength. Conditions: numbers of 64 bits, lengths that fit. -/
import Derived.Test.YtmcbaejgimopmaaGreatNailList
namespace Go.Proofs.YtmcbaejgimopmaaGreat
open Go.ChangeShapes Go.WideShapes Go.ChangeAt Go.RowKit
set_option linter.unusedVariables false

theorem take_one {ns : List Int} {x : Int} (h : ns[0]? = some x) : ns.take 1 = [x] := by
  cases ns with
  | nil => simp at h
  | cons y t => simp at h; subst h; rfl
def nailW (ns out : List Int) : List Int := if Plain.nailsOk ns = true then short out else []
def nailW_B (ns out : List Int) : Bool := Plain.nailsOk ns && shortB out
theorem nailW_yes {ns out : List Int} (h : Plain.nailsOk ns = true) : nailW ns out = short out ∧ nailW_B ns out = shortB out := by simp [nailW, nailW_B, h]
theorem nailW_no {ns out : List Int} (h : Plain.nailsOk ns = false) : nailW ns out = [] ∧ nailW_B ns out = false := by simp [nailW, nailW_B, h]
theorem nailW_le (ns out : List Int) : (nailW ns out).length ≤ 64 := by
  unfold nailW
  split
  · exact short_le out
  · simp
theorem ints_one (W : World) (x : Int) : Ints (W.alloc (.cells #[.int .i64 x] 3)) (some ⟨W.heap.size, 0, none⟩) [x] := fun j y hy => by
  cases j with
  | succ j => simp at hy
  | zero =>
    simp at hy
    subst hy
    refine ⟨W.heap.size, 0, rfl, ?_⟩
    rw [cell_of_row _ W.heap.size 0 _ _ _ (heap_alloc_new W _)]
    rfl
theorem own_one (W : World) (x : Int) {B : Nat} (hB : B ≤ W.heap.size) (n : Nat) : Own B (W.alloc (.cells #[.int .i64 x] 3)) (some ⟨W.heap.size, 0, none⟩) n :=
  .inr ⟨W.heap.size, 0, rfl, hB, by simp, fun j => frozen_of_row _ W.heap.size j _ _ (heap_alloc_new W _)⟩
set_option maxRecDepth 100000 in
set_option maxHeartbeats 1000000 in
theorem specLeftWord_any (a : Option Addr) (cap : Nat) (ns : List Int) (w : World) (h : Hid (Ints w a ns)) (hcp : Hid (Cap a ns.length cap)) (h64 : Hid (In64 ns)) (hn : ns.length ≤ 9223372036854775807) :
    Calls Tryz.prog 11 #[.slice a ns.length cap] w (SB (nailW ns (Plain.leftTo ns (ns.length - 1))) (nailW_B ns (Plain.leftTo ns (ns.length - 1))) w) := by
  cases hw : Plain.nailsOk ns with
  | false =>
    have HE := Lib.hid (nailW_no (out := Plain.leftTo ns (ns.length - 1)) hw)
    have HW := Lib.hid hw
    clear hw
    go_enter Tryz.func11, Tryz.ntmps11
    go_wp2_with fail
    refine (l4Nails_any _ _ ns _ h hcp h64 hn).mono ?_
    rw [HW.out]
    rintro e w1 ⟨rfl, hb⟩
    have HB := Lib.hid hb
    have HS := Lib.hid (coll_res (coll_start w1))
    clear hb
    go_wp2_with fail
    go_ret2
    exact sb_eq HE.out.1 HE.out.2 ⟨_, rfl, HS.out.1.mono HB.out.size, HB.out.trans (HS.out.2.mono HB.out.size)⟩
  | true =>
    have HE := Lib.hid (nailW_yes (out := Plain.leftTo ns (ns.length - 1)) hw)
    have HW := Lib.hid hw
    obtain ⟨hlen1, hlen6⟩ := (Plain.nailsOk_iff.1 hw).1
    have HL := Lib.hid (Plain.nailsOk_letters hw).1
    obtain ⟨x0, hx0⟩ := at_some ns 0 (by omega)
    have HX0 := Lib.hid hx0
    clear hw
    go_enter Tryz.func11, Tryz.ntmps11
    go_wp2_with fail
    refine (l4Nails_any _ _ ns _ h hcp h64 hn).mono ?_
    rw [HW.out]
    rintro e w1 ⟨rfl, hb⟩
    have HB := Lib.hid hb
    have HI := Lib.hid (h.out.on hb)
    obtain ⟨b, o, rfl, hc0⟩ := HI.out 0 x0 hx0
    rw [Nat.add_zero] at hc0
    have hp : (0 : Int) < (ns.length : Int) := by omega
    have hp1 : 0 < ns.length := by omega
    clear hb hx0
    go_wp2_with fail
    have HB1 := Lib.hid (HB.out.alloc HB.out.size (.cells #[.int .i64 x0] 3))
    have HI1 := Lib.hid (HI.out.on ((Below.refl w1.heap.size w1).alloc (Nat.le_refl _) (.cells #[.int .i64 x0] 3)))
    have HO := Lib.hid (ints_one w1 x0)
    have HOw := Lib.hid (own_one w1 x0 HB.out.size 1)
    generalize (w1.alloc (.cells #[.int .i64 x0] 3)) = W at HB1 HI1 HO HOw ⊢
    go_loopw [4, 5] (fun v i wr => ∃ (k : Nat) (a1 : Option Addr) (c1 : Nat), k < ns.length ∧ i = .int .i64 ((k : Int) + 1) ∧ v = .slice a1 (Plain.leftTo ns k).length c1 ∧ Ints wr a1 (Plain.leftTo ns k) ∧ Own w.heap.size wr a1 (Plain.leftTo ns k).length ∧ Cap a1 (Plain.leftTo ns k).length c1 ∧ Ints wr (some ⟨b, o, none⟩) ns ∧ Below w.heap.size w wr) (fun _ i _ => ns.length + 1 - (intOf i).toNat)
    case atStart =>
      have e : Plain.leftTo ns 0 = [x0] := take_one HX0.out
      exact ⟨0, some ⟨w1.heap.size, 0, none⟩, 1, by omega, rfl, by rw [e]; rfl, by rw [e]; exact HO.out, by rw [e]; exact HOw.out, by rw [e]; exact cap_copy _ (Nat.le_of_ble_eq_true rfl), HI1.out, HB1.out⟩
    case round =>
      obtain ⟨k, a1, c1, hk, rfl, rfl, hI1, hO1, hC1, hI2, hB2⟩ := hrel
      have hll := Plain.leftTo_le ns k
      have hl94 := Plain.leftLen_le (k := k) (by omega)
      have hl5 : Plain.leftLen k ≤ 94 := by
        have h1 := Plain.leftLen_pow k
        have h2 : 2 ^ k ≤ 2 ^ 5 := Nat.pow_le_pow_right (by decide) (by omega)
        omega
      have HLk := Lib.hid (Plain.Letters.leftTo HL.out k hk)
      obtain ⟨L, hL⟩ : ∃ L, L = Plain.leftTo ns k := ⟨_, rfl⟩
      rw [← hL] at hI1 hO1 hC1 hll HLk ⊢
      have I1 := Lib.hid hI1
      have O1 := Lib.hid hO1
      have C1 := Lib.hid hC1
      have I2 := Lib.hid hI2
      have B2 := Lib.hid hB2
      have HLL := Lib.hid hL
      clear hI1 hO1 hC1 hI2 hB2 hL hl94 HO HOw HI1 HB1
      by_cases hlt : k + 1 < ns.length
      · obtain ⟨x, hx⟩ := at_some ns (k + 1) hlt
        obtain ⟨b', o', e', hc⟩ := I2.out (k + 1) x hx
        cases e'
        have HX := Lib.hid (HL.out.at hx)
        have HN : Hid (Plain.leftTo ns (k + 1) = Plain.comm L [x]) := Lib.hid (by rw [Plain.leftTo, ← HLL.out, List.getD_eq_getElem?_getD, hx]; rfl)
        have hi : (k : Int) + 1 < (ns.length : Int) := by omega
        have hi0 : (0 : Int) ≤ (k : Int) + 1 := by omega
        have A1 := Lib.hid (I1.out.on ((Below.refl wr.heap.size wr).alloc (Nat.le_refl _) (.cells #[.int .i64 x] 3)))
        have A2 := Lib.hid (I2.out.on ((Below.refl wr.heap.size wr).alloc (Nat.le_refl _) (.cells #[.int .i64 x] 3)))
        have A3 := Lib.hid (ints_one wr x)
        have A4 := Lib.hid (B2.out.alloc B2.out.size (.cells #[.int .i64 x] 3))
        have HLx : Hid (Plain.Letters [x]) := Lib.hid (fun y hy => by simp only [List.mem_singleton] at hy; subst hy; exact HX.out)
        clear hx
        go_wp2_with fail
        refine (l4Commutator_any a1 (some ⟨wr.heap.size, 0, none⟩) c1 1 L [x] _ A1 C1 A3 (Lib.hid (cap_copy _ (Nat.le_of_ble_eq_true rfl))) HLk HLx (by omega) (by simp)).mono ?_
        rw [← HN.out]
        rintro e w2 ⟨_, rfl, ⟨a5, c5, rfl, hi5, ho5, hk5⟩, hb⟩
        have R := Lib.hid (And.intro hi5 (And.intro (ho5.mono A4.out.size) (And.intro hk5 (And.intro (A2.out.on hb) (A4.out.trans (hb.mono A4.out.size))))))
        clear hi5 ho5 hk5 hb A1 A2 A3 A4
        go_wp2_with fail
        go_roundw
        case rel => exact ⟨k + 1, a5, c5, by omega, by go_num, rfl, R.out.1, R.out.2.1, R.out.2.2.1, R.out.2.2.2.1, R.out.2.2.2.2⟩
        case measure => simp [intOf]; omega
      · have hke : ns.length - 1 = k := by omega
        rw [hke, ← HLL.out] at HE
        have hi : ¬ (k : Int) + 1 < (ns.length : Int) := by omega
        go_wp2_with fail
        refine (l2Short_any a1 c1 L _ I1 w.heap.size O1 C1 B2.out.size (by omega)).mono ?_
        rintro e w2 ⟨v, rfl, hr, hb⟩
        have R := Lib.hid (And.intro hr (B2.out.trans (hb.mono B2.out.size)))
        clear hr hb
        go_wp2_with fail
        go_ret2
        exact sb_eq (by rw [hke, ← HLL.out]; exact HE.out.1) (by rw [hke, ← HLL.out]; exact HE.out.2) ⟨_, rfl, R.out.1, R.out.2⟩

/-! lengths -/
def lenB (n : Int) : Bool := decide (1 ≤ n ∧ n ≤ 40)
def leftL (n : Int) : Nat := if lenB n = true then Plain.leftLen (n.toNat - 1) else 0
theorem leftL_yes {n : Int} (h : lenB n = true) : leftL n = Plain.leftLen (n.toNat - 1) := if_pos h
theorem leftL_no {n : Int} (h : lenB n = false) : leftL n = 0 := if_neg (by rw [h]; simp)
theorem val_nb {a a' : Nat} {c c' : Bool} {w w' : World} {e : Ending} (h1 : a = a') (h2 : c = c') (h : Val (.tuple #[.int .i64 (a : Int), .bool c]) w e w') : Val (.tuple #[.int .i64 (a' : Int), .bool c']) w e w' := by subst h1; subst h2; exact h
theorem len_nat {n : Int} (h : lenB n = true) : ∃ p : Nat, n = (p : Int) ∧ 1 ≤ p ∧ p ≤ 40 := by
  have h' : 1 ≤ n ∧ n ≤ 40 := by simpa [lenB] using h
  exact ⟨n.toNat, by omega, by omega, by omega⟩
set_option maxHeartbeats 400000 in
theorem specLeftLength_any (n : Int) (w : World) (hr : -9223372036854775808 ≤ n ∧ n ≤ 9223372036854775807) :
    Calls Tryz.prog 18 #[.int .i64 n] w (Val (.tuple #[.int .i64 (leftL n : Nat), .bool (lenB n)]) w) := by
  cases hs : lenB n with
  | false =>
    have HE := Lib.hid (leftL_no hs)
    have HN : Hid (decide (1 ≤ n ∧ n ≤ 40) = false) := Lib.hid hs
    have HR := Lib.hid hr
    clear hs hr
    go_enter Tryz.func18, Tryz.ntmps18
    go_wp2_with fail
    refine (l1In_any n 1 40 _ HR.out).mono ?_
    rw [HN.out]
    rintro e w' ⟨rfl, rfl⟩
    go_wp2_with fail
    go_ret2
    exact val_nb HE.out.symm rfl ⟨rfl, Below.refl _ _⟩
  | true =>
    have HE0 := leftL_yes hs
    have HR := Lib.hid hr
    obtain ⟨p, rfl, hp1, hp2⟩ := len_nat hs
    have HN : Hid (decide (1 ≤ (p : Int) ∧ (p : Int) ≤ 40) = true) := Lib.hid hs
    rw [Int.toNat_natCast] at HE0
    have HE := Lib.hid HE0
    clear hs hr HE0
    go_enter Tryz.func18, Tryz.ntmps18
    go_wp2_with fail
    refine (l1In_any (p : Int) 1 40 _ HR.out).mono ?_
    rw [HN.out]
    rintro e w' ⟨rfl, rfl⟩
    go_wp2_with fail
    go_loop [4, 5] (fun m i => ∃ k : Nat, k < p ∧ i = .int .i64 ((k : Int) + 1) ∧ m = .int .i64 (Plain.leftLen k : Nat)) (fun _ i => p + 1 - (intOf i).toNat)
    case atStart => exact ⟨0, by omega, rfl, rfl⟩
    case round =>
      obtain ⟨k, hk, rfl, rfl⟩ := hrel
      have hle := Plain.leftLen_le (k := k) (by omega)
      obtain ⟨m, hm⟩ : ∃ m, m = Plain.leftLen k := ⟨_, rfl⟩
      rw [← hm] at hle ⊢
      have HM := Lib.hid hm
      clear hm
      by_cases hlt : k + 1 < p
      · have hi : (k : Int) + 1 < (p : Int) := by omega
        have HN2 : Hid (Plain.leftLen (k + 1) = 2 * m + 2) := Lib.hid (by rw [Plain.leftLen, ← HM.out])
        go_wp2_with fail
        go_round
        case rel => exact ⟨k + 1, by omega, by go_num, by rw [HN2.out]; go_num⟩
        case measure => simp [intOf]; omega
      · have hi : ¬ (k : Int) + 1 < (p : Int) := by omega
        go_wp2_with fail
        go_ret2
        exact val_nb (by rw [HE.out, HM.out, show p - 1 = k by omega]) rfl ⟨rfl, Below.refl _ _⟩

set_option maxHeartbeats 400000 in
theorem l4Length_any (f : Nat) : ∀ (n : Nat) (w : World), f ≤ 20 → 1 ≤ n → n ≤ 2 ^ f →
    Calls Tryz.prog 53 #[.int .i64 (n : Int)] w fun e w' => e = .returned (.int .i64 (Plain.balLen f n : Nat)) ∧ w = w' := by
  induction f with
  | zero =>
    intro n w _ h1 h2
    obtain rfl : n = 1 := by simp at h2; omega
    go_enter Tryz.func53, Tryz.ntmps53
    go_wp2_with fail
    go_ret
    exact ⟨rfl, rfl⟩
  | succ f ih =>
    intro n w hf h1 h2
    by_cases he : n = 1
    · subst he
      go_enter Tryz.func53, Tryz.ntmps53
      go_wp2_with fail
      go_ret
      exact ⟨rfl, rfl⟩
    · have hb1 := Plain.balLen_le f ((n + 1) / 2)
      have hb2 := Plain.balLen_le f (n / 2)
      have hp : 4 ^ f ≤ 4 ^ 20 := Nat.pow_le_pow_right (by decide) (by omega)
      have hp2 : (4 : Nat) ^ 20 = 1099511627776 := by decide
      have hq : 2 ^ (f + 1) ≤ 2 ^ 21 := Nat.pow_le_pow_right (by decide) (by omega)
      have hq2 : (2 : Nat) ^ 21 = 2097152 := by decide
      have hn : n ≤ 2097152 := by omega
      have c1 := fun W => ih ((n + 1) / 2) W (by omega) (by omega) (by rw [Nat.pow_succ] at h2; omega)
      have c2 := fun W => ih (n / 2) W (by omega) (by omega) (by rw [Nat.pow_succ] at h2; omega)
      have HN : Hid (Plain.balLen (f + 1) n = 2 * (Plain.balLen f ((n + 1) / 2) + Plain.balLen f (n / 2))) := Lib.hid (by rw [Plain.balLen, if_neg he])
      obtain ⟨m1, hm1⟩ : ∃ m, m = (n + 1) / 2 := ⟨_, rfl⟩
      obtain ⟨m2, hm2⟩ : ∃ m, m = n / 2 := ⟨_, rfl⟩
      rw [← hm1] at c1 HN hb1
      rw [← hm2] at c2 HN hb2
      obtain ⟨r1, hr1⟩ : ∃ r, r = Plain.balLen f m1 := ⟨_, rfl⟩
      obtain ⟨r2, hr2⟩ : ∃ r, r = Plain.balLen f m2 := ⟨_, rfl⟩
      rw [← hr1] at c1 HN hb1
      rw [← hr2] at c2 HN hb2
      have C1 := Lib.hid c1
      have C2 := Lib.hid c2
      have hd1 : ((n : Int) + 1) / 2 = (m1 : Int) := by omega
      have hd2 : (n : Int) / 2 = (m2 : Int) := by omega
      have hne : ((n : Int) == 1) = false := by simp; omega
      have hr1b : r1 ≤ 1099511627776 := by omega
      have hr2b : r2 ≤ 1099511627776 := by omega
      clear ih c1 c2 hm1 hm2 hr1 hr2 hb1 hb2 hp hp2 hq hq2 h2
      go_enter Tryz.func53, Tryz.ntmps53
      go_wp2_with fail
      refine (C1.out _).mono ?_
      rintro e w' ⟨rfl, rfl⟩
      go_wp2_with fail
      refine (C2.out _).mono ?_
      rintro e w' ⟨rfl, rfl⟩
      go_wp2_with fail
      go_ret
      exact ⟨ret_int (by rw [HN.out]; omega), rfl⟩
def balL (n : Int) : Nat := if lenB n = true then Plain.balLen 6 n.toNat else 0
theorem balL_yes {n : Int} (h : lenB n = true) : balL n = Plain.balLen 6 n.toNat := if_pos h
theorem balL_no {n : Int} (h : lenB n = false) : balL n = 0 := if_neg (by rw [h]; simp)
set_option maxHeartbeats 400000 in
theorem specBalancedLength_any (n : Int) (w : World) (hr : -9223372036854775808 ≤ n ∧ n ≤ 9223372036854775807) :
    Calls Tryz.prog 21 #[.int .i64 n] w (Val (.tuple #[.int .i64 (balL n : Nat), .bool (lenB n)]) w) := by
  cases hs : lenB n with
  | false =>
    have HE := Lib.hid (balL_no hs)
    have HN : Hid (decide (1 ≤ n ∧ n ≤ 40) = false) := Lib.hid hs
    have HR := Lib.hid hr
    clear hs hr
    go_enter Tryz.func21, Tryz.ntmps21
    go_wp2_with fail
    refine (l1In_any n 1 40 _ HR.out).mono ?_
    rw [HN.out]
    rintro e w' ⟨rfl, rfl⟩
    go_wp2_with fail
    go_ret2
    exact val_nb HE.out.symm rfl ⟨rfl, Below.refl _ _⟩
  | true =>
    have HE0 := balL_yes hs
    have HR := Lib.hid hr
    obtain ⟨p, rfl, hp1, hp2⟩ := len_nat hs
    have HN : Hid (decide (1 ≤ (p : Int) ∧ (p : Int) ≤ 40) = true) := Lib.hid hs
    rw [Int.toNat_natCast] at HE0
    have HE := Lib.hid HE0
    clear hs hr HE0
    go_enter Tryz.func21, Tryz.ntmps21
    go_wp2_with fail
    refine (l1In_any (p : Int) 1 40 _ HR.out).mono ?_
    rw [HN.out]
    rintro e w' ⟨rfl, rfl⟩
    go_wp2_with fail
    refine (l4Length_any 6 p _ (by omega) hp1 (by omega)).mono ?_
    rintro e w' ⟨rfl, rfl⟩
    go_wp2_with fail
    go_ret2
    exact val_nb HE.out.symm rfl ⟨rfl, Below.refl _ _⟩

end Go.Proofs.YtmcbaejgimopmaaGreat
