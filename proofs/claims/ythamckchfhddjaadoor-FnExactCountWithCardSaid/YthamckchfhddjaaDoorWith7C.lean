/- Contracts: CountWith of both. Conditions: the table of greatest lengths lies as the program's text lays it; numbers of 64 bits, lengths that fit. -/
import Derived.Test.YthamckchfhddjaaDoorRule7
import Derived.Test.YthamckchfhddjaaDoorFamOf
namespace Go.Proofs.YthamckchfhddjaaDoor
open Go.ChangeShapes Go.WideShapes Go.ChangeAt Go.RowKit
set_option linter.unusedVariables false

/-- What CountWith answers. -/
def cwB (fs : List Int) (n L : Int) : Bool := Plain.famB fs && listB n L
def cwN (fs : List Int) (n L : Int) : Int := if cwB fs n L = true then cntThat (likeP n.toNat (Plain.hasB fs)) n L else 0
theorem cw_no {fs : List Int} {n L : Int} (h : cwB fs n L = false) : cwN fs n L = 0 := if_neg (by rw [h]; simp)
theorem cw_yes {fs : List Int} {n L : Nat} (h : Plain.famB fs = true) (h2 : listB (n : Int) (L : Int) = true) : cwN fs (n : Int) (L : Int) = (((Plain.allB (2 * n) L).countP (likeP n (Plain.hasB fs)) : Nat) : Int) ∧ cwB fs (n : Int) (L : Int) = true := by
  have hb : cwB fs (n : Int) (L : Int) = true := by simp [cwB, h, h2]
  exact ⟨by rw [cwN, if_pos hb, cntThat_yes h2, Int.toNat_natCast], hb⟩
set_option maxHeartbeats 1600000 in
theorem implCountWith_any (a : Option Addr) (c : Nat) (fs : List Int) (n L : Int) (w : World) (h1 : Hid (Ints w a fs)) (hg : Hid (Listed w)) (n1 : Hid (In64 fs)) (hx : fs.length ≤ 1048576) (hn : -9223372036854775808 ≤ n ∧ n ≤ 9223372036854775807) (hL : -9223372036854775808 ≤ L ∧ L ≤ 9223372036854775807) :
    Calls Tryd.prog 19 #[.agg #[.slice a fs.length c], .int .i64 n, .int .i64 L] w (Val (.tuple #[.int .i64 (cwN fs n L), .bool (cwB fs n L)]) w) := by
  have hb0 := (Below.refl w.heap.size w).alloc (Nat.le_refl _) (.cells #[.slice a fs.length c] 35)
  have hf0 := famAt_new w (.slice a fs.length c)
  have hcf := hf0.cell
  have H0 := Lib.hid (And.intro hb0 (And.intro (h1.out.on hb0) (And.intro hf0 (hg.out.on hb0))))
  clear hb0 hf0
  cases hf : Plain.famB fs with
  | false =>
    have hB : cwB fs n L = false := by simp [cwB, hf]
    have HE := Lib.hid (And.intro (cw_no hB) hB)
    have HF := Lib.hid hf
    clear hf hB
    go_enter Tryd.func19, Tryd.ntmps19
    go_wp2_with fail
    obtain ⟨W, hW⟩ : ∃ W, W = w.alloc (.cells #[.slice a fs.length c] 35) := ⟨_, rfl⟩
    rw [← hW] at H0 ⊢
    clear hW hcf
    refine (implIsFamily_any _ _ fs _ (Lib.hid H0.out.2.1) n1 (by omega)).mono ?_
    rw [HF.out]
    rintro e w2 ⟨rfl, hb⟩
    have H2 := Lib.hid (H0.out.1.trans (hb.mono H0.out.1.size))
    clear hb
    go_wp2_with fail
    go_ret2
    exact ⟨ret_ib7 HE.out.1.symm HE.out.2.symm, H2.out⟩
  | true =>
    cases hl : listB n L with
    | false =>
      have hB : cwB fs n L = false := by simp [cwB, hl]
      have HE := Lib.hid (And.intro (cw_no hB) hB)
      have HF := Lib.hid hf
      have HN := Lib.hid hl
      clear hf hl hB
      go_enter Tryd.func19, Tryd.ntmps19
      go_wp2_with fail
      obtain ⟨W, hW⟩ : ∃ W, W = w.alloc (.cells #[.slice a fs.length c] 35) := ⟨_, rfl⟩
      rw [← hW] at H0 ⊢
      clear hW hcf
      refine (implIsFamily_any _ _ fs _ (Lib.hid H0.out.2.1) n1 (by omega)).mono ?_
      rw [HF.out]
      rintro e w2 ⟨rfl, hb⟩
      have H2 := Lib.hid (And.intro (H0.out.1.trans (hb.mono H0.out.1.size)) (H0.out.2.2.2.on hb))
      clear hb
      go_wp2_with fail
      refine (isListed_any n L _ (Lib.hid H2.out.2) hn hL).mono ?_
      rw [HN.out]
      rintro e w' ⟨rfl, rfl⟩
      go_wp2_with fail
      go_ret2
      exact ⟨ret_ib7 HE.out.1.symm HE.out.2.symm, H2.out.1⟩
    | true =>
      obtain ⟨n, L, rfl, rfl, q1, q3, q8, hpow⟩ := list_nat hl
      have HE := Lib.hid (cw_yes (fs := fs) hf hl)
      have HF := Lib.hid hf
      have HSB := Lib.hid (Plain.fam_sets hf)
      have HN := Lib.hid hl
      have HPW := Lib.hid hpow
      clear hf hl hpow
      go_enter Tryd.func19, Tryd.ntmps19
      go_wp2_with fail
      obtain ⟨W, hW⟩ : ∃ W, W = w.alloc (.cells #[.slice a fs.length c] 35) := ⟨_, rfl⟩
      rw [← hW] at H0 ⊢
      clear hW hcf
      refine (implIsFamily_any _ _ fs _ (Lib.hid H0.out.2.1) n1 (by omega)).mono ?_
      rw [HF.out]
      rintro e w2 ⟨rfl, hb⟩
      have H2 := Lib.hid (And.intro (H0.out.1.trans (hb.mono H0.out.1.size)) (And.intro (H0.out.2.1.on hb) (And.intro (H0.out.2.2.1.on hb) (H0.out.2.2.2.on hb))))
      clear hb
      go_wp2_with fail
      refine (isListed_any (n : Int) (L : Int) _ (Lib.hid H2.out.2.2.2) hn hL).mono ?_
      rw [HN.out]
      rintro e w' ⟨rfl, rfl⟩
      have hcg := H2.out.2.2.1.cell
      go_wp2_with fail
      clear hcg
      refine (fallsAs_any 48 #[.agg #[.slice a fs.length c]] #[] (Plain.hasB fs) n _ (enters_of Tryd.func48 (by kernel_rfl) rfl) (by omega) (Lib.hid (fun s W' hs hb => by simpa using has_any a c fs s W' (Lib.hid (H2.out.2.1.on hb)) HSB (by omega) hs))).mono ?_
      rintro e w3 ⟨g1, g2, rfl, hj, hb⟩
      have HJ := Lib.hid hj
      have B3 := Lib.hid (H2.out.1.trans (hb.mono H2.out.1.size))
      clear hj hb
      go_wp2_with fail
      refine (countThat_any 74 #[] #[.pointer (some ⟨g1, 0, none⟩), .pointer (some ⟨g2, 0, none⟩)] (likeP n (Plain.hasB fs)) n L _ (enters_of Tryd.func74 (by kernel_rfl) rfl) HJ q1 q3 q8 HPW.out).mono ?_
      rintro e w4 ⟨rfl, hb⟩
      have HR := Lib.hid (B3.out.trans (hb.mono B3.out.size))
      clear hb
      go_wp2_with fail
      go_ret2
      exact ⟨ret_ib7 HE.out.1.symm HE.out.2.symm, HR.out⟩
set_option maxRecDepth 100000 in
set_option maxHeartbeats 4000000 in
theorem specCountWith_any (a : Option Addr) (c : Nat) (fs : List Int) (n L : Int) (w : World) (h1 : Hid (Ints w a fs)) (n1 : Hid (In64 fs)) (hx : fs.length ≤ 1048576) (hn : -9223372036854775808 ≤ n ∧ n ≤ 9223372036854775807) (hL : -9223372036854775808 ≤ L ∧ L ≤ 9223372036854775807) :
    Calls Tryd.prog 17 #[.agg #[.slice a fs.length c], .int .i64 n, .int .i64 L] w (Val (.tuple #[.int .i64 (cwN fs n L), .bool (cwB fs n L)]) w) := by
  have hb0 := (Below.refl w.heap.size w).alloc (Nat.le_refl _) (.cells #[.slice a fs.length c] 35)
  have hf0 := famAt_new w (.slice a fs.length c)
  have hcf := hf0.cell
  have H0 := Lib.hid (And.intro hb0 (And.intro (h1.out.on hb0) hf0))
  clear hb0 hf0
  cases hf : Plain.famB fs with
  | false =>
    have hB : cwB fs n L = false := by simp [cwB, hf]
    have HE := Lib.hid (And.intro (cw_no hB) hB)
    have HF := Lib.hid hf
    clear hf hB
    go_enter Tryd.func17, Tryd.ntmps17
    go_wp2_with fail
    obtain ⟨W, hW⟩ : ∃ W, W = w.alloc (.cells #[.slice a fs.length c] 35) := ⟨_, rfl⟩
    rw [← hW] at H0 ⊢
    clear hW hcf
    refine (l5Family_any _ _ fs _ (Lib.hid H0.out.2.1) n1 (by omega)).mono ?_
    rw [HF.out]
    rintro e w2 ⟨rfl, hb⟩
    have H2 := Lib.hid (H0.out.1.trans (hb.mono H0.out.1.size))
    clear hb
    go_wp2_with fail
    go_ret2
    exact ⟨ret_ib7 HE.out.1.symm HE.out.2.symm, H2.out⟩
  | true =>
    cases hl : listB n L with
    | false =>
      have hB : cwB fs n L = false := by simp [cwB, hl]
      have HE := Lib.hid (And.intro (cw_no hB) hB)
      have HF := Lib.hid hf
      have HN := Lib.hid hl
      clear hf hl hB
      go_enter Tryd.func17, Tryd.ntmps17
      go_wp2_with fail
      obtain ⟨W, hW⟩ : ∃ W, W = w.alloc (.cells #[.slice a fs.length c] 35) := ⟨_, rfl⟩
      rw [← hW] at H0 ⊢
      clear hW hcf
      refine (l5Family_any _ _ fs _ (Lib.hid H0.out.2.1) n1 (by omega)).mono ?_
      rw [HF.out]
      rintro e w2 ⟨rfl, hb⟩
      have H2 := Lib.hid (H0.out.1.trans (hb.mono H0.out.1.size))
      clear hb
      go_wp2_with fail
      refine (l7Search_any n L _ hn hL).mono ?_
      rw [HN.out]
      rintro e w' ⟨rfl, rfl⟩
      go_wp2_with fail
      go_ret2
      exact ⟨ret_ib7 HE.out.1.symm HE.out.2.symm, H2.out⟩
    | true =>
      obtain ⟨n, L, rfl, rfl, q1, q3, q8, hpow⟩ := list_nat hl
      have HE0 := Lib.hid (cw_yes (fs := fs) hf hl)
      have HF := Lib.hid hf
      have HSB := Lib.hid (Plain.fam_sets hf)
      have HN := Lib.hid hl
      have hall : (Plain.allB (2 * n) L).length ≤ 100000 := Nat.le_trans (allB_len _ _) hpow
      have HOK : Hid (∀ xs ∈ Plain.allB (2 * n) L, Plain.Letters xs ∧ xs.length ≤ 8) := Lib.hid (fun xs hx => by
        have h2 := Plain.allB_mem (m := 2 * n) (by omega) hx
        exact ⟨h2.2, by omega⟩)
      have HALL : Hid (∀ wx, Calls Tryd.prog 33 #[.int .i64 (n : Int), .int .i64 (L : Int)] wx (fun e w' => ∃ v gs, e = .returned v ∧ lists gs = Plain.allB (2 * n) L ∧ CollF 30 gs wx.heap.size wx v w')) := Lib.hid (fun wx => l7All_any n L wx q1 q3 q8 hpow)
      have hcl : Plain.codeTo (Plain.hasB fs) (2 ^ n) < 256 := Nat.lt_of_lt_of_le (Plain.codeTo_lt _ _) (Nat.le_trans (Nat.pow_le_pow_right (by decide) (show 2 ^ n ≤ 8 from Nat.le_trans (Nat.pow_le_pow_right (by decide) q3) (by decide))) (by decide))
      have HLIKE : Hid (∀ xs, likeP n (Plain.hasB fs) xs = decide (Plain.codeTo (Plain.fallsB xs) (2 ^ n) = Plain.codeTo (Plain.hasB fs) (2 ^ n))) := Lib.hid (fun xs => Plain.rule_code (by omega))
      have HRULE : Hid (∀ wx, Ints wx a fs → Calls Tryd.prog 44 #[.agg #[.slice a fs.length c], .int .i64 (n : Int)] wx (Val (.int .i64 ((Plain.codeTo (Plain.hasB fs) (2 ^ n) : Nat) : Int)) wx)) := Lib.hid (fun wx h => l7Rule_any a c fs n wx (Lib.hid h) HSB hx q3)
      obtain ⟨R, hR⟩ : ∃ R, R = Plain.codeTo (Plain.hasB fs) (2 ^ n) := ⟨_, rfl⟩
      rw [← hR] at HLIKE HRULE hcl
      obtain ⟨A, hA⟩ : ∃ A, A = Plain.allB (2 * n) L := ⟨_, rfl⟩
      rw [← hA] at hall HOK HE0 HALL
      clear hf hl hpow hR hA
      go_enter Tryd.func17, Tryd.ntmps17
      go_wp2_with fail
      obtain ⟨W, hW⟩ : ∃ W, W = w.alloc (.cells #[.slice a fs.length c] 35) := ⟨_, rfl⟩
      rw [← hW] at H0 ⊢
      clear hW hcf
      refine (l5Family_any _ _ fs _ (Lib.hid H0.out.2.1) n1 (by omega)).mono ?_
      rw [HF.out]
      rintro e w2 ⟨rfl, hb⟩
      have H2 := Lib.hid (And.intro (H0.out.1.trans (hb.mono H0.out.1.size)) (And.intro (H0.out.2.1.on hb) (H0.out.2.2.on hb)))
      clear hb
      go_wp2_with fail
      refine (l7Search_any (n : Int) (L : Int) _ hn hL).mono ?_
      rw [HN.out]
      rintro e w' ⟨rfl, rfl⟩
      have hcg := H2.out.2.2.cell
      go_upto_region 3 with fail
      go_cut [8, 9, 10] from 21 to 26 (fun m v r wx => m = .int .i64 0 ∧ r = .int .i64 (R : Int) ∧ ∃ gs wa wz, lists gs = A ∧ CollF 30 gs wa.heap.size wa v wz ∧ Below w2.heap.size w2 wa ∧ Below wz.heap.size wz wx)
      case first =>
        have hd : w2.drew.cell? _ = _ := hcg
        have HBd : Hid (Below w2.heap.size w2 w2.drew) := Lib.hid (Below.refl _ _).drew
        go_region_law (go_simp; first
          | (go_at_call 33; refine (HALL.out _).mono ?_; rintro e wy ⟨v1, gs, rfl, hgs, hC⟩; have HC := Lib.hid hC; have HGS := Lib.hid hgs; have HBa := HBd; have HZ := Lib.hid (Below.refl wy.heap.size wy); have HBd := Lib.hid (HBa.out.trans (hC.2.2.1.mono HBa.out.size)); have hd := (H2.out.2.2.on HBd.out).cell; clear hC hgs)
          | (go_at_call 44; refine (HRULE.out _ (H2.out.2.1.on HBd.out)).mono ?_; rintro e wy ⟨rfl, hb⟩; try (have HZ := Lib.hid (HZ.out.trans (hb.mono HZ.out.size))); have HBd := Lib.hid (HBd.out.trans (hb.mono HBd.out.size)); have hd := (H2.out.2.2.on HBd.out).cell; clear hb))
        all_goals
          go_wp2_with fail
          go_meet
          case rel => exact ⟨rfl, rfl, _, _, _, HGS.out, HC.out, HBa.out, HZ.out⟩
      case rest =>
        obtain ⟨rfl, rfl, gs, wa, wz, hgs, hC, hwa, hwz⟩ := hcut
        have hgl : gs.length = A.length := by rw [← lists_length, hgs]
        have hgm : gs.length ≤ 100000 := by omega
        have HGL := Lib.hid hgl
        clear hgl
        have HC := Lib.hid hC
        have HGS := Lib.hid hgs
        have HWZ := Lib.hid hwz
        have hwz2 := hwa.trans (hC.2.2.1.mono hwa.size)
        have HBZ := Lib.hid (H2.out.1.trans ((hwz2.trans (hwz.mono hwz2.size)).mono H2.out.1.size))
        obtain ⟨b, c, rfl, -, -, -, -⟩ := collF_facs hC
        clear hC hgs hwa hwz hwz2 hcg
        generalize wc = W1 at HWZ HBZ ⊢
        go_wp2_with fail
        go_loopw [8, 11] (fun m i wr => ∃ k q : Nat, k ≤ gs.length ∧ i = .int .i64 k ∧ m = .int .i64 (q : Int) ∧ q = (A.take k).countP (likeP n (Plain.hasB fs)) ∧ q ≤ k ∧ Below W1.heap.size W1 wr) (fun _ i _ => gs.length - (intOf i).toNat)
        case atStart => exact ⟨0, 0, Nat.zero_le _, rfl, rfl, rfl, Nat.le_refl _, Below.refl _ _⟩
        case round =>
          obtain ⟨k, q, hk, rfl, rfl, hq, hqk, hbw⟩ := hrel
          by_cases hlt : k < gs.length
          · obtain ⟨f, hf⟩ := at_some gs k hlt
            obtain ⟨b', c', e5, hcg, hfk⟩ := facs_coll HC.out hf
            cases e5
            have hfa := lists_at hf
            rw [HGS.out] at hfa
            obtain ⟨fa, fc, fl⟩ := f
            dsimp only at hfa
            have hST := countP_step (likeP n (Plain.hasB fs)) hfa
            rw [HLIKE.out fl] at hST
            have hok := HOK.out fl (List.mem_of_getElem? hfa)
            rw [← hq] at hST
            have hbz := HWZ.out.trans (hbw.mono HWZ.out.size)
            have hc := cell_later hbz hcg
            simp only [facVal] at hc
            have HI := Lib.hid (hfk.1.on hbz)
            have HL := Lib.hid hok.1
            have h8 := hok.2
            have HBW := Lib.hid hbw
            obtain ⟨Q, hQ⟩ : ∃ Q, Q = Plain.codeTo (Plain.fallsB fl) (2 ^ n) := ⟨_, rfl⟩
            rw [← hQ] at hST
            have HST := Lib.hid hST
            have hi : (k : Int) < (gs.length : Int) := by omega
            have hi0 : (0 : Int) ≤ (k : Int) := by omega
            have HQ := Lib.hid hQ
            clear hf hcg hfk hfa hST hok hq hbw hbz hQ
            go_wp2_with fail
            clear hc
            refine (l7Code_any fa fc fl n _ HI HL (by omega) q3).mono ?_
            rw [← HQ.out]
            rintro e w3 ⟨rfl, hb⟩
            have HB2 := Lib.hid (HBW.out.trans (hb.mono HBW.out.size))
            clear hb
            by_cases heq : Q = R
            · have hq : ((Q : Int) == (R : Int)) = true := by simp [heq]
              have HE := Lib.hid (HST.out.trans (by rw [decide_eq_true heq]; rfl) : _ = q + 1)
              clear heq
              go_wp2_with fail
              go_roundw
              case rel => exact ⟨k + 1, q + 1, by omega, by go_num, by go_num, HE.out.symm, by omega, HB2.out⟩
              case measure => simp [intOf]; omega
            · have hq : ((Q : Int) == (R : Int)) = false := by simp; omega
              have HE := Lib.hid (HST.out.trans (by rw [decide_eq_false heq]; rfl) : _ = q)
              clear heq
              go_wp2_with fail
              go_roundw
              case rel => exact ⟨k + 1, q, by omega, by go_num, rfl, HE.out.symm, by omega, HB2.out⟩
              case measure => simp [intOf]; omega
          · obtain rfl : k = gs.length := by omega
            have HE : Hid (cwN fs (n : Int) (L : Int) = (q : Int)) := Lib.hid (by rw [HE0.out.1, hq, HGL.out, List.take_length])
            have HB3 := Lib.hid (HBZ.out.trans (hbw.mono HBZ.out.size))
            have hi : ¬ (gs.length : Int) < (gs.length : Int) := by omega
            clear hq hbw
            go_wp2_with fail
            go_ret2
            exact ⟨ret_ib7 HE.out.symm HE0.out.2.symm, HB3.out⟩
theorem bothCountWith (fs : List Int) (h64 : Hid (In64 fs)) (hx : fs.length ≤ 1048576) (n : Int) (h1 : -9223372036854775808 ≤ n) (h2 : n ≤ 9223372036854775807) (L : Int) (h3 : -9223372036854775808 ≤ L) (h4 : L ≤ 9223372036854775807) : ∃ (m : Int) (b : Bool),
    (∀ a cap w, Hid (Ints w a fs) → Hid (Listed w) → Calls Tryd.prog 17 #[.agg #[.slice a fs.length cap], .int .i64 n, .int .i64 L] w (Val (.tuple #[.int .i64 m, .bool b]) w)) ∧
    (∀ a cap w, Hid (Ints w a fs) → Hid (Listed w) → Calls Tryd.prog 19 #[.agg #[.slice a fs.length cap], .int .i64 n, .int .i64 L] w (Val (.tuple #[.int .i64 m, .bool b]) w)) :=
  ⟨_, _, fun a cap w h _ => specCountWith_any a cap fs n L w h h64 hx ⟨h1, h2⟩ ⟨h3, h4⟩, fun a cap w h hg => implCountWith_any a cap fs n L w h hg h64 hx ⟨h1, h2⟩ ⟨h3, h4⟩⟩

end Go.Proofs.YthamckchfhddjaaDoor
