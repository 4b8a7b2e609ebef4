/- Contracts: spec.DrawLeftWord and spec.DrawWicksParts hand back a list of at most 100 numbers, in memory of its own. Condition: the code's bytes lie in memory. -/
import Derived.Test.YtmcbaejgimopmaaGreatBdCommSpec
import Derived.Test.YtmcbaejgimopmaaGreatBdJoinWWalks
import Derived.Test.YtmcbaejgimopmaaGreatBdSnd
import Derived.Test.YtmcbaejgimopmaaGreatDrawNails
namespace Go.Proofs.YtmcbaejgimopmaaGreat
open Go.ChangeShapes Go.WideShapes Go.ChangeAt Go.RowKit
set_option linter.unusedVariables false

set_option maxHeartbeats 400000 in
theorem drawLeft_any (a : Option Addr) (len cap : Nat) (W : World) (h : Hid (Code8 W a len)) :
    Calls Tryz.prog 9 #[.slice a len cap] W (OneDraw W) := by
  go_enter Tryz.func9, Tryz.ntmps9
  go_wp2_with fail
  refine (curNails_any W.heap.size len cap 0 a _ (Lib.hid (Held.fresh cap h.out)) (by omega)).mono ?_
  intro e W1 hp
  obtain ⟨v, xs, rfl, h1⟩ := word_one hp
  have H1 := Lib.hid h1
  clear h1 hp
  go_wp2
  go_ret
  exact ⟨_, _, rfl, H1.out⟩

/-- Behind a drawing of a reduced word. -/
def RedWord (B : Nat) (a : Option Addr) (len cap m : Nat) (w : World) (e : Ending) (w' : World) : Prop :=
  ∃ v xs, e = .returned v ∧ Plain.Letters xs ∧ xs.length ≤ 66 ∧ Res w.heap.size w' v xs ∧ Held w' B a len cap (m + 2000) ∧ w.grownBy w' (some B)

set_option maxHeartbeats 800000 in
theorem curRed_any (B len cap m : Nat) (a : Option Addr) (w : World) (h : Hid (Held w B a len cap m)) (hm : m ≤ 800000) :
    Calls Tryz.prog 54 #[.pointer (some ⟨B, 0, none⟩)] w (RedWord B a len cap m w) := by
  go_enter Tryz.func54, Tryz.ntmps54
  go_wp2_with fail
  refine (word_any B len cap m a _ h hm).mono ?_
  rintro e W1 ⟨v, xs, rfl, h64, hl, hres, hH, hg⟩
  obtain ⟨av, cv, rfl, hI, hO, hcp⟩ := hres
  have H64 := Lib.hid h64
  have HH := Lib.hid hH
  have HG := Lib.hid hg
  have HI := Lib.hid hI
  clear h64 hH hg hI hO hcp
  cases hw : Plain.wordB xs with
  | false =>
    have HW := Lib.hid hw
    clear hw
    go_wp2_with fail
    refine (l2Word_any _ _ xs _ HI H64 (by omega)).mono ?_
    rw [HW.out]
    rintro e w' ⟨rfl, rfl⟩
    go_wp2
    go_ret
    exact ⟨_, [1, 2, -1], rfl, (fun z hz => by simp at hz; omega), by simp, (res_made W1 [1, 2, -1] (by simp)).mono HG.out.size, HH.out.alloc _, HG.out.trans (World.grownBy_alloc W1 _ _)⟩
  | true =>
    have HL := Lib.hid (Plain.wordB_iff.1 hw).2
    have HW := Lib.hid hw
    clear hw
    go_wp2_with fail
    refine (l2Word_any _ _ xs _ HI H64 (by omega)).mono ?_
    rw [HW.out]
    rintro e w' ⟨rfl, rfl⟩
    go_wp2_with fail
    refine (l2Reduce_any av cv xs _ HI HL (by omega)).mono ?_
    rintro e W2 ⟨v2, rfl, hres, hb⟩
    have HR := Lib.hid hres
    have HB := Lib.hid hb
    clear hres hb
    go_wp2
    go_ret
    exact ⟨_, _, rfl, HL.out.red, Nat.le_trans (Plain.red_length xs) hl, HR.out.mono HG.out.size, HH.out.kept HB.out, HG.out.trans ⟨HB.out.os, HB.out.tape, HB.out.output, HB.out.size, fun j hj _ => HB.out.block j hj⟩⟩

theorem l1Least_4 (n : Nat) (w : World) (h : n ≤ 1000) : Calls Tryz.prog 57 #[.int .i64 (n : Int), .int .i64 4] w fun e w' => ∃ z : Nat, e = .returned (.int .i64 (z : Int)) ∧ z ≤ 4 ∧ z ≤ n ∧ w = w' := by
  by_cases he : n < 4
  · have h1 : (n : Int) < 4 := by omega
    go_enter Tryz.func57, Tryz.ntmps57
    go_wp2
    go_ret
    exact ⟨n, rfl, by omega, by omega, rfl⟩
  · have h1 : ¬ (n : Int) < 4 := by omega
    go_enter Tryz.func57, Tryz.ntmps57
    go_wp2
    go_ret
    exact ⟨4, rfl, by omega, by omega, rfl⟩

theorem l4Comm_at (a1 a2 : Option Addr) (c1 c2 n1 n2 : Nat) (xs ys : List Int) (w : World) (e1 : xs.length = n1) (e2 : ys.length = n2) (h1 : Hid (Ints w a1 xs)) (k1 : Hid (Cap a1 n1 c1)) (h2 : Hid (Ints w a2 ys)) (k2 : Hid (Cap a2 n2 c2))
    (l1 : Hid (Plain.Letters xs)) (l2 : Hid (Plain.Letters ys)) (hx : n1 ≤ 100000) (hy : n2 ≤ 100000) :
    Calls Tryz.prog 39 #[.slice a1 n1 c1, .slice a2 n2 c2] w (ListPost (Plain.comm xs ys) w) := by
  subst e1 e2
  exact l4Commutator_any a1 a2 c1 c2 xs ys w h1 k1 h2 k2 l1 l2 hx hy

theorem Res.ints {B n c : Nat} {w : World} {a : Option Addr} {xs : List Int} (h : Res B w (.slice a n c) xs) : Ints w a xs := by
  obtain ⟨a', c', e, hI, -⟩ := h
  cases e
  exact hI
theorem Fst.drew {W wr : World} {o : Obj} {a : Option Addr} {len cap m : Nat} {v : Value} {xs : List Int} (h : Fst W o a len cap m v xs wr) : Fst W o a len cap m v xs wr.drew :=
  h.later (Below.refl _ wr).drew
theorem Fst.sndOf {W wr w1 : World} {o : Obj} {a : Option Addr} {len cap m : Nat} {v v2 : Value} {xs ys : List Int} (h : Fst W o a len cap m v xs wr) (hy : Bytes (W.alloc o) W.heap.size a len) (hr : Res wr.heap.size w1 v2 ys) (hb : Below wr.heap.size wr w1) : Snd (W.alloc o) W.heap.size a len cap m v2 ys w1 :=
  ⟨(h.later hb).1, (h.later hb).2.2, hr.mono h.1.size, alloc_lt W o, hy⟩
theorem Snd.one {W wr : World} {o : Obj} {a : Option Addr} {len cap m : Nat} {v : Value} {ys : List Int} (h : Snd (W.alloc o) W.heap.size a len cap m v ys wr) (h64 : In64 ys) (hl : ys.length ≤ 100) : OneDraw W (.returned v) wr :=
  ⟨v, ys, rfl, h64, hl, h.2.2.1.mono (alloc_le W o), below_of h.1⟩
theorem wick_len {us vs : List Int} {zu zv : Nat} (h1 : zu ≤ 4) (h2 : zv ≤ 4) : (Plain.comm (us.take zu) (vs.take zv)).length ≤ 16 := by
  have h3 : (us.take zu).length ≤ 4 := by simp; omega
  have h4 : (vs.take zv).length ≤ 4 := by simp; omega
  refine Nat.le_trans (Plain.red_length _) ?_
  rw [List.length_append, List.length_append, List.length_append, Plain.inv_length, Plain.inv_length]
  omega
theorem wick_fine {cs : List Int} {x : Int} (hx : Plain.Letters [x]) (hc : Plain.Letters cs) (hl : cs.length ≤ 16) : In64 (Plain.red ([x] ++ (cs ++ Plain.inv [x]))) ∧ (Plain.red ([x] ++ (cs ++ Plain.inv [x]))).length ≤ 18 := by
  refine ⟨letters_in64 (hx.append (hc.append hx.inv)).red, Nat.le_trans (Plain.red_length _) ?_⟩
  rw [List.length_append, List.length_append, Plain.inv_length]
  simp
  omega
theorem letters_take {xs : List Int} (h : Plain.Letters xs) (k : Nat) : Plain.Letters (xs.take k) := h.sub fun x hx => List.mem_of_mem_take hx

set_option maxRecDepth 100000 in
set_option maxHeartbeats 8000000 in
theorem drawWicks_any (a : Option Addr) (len cap : Nat) (W : World) (h : Hid (Code8 W a len)) :
    Calls Tryz.prog 22 #[.slice a len cap] W (OneDraw W) := by
  go_enter Tryz.func22, Tryz.ntmps22
  go_wp2_with fail
  refine (one_any W.heap.size len cap 0 3 a _ (Lib.hid (Held.fresh cap h.out)) (by omega) (by omega)).mono ?_
  rintro e W1 ⟨b, rfl, hH, hg⟩
  have HH := Lib.hid hH
  have HG := Lib.hid hg
  clear hH hg
  cases b with
  | true =>
    go_wp2_with fail
    refine (word_any W.heap.size len cap _ a _ HH (by omega)).mono ?_
    intro e W2 hp
    obtain ⟨v, xs, rfl, h1⟩ := word_one' HG.out hp
    have H1 := Lib.hid h1
    clear h1 hp
    go_wp2
    go_ret
    exact ⟨_, _, rfl, H1.out⟩
  | false =>
    go_wp2_with fail
    refine (curRed_any W.heap.size len cap _ a _ HH (by omega)).mono ?_
    rintro e W2 ⟨vu, us, rfl, hlu, hnu, hru, hH, hg⟩
    have LU := Lib.hid hlu
    have FU := Lib.hid (show Fst W _ a len cap _ vu us W2 from ⟨HG.out.trans hg, hru.mono HG.out.size, hH⟩)
    clear hlu hru hH hg HH
    go_wp2_with fail
    refine (curRed_any W.heap.size len cap _ a _ (Lib.hid FU.out.2.2) (by omega)).mono ?_
    rintro e W3 ⟨vv, vs, rfl, hlv, hnv, hrv, hH, hg⟩
    have LV := Lib.hid hlv
    have FU3 := Lib.hid (FU.out.cur hH hg)
    have FV3 := Lib.hid (show Fst W _ a len cap _ vv vs W3 from ⟨FU.out.1.trans hg, hrv.mono FU.out.1.size, hH⟩)
    clear hlv hrv hH hg FU
    obtain ⟨au, cu, rfl, -, -, hcu⟩ := FU3.out.2.1
    obtain ⟨av, cv, rfl, -, -, hcv⟩ := FV3.out.2.1
    have KU := Lib.hid hcu
    have KV := Lib.hid hcv
    clear hcu hcv
    have FU4 := Lib.hid FU3.out.drew
    have FV4 := Lib.hid FV3.out.drew
    have HY := Lib.hid (Held.fresh cap h.out).2
    clear FU3 FV3
    go_wp2_with fail
    have hKU := KU.out.1
    have hKV := KV.out.1
    go_region_law (go_simp; first
      | (go_at_call 56; refine (letter_any W.heap.size len cap _ a W3.drew (Lib.hid FV4.out.2.2) (by omega)).mono ?_; rintro e W4 ⟨x, rfl, hx0, hx1, hx2, hH, hg⟩; have FU5 := Lib.hid (FU4.out.cur hH hg); have FV5 := Lib.hid (FV4.out.cur hH hg); have LX : Hid (Plain.Letters [x]) := Lib.hid (fun z hz => by simp at hz; omega); clear hH hg)
      | (go_at_call 57; refine (l1Least_4 us.length _ (by omega)).mono ?_; rintro e w' ⟨zu, rfl, hzu, hzu2, rfl⟩; have hzu3 : (zu : Int) ≤ (cu : Int) := (by omega); have hzu4 : (0 : Int) ≤ (zu : Int) := (by omega))
      | (go_at_call 57; refine (l1Least_4 vs.length _ (by omega)).mono ?_; rintro e w' ⟨zv, rfl, hzv, hzv2, rfl⟩; have hzv3 : (zv : Int) ≤ (cv : Int) := (by omega); have hzv4 : (0 : Int) ≤ (zv : Int) := (by omega))
      | (go_at_call 39; refine (l4Comm_at au av cu cv zu zv (us.take zu) (vs.take zv) (W4.alloc (.cells #[.int .i64 x] 3)) (by simp; omega) (by simp; omega) (Lib.hid ((FU5.out.made (.cells #[.int .i64 x] 3)).2.1.ints.upto zu)) (Lib.hid (cap_upto KU.out hzu2)) (Lib.hid ((FV5.out.made (.cells #[.int .i64 x] 3)).2.1.ints.upto zv)) (Lib.hid (cap_upto KV.out hzv2)) (Lib.hid (letters_take LU.out zu)) (Lib.hid (letters_take LV.out zv)) (by omega) (by omega)).mono ?_; rintro e W6 ⟨vc, rfl, hrc, hbc⟩; obtain ⟨ac, cc, rfl, hIc, -, hCc⟩ := hrc; have FV6 := Lib.hid ((FV5.out.made (.cells #[.int .i64 x] 3)).later hbc); have IC := Lib.hid hIc; have CC := Lib.hid hCc; have HX6 := Lib.hid ((Ints.made W4 [x] 3).on hbc); clear hIc hCc hbc)
      | (go_at_call 39; refine (l4Comm_at au av cu cv zu zv (us.take zu) (vs.take zv) W4 (by simp; omega) (by simp; omega) (Lib.hid (FU5.out.2.1.ints.upto zu)) (Lib.hid (cap_upto KU.out hzu2)) (Lib.hid (FV5.out.2.1.ints.upto zv)) (Lib.hid (cap_upto KV.out hzv2)) (Lib.hid (letters_take LU.out zu)) (Lib.hid (letters_take LV.out zv)) (by omega) (by omega)).mono ?_; rintro e W6 ⟨vc, rfl, hrc, hbc⟩; obtain ⟨ac, cc, rfl, hIc, -, hCc⟩ := hrc; have FV6 := Lib.hid (FV5.out.later hbc); have IC := Lib.hid hIc; have CC := Lib.hid hCc; clear hIc hCc hbc)
      | (go_at_call 55; refine (l2Conj_any (some ⟨W4.heap.size, 0, none⟩) ac 1 cc [x] (Plain.comm (us.take zu) (vs.take zv)) W6 HX6 (Lib.hid (cap_copy _ (Nat.le_of_ble_eq_true rfl))) IC CC LX (Lib.hid ((letters_take LU.out zu).comm (letters_take LV.out zv))) (by simp) (Nat.le_trans (wick_len hzu hzv) (by omega))).mono ?_; rintro e W7 ⟨vw, rfl, hrw, hbw⟩; have SN := Lib.hid (FV6.out.sndOf HY.out hrw hbw); clear hrw hbw)
      | (go_at_call 55; refine (l2Conj_any (some ⟨W6.heap.size, 0, none⟩) ac 1 cc [x] (Plain.comm (us.take zu) (vs.take zv)) (W6.alloc (.cells #[.int .i64 x] 3)) (Lib.hid (Ints.made W6 [x] 3)) (Lib.hid (cap_copy _ (Nat.le_of_ble_eq_true rfl))) (Lib.hid (IC.out.on ((Below.refl _ W6).alloc (Nat.le_refl _) (.cells #[.int .i64 x] 3)))) CC LX (Lib.hid ((letters_take LU.out zu).comm (letters_take LV.out zv))) (by simp) (Nat.le_trans (wick_len hzu hzv) (by omega))).mono ?_; rintro e W7 ⟨vw, rfl, hrw, hbw⟩; have SN := Lib.hid ((FV6.out.made (.cells #[.int .i64 x] 3)).sndOf HY.out hrw hbw); clear hrw hbw))
    all_goals
      have WF := Lib.hid (wick_fine LX.out ((letters_take LU.out zu).comm (letters_take LV.out zv)) (wick_len hzu hzv))
      clear IC CC FU4 FV4 FU5 FV5 FV6 LX LU LV KU KV HY HG
      generalize Plain.red ([x] ++ (Plain.comm (us.take zu) (vs.take zv) ++ Plain.inv [x])) = L at SN WF
      have hL18 := WF.out.2
      obtain ⟨aw, cw, rfl, hIw, -, -⟩ := SN.out.2.2.1
      by_cases hL0 : L = []
      · subst hL0
        clear hIw
        go_wp2
        go_ret
        exact SN.out.one WF.out.1 (by omega)
      · have hpL : 0 < L.length := List.length_pos_iff.2 hL0
        have hpLi : (0 : Int) < (L.length : Int) := by omega
        obtain ⟨y0, hy0⟩ := at_some L 0 hpL
        obtain ⟨bw, ow, rfl, -⟩ := hIw 0 y0 hy0
        clear hy0 hIw
        go_wp2_with fail
        refine (one_any W.heap.size len cap _ 4 a _ (Lib.hid SN.out.2.1) (by omega) (by omega)).mono ?_
        rintro e W8 ⟨b4, rfl, hH, hg⟩
        have S8 := Lib.hid (SN.out.cur hH hg)
        clear hH hg SN
        cases b4
        · go_wp2
          go_ret
          exact S8.out.one WF.out.1 (by omega)
        · go_wp2_with fail
          refine (pick_any W.heap.size len cap _ L.length a _ (Lib.hid S8.out.2.1) (by omega) (by omega)).mono ?_
          rintro e W9 ⟨k, rfl, hk, hH, hg⟩
          have S9 := Lib.hid (S8.out.cur hH hg)
          have hkL : k < L.length := by omega
          clear hH hg hk S8
          go_wp2_with fail
          refine (letter_any W.heap.size len cap _ a _ (Lib.hid S9.out.2.1) (by omega)).mono ?_
          rintro e W10 ⟨y, rfl, hy0, hy1, hy2, hH, hg⟩
          have S10 := Lib.hid (S9.out.cur hH hg)
          clear hH hg S9
          obtain ⟨z, hz⟩ := at_some L k hkL
          have hc : W10.cell? ⟨bw, ow + k, none⟩ = some (.int .i64 z) := by
            obtain ⟨b', o', e', hc⟩ := S10.out.2.2.1.ints k z hz
            cases e'
            exact hc
          have hf : W10.frozen? ⟨bw, ow + k, none⟩ = false := by
            obtain ⟨a', c', e, hI, hO, -⟩ := S10.out.2.2.1
            rcases hO with h0 | ⟨b', o', e', -, -, hf⟩
            · omega
            · cases e
              cases e'
              exact hf _
          have S11 := Lib.hid (S10.out.stored (x := y) hkL)
          have H11 := Lib.hid (in64_set (k := k) (x := y) WF.out.1 (by omega) (by omega))
          have hk2 : (k : Int) < (L.length : Int) := by omega
          have hk0 : (0 : Int) ≤ (k : Int) := by omega
          clear hz
          go_wp2
          go_ret
          exact S11.out.one H11.out (by simp; omega)

end Go.Proofs.YtmcbaejgimopmaaGreat
