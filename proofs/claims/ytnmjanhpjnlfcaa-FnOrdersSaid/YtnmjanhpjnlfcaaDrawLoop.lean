/- Contract: the cursor's loop (a drawn word, or a commutator of drawn words' beginnings). Condition: the code's bytes lie in memory. -/
import Derived.Test.YtnmjanhpjnlfcaaBdDrawWicks
namespace Go.Proofs.Ytnmjanhpjnlfcaa
open Go.ChangeShapes Go.WideShapes Go.ChangeAt Go.RowKit
set_option linter.unusedVariables false

theorem Snd.later {w wr w1 : World} {B len cap m : Nat} {a : Option Addr} {v : Value} {ys : List Int} (h : Snd w B a len cap m v ys wr) (hb : Below wr.heap.size wr w1) : Snd w B a len cap m v ys w1 :=
  ⟨h.1.trans ⟨hb.os, hb.tape, hb.output, hb.size, fun j hj _ => hb.block j hj⟩, h.2.1.kept hb, h.2.2.1.on hb, h.2.2.2⟩
/-- Another list behind the first one. -/
theorem Snd.next {w wr w1 : World} {B len cap m : Nat} {a : Option Addr} {v v2 : Value} {ys zs : List Int} (h : Snd w B a len cap m v ys wr) (hr : Res wr.heap.size w1 v2 zs) (hb : Below wr.heap.size wr w1) : Snd w B a len cap m v2 zs w1 :=
  ⟨(h.later hb).1, (h.later hb).2.1, hr.mono h.1.size, h.2.2.2⟩
theorem Snd.draw {w wr w1 : World} {B len cap m m' : Nat} {a : Option Addr} {v v2 : Value} {ys zs : List Int} (h : Snd w B a len cap m v ys wr) (hr : Res wr.heap.size w1 v2 zs) (hH : Held w1 B a len cap m') (hg : wr.grownBy w1 (some B)) : Snd w B a len cap m' v2 zs w1 :=
  ⟨h.1.trans hg, hH, hr.mono h.1.size, h.2.2.2⟩
/-- Behind the loop's drawing. -/
def LoopPost (B : Nat) (a : Option Addr) (len cap m : Nat) (w : World) (e : Ending) (w' : World) : Prop :=
  ∃ v xs, e = .returned v ∧ In64 xs ∧ xs.length ≤ 100 ∧ Snd w B a len cap (m + 20000) v xs w'
theorem Snd.loop {w wr : World} {B len cap m m' : Nat} {a : Option Addr} {v : Value} {ys : List Int} (h : Snd w B a len cap m' v ys wr) (h64 : In64 ys) (hl : ys.length ≤ 100) (hm : m' ≤ m + 20000) : LoopPost B a len cap m w (.returned v) wr :=
  ⟨v, ys, rfl, h64, hl, h.1, h.2.1.more hm, h.2.2⟩
theorem loop_len {us vs : List Int} {zu zv : Nat} (h1 : zu ≤ 3) (h2 : zv ≤ 3) : (Plain.comm (us.take zu) (vs.take zv)).length ≤ 12 := by
  have h3 : (us.take zu).length ≤ 3 := by simp; omega
  have h4 : (vs.take zv).length ≤ 3 := by simp; omega
  refine Nat.le_trans (Plain.red_length _) ?_
  rw [List.length_append, List.length_append, List.length_append, Plain.inv_length, Plain.inv_length]
  omega
theorem loop_len2 {cs : List Int} {x : Int} (h : cs.length ≤ 12) : (Plain.comm cs [x]).length ≤ 26 := by
  refine Nat.le_trans (Plain.red_length _) ?_
  rw [List.length_append, List.length_append, List.length_append, Plain.inv_length, Plain.inv_length]
  simp
  omega
theorem l1Least_3 (n : Nat) (w : World) (h : n ≤ 1000) : Calls Try.prog 56 #[.int .i64 (n : Int), .int .i64 3] w fun e w' => ∃ z : Nat, e = .returned (.int .i64 (z : Int)) ∧ z ≤ 3 ∧ z ≤ n ∧ w = w' := by
  by_cases he : n < 3
  · have h1 : (n : Int) < 3 := by omega
    go_enter Try.func56, Try.ntmps56
    go_wp2
    go_ret
    exact ⟨n, rfl, by omega, by omega, rfl⟩
  · have h1 : ¬ (n : Int) < 3 := by omega
    go_enter Try.func56, Try.ntmps56
    go_wp2
    go_ret
    exact ⟨3, rfl, by omega, by omega, rfl⟩
set_option maxRecDepth 100000 in
set_option maxHeartbeats 4000000 in
theorem loop_any (B len cap m : Nat) (a : Option Addr) (w : World) (h : Hid (Held w B a len cap m)) (hm : m ≤ 700000) :
    Calls Try.prog 34 #[.pointer (some ⟨B, 0, none⟩)] w (LoopPost B a len cap m w) := by
  go_enter Try.func34, Try.ntmps34
  go_wp2_with fail
  refine (one_any B len cap m 3 a _ h (by omega) (by omega)).mono ?_
  rintro e W1 ⟨b, rfl, hH, hg⟩
  have HH := Lib.hid hH
  have HG := Lib.hid hg
  have HL := Lib.hid h.out.lt
  have HY := Lib.hid h.out.2
  clear hH hg
  cases b with
  | true =>
    go_wp2_with fail
    refine (word_any B len cap _ a _ HH (by omega)).mono ?_
    rintro e W2 ⟨v, xs, rfl, h64, hl, hres, hH, hg⟩
    have SN : Hid (Snd w B a len cap _ v xs W2) := Lib.hid ⟨HG.out.trans hg, hH, hres.mono HG.out.size, HL.out, HY.out⟩
    have H64 := Lib.hid h64
    clear h64 hres hH hg
    go_wp2
    go_ret
    exact SN.out.loop H64.out (by omega) (by omega)
  | false =>
    go_wp2_with fail
    refine (curRed_any B len cap _ a _ HH (by omega)).mono ?_
    rintro e W2 ⟨vu, us, rfl, hlu, hnu, hru, hH, hg⟩
    have LU := Lib.hid hlu
    have FU : Hid (Snd w B a len cap _ vu us W2) := Lib.hid ⟨HG.out.trans hg, hH, hru.mono HG.out.size, HL.out, HY.out⟩
    clear hlu hru hH hg HH HG
    go_wp2_with fail
    refine (curRed_any B len cap _ a _ (Lib.hid FU.out.2.1) (by omega)).mono ?_
    rintro e W3 ⟨vv, vs, rfl, hlv, hnv, hrv, hH, hg⟩
    have LV := Lib.hid hlv
    have FU3 := Lib.hid (FU.out.cur hH hg)
    have FV3 := Lib.hid (FU.out.draw hrv hH hg)
    clear hlv hrv hH hg FU
    obtain ⟨au, cu, rfl, -, -, hcu⟩ := FU3.out.2.2.1
    obtain ⟨av, cv, rfl, -, -, hcv⟩ := FV3.out.2.2.1
    have KU := Lib.hid hcu
    have KV := Lib.hid hcv
    have hKU := KU.out.1
    have hKV := KV.out.1
    clear hcu hcv
    have FU4 := Lib.hid (FU3.out.later (Below.refl _ W3).drew)
    have FV4 := Lib.hid (FV3.out.later (Below.refl _ W3).drew)
    clear FU3 FV3
    go_wp2_with fail
    go_region_law (go_simp; first
      | (go_at_call 56; refine (l1Least_3 us.length _ (by omega)).mono ?_; rintro e w' ⟨zu, rfl, hzu, hzu2, rfl⟩; have hzu3 : (zu : Int) ≤ (cu : Int) := (by omega); have hzu4 : (0 : Int) ≤ (zu : Int) := (by omega))
      | (go_at_call 56; refine (l1Least_3 vs.length _ (by omega)).mono ?_; rintro e w' ⟨zv, rfl, hzv, hzv2, rfl⟩; have hzv3 : (zv : Int) ≤ (cv : Int) := (by omega); have hzv4 : (0 : Int) ≤ (zv : Int) := (by omega))
      | (go_at_call 37; refine (l4Comm_at au av cu cv zu zv (us.take zu) (vs.take zv) W3.drew (by simp; omega) (by simp; omega) (Lib.hid (FU4.out.2.2.1.ints.upto zu)) (Lib.hid (cap_upto KU.out hzu2)) (Lib.hid (FV4.out.2.2.1.ints.upto zv)) (Lib.hid (cap_upto KV.out hzv2)) (Lib.hid (letters_take LU.out zu)) (Lib.hid (letters_take LV.out zv)) (by omega) (by omega)).mono ?_; rintro e W6 ⟨vc, rfl, hrc, hbc⟩; have SN := Lib.hid (FV4.out.next hrc hbc); clear hrc hbc))
    all_goals
      have WL := Lib.hid ((letters_take LU.out zu).comm (letters_take LV.out zv))
      have hWn := loop_len (us := us) (vs := vs) hzu hzv
      clear FU4 FV4 LU LV KU KV
      generalize Plain.comm (us.take zu) (vs.take zv) = cs at SN WL hWn
      obtain ⟨ac, cc, rfl, -, -, hcc⟩ := SN.out.2.2.1
      have KC := Lib.hid hcc
      clear hcc
      have hc64 : ¬ 64 < (cs.length : Int) := by omega
      go_wp2_with fail
      refine (one_any B len cap _ 3 a _ (Lib.hid SN.out.2.1) (by omega) (by omega)).mono ?_
      rintro e W7 ⟨b2, rfl, hH, hg⟩
      have S7 := Lib.hid (SN.out.cur hH hg)
      clear hH hg SN
      cases b2
      · have WI := Lib.hid (letters_in64 WL.out)
        go_wp2_with fail
        refine (one_any B len cap _ 6 a _ (Lib.hid S7.out.2.1) (by omega) (by omega)).mono ?_
        rintro e W20 ⟨b6, rfl, hH, hg⟩
        have S20 := Lib.hid (S7.out.cur hH hg)
        clear hH hg S7
        cases b6
        · go_wp2
          go_ret
          exact S20.out.loop WI.out (by omega) (by omega)
        · go_wp2_with fail
          refine (word_any B len cap _ a _ (Lib.hid S20.out.2.1) (by omega)).mono ?_
          rintro e W21 ⟨v, xs, rfl, h64, hl, hres, hH, hg⟩
          have S21 := Lib.hid (S20.out.draw hres hH hg)
          have H64 := Lib.hid h64
          clear h64 hres hH hg
          go_wp2
          go_ret
          exact S21.out.loop H64.out (by omega) (by omega)
      · go_wp2_with fail
        refine (letter_any B len cap _ a _ (Lib.hid S7.out.2.1) (by omega)).mono ?_
        rintro e W8 ⟨x, rfl, hx0, hx1, hx2, hH, hg⟩
        have S8 := Lib.hid (S7.out.cur hH hg)
        have LX : Hid (Plain.Letters [x]) := Lib.hid (fun z hz => by simp at hz; omega)
        clear hH hg S7
        go_wp2_with fail
        refine (l4Comm_at ac (some ⟨W8.heap.size, 0, none⟩) cc 1 cs.length 1 cs [x] (W8.alloc (.cells #[.int .i64 x] 3)) rfl rfl (Lib.hid ((S8.out.later ((Below.refl _ W8).alloc (Nat.le_refl _) _)).2.2.1.ints)) KC (Lib.hid (Ints.made W8 [x] 3)) (Lib.hid (cap_copy _ (Nat.le_of_ble_eq_true rfl))) WL LX (by omega) (by omega)).mono ?_
        rintro e W9 ⟨vd, rfl, hrd, hbd⟩
        have S9 := Lib.hid ((S8.out.later ((Below.refl _ W8).alloc (Nat.le_refl _) (.cells #[.int .i64 x] 3))).next hrd hbd)
        have WI := Lib.hid (letters_in64 (WL.out.comm LX.out))
        have hdn := loop_len2 (x := x) hWn
        clear hrd hbd S8 WL LX KC hWn hc64
        generalize Plain.comm cs [x] = ds at S9 WI hdn
        obtain ⟨ad, cd, rfl, -, -, -⟩ := S9.out.2.2.1
        have hd64 : ¬ 64 < (ds.length : Int) := by omega
        go_wp2_with fail
        refine (one_any B len cap _ 6 a _ (Lib.hid S9.out.2.1) (by omega) (by omega)).mono ?_
        rintro e W20 ⟨b6, rfl, hH, hg⟩
        have S20 := Lib.hid (S9.out.cur hH hg)
        clear hH hg S9
        cases b6
        · go_wp2
          go_ret
          exact S20.out.loop WI.out (by omega) (by omega)
        · go_wp2_with fail
          refine (word_any B len cap _ a _ (Lib.hid S20.out.2.1) (by omega)).mono ?_
          rintro e W21 ⟨v, xs, rfl, h64, hl, hres, hH, hg⟩
          have S21 := Lib.hid (S20.out.draw hres hH hg)
          have H64 := Lib.hid h64
          clear h64 hres hH hg
          go_wp2
          go_ret
          exact S21.out.loop H64.out (by omega) (by omega)

end Go.Proofs.Ytnmjanhpjnlfcaa
