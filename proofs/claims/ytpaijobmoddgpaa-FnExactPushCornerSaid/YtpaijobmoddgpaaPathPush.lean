/- Contracts: PushCorner of both programs. Conditions: texts of at most 2^20 bytes, a number of 64 bits. -/
import Derived.Test.YtpaijobmoddgpaaPathPushed
import Derived.Test.YtpaijobmoddgpaaPathFrees
namespace Go.Proofs.Ytpaijobmoddgpaa
open Go.ChangeShapes Go.WideShapes Go.ChangeAt Go.RowKit
set_option linter.unusedVariables false
set_option linter.unusedSimpArgs false

def pushV (l : List UInt8) (i : Int) : ByteArray := if cornerB l i = true then ⟨(Plain.pushL l i.toNat).toArray⟩ else ⟨#[]⟩
def pushF (l : List UInt8) (i : Int) : Bool := cornerB l i && Plain.sqFree (Plain.sqP l i.toNat)
theorem corner_parts {l : List UInt8} {i : Int} (h : cornerB l i = true) : ∃ k : Nat, i = (k : Int) ∧ Plain.pathB l = true ∧ Plain.cornB l k = true ∧ k + 2 ≤ l.length ∧ ∃ a b, l[k]? = some a ∧ l[k + 1]? = some b := by
  unfold cornerB at h
  simp only [Bool.and_eq_true, decide_eq_true_eq] at h
  obtain ⟨h1, h2, h3⟩ := h
  have hl := Plain.cornB_lt h3
  exact ⟨i.toNat, by omega, h1, h3, hl, l[i.toNat]'(by omega), l[i.toNat + 1]'(by omega), List.getElem?_eq_getElem _, List.getElem?_eq_getElem _⟩
theorem push_no {l : List UInt8} {i : Int} (h : cornerB l i = false) : pushV l i = ⟨#[]⟩ ∧ pushF l i = false := by
  unfold pushV pushF
  rw [h]; exact ⟨rfl, rfl⟩
theorem push_yes {l : List UInt8} {k : Nat} (h : cornerB l (k : Int) = true) : pushV l (k : Int) = ⟨(Plain.pushL l k).toArray⟩ ∧ pushF l (k : Int) = Plain.sqFree (Plain.sqP l k) := by
  unfold pushV pushF
  rw [h, Int.toNat_natCast]; exact ⟨rfl, rfl⟩
theorem push_list {l : List UInt8} {i : Nat} {a b : UInt8} (ha : l[i]? = some a) (hb : l[i + 1]? = some b) : l.take i ++ [b] ++ [a] ++ l.drop (i + 2) = Plain.pushL l i := by
  have hl : i + 1 < l.length := (List.getElem?_eq_some_iff.1 hb).1
  apply List.ext_getElem?
  intro k
  rw [Plain.pushL_get ha hb, List.append_assoc, List.append_assoc]
  by_cases h1 : k < i
  · rw [List.getElem?_append_left (by rw [List.length_take]; omega), List.getElem?_take_of_lt h1, if_neg (by omega), if_neg (by omega)]
  · rw [List.getElem?_append_right (by rw [List.length_take]; omega), List.length_take, show k - min i l.length = k - i by omega]
    by_cases h2 : k = i
    · subst h2; simp
    · by_cases h3 : k = i + 1
      · subst h3
        rw [show i + 1 - i = 1 by omega, if_neg (by omega), if_pos rfl]; rfl
      · obtain ⟨m, hm⟩ : ∃ m, k - i = m + 2 := ⟨k - i - 2, by omega⟩
        rw [hm, if_neg h2, if_neg h3]
        simp only [List.cons_append, List.nil_append, List.getElem?_cons_succ, List.getElem?_drop]
        congr 1; omega
theorem squareAll_any (l : List UInt8) (g cap : Nat) (i : Int) (w : World) (hp : Hid (Plain.pathB l = true)) (hi64 : -9223372036854775808 ≤ i ∧ i ≤ 9223372036854775807) (h : Hid (Pts w (some ⟨g, 0, none⟩) (Plain.pts l))) (hg : g < w.heap.size) :
    Calls Try.prog 73 #[.slice (some ⟨g, 0, none⟩) (l.length + 1) cap, .int .i64 i] w (SquarePost l i w) := by
  have hl := (Plain.path_ok hp.out).1
  by_cases h2 : 0 ≤ i ∧ i + 2 ≤ (l.length : Int)
  · obtain ⟨k, rfl⟩ : ∃ k : Nat, i = (k : Int) := ⟨i.toNat, by omega⟩
    exact squareIn_any l g cap k w hp (by omega) h hg
  · have hz : Plain.squareV l i = ((0, 0), false) := by
      unfold Plain.squareV
      by_cases h0 : 0 ≤ i
      · cases hc : Plain.cornB l i.toNat with
        | false => rw [if_neg (by simp)]
        | true => have := Plain.cornB_lt hc; omega
      · rw [if_neg (fun e => h0 e.1)]
    unfold SquarePost
    rw [hz]
    exact squareOut_any (some ⟨g, 0, none⟩) cap (l.length + 1) i w (by omega) hi64 (by omega)
set_option maxRecDepth 100000 in
set_option maxHeartbeats 6400000 in
theorem implPushCorner_any (s : ByteArray) (l : List UInt8) (hl0 : Hid (l = s.data.toList)) (i : Int) (w : World) (hs : s.size ≤ 9223372036854775807) (hi64 : -9223372036854775808 ≤ i ∧ i ≤ 9223372036854775807) : Calls Try.prog 41 #[.string s, .int .i64 i] w (Val (.tuple #[.string (pushV l i), .bool (pushF l i), .bool (cornerB l i)]) w) := by
  cases hp : Plain.pathB l with
  | false =>
    have HP := Lib.hid hp
    have HC : Hid (cornerB l i = false) := Lib.hid (by unfold cornerB; rw [hp]; rfl)
    have HV := Lib.hid (push_no HC.out)
    rw [HV.out.1, HV.out.2, HC.out]
    clear hp
    go_enter Try.func41, Try.ntmps41
    go_wp2_with fail
    refine (trailOf_any s l hl0 _ hs).mono ?_
    rintro e w1 ⟨v, rfl, hr, hb⟩
    obtain ⟨a, cap, rfl⟩ := trail_none hr HP.out
    rw [HP.out]
    have HB1 := Lib.hid hb
    clear hr hb
    go_wp2_with fail
    refine (squareOut_any a cap 0 i _ (by omega) hi64 (by omega)).mono ?_
    rintro e w2 ⟨rfl, hb⟩
    have HB2 := Lib.hid (HB1.out.trans (hb.mono HB1.out.size))
    have HB3 := Lib.hid (HB2.out.alloc HB2.out.size (.cells #[.int .i64 0, .int .i64 0] 63))
    clear hb
    go_wp2_with fail
    go_ret3
    exact ⟨rfl, HB3.out⟩
  | true =>
    have HP := Lib.hid hp
    cases hc : cornerB l i with
    | false =>
      have HV := Lib.hid (push_no hc)
      rw [HV.out.1, HV.out.2]
      obtain ⟨sx, sy, hsq⟩ : ∃ sx sy, (Plain.squareV l i).1 = (sx, sy) := ⟨_, _, rfl⟩
      have HSV : Hid (Plain.squareV l i = ((sx, sy), false)) := Lib.hid (by rw [← hsq, ← hc, ← corner_square hp])
      clear hp hc hsq
      go_enter Try.func41, Try.ntmps41
      go_wp2_with fail
      refine (trailOf_any s l hl0 _ hs).mono ?_
      rintro e w1 ⟨v, rfl, hr, hb⟩
      obtain ⟨g, cap, rfl, hg1, hg2, hpts, hcap, hcapm⟩ := trail_pts hr HP.out
      rw [HP.out]
      have HB1 := Lib.hid hb
      have HG := Lib.hid hg2
      have HPT := Lib.hid hpts
      clear hr hb hg1 hg2 hpts hcap hcapm
      go_wp2_with fail
      refine (squareAll_any l g cap i _ HP hi64 HPT HG.out).mono ?_
      unfold SquarePost
      rw [HSV.out]
      rintro e w2 ⟨rfl, hb⟩
      have HB2 := Lib.hid (HB1.out.trans (hb.mono HB1.out.size))
      have HB3 := Lib.hid (HB2.out.alloc HB2.out.size (.cells #[.int .i64 sx, .int .i64 sy] 63))
      clear hb
      go_wp2_with fail
      go_ret3
      exact ⟨rfl, HB3.out⟩
    | true =>
      obtain ⟨k, rfl, -, hcb, hk2, a, b, ha, hb2⟩ := corner_parts hc
      obtain ⟨hv, hf⟩ := push_yes hc
      rw [hv, hf]
      obtain ⟨sx, sy, hsq⟩ : ∃ sx sy, Plain.sqP l k = (sx, sy) := ⟨_, _, rfl⟩
      have HSV : Hid (Plain.squareV l (k : Int) = ((sx, sy), true)) := Lib.hid (by unfold Plain.squareV; rw [Int.toNat_natCast, hcb, if_pos ⟨by omega, rfl⟩, hsq])
      rw [hsq]
      obtain ⟨F, hF⟩ : ∃ F, F = Plain.sqFree (sx, sy) := ⟨_, rfl⟩
      rw [← hF]
      have HIF : Hid (∀ W, Calls Try.prog 76 #[.agg #[.int .i64 sx, .int .i64 sy]] W (Val (.bool F) W)) := Lib.hid (fun W => by rw [hF]; exact isFree_any sx sy W)
      have HA := Lib.hid ha
      have HB0 := Lib.hid hb2
      have hNR := push_near (Plain.path_ok hp).2 ha hb2
      have HNR := Lib.hid hNR.1
      have HST := Lib.hid hNR.2
      have hln := (Plain.path_ok hp).1
      have HPU : Hid (∀ g cap W, Hid (Pts W (some ⟨g, 0, none⟩) (Plain.pts l)) → g < W.heap.size → Calls Try.prog 74 #[.slice (some ⟨g, 0, none⟩) (l.length + 1) cap, .int .i64 (k : Int)] W (MadePost (Plain.pts (Plain.pushL l k)) W)) := Lib.hid (fun g cap W h hg => pushed_any l g cap k a b W HP HA HB0 h hg)
      obtain ⟨us, hus⟩ : ∃ us, us = Plain.pushL l k := ⟨_, rfl⟩
      have hul : us.length ≤ 400 := by rw [hus, Plain.pushL_length]; exact hln
      have HUL : Hid ((Plain.pts us).length = us.length + 1) := Lib.hid (Plain.pts_length us)
      rw [← hus] at HNR HST HPU ⊢
      clear hp hc hv hf hsq hF ha hb2 hNR hcb hus
      go_enter Try.func41, Try.ntmps41
      go_wp2_with fail
      refine (trailOf_any s l hl0 _ hs).mono ?_
      rintro e w1 ⟨v, rfl, hr, hb⟩
      obtain ⟨g, cap, rfl, hg1, hg2, hpts, hcap, hcapm⟩ := trail_pts hr HP.out
      rw [HP.out]
      have HB1 := Lib.hid hb
      have HG := Lib.hid hg2
      have HPT := Lib.hid hpts
      clear hr hb hg1 hg2 hpts hcap hcapm
      go_wp2_with fail
      refine (squareAll_any l g cap k _ HP hi64 HPT HG.out).mono ?_
      unfold SquarePost
      rw [HSV.out]
      rintro e w2 ⟨rfl, hb⟩
      have HB2 := Lib.hid (HB1.out.trans (hb.mono HB1.out.size))
      have HPT2 := Lib.hid (HPT.out.on hb)
      have HG2 := Lib.hid (Nat.lt_of_lt_of_le HG.out hb.size)
      clear hb
      obtain ⟨W, hW⟩ : ∃ W, W = w2.alloc (.cells #[.int .i64 sx, .int .i64 sy] 63) := ⟨_, rfl⟩
      have HBa : Hid (Below w2.heap.size w2 W) := Lib.hid (by rw [hW]; exact (Below.refl _ _).alloc (Nat.le_refl _) _)
      have HZ : Hid (PtAt W w2.heap.size (sx, sy)) := Lib.hid (by rw [hW]; exact ptAt_new w2 (sx, sy))
      have HBW : Hid (Below w.heap.size w W) := Lib.hid (HB2.out.trans (HBa.out.mono HB2.out.size))
      have HPT3 := Lib.hid (HPT2.out.on HBa.out)
      have HG3 := Lib.hid (Nat.lt_of_lt_of_le HG2.out HBa.out.size)
      go_upto_region 5 with fail
      rw [← hW]
      clear hW
      have hd1 : W.drew.cell? _ = _ := HZ.out.cells.1
      have hd2 : W.drew.cell? _ = _ := HZ.out.cells.2
      have HBd : Hid (Below W.heap.size W W.drew) := Lib.hid (Below.refl _ _).drew
      go_region_law (go_simp; first
        | (go_at_call 74; refine (HPU.out g cap _ (Lib.hid (HPT3.out.on HBd.out)) (Nat.lt_of_lt_of_le HG3.out HBd.out.size)).mono ?_; rintro e wy ⟨v, rfl, hC⟩; obtain ⟨g2, cap2, rfl, hp2, -⟩ := made_form hC HUL.out; have HP2 := Lib.hid hp2; have HBp := HBd; have HBd := Lib.hid (HBp.out.trans (hC.2.1.mono HBp.out.size)); have hd1 := (HZ.out.on HBd.out).cells.1; have hd2 := (HZ.out.on HBd.out).cells.2; clear hC hp2)
        | (go_at_call 75; refine (text10_any us g2 cap2 _ HNR HST hul HP2).mono ?_; rintro e wy2 ⟨rfl, hb⟩; have HBq := HBd; have HBd := Lib.hid (HBq.out.trans (hb.mono HBq.out.size)); have hd1 := (HZ.out.on HBd.out).cells.1; have hd2 := (HZ.out.on HBd.out).cells.2; clear hb)
        | (go_at_call 76; refine (HIF.out _).mono ?_; rintro e wy3 ⟨rfl, hb⟩; (try (have HP2 := Lib.hid (HP2.out.on hb))); have HBs := HBd; have HBd := Lib.hid (HBs.out.trans (hb.mono HBs.out.size)); clear hb))
      all_goals
        go_wp2_with fail
        go_ret3
        exact ⟨rfl, HBW.out.trans (HBd.out.mono HBW.out.size)⟩
theorem take_of {s : ByteArray} {k : Nat} (h : k ≤ s.size) : (s.extract 0 k).data.toList = s.data.toList.take k := by
  simp [List.extract_eq_take_drop]
theorem drop_of {s : ByteArray} {k : Nat} (h : k ≤ s.size) : (s.extract k s.size).data.toList = s.data.toList.drop k := by
  simp [List.extract_eq_take_drop]
  exact List.take_of_length_le (by simp)
set_option maxRecDepth 100000 in
set_option maxHeartbeats 6400000 in
theorem specPushCorner_any (s : ByteArray) (l : List UInt8) (hl0 : Hid (l = s.data.toList)) (i : Int) (w : World) (hs : s.size ≤ 1048576) (hi64 : -9223372036854775808 ≤ i ∧ i ≤ 9223372036854775807) : Calls Try.prog 40 #[.string s, .int .i64 i] w (Val (.tuple #[.string (pushV l i), .bool (pushF l i), .bool (cornerB l i)]) w) := by
  cases hc : cornerB l i with
  | false =>
    have HC := Lib.hid hc
    have HV := Lib.hid (push_no hc)
    rw [HV.out.1, HV.out.2]
    clear hc
    go_enter Try.func40, Try.ntmps40
    go_wp2_with fail
    refine (l10Corner_any s l hl0 i _ hs hi64).mono ?_
    rw [HC.out]
    rintro e w1 ⟨rfl, hb⟩
    have HB1 := Lib.hid hb
    clear hb
    go_wp2_with fail
    go_ret3
    exact ⟨rfl, HB1.out⟩
  | true =>
    have HC := Lib.hid hc
    obtain ⟨k, rfl, hp, hcb, hk2, a, b, ha, hb2⟩ := corner_parts hc
    obtain ⟨hv, hf⟩ := push_yes hc
    rw [hv, hf]
    have HP := Lib.hid hp
    have hlen : Hid (l.length = s.size) := Lib.hid (by rw [hl0.out]; simp)
    have hk3 : k + 2 ≤ s.size := by rw [← hlen.out]; exact hk2
    have hln : s.size ≤ 400 := by rw [← hlen.out]; exact (Plain.path_ok hp).1
    have HPL := Lib.hid (push_list ha hb2)
    have HFR : Hid (∀ W, Calls Try.prog 72 #[.string s, .int .i64 (k : Int)] W (Val (.bool (Plain.sqFree (Plain.sqP l k))) W)) := Lib.hid (fun W => l10Free_any s l hl0 k W hs HP hk2)
    have hb1' := bytes_at hl0.out (show k < s.size by omega)
    have hb2' := bytes_at hl0.out (show k + 1 < s.size by omega)
    rw [ha] at hb1'
    rw [hb2] at hb2'
    have HEQ : Hid ((s.extract 0 k ++ s.extract (k + 1) (k + 2) ++ s.extract k (k + 1) ++ s.extract (k + 2) s.size) = ⟨(Plain.pushL l k).toArray⟩) := Lib.hid (text_of (by
      rw [cat_list, cat_list, cat_list, take_of (by omega), drop_of (by omega), one_of (show k + 1 < s.size by omega), one_of (show k < s.size by omega), ← HPL.out, ← hl0.out, Option.some.inj hb1', Option.some.inj hb2']))
    obtain ⟨F, hF⟩ : ∃ F, F = Plain.sqFree (Plain.sqP l k) := ⟨_, rfl⟩
    rw [← hF] at HFR ⊢
    rw [← HEQ.out]
    have z1 : (s.extract 0 k).size ≤ 400 := by rw [size_list (take_of (show k ≤ s.size by omega)), List.length_take]; omega
    have z2 : (s.extract (k + 1) (k + 2)).size ≤ 400 := by rw [size_list (one_of (show k + 1 < s.size by omega))]; simp
    have z3 : (s.extract k (k + 1)).size ≤ 400 := by rw [size_list (one_of (show k < s.size by omega))]; simp
    have z4 : (s.extract (k + 2) s.size).size ≤ 400 := by rw [size_list (drop_of (show k + 2 ≤ s.size by omega)), List.length_drop]; rw [← hl0.out, hlen.out]; omega
    clear hc hv hf hcb ha hb2 hb1' hb2' hF hp hk2
    go_enter Try.func40, Try.ntmps40
    go_wp2_with fail
    refine (l10Corner_any s l hl0 k _ hs hi64).mono ?_
    rw [HC.out]
    rintro e w1 ⟨rfl, hb⟩
    have HB1 := Lib.hid hb
    clear hb
    go_upto_region 3 with fail
    have hj0 : (0 : Int) ≤ (k : Int) := by omega
    have hj1 : (k : Int) ≤ (s.size : Int) := by omega
    have hj2 : IntKind.i64.wrap ((k : Int) + 1) = (k : Int) + 1 := Go.IntWalk.i64_in _ (by omega)
    have hj3 : IntKind.i64.wrap ((k : Int) + 2) = (k : Int) + 2 := Go.IntWalk.i64_in _ (by omega)
    have hj4 : (0 : Int) ≤ (k : Int) + 1 := by omega
    have hj5 : (0 : Int) ≤ (k : Int) + 2 := by omega
    have hj6 : (k : Int) + 1 ≤ (s.size : Int) := by omega
    have hj7 : (k : Int) + 2 ≤ (s.size : Int) := by omega
    have hj8 : (k : Int) + 1 ≤ (k : Int) + 2 := by omega
    have hj9 : (k : Int) ≤ (k : Int) + 1 := by omega
    have hj10 : ((k : Int) + 1).toNat = k + 1 := by omega
    have hj11 : ((k : Int) + 2).toNat = k + 2 := by omega
    have hz1 : ¬ (9223372036854775807 < min k s.size + 1) := by omega
    have hz2 : ¬ (9223372036854775807 < min k s.size + 1 + 1) := by omega
    have hz4 : ¬ (9223372036854775807 < min k s.size + 1 + (min (k + 1) s.size - k)) := by omega
    have hz5 : ¬ (9223372036854775807 < min k s.size + (min (k + 2) s.size - (k + 1))) := by omega
    have hz6 : ¬ (9223372036854775807 < min k s.size + 1 + (min (k + 1) s.size - k) + (s.size - (k + 2))) := by omega
    have hz7 : ¬ (9223372036854775807 < min k s.size + (1 + 1)) := by omega
    have hz8 : ¬ (9223372036854775807 < min k s.size + 2) := by omega
    have hz9 : ¬ (9223372036854775807 < min k s.size + 2 + (s.size - (k + 2))) := by omega
    have hz3 : ¬ (9223372036854775807 < min k s.size + 1 + 1 + (s.size - (k + 2))) := by omega
    go_region_law (go_simp; ((with_reducible refine (HFR.out _).mono ?_); rintro e wy ⟨rfl, hb⟩; have HB2 : Hid (Below w.heap.size w wy) := Lib.hid (HB1.out.drew.trans (hb.mono HB1.out.drew.size)); clear hb))
    all_goals
      go_wp2_with fail
      go_ret3
      exact ⟨rfl, HB2.out⟩
theorem bothPushCorner (s : ByteArray) (hs : s.size ≤ 1048576) (i : Int) (hl : -9223372036854775808 ≤ i) (hh : i ≤ 9223372036854775807) : ∃ (o : ByteArray) (b c : Bool),
    (∀ w, Calls Try.prog 40 #[.string s, .int .i64 i] w (Val (.tuple #[.string o, .bool b, .bool c]) w)) ∧
    (∀ w, Calls Try.prog 41 #[.string s, .int .i64 i] w (Val (.tuple #[.string o, .bool b, .bool c]) w)) :=
  ⟨_, _, _, fun w => specPushCorner_any s _ (Lib.hid rfl) i w hs ⟨hl, hh⟩, fun w => implPushCorner_any s _ (Lib.hid rfl) i w (by omega) ⟨hl, hh⟩⟩
end Go.Proofs.Ytpaijobmoddgpaa
