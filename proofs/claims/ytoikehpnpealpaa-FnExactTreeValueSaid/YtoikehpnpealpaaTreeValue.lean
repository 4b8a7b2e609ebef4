/- Contracts: spec.l4Value, TreeValue. No condition (texts of any length). -/
import Derived.Test.YtoikehpnpealpaaTreeVal
import Derived.Test.YtoikehpnpealpaaSwap
import Derived.Test.YtoikehpnpealpaaCommSpec
namespace Go.Proofs.Ytoikehpnpealpaa
open Go.ChangeShapes Go.WideShapes Go.ChangeAt Go.RowKit
set_option linter.unusedVariables false

/-- What a tree's text comes to: a reduced word, or none. -/
def valS : Nat → ByteArray → List Int × Bool
  | 0, _ => ([], false)
  | f + 1, s => if s.data.toList[0]? = some 91 then (match readT f (s.data.toList.drop 1) with
      | none => ([], false)
      | some a => if ((valS f (s.extract 1 (1 + a.1))).2 && (valS f (s.extract (2 + a.1) (s.size - 1))).2) = true then (short (Plain.comm (valS f (s.extract 1 (1 + a.1))).1 (valS f (s.extract (2 + a.1) (s.size - 1))).1), shortB (Plain.comm (valS f (s.extract 1 (1 + a.1))).1 (valS f (s.extract (2 + a.1) (s.size - 1))).1)) else ([], false))
    else (Plain.red (parseOut s), parseB s)
/-- A text that is a tree from its first to its last byte. -/
def IsT (f : Nat) (s : ByteArray) : Prop := ∃ t, readT f s.data.toList = some t ∧ t.1 = s.size
theorem extract_list (s : ByteArray) (i j : Nat) : (s.extract i j).data.toList = (s.data.toList.drop i).take (j - i) := by
  rw [ByteArray.data_extract, Array.toList_extract]
theorem parse_letters (s : ByteArray) : Plain.Letters (parseOut s) := by
  unfold parseOut
  split
  · rename_i h
    intro x hx
    simp only [parseB, signsB, Bool.and_eq_true, List.all_eq_true] at h
    simp only [readTo, List.mem_map] at hx
    obtain ⟨c, hc, rfl⟩ := hx
    have h1 := h.2 c (List.mem_of_mem_take hc)
    have h2 := byteL_in c
    simp only [okL, decide_eq_true_eq] at h1
    refine ⟨?_, ?_⟩ <;> omega
  · intro x hx
    cases hx
theorem parse_64 (s : ByteArray) : (parseOut s).length ≤ 64 := by
  unfold parseOut
  split
  · rename_i h
    simp only [parseB, Bool.and_eq_true, decide_eq_true_eq] at h
    rw [readTo_length (Nat.le_refl _)]
    exact h.1
  · simp
theorem short_letters {xs : List Int} (h : Plain.Letters xs) : Plain.Letters (short xs) := by
  unfold short
  split
  · exact h
  · intro x hx
    cases hx
theorem valS_fine (f : Nat) : ∀ s : ByteArray, (valS f s).1.length ≤ 64 ∧ Plain.Letters (valS f s).1 := by
  induction f with
  | zero => intro s; exact ⟨by simp [valS], fun x hx => by cases hx⟩
  | succ f ih =>
    intro s
    rw [valS]
    split
    · split
      · exact ⟨by simp, fun x hx => by cases hx⟩
      · split
        · exact ⟨short_le _, short_letters (Plain.Letters.comm (ih _).2 (ih _).2)⟩
        · exact ⟨by simp, fun x hx => by cases hx⟩
    · exact ⟨Nat.le_trans (Plain.red_length _) (parse_64 s), (parse_letters s).red⟩
theorem isT_cut {f : Nat} {s : ByteArray} (h : IsT (f + 1) s) (h91 : s.data.toList[0]? = some 91) : ∃ a b : Nat × Nat × Nat × Nat, readT f (s.data.toList.drop 1) = some a ∧ s.size = 3 + a.1 + b.1 ∧ IsT f (s.extract 1 (1 + a.1)) ∧ IsT f (s.extract (2 + a.1) (s.size - 1)) ∧ 1 ≤ a.1 ∧ 1 ≤ b.1 := by
  obtain ⟨t, hw, ht⟩ := h
  rw [readT, h91] at hw
  have h0 : runLen s.data.toList = 0 := by
    cases hl : s.data.toList with
    | nil => rfl
    | cons c l =>
      rw [hl] at h91
      simp at h91
      subst h91
      rfl
  rw [h0] at hw
  simp only [ne_eq, not_true_eq_false, if_false, if_true] at hw
  cases ha : readT f (s.data.toList.drop 1) with
  | none => rw [ha] at hw; cases hw
  | some a =>
    rw [ha] at hw
    simp only at hw
    split at hw
    · cases hb : readT f (s.data.toList.drop (2 + a.1)) with
      | none => rw [hb] at hw; cases hw
      | some b =>
        rw [hb] at hw
        simp only at hw
        split at hw
        · cases hw
          simp only at ht
          have fa := readT_fit _ _ _ ha
          have fb := readT_fit _ _ _ hb
          refine ⟨a, b, rfl, by omega, ⟨a, ?_, ?_⟩, ⟨b, ?_, ?_⟩, by have := fa.2.1; omega, by have := fb.2.1; omega⟩
          · rw [extract_list, show 1 + a.1 - 1 = a.1 by omega]
            exact readT_take f _ _ ha _ (Nat.le_refl _)
          · simp; omega
          · rw [extract_list]
            exact readT_take f _ _ hb _ (by omega)
          · simp; omega
        · cases hw
    · cases hw

set_option maxRecDepth 100000 in
set_option maxHeartbeats 2000000 in
theorem l4Value_any (f : Nat) : ∀ (s : ByteArray) (w : World), IsT f s → s.size < f → 0 < s.size → s.size ≤ 80 →
    Calls Try.prog 68 #[.string s] w (SB (valS f s).1 (valS f s).2 w) := by
  induction f with
  | zero => intro s w _ h; omega
  | succ f ih =>
    intro s w hT hf h0 h80
    have hsi : (s.size : Int) ≤ 80 := by omega
    have hs0 : (0 : Int) < (s.size : Int) := by omega
    have hbt := byte_list h0
    by_cases h91 : s[0] = 91
    · obtain ⟨a, b, ha, hsz, hT1, hT2, ha1, hb1⟩ := isT_cut hT (by rw [hbt, h91])
      obtain ⟨a1, a2, a3, a4⟩ := a
      simp only at hsz hT1 hT2 ha1
      have hn1 : (s.extract 1 (1 + a1)).size = a1 := by simp; omega
      have hn2 : (s.extract (2 + a1) (s.size - 1)).size = b.1 := by simp; omega
      have hc := fun W => l4Read_any f (s.extract 1 s.size) W (by simp; omega) (by simp; omega)
      rw [Lib.extract_to_end, ha] at hc
      have C1 := Lib.hid (fun W => ih (s.extract 1 (1 + a1)) W hT1 (by omega) (by omega) (by omega))
      have C2 := Lib.hid (fun W => ih (s.extract (2 + a1) (s.size - 1)) W hT2 (by omega) (by omega) (by omega))
      have F1 := Lib.hid (valS_fine f (s.extract 1 (1 + a1)))
      have F2 := Lib.hid (valS_fine f (s.extract (2 + a1) (s.size - 1)))
      have HE : Hid (valS (f + 1) s = _) := Lib.hid (by
        rw [valS, if_pos (by rw [hbt, h91]), ha])
      simp only at HE
      obtain ⟨p, hp⟩ : ∃ p, p = valS f (s.extract 1 (1 + a1)) := ⟨_, rfl⟩
      obtain ⟨q, hqq⟩ : ∃ q, q = valS f (s.extract (2 + a1) (s.size - 1)) := ⟨_, rfl⟩
      rw [← hp] at C1 F1 HE
      rw [← hqq] at C2 F2 HE
      obtain ⟨us, uo⟩ := p
      obtain ⟨vs, vo⟩ := q
      simp only at C1 C2 F1 F2 HE
      have HR := Lib.hid hc
      have hq : (((s[0]).toNat : Int) != 91) = false := by rw [h91]; rfl
      have hi1 : (1 : Int) + (a1 : Int) ≤ (s.size : Int) := by omega
      have hi2 : (2 : Int) + (a1 : Int) ≤ (s.size : Int) - 1 := by omega
      have e1 : IntKind.i64.wrap ((s.size : Int) - 1) = (s.size : Int) - 1 := Go.IntWalk.i64_in _ (by omega)
      have e2 : IntKind.i64.wrap (2 + (a1 : Int)) = 2 + (a1 : Int) := Go.IntWalk.i64_in _ (by omega)
      have e3 : IntKind.i64.wrap (1 + (a1 : Int)) = 1 + (a1 : Int) := Go.IntWalk.i64_in _ (by omega)
      have t1 : ((s.size : Int) - 1).toNat = s.size - 1 := by omega
      have t2 : (2 + (a1 : Int)).toNat = 2 + a1 := by omega
      have t3 : (1 + (a1 : Int)).toNat = 1 + a1 := by omega
      have p1 : (0 : Int) ≤ (s.size : Int) - 1 := by omega
      have p2 : (s.size : Int) - 1 ≤ (s.size : Int) := by omega
      have p3 : (0 : Int) ≤ 2 + (a1 : Int) := by omega
      have p4 : (0 : Int) ≤ 1 + (a1 : Int) := by omega
      have p5 : (1 : Int) ≤ 1 + (a1 : Int) := by omega
      obtain ⟨r, hr⟩ : ∃ r, r = valS (f + 1) s := ⟨_, rfl⟩
      rw [← hr] at HE ⊢
      clear ih hT hf h91 hbt hp hqq hc hT1 hT2 ha hsz hn1 hn2 hr
      go_enter Try.func68, Try.ntmps68
      go_wp2_with fail
      refine (HR.out _).mono ?_
      rintro e w1 ⟨rfl, hb⟩
      unfold treeAgg
      have HA := Lib.hid (four_new w1 (a1 : Int) (a2 : Int) (a3 : Int) (a4 : Int))
      have HB := Lib.hid (hb.alloc hb.size (.cells #[.int .i64 (a1 : Int), .int .i64 (a2 : Int), .int .i64 (a3 : Int), .int .i64 (a4 : Int)] 76))
      clear hb
      go_wp2_with fail
      refine (C1.out _).mono ?_
      rintro e w2 ⟨u, rfl, ⟨au, cu, rfl, hu, hou, hku⟩, hb2⟩
      have HU := Lib.hid hu
      have KU := Lib.hid hku
      have HA2 := Lib.hid (HA.out.on hb2)
      have HB2 := Lib.hid (HB.out.trans (hb2.mono HB.out.size))
      have q0 := HA2.out.cells.1
      clear hu hku hb2 hou
      go_wp2_with fail
      refine (C2.out _).mono ?_
      rintro e w3 ⟨v, rfl, ⟨av, cv, rfl, hv, hov, hkv⟩, hb3⟩
      have HU3 := Lib.hid (HU.out.on hb3)
      have HV := Lib.hid hv
      have KV := Lib.hid hkv
      have HB3 := Lib.hid (HB2.out.trans (hb3.mono HB2.out.size))
      clear hv hkv hb3 hov q0 HA2 HB2 HU
      have no_way : (uo && vo) = false → r = ([], false) := fun h => by rw [HE.out, if_neg (by rw [h]; simp)]
      cases uo
      · have HN := Lib.hid (no_way rfl)
        clear no_way
        go_wp2_with fail
        go_ret2
        exact sb_eq (by rw [HN.out]) (by rw [HN.out]) ⟨_, rfl, (coll_res (coll_start w3)).1.mono HB3.out.size, HB3.out.trans ((coll_start w3).2.1.mono HB3.out.size)⟩
      · cases vo
        · have HN := Lib.hid (no_way rfl)
          clear no_way
          go_wp2_with fail
          go_ret2
          exact sb_eq (by rw [HN.out]) (by rw [HN.out]) ⟨_, rfl, (coll_res (coll_start w3)).1.mono HB3.out.size, HB3.out.trans ((coll_start w3).2.1.mono HB3.out.size)⟩
        · clear no_way
          have hcl := Plain.comm_le us vs
          have m1 := F1.out.1
          have m2 := F2.out.1
          have L1 := Lib.hid F1.out.2
          have L2 := Lib.hid F2.out.2
          have HN : Hid (r = (short (Plain.comm us vs), shortB (Plain.comm us vs))) := Lib.hid (by rw [HE.out]; rfl)
          obtain ⟨zs, hzs⟩ : ∃ z, z = Plain.comm us vs := ⟨_, rfl⟩
          rw [← hzs] at hcl HN
          have HZ2 := Lib.hid hzs
          clear hzs HE F1 F2
          go_wp2_with fail
          refine (l4Commutator_any _ _ _ _ us vs _ HU3 KU HV KV L1 L2 (by omega) (by omega)).mono ?_
          rw [← HZ2.out]
          rintro e w4 ⟨_, rfl, ⟨a5, c5, rfl, hi, ho, hk⟩, hb⟩
          have I3 := Lib.hid hi
          have O3 := Lib.hid ho
          have K3 := Lib.hid hk
          have B3 := Lib.hid hb
          clear hi ho hk hb
          go_wp2_with fail
          refine (l2Short_any a5 c5 zs _ I3 w3.heap.size O3 K3 B3.out.size (by omega)).mono ?_
          rintro e w5 ⟨v, rfl, hr, hb⟩
          have R := Lib.hid (And.intro (hr.mono HB3.out.size) (HB3.out.trans ((B3.out.trans (hb.mono B3.out.size)).mono HB3.out.size)))
          clear hr hb
          go_wp2_with fail
          go_ret2
          exact sb_eq (by rw [HN.out]) (by rw [HN.out]) ⟨_, rfl, R.out.1, R.out.2⟩
    · have hq : (((s[0]).toNat : Int) != 91) = true := by
        have : ¬ (s[0]).toNat = 91 := fun e => h91 (UInt8.toNat_inj.1 e)
        simp; omega
      have HE : Hid (valS (f + 1) s = (Plain.red (parseOut s), parseB s)) := Lib.hid (by
        rw [valS, if_neg (by rw [hbt]; simpa using h91)])
      have HL := Lib.hid (parse_letters s)
      have H64 := Lib.hid (parse_64 s)
      have HP := Lib.hid (fun W => specParseW_any s W (by omega))
      obtain ⟨xs, hxs⟩ : ∃ xs, xs = parseOut s := ⟨_, rfl⟩
      obtain ⟨ok, hok⟩ : ∃ ok, ok = parseB s := ⟨_, rfl⟩
      rw [← hxs] at HL H64 HP HE
      rw [← hok] at HP HE
      rw [HE.out]
      clear ih hT hf h91 hbt HE hxs hok
      go_enter Try.func68, Try.ntmps68
      go_wp2_with fail
      refine (HP.out _).mono ?_
      rintro e w1 ⟨v, rfl, ⟨a, c, rfl, hi, ho, hk⟩, hb⟩
      have HI := Lib.hid hi
      clear hi
      go_wp2_with fail
      refine (l2Reduce_any _ _ xs _ HI HL (Nat.le_trans H64.out (Nat.le_of_ble_eq_true rfl))).mono ?_
      rintro e w2 ⟨v, rfl, hr, hb2⟩
      go_wp2_with fail
      go_ret2
      exact ⟨_, rfl, hr.mono hb.size, hb.trans (hb2.mono hb.size)⟩

/-- What a text comes to as a tree. -/
def treeV (s : ByteArray) : List Int × Bool := if wholeB s = true then valS (s.size + 1) s else ([], false)
theorem whole_isT {s : ByteArray} (h : wholeB s = true) : IsT (s.size + 1) s := by
  unfold wholeB at h
  cases hw : wholeT s with
  | none => rw [hw] at h; cases h
  | some t =>
    rw [hw] at h
    simp only [Bool.and_eq_true, decide_eq_true_eq] at h
    unfold wholeT at hw
    split at hw
    · exact ⟨t, hw, h.2⟩
    · cases hw
theorem treeV_fine (s : ByteArray) : (treeV s).1.length ≤ 64 ∧ Plain.Letters (treeV s).1 := by
  unfold treeV
  split
  · exact valS_fine _ s
  · exact ⟨by simp, fun x hx => by cases hx⟩

set_option maxRecDepth 100000 in
set_option maxHeartbeats 1000000 in
theorem specTreeValue_any (s : ByteArray) (w : World) : Calls Try.prog 28 #[.string s] w (SB (treeV s).1 (treeV s).2 w) := by
  obtain ⟨ok, hok⟩ : ∃ ok, ok = wholeB s := ⟨_, rfl⟩
  have HC : Hid (∀ w, Calls Try.prog 67 #[.string s] w fun e w' => e = .returned (.bool ok) ∧ Below w.heap.size w w') := Lib.hid (by rw [hok]; exact specIsTree_any s)
  cases ok
  · have HN : Hid (treeV s = ([], false)) := Lib.hid (if_neg (by rw [← hok]; simp))
    clear hok
    go_enter Try.func28, Try.ntmps28
    go_wp2_with fail
    refine (HC.out _).mono ?_
    rintro e w1 ⟨rfl, hb⟩
    go_wp2_with fail
    go_ret2
    exact sb_eq (by rw [HN.out]) (by rw [HN.out]) ⟨_, rfl, (coll_res (coll_start w1)).1.mono hb.size, hb.trans ((coll_start w1).2.1.mono hb.size)⟩
  · have HN : Hid (treeV s = valS (s.size + 1) s) := Lib.hid (if_pos hok.symm)
    obtain ⟨h0, h80, -⟩ := whole_cut hok.symm
    have HV := Lib.hid (fun W => l4Value_any (s.size + 1) s W (whole_isT hok.symm) (by omega) h0 h80)
    rw [← HN.out] at HV
    obtain ⟨p, hp⟩ : ∃ p, p = treeV s := ⟨_, rfl⟩
    rw [← hp] at HV ⊢
    clear hok h0 h80 HN hp
    obtain ⟨us, uo⟩ := p
    simp only at HV ⊢
    go_enter Try.func28, Try.ntmps28
    go_wp2_with fail
    refine (HC.out _).mono ?_
    rintro e w1 ⟨rfl, hb⟩
    go_wp2_with fail
    refine (HV.out _).mono ?_
    rintro e w2 ⟨v, rfl, hr, hb2⟩
    go_wp2_with fail
    go_ret2
    exact ⟨_, rfl, hr.mono hb.size, hb.trans (hb2.mono hb.size)⟩

end Go.Proofs.Ytoikehpnpealpaa
