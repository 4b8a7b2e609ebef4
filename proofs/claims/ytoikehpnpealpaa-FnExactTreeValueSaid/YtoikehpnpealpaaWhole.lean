/- Contracts: spec.l4Whole, IsTree, TreeLength, TreeShape: a whole text as a tree. No condition (texts of any length). -/
import Derived.Test.YtoikehpnpealpaaTreeRead
import Derived.BigRegion
namespace Go.Proofs.Ytoikehpnpealpaa
open Go.ChangeShapes Go.WideShapes Go.ChangeAt Go.RowKit
set_option linter.unusedVariables false

/-- No run of letters is longer than a word can be. -/
def runsOk : Nat → List UInt8 → Bool
  | _, [] => true
  | k, c :: l => decide ((if byteL c = 0 then 0 else k + 1) ≤ 64) && runsOk (if byteL c = 0 then 0 else k + 1) l
/-- What a whole text is read as. -/
def wholeT (s : ByteArray) : Option (Nat × Nat × Nat × Nat) := if s.size ≤ 80 then readT (s.size + 1) s.data.toList else none
def wholeB (s : ByteArray) : Bool := match wholeT s with
  | none => false
  | some t => runsOk 0 s.data.toList && decide (t.1 = s.size)
def WholePost (s : ByteArray) (w : World) (e : Ending) (w' : World) : Prop := e = .returned (.tuple #[treeAgg (wholeT s), .bool (wholeB s)]) ∧ Below w.heap.size w w'
theorem runsOk_at {l : List UInt8} {k : Nat} {c : UInt8} (h : l[k]? = some c) (n : Nat) : runsOk n (l.drop k) = (decide ((if byteL c = 0 then 0 else n + 1) ≤ 64) && runsOk (if byteL c = 0 then 0 else n + 1) (l.drop (k + 1))) := by
  obtain ⟨hk, rfl⟩ := List.getElem?_eq_some_iff.1 h
  rw [List.drop_eq_getElem_cons hk]
  rfl

theorem agg_four (r : Option (Nat × Nat × Nat × Nat)) : ∃ a b c d : Int, treeAgg r = .agg #[.int .i64 a, .int .i64 b, .int .i64 c, .int .i64 d] ∧ ∀ (n : Nat) (x : Bool), (r.isSome && x && (a == (n : Int))) = match r with | none => false | some t => x && decide (t.1 = n) := by
  cases r with
  | none => exact ⟨0, 0, 0, 0, rfl, fun n x => rfl⟩
  | some t => exact ⟨_, _, _, _, rfl, fun n x => by simp; cases x <;> simp [Bool.beq_eq_decide_eq, Int.natCast_inj]⟩

set_option maxRecDepth 100000 in
set_option maxHeartbeats 4000000 in
theorem l4Whole_any (s : ByteArray) (w : World) : Calls Try.prog 70 #[.string s] w (WholePost s w) := by
  by_cases hs : s.size ≤ 80
  · have hsi : (s.size : Int) ≤ 80 := by omega
    have hw : Hid (wholeT s = readT (s.size + 1) s.data.toList) := Lib.hid (if_pos hs)
    go_enter Try.func70, Try.ntmps70
    go_wp2_with fail
    have H0 := Lib.hid (four_new w 0 0 0 0)
    have hb0 := (Below.refl w.heap.size w).alloc (Nat.le_refl _) (.cells #[.int .i64 0, .int .i64 0, .int .i64 0, .int .i64 0] 76)
    refine (l4Read_any (s.size + 1) s _ (by omega) hs).mono ?_
    rintro e w1 ⟨rfl, hb⟩
    have HB1 := Lib.hid (hb0.trans (hb.mono hb0.size))
    have H1 := Lib.hid (H0.out.on hb)
    obtain ⟨r, hr⟩ : ∃ r, r = readT (s.size + 1) s.data.toList := ⟨_, rfl⟩
    obtain ⟨a1, a2, a3, a4, ha, hal⟩ := agg_four r
    rw [← hr, ha]
    have HW : Hid (wholeT s = r) := Lib.hid (by rw [hw.out, hr])
    have HA := Lib.hid ha
    have HAL := Lib.hid hal
    have hz1 := H1.out.lt
    obtain ⟨r0, r1, r2, r3, r4⟩ := H1.out.cells
    have r5 := r4 0
    have r6 := r4 1
    have r7 := r4 2
    have r8 := r4 3
    generalize r.isSome = ok at HAL ⊢
    clear hb hb0 hr ha r4 hw hal
    go_wp2_with fail
    go_loop [5, 6, 7] (fun o n i => ∃ (k d : Nat) (c : Bool), k ≤ s.size ∧ d ≤ k ∧ i = .int .i64 (k : Int) ∧ n = .int .i64 (d : Int) ∧ o = .bool c ∧ (c && runsOk d (s.data.toList.drop k)) = (ok && runsOk 0 s.data.toList)) (fun o n i => s.size - (intOf i).toNat)
    case atStart => exact ⟨0, 0, ok, Nat.zero_le _, Nat.le_refl _, rfl, rfl, rfl, rfl⟩
    case round =>
      obtain ⟨k, d, c, hk, hd, rfl, rfl, rfl, hrun⟩ := hrel
      by_cases hlt : k < s.size
      · rw [runsOk_at (byte_list hlt)] at hrun
        by_cases hz : byteL s[k] = 0
        · rw [if_pos hz] at hrun
          have HZ := Lib.hid hz
          have HN := Lib.hid hrun
          clear hrun hz
          go_wp2_with fail
          refine (l2Sign_any _ _).mono ?_
          rw [HZ.out]
          rintro e w' ⟨rfl, rfl⟩
          cases c
          all_goals
            go_wp2_with fail
            go_round
            case rel => exact ⟨k + 1, 0, _, by omega, Nat.zero_le _, by go_num, rfl, rfl, by simpa using HN.out⟩
            case measure => simp [intOf]; omega
        · rw [if_neg hz] at hrun
          have hbi := byteL_in s[k]
          obtain ⟨x, hx⟩ : ∃ x, x = byteL s[k] := ⟨_, rfl⟩
          rw [← hx] at hz hbi
          have HX := Lib.hid hx
          have hq : (x != 0) = true := by simpa using hz
          have HN := Lib.hid hrun
          clear hrun hz hx
          go_wp2_with fail
          refine (l2Sign_any _ _).mono ?_
          rw [← HX.out]
          rintro e w' ⟨rfl, rfl⟩
          cases c
          · go_wp2_with fail
            go_round
            case rel => exact ⟨k + 1, d + 1, false, by omega, by omega, by go_num, by go_num, rfl, by simpa using HN.out⟩
            case measure => simp [intOf]; omega
          · go_wp2_with fail
            go_round
            case rel => exact ⟨k + 1, d + 1, _, by omega, by omega, by go_num, by go_num, rfl, by rw [← HN.out, show decide ((d : Int) + 1 ≤ 64) = decide (d + 1 ≤ 64) from decide_eq_decide.2 (by omega)]; rfl⟩
            case measure => simp [intOf]; omega
      · obtain rfl : k = s.size := by omega
        rw [List.drop_eq_nil_of_le (by simp)] at hrun
        have HN : Hid (c = (ok && runsOk 0 s.data.toList)) := Lib.hid (by rw [← hrun]; simp [runsOk])
        clear hrun
        have HBV := Lib.hid (HB1.out.alloc HB1.out.size (.cells #[.int .i64 a1, .int .i64 a2, .int .i64 a3, .int .i64 a4] 76))
        have k1 : (w1.alloc (.cells #[.int .i64 a1, .int .i64 a2, .int .i64 a3, .int .i64 a4] 76)).heap[w1.heap.size]? = _ := heap_alloc_new w1 _
        have k2 : (w1.alloc (.cells #[.int .i64 a1, .int .i64 a2, .int .i64 a3, .int .i64 a4] 76)).heap[w.heap.size]? = _ := (heap_alloc_old w1 _ hz1).trans H1.out
        have HWB : Hid (wholeB s = (c && (a1 == (s.size : Int)))) := Lib.hid (by rw [HN.out, HAL.out, wholeB, HW.out])
        go_wp2_with fail
        generalize (World.alloc w1 _) = V at HBV k1 k2 ⊢
        clear r0 r1 r2 r3 r5 r6 r7 r8 HN
        have K1 : Hid (Four V.drew w1.heap.size a1 a2 a3 a4) := Lib.hid k1
        have K2 : Hid (Four V.drew w.heap.size 0 0 0 0) := Lib.hid k2
        clear k1 k2
        obtain ⟨q0, q1, q2, q3, -⟩ := K1.out.cells
        obtain ⟨r0, r1, r2, r3, r4⟩ := K2.out.cells
        have r5 := r4 0
        have r6 := r4 1
        have r7 := r4 2
        have r8 := r4 3
        have t0 : V.cell? ⟨w1.heap.size, 0, none⟩ = some (.int .i64 a1) := q0
        have s0 : V.cell? ⟨w.heap.size, 0, none⟩ = some (.int .i64 0) := r0
        have s1 : V.cell? ⟨w.heap.size, 1, none⟩ = some (.int .i64 0) := r1
        have s2 : V.cell? ⟨w.heap.size, 2, none⟩ = some (.int .i64 0) := r2
        have s3 : V.cell? ⟨w.heap.size, 3, none⟩ = some (.int .i64 0) := r3
        have s5 : V.frozen? ⟨w.heap.size, 0, none⟩ = false := r5
        have s6 : V.frozen? ⟨w.heap.size, 1, none⟩ = false := r6
        have s7 : V.frozen? ⟨w.heap.size, 2, none⟩ = false := r7
        have s8 : V.frozen? ⟨w.heap.size, 3, none⟩ = false := r8
        clear r4
        cases c
        all_goals
          go_region
          go_wp2_with fail
          refine bodyPost_ret (v := .tuple #[.agg #[.int .i64 a1, .int .i64 a2, .int .i64 a3, .int .i64 a4], .bool _]) ?_ rfl ⟨by rw [HW.out, HA.out, HWB.out], (set4 HBV.out (Nat.le_refl _) _ _ _ _).drew⟩
          simp [results, Try.results70, go_sem, s0, s1, s2, s3]
  · have hsi : 80 < (s.size : Int) := by omega
    have hw : wholeT s = none := if_neg hs
    have hb : wholeB s = false := by unfold wholeB; rw [hw]
    go_enter Try.func70, Try.ntmps70
    go_wp2_with fail
    exact bodyPost_ret (v := .tuple #[.agg #[.int .i64 0, .int .i64 0, .int .i64 0, .int .i64 0], .bool false]) (by simp [results, Try.results70, go_sem]) rfl ⟨by rw [hw, hb]; rfl, (Below.refl _ _).alloc (Nat.le_refl _) _⟩

/-- The whole reading, with the tree written out as four numbers. -/
theorem l4Whole_four (s : ByteArray) : ∃ a b c d : Int, Hid (∀ w, Calls Try.prog 70 #[.string s] w fun e w' => e = .returned (.tuple #[.agg #[.int .i64 a, .int .i64 b, .int .i64 c, .int .i64 d], .bool (wholeB s)]) ∧ Below w.heap.size w w') ∧ Hid (∀ t, wholeT s = some t → a = (t.1 : Int) ∧ b = (t.2.1 : Int) ∧ c = (t.2.2.1 : Int) ∧ d = (t.2.2.2 : Int)) := by
  have hc := l4Whole_any s
  unfold WholePost at hc
  generalize wholeT s = r at hc
  cases r with
  | none => exact ⟨0, 0, 0, 0, Lib.hid hc, Lib.hid (fun t h => by cases h)⟩
  | some t => exact ⟨_, _, _, _, Lib.hid hc, Lib.hid (fun t' h => by cases h; exact ⟨rfl, rfl, rfl, rfl⟩)⟩

set_option maxRecDepth 100000 in
set_option maxHeartbeats 1000000 in
theorem specIsTree_any (s : ByteArray) (w : World) : Calls Try.prog 67 #[.string s] w fun e w' => e = .returned (.bool (wholeB s)) ∧ Below w.heap.size w w' := by
  obtain ⟨a, b, c, d, HC, -⟩ := l4Whole_four s
  generalize wholeB s = ok at HC ⊢
  go_enter Try.func67, Try.ntmps67
  go_wp2_with fail
  refine (HC.out _).mono ?_
  rintro e w1 ⟨rfl, hb⟩
  go_wp2_with fail
  go_ret
  exact ⟨rfl, hb.alloc hb.size _⟩

set_option maxRecDepth 100000 in
set_option maxHeartbeats 1000000 in
theorem specTreeLength_any (s : ByteArray) (w : World) : Calls Try.prog 30 #[.string s] w fun e w' => e = .returned (.tuple #[.int .i64 (if wholeB s then (match wholeT s with | none => 0 | some t => (t.2.2.2 : Int)) else 0), .bool (wholeB s)]) ∧ Below w.heap.size w w' := by
  obtain ⟨a, b, c, d, HC, HT⟩ := l4Whole_four s
  have hv : wholeB s = true → (match wholeT s with | none => 0 | some t => (t.2.2.2 : Int)) = d := by
    intro h
    unfold wholeB at h
    cases ht : wholeT s with
    | none => rw [ht] at h; cases h
    | some t => exact ((HT.out t ht).2.2.2).symm
  generalize wholeB s = ok at HC hv ⊢
  cases ok
  · go_enter Try.func30, Try.ntmps30
    go_wp2_with fail
    refine (HC.out _).mono ?_
    rintro e w1 ⟨rfl, hb⟩
    go_wp2_with fail
    refine bodyPost_ret ?_ rfl ⟨rfl, hb.alloc hb.size _⟩
    simp [results, Try.results30, go_sem]
  · rw [if_pos rfl, hv rfl]
    clear hv
    go_enter Try.func30, Try.ntmps30
    go_wp2_with fail
    refine (HC.out _).mono ?_
    rintro e w1 ⟨rfl, hb⟩
    go_wp2_with fail
    refine bodyPost_ret ?_ rfl ⟨rfl, hb.alloc hb.size _⟩
    simp [results, Try.results30, go_sem]

set_option maxRecDepth 100000 in
set_option maxHeartbeats 1000000 in
theorem specTreeShape_any (s : ByteArray) (w : World) : Calls Try.prog 33 #[.string s] w fun e w' => e = .returned (.tuple #[.int .i64 (if wholeB s then (match wholeT s with | none => 0 | some t => (t.2.1 : Int)) else 0), .int .i64 (if wholeB s then (match wholeT s with | none => 0 | some t => (t.2.2.1 : Int)) else 0), .bool (wholeB s)]) ∧ Below w.heap.size w w' := by
  obtain ⟨a, b, c, d, HC, HT⟩ := l4Whole_four s
  have hv : wholeB s = true → (match wholeT s with | none => 0 | some t => (t.2.1 : Int)) = b ∧ (match wholeT s with | none => 0 | some t => (t.2.2.1 : Int)) = c := by
    intro h
    unfold wholeB at h
    cases ht : wholeT s with
    | none => rw [ht] at h; cases h
    | some t => exact ⟨((HT.out t ht).2.1).symm, ((HT.out t ht).2.2.1).symm⟩
  generalize wholeB s = ok at HC hv ⊢
  cases ok
  · go_enter Try.func33, Try.ntmps33
    go_wp2_with fail
    refine (HC.out _).mono ?_
    rintro e w1 ⟨rfl, hb⟩
    go_wp2_with fail
    refine bodyPost_ret ?_ rfl ⟨rfl, hb.alloc hb.size _⟩
    simp [results, Try.results33, go_sem]
  · rw [if_pos rfl, if_pos rfl, (hv rfl).1, (hv rfl).2]
    clear hv
    go_enter Try.func33, Try.ntmps33
    go_wp2_with fail
    refine (HC.out _).mono ?_
    rintro e w1 ⟨rfl, hb⟩
    go_wp2_with fail
    go_region
    go_wp2_with fail
    refine bodyPost_ret ?_ rfl ⟨rfl, (hb.alloc hb.size _).drew⟩
    simp [results, Try.results33, go_sem]

end Go.Proofs.Ytoikehpnpealpaa
