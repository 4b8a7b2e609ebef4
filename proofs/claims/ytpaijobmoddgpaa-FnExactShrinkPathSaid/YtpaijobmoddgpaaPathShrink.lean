/- Contracts: ShrinkPath of both programs. Condition: texts that fit. -/
import Derived.Test.YtpaijobmoddgpaaPathShrunk
import Derived.Deep.QuietTactic
import Derived.BigQuiet
namespace Go.Proofs.Ytpaijobmoddgpaa
open Go.ChangeShapes Go.WideShapes Go.ChangeAt Go.RowKit
set_option linter.unusedVariables false
set_option linter.unusedSimpArgs false

def shrV (l : List UInt8) : ByteArray := if Plain.pathB l = true then ⟨(Plain.shrinkL l).toArray⟩ else ⟨#[]⟩
theorem push_le (R : List UInt8) (b : UInt8) : (Plain.pushS R b).length ≤ R.length + 1 := by
  unfold Plain.pushS
  split
  · rw [List.length_dropLast]; omega
  · simp
theorem shrink_le (l : List UInt8) : ∀ k, (Plain.shrinkL (l.take k)).length ≤ k
  | 0 => Nat.le_refl _
  | k + 1 => by
    have ih := shrink_le l k
    by_cases hk : k < l.length
    · rw [Plain.at_get (List.getElem?_eq_getElem hk), Plain.shrink_snoc]
      have := push_le (Plain.shrinkL (l.take k)) l[k]
      omega
    · rw [List.take_of_length_le (by omega)]
      rw [List.take_of_length_le (by omega)] at ih
      omega
theorem last_text {T : ByteArray} (h : 0 < T.size) (x : UInt8) : ((T.extract (T.size - 1) T.size).toList == [x]) = decide (T.data.toList.getLast? = some x) := by
  have hl : T.data.toList.length = T.size := by simp
  have hne : T.data.toList ≠ [] := fun e => by rw [e] at hl; simp at hl; omega
  obtain ⟨R, c, hR⟩ : ∃ R c, T.data.toList = R ++ [c] := ⟨T.data.toList.dropLast, T.data.toList.getLast hne, (List.dropLast_concat_getLast hne).symm⟩
  have e1 : (T.extract (T.size - 1) T.size).data.toList = [c] := by
    have e2 : (T.extract (T.size - 1) T.size).data.toList = (T.data.toList.drop (T.size - 1)).take (T.size - (T.size - 1)) := by simp [List.extract_eq_take_drop]
    rw [e2, hR]
    have : R.length = T.size - 1 := by rw [hR] at hl; simp at hl; omega
    rw [← this, List.drop_left]
    rw [List.take_of_length_le (by simp; omega)]
  rw [ByteArray.toList_eq, e1, hR, List.getLast?_concat, Bool.eq_iff_iff]
  simp
theorem take_gen (T : ByteArray) (k : Nat) : (T.extract 0 k).data.toList = T.data.toList.take k := by simp [List.extract_eq_take_drop]
theorem init_text {T : ByteArray} (h : 0 < T.size) : (T.extract 0 (T.size - 1)).data.toList = T.data.toList.dropLast := by
  have hl : T.data.toList.length = T.size := by simp
  rw [take_gen, List.dropLast_eq_take, hl]
set_option maxRecDepth 100000 in
set_option maxHeartbeats 3200000 in
theorem specShrinkPath_any (s : ByteArray) (l : List UInt8) (hl0 : Hid (l = s.data.toList)) (w : World) (hs : s.size ≤ 9223372036854775807) : Calls Try.prog 36 #[.string s] w (Val (.tuple #[.string (shrV l), .bool (Plain.pathB l)]) w) := by
  cases hp : Plain.pathB l with
  | false =>
    have HP := Lib.hid hp
    have HV : Hid (shrV l = ⟨#[]⟩) := Lib.hid (by unfold shrV; rw [hp]; rfl)
    rw [HV.out]
    clear hp
    go_enter Try.func36, Try.ntmps36
    go_wp2_with fail
    refine (specIsPath_any s l hl0 _ hs).mono ?_
    rw [HP.out]
    rintro e w1 ⟨rfl, hb⟩
    have HB1 := Lib.hid hb
    clear hb
    go_wp2_with fail
    go_ret2
    exact ⟨rfl, HB1.out⟩
  | true =>
    have HP := Lib.hid hp
    have HV : Hid (shrV l = ⟨(Plain.shrinkL l).toArray⟩) := Lib.hid (by unfold shrV; rw [hp]; rfl)
    have hlen : Hid (l.length = s.size) := Lib.hid (by rw [hl0.out]; simp)
    have hln : s.size ≤ 400 := by rw [← hlen.out]; exact (Plain.path_ok hp).1
    clear hp
    go_enter Try.func36, Try.ntmps36
    go_wp2_with fail
    refine (specIsPath_any s l hl0 _ hs).mono ?_
    rw [HP.out]
    rintro e w1 ⟨rfl, hb⟩
    have HB1 := Lib.hid hb
    clear hb
    go_wp2_with fail
    go_loopw [4, 5] (fun t i wr => ∃ (k : Nat) (T : ByteArray), k ≤ s.size ∧ i = .int .i64 k ∧ t = .string T ∧ T.data.toList = Plain.shrinkL (l.take k) ∧ Below w.heap.size w wr) (fun _ i _ => s.size - (intOf i).toNat)
    case atStart => exact ⟨0, ⟨#[]⟩, Nat.zero_le _, rfl, rfl, rfl, HB1.out⟩
    case round =>
      obtain ⟨k, T, hk, rfl, rfl, hT, hbw⟩ := hrel
      have HBW := Lib.hid hbw
      clear hbw
      have hTs : T.size ≤ 400 := by rw [size_list hT]; have := shrink_le l k; omega
      have HT := Lib.hid hT
      clear hT
      by_cases hlt : k < s.size
      · have hb := bytes_at hl0.out hlt
        have HS : Hid (Plain.shrinkL (l.take (k + 1)) = Plain.pushS (Plain.shrinkL (l.take k)) s[k]) := Lib.hid (by rw [Plain.at_get hb, Plain.shrink_snoc])
        have HBK : Hid (∀ W, Calls Try.prog 66 #[.int .u8 s[k].toNat] W (BackPost s[k] W)) := Lib.hid (fun W => l10Back_any s[k] W)
        have HO := Lib.hid (one_of hlt)
        have hone : (s.extract k (k + 1)).size ≤ 400 := by rw [size_list HO.out]; simp
        clear hb
        by_cases h0 : T.size = 0
        · have HTE : Hid (T.data.toList = []) := Lib.hid (List.eq_nil_of_length_eq_zero (by have := size_list (T := T) rfl; omega))
          obtain rfl : T = ⟨#[]⟩ := text_of HTE.out
          have HNX : Hid (Plain.shrinkL (l.take (k + 1)) = (ByteArray.mk #[]).data.toList ++ [s[k]]) := Lib.hid (by rw [HS.out, ← HT.out]; rfl)
          clear h0
          go_upto_region 8 with fail
          go_quiet (fail)
          have HB2 := Lib.hid (below_drewN HBW.out nq)
          generalize wr.drewN nq = W2 at HB2 ⊢
          go_wp2_with fail
          go_roundw
          case rel => exact ⟨k + 1, _, by omega, by go_num, rfl, by rw [cat_list, HO.out, HNX.out], HB2.out⟩
          case measure => simp [intOf]; omega
        · have hpos : 0 < T.size := by omega
          have hposi : decide ((0 : Int) < (T.size : Int)) = true := by simp; omega
          have HB2 : Hid (∀ W, Calls Try.prog 66 #[.int .u8 s[k].toNat] W fun e w' => e = .returned (.string ⟨#[Plain.backB s[k]]⟩) ∧ w' = W) := Lib.hid (fun W => (HBK.out W).mono fun _ _ h => ⟨h.1, h.2.symm⟩)
          go_upto_region 8 with fail
          have hj1 : (0 : Int) ≤ (T.size : Int) - 1 := by omega
          have hj2 : (T.size : Int) - 1 ≤ (T.size : Int) := by omega
          have hj3 : IntKind.i64.wrap ((T.size : Int) - 1) = (T.size : Int) - 1 := Go.IntWalk.i64_in _ (by omega)
          have hj4 : ((T.size : Int) - 1).toNat = T.size - 1 := by omega
          have hj5 : (0 : Int) ≤ (k : Int) := by omega
          have hj6 : (k : Int) < (s.size : Int) := by omega
          have hLT := last_text hpos (Plain.backB s[k])
          cases hE : decide (T.data.toList.getLast? = some (Plain.backB s[k])) with
          | true =>
            rw [hE] at hLT
            have HNX : Hid (Plain.shrinkL (l.take (k + 1)) = T.data.toList.dropLast) := Lib.hid (by rw [HS.out, ← HT.out, Plain.pushS, if_pos (of_decide_eq_true hE)])
            have HIN := Lib.hid (init_text hpos)
            clear hE
            go_quiet ((go_at_call 66; exact Calls.quiet_of_same (HB2.out _)))
            have HB3 := Lib.hid (below_drewN HBW.out nq)
            generalize wr.drewN nq = W2 at HB3 ⊢
            go_wp2_with fail
            go_roundw
            case rel => exact ⟨k + 1, _, by omega, by go_num, rfl, by rw [HIN.out, HNX.out], HB3.out⟩
            case measure => simp [intOf]; omega
          | false =>
            rw [hE] at hLT
            have HNX : Hid (Plain.shrinkL (l.take (k + 1)) = T.data.toList ++ [s[k]]) := Lib.hid (by rw [HS.out, ← HT.out, Plain.pushS, if_neg (of_decide_eq_false hE)])
            clear hE
            go_quiet ((go_at_call 66; exact Calls.quiet_of_same (HB2.out _)))
            have HB3 := Lib.hid (below_drewN HBW.out nq)
            generalize wr.drewN nq = W2 at HB3 ⊢
            go_wp2_with fail
            go_roundw
            case rel => exact ⟨k + 1, _, by omega, by go_num, rfl, by rw [cat_list, HO.out, HNX.out], HB3.out⟩
            case measure => simp [intOf]; omega
      · obtain rfl : k = s.size := by omega
        have HE : Hid (T = ⟨(Plain.shrinkL l).toArray⟩) := Lib.hid (text_of (by rw [HT.out, ← hlen.out, List.take_length]))
        clear hlt
        go_wp2_with fail
        go_ret2
        rw [HV.out, HE.out]
        exact ⟨rfl, HBW.out⟩
theorem shrL_ok {l : List UInt8} (hs : Plain.AllSteps l) (hn : Near l) : Near (Plain.shrinkL l) ∧ Plain.AllSteps (Plain.shrinkL l) ∧ (Plain.shrinkL l).length ≤ l.length := by
  have key : ∀ k, k ≤ l.length → (Plain.shrinkL (l.take k)).length ≤ k ∧ Plain.AllSteps (Plain.shrinkL (l.take k)) ∧ Plain.Red (Plain.shrinkL (l.take k)) ∧ Plain.goP (Plain.shrinkL (l.take k)) = Plain.atP l k ∧ Near (Plain.shrinkL (l.take k)) := by
    intro k
    induction k with
    | zero => intro _; exact ⟨Nat.le_refl _, fun b hb => by simp [Plain.shrinkL] at hb, fun j a b h => by simp [Plain.shrinkL] at h, rfl, fun j hj => by simp [Plain.shrinkL, Plain.atP, Plain.goP]⟩
    | succ k ih =>
      intro hk
      have hb : l[k]? = some l[k] := List.getElem?_eq_getElem (by omega)
      have hsb := hs _ (List.getElem_mem (show k < l.length by omega))
      obtain ⟨h1, h2, h3, h4, h5⟩ := ih (by omega)
      have hp := Plain.push_red h3 h2 hsb
      have hn1 := hn (k + 1) hk
      rw [Plain.atP_step hb] at hn1
      rw [Plain.at_get hb, Plain.shrink_snoc, Plain.atP_step hb]
      refine ⟨Nat.le_trans (push_le _ _) (by omega), hp.2, hp.1, ?_, ?_⟩
      · unfold Plain.pushS
        split
        · rename_i h
          obtain ⟨R, hR⟩ := Plain.last_at h
          rw [hR] at h4 ⊢
          rw [List.dropLast_concat]
          rw [Plain.goP_snoc] at h4
          rw [← h4]
          obtain ⟨-, e1, e2, -⟩ := Plain.back_step hsb
          unfold Plain.nextP
          simp only []
          rw [e1, e2]
          apply Prod.ext
          · simp only []; omega
          · simp only []; omega
        · rw [Plain.goP_snoc, h4]
      · unfold Plain.pushS
        split
        · intro j hj
          rw [List.length_dropLast] at hj
          have : Plain.atP (Plain.shrinkL (l.take k)).dropLast j = Plain.atP (Plain.shrinkL (l.take k)) j := by
            unfold Plain.atP
            rw [List.dropLast_eq_take, List.take_take, Nat.min_eq_left (by omega)]
          rw [this]
          exact h5 j (by omega)
        · intro j hj
          rw [List.length_append, List.length_singleton] at hj
          by_cases hj2 : j ≤ (Plain.shrinkL (l.take k)).length
          · have : Plain.atP (Plain.shrinkL (l.take k) ++ [l[k]]) j = Plain.atP (Plain.shrinkL (l.take k)) j := by
              unfold Plain.atP
              rw [List.take_append_of_le_length hj2]
            rw [this]
            exact h5 j hj2
          · have : Plain.atP (Plain.shrinkL (l.take k) ++ [l[k]]) j = Plain.nextP (Plain.atP l k) l[k] := by
              unfold Plain.atP at h4 ⊢
              rw [List.take_of_length_le (by rw [List.length_append, List.length_singleton]; omega), Plain.goP_snoc, h4]
            rw [this]
            exact hn1
  have := key l.length (Nat.le_refl _)
  rw [List.take_length] at this
  exact ⟨this.2.2.2.2, this.2.1, this.1⟩
theorem implShrinkPath_any (s : ByteArray) (l : List UInt8) (hl0 : Hid (l = s.data.toList)) (w : World) (hs : s.size ≤ 9223372036854775807) : Calls Try.prog 37 #[.string s] w (Val (.tuple #[.string (shrV l), .bool (Plain.pathB l)]) w) := by
  cases hp : Plain.pathB l with
  | false =>
    have HP := Lib.hid hp
    have HV : Hid (shrV l = ⟨#[]⟩) := Lib.hid (by unfold shrV; rw [hp]; rfl)
    rw [HV.out]
    clear hp
    go_enter Try.func37, Try.ntmps37
    go_wp2_with fail
    refine (changed_none _ s l hl0 _ hs HP).mono ?_
    rintro e w1 ⟨rfl, hb⟩
    have HB1 := Lib.hid hb
    clear hb
    go_wp2_with fail
    go_ret2
    exact ⟨rfl, HB1.out⟩
  | true =>
    have HP := Lib.hid hp
    have HV : Hid (shrV l = ⟨(Plain.shrinkL l).toArray⟩) := Lib.hid (by unfold shrV; rw [hp]; rfl)
    rw [HV.out]
    obtain ⟨hl4, hok⟩ := Plain.path_ok hp
    obtain ⟨hN1, hN2⟩ := ok_near hok
    obtain ⟨h1, h2, h3⟩ := shrL_ok hN2 hN1
    have HN := Lib.hid h1
    have HS : Hid (Steps (Plain.shrinkL l)) := Lib.hid h2
    have hl5 : (Plain.shrinkL l).length ≤ 400 := by omega
    have HG : Hid (Changes 69 l (Plain.shrinkL l)) := Lib.hid (fun g cap W h _ => shrunk_any l g cap W HP h)
    clear hp h1 h2 h3 hN1 hN2 hok hl4
    go_enter Try.func37, Try.ntmps37
    go_wp2_with fail
    refine (changed_shrunk s l _ hl0 _ hs HP HN HS hl5 HG).mono ?_
    rintro e w1 ⟨rfl, hb⟩
    have HB1 := Lib.hid hb
    clear hb
    go_wp2_with fail
    go_ret2
    exact ⟨rfl, HB1.out⟩
theorem bothShrinkPath (s : ByteArray) (hs : s.size ≤ 1048576) : ∃ (o : ByteArray) (b : Bool),
    (∀ w, Calls Try.prog 36 #[.string s] w (Val (.tuple #[.string o, .bool b]) w)) ∧
    (∀ w, Calls Try.prog 37 #[.string s] w (Val (.tuple #[.string o, .bool b]) w)) :=
  ⟨_, _, fun w => specShrinkPath_any s _ (Lib.hid rfl) w (by omega), fun w => implShrinkPath_any s _ (Lib.hid rfl) w (by omega)⟩
end Go.Proofs.Ytpaijobmoddgpaa
