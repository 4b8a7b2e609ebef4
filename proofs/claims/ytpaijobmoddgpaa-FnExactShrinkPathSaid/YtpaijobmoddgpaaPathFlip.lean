/- Contracts: impl's trail.flipped, FlipPath of both programs. Condition: texts that fit. -/
import Derived.Test.YtpaijobmoddgpaaPathBack
import Derived.Test.YtpaijobmoddgpaaPathRead
namespace Go.Proofs.Ytpaijobmoddgpaa
open Go.ChangeShapes Go.WideShapes Go.ChangeAt Go.RowKit
set_option linter.unusedVariables false
set_option linter.unusedSimpArgs false

/-- A trail that the call made. -/
def MadePost (L : List Plain.Pt) (w : World) (e : Ending) (w' : World) : Prop := ∃ v, e = .returned v ∧ Coll2 63 L w.heap.size w v w'
theorem made_form {L : List Plain.Pt} {n B : Nat} {w w' : World} {v : Value} (h : Coll2 63 L B w v w') (hn : L.length = n + 1) : ∃ g cap, v = .slice (some ⟨g, 0, none⟩) (n + 1) cap ∧ Pts w' (some ⟨g, 0, none⟩) L ∧ g < w'.heap.size := by
  obtain ⟨a, cap, rfl, hpts, hne, hcap, hcapm⟩ := h.1.form
  obtain ⟨g, rfl, hg1, hg2, hg3⟩ := hne (by intro e; rw [e] at hn; cases hn)
  exact ⟨g, cap, by rw [hn], hpts, hg2⟩
theorem infoPtP2 : (Try.prog.info? 63).map (fun i => (i.zero, i.size, i.bytes)) = some (some (.agg #[.int .i64 0, .int .i64 0]), 2, 16) := by kernel_rfl
set_option maxRecDepth 100000 in
set_option maxHeartbeats 3200000 in
theorem flipped_any (l : List UInt8) (g cap : Nat) (w : World) (hp : Hid (Plain.pathB l = true)) (h : Hid (Pts w (some ⟨g, 0, none⟩) (Plain.pts l))) :
    Calls Try.prog 70 #[.slice (some ⟨g, 0, none⟩) (l.length + 1) cap] w (MadePost (Plain.pts (Plain.flipL l)) w) := by
  obtain ⟨i0, hi0, hz0, hz1, hz2⟩ := info_parts infoPtP2
  obtain ⟨n, hn⟩ : ∃ n, n = l.length := ⟨_, rfl⟩
  have hn4 : n ≤ 400 := by rw [hn]; exact (Plain.path_ok hp.out).1
  have HN := Lib.hid hn
  rw [← hn]
  have HS := Lib.hid (coll2_start 63 w)
  have HST := Lib.hid (ok_near (Plain.path_ok hp.out).2).2
  obtain ⟨M, hM⟩ : ∃ M, M = Plain.pts (Plain.flipL l) := ⟨_, rfl⟩
  rw [← hM]
  have HML : Hid (M.length = n + 1) := Lib.hid (by rw [hM, Plain.pts_length, Plain.flip_length, hn])
  have HMG : Hid (∀ k, k ≤ n → M[k]? = some ((Plain.atP l k).1, -(Plain.atP l k).2)) := Lib.hid (fun k hk => by rw [hM, Plain.pts_get (by rw [Plain.flip_length, ← hn]; exact hk), Plain.flip_atP HST.out k (by omega)])
  clear hn hM
  go_enter Try.func70, Try.ntmps70
  go_wp2_with fail
  go_loopw [3, 9] (fun v i wr => ∃ k : Nat, k ≤ n + 1 ∧ i = .int .i64 k ∧ Coll2 63 (M.take k) w.heap.size w v wr) (fun _ i _ => n + 1 - (intOf i).toNat)
  case atStart => exact ⟨0, Nat.zero_le _, rfl, HS.out⟩
  case round =>
    obtain ⟨k, hk, rfl, hrel⟩ := hrel
    have HK := Lib.hid hrel
    obtain ⟨L, hL⟩ : ∃ L, L = M.take k := ⟨_, rfl⟩
    have hLl : L.length = k := by rw [hL, List.length_take, HML.out]; omega
    rw [← hL] at HK
    have HL := Lib.hid hL
    have HLL := Lib.hid hLl
    clear hrel hL hLl
    by_cases hlt : k < n + 1
    · have hc := (h.out.on HK.out.2.1).cells (Plain.pts_get (show k ≤ l.length by rw [← HN.out]; omega))
      rw [Nat.zero_add] at hc
      have hbd := Plain.at_bd (Plain.path_ok hp.out).2 (show k ≤ l.length by rw [← HN.out]; omega)
      have HG := Lib.hid (HMG.out k (by omega))
      obtain ⟨x, y, hP⟩ : ∃ x y, Plain.atP l k = (x, y) := ⟨_, _, rfl⟩
      rw [hP] at hc hbd HG
      obtain ⟨c1, c2⟩ := hc
      obtain ⟨b1, b2, b3, b4⟩ := hbd
      simp only [] at c1 c2 b1 b2 b3 b4
      have HTK : Hid (M.take (k + 1) = L ++ [(x, -y)]) := Lib.hid (by
        obtain ⟨hk', he⟩ := List.getElem?_eq_some_iff.1 HG.out
        rw [List.take_succ_eq_append_getElem hk', he, HL.out])
      clear hP
      go_wp2_with (at_builtin; refine wpList_append_own _ rfl _ _ 59 rfl w.heap.size 63 i0 (.agg #[.int .i64 0, .int .i64 0]) 2 16 Try.underlying59 hi0 hz0 hz1 hz2 rfl (by decide) _ _ _ rfl (World.ownsRow.alloc (World.ownsRow.alloc HK.out.1 _) _) ⟨wr.heap.size + 1, 0, none⟩ 1 1 [.int .i64 x, .int .i64 (-y)] rfl rfl ?c1 ?c2 ?c3 ?c4 ?c5 ?_)
      case c2 => simp [Value.oneCell']
      case c3 => have := HLL.out; unfold maxLen; omega
      case c4 => have := HLL.out; omega
      case c5 => have := HK.out.2.2; first | omega | (simp; omega)
      intro v' w2 hown' hgrow _
      have hR := Lib.hid (Coll2.push (p := (x, -y)) (HK.out.later ((Below.refl wr.heap.size wr).alloc (Nat.le_refl _) (.cells #[.int .i64 x, .int .i64 y] 63))) hown' hgrow)
      clear hown' hgrow
      go_wp2_with fail
      go_roundw
      case rel => exact ⟨k + 1, by omega, by go_num, by rw [HTK.out]; exact hR.out⟩
      case measure => simp [intOf]; omega
    · obtain rfl : k = n + 1 := by omega
      have HE : Hid (L = M) := Lib.hid (by rw [HL.out, ← HML.out, List.take_length])
      rw [HE.out] at HK
      clear hlt
      go_wp2_with fail
      go_ret
      exact ⟨_, rfl, HK.out⟩
def flipV (l : List UInt8) : ByteArray := if Plain.pathB l = true then ⟨(Plain.flipL l).toArray⟩ else ⟨#[]⟩
set_option maxRecDepth 100000 in
set_option maxHeartbeats 3200000 in
theorem specFlipPath_any (s : ByteArray) (l : List UInt8) (hl0 : Hid (l = s.data.toList)) (w : World) (hs : s.size ≤ 9223372036854775807) : Calls Try.prog 38 #[.string s] w (Val (.tuple #[.string (flipV l), .bool (Plain.pathB l)]) w) := by
  cases hp : Plain.pathB l with
  | false =>
    have HP := Lib.hid hp
    have HV : Hid (flipV l = ⟨#[]⟩) := Lib.hid (by unfold flipV; rw [hp]; rfl)
    rw [HV.out]
    clear hp
    go_enter Try.func38, Try.ntmps38
    go_wp2_with fail
    refine (specIsPath_any s l hl0 _ hs).mono ?_
    rw [HP.out]
    rintro e w1 ⟨rfl, hb⟩
    have HB1 := Lib.hid hb
    clear hb
    go_wp2_with fail
    go_ret2
    exact ⟨rfl, HB1.out⟩
  | true =>
    have HP := Lib.hid hp
    have HV : Hid (flipV l = ⟨(Plain.flipL l).toArray⟩) := Lib.hid (by unfold flipV; rw [hp]; rfl)
    have hlen : Hid (l.length = s.size) := Lib.hid (by rw [hl0.out]; simp)
    have hln : s.size ≤ 400 := by rw [← hlen.out]; exact (Plain.path_ok hp).1
    clear hp
    go_enter Try.func38, Try.ntmps38
    go_wp2_with fail
    refine (specIsPath_any s l hl0 _ hs).mono ?_
    rw [HP.out]
    rintro e w1 ⟨rfl, hb⟩
    have HB1 := Lib.hid hb
    clear hb
    go_wp2_with fail
    go_loop [4, 5] (fun t i => ∃ (k : Nat) (T : ByteArray), k ≤ s.size ∧ i = .int .i64 k ∧ t = .string T ∧ T.data.toList = Plain.flipL (l.take k)) (fun _ i => s.size - (intOf i).toNat)
    case atStart => exact ⟨0, ⟨#[]⟩, Nat.zero_le _, rfl, rfl, rfl⟩
    case round =>
      obtain ⟨k, T, hk, rfl, rfl, hT⟩ := hrel
      have hTs : T.size = k := by rw [size_list hT, Plain.flip_length, List.length_take, hlen.out]; omega
      have hTn : T.size ≤ 400 := by omega
      have HT := Lib.hid hT
      clear hT hTs
      by_cases hlt : k < s.size
      · have hb := bytes_at hl0.out hlt
        have HS : Hid (Plain.flipL (l.take (k + 1)) = Plain.flipL (l.take k) ++ [Plain.flipB s[k]]) := Lib.hid (by rw [Plain.at_get hb]; simp [Plain.flipL])
        have HBK : Hid (∀ W, Calls Try.prog 66 #[.int .u8 s[k].toNat] W (BackPost s[k] W)) := Lib.hid (fun W => l10Back_any s[k] W)
        have HO := Lib.hid (one_of hlt)
        clear hb
        have hone : (s.extract k (k + 1)).size ≤ 400 := by rw [size_list HO.out]; simp
        by_cases h1 : s[k] = 117
        · have q1 : ((s[k].toNat : Nat) : Int) = 117 := by rw [h1]; rfl
          have HF : Hid (Plain.flipB s[k] = 100) := Lib.hid (by rw [h1]; rfl)
          have HB7 : Hid (∀ W, Calls Try.prog 66 #[.int .u8 117] W (BackPost 117 W)) := Lib.hid (fun W => l10Back_any 117 W)
          clear h1
          go_wp2_with fail
          refine (HB7.out _).mono ?_
          rintro e w' ⟨rfl, rfl⟩
          go_wp2_with fail
          go_round
          case rel => exact ⟨k + 1, _, by omega, by go_num, rfl, by rw [cat_list, HT.out, HS.out, HF.out]; rfl⟩
          case measure => simp [intOf]; omega
        · have q1 : (((s[k].toNat : Nat) : Int) == 117) = false := byte_no (n := 117) (by decide) h1
          by_cases h2 : s[k] = 100
          · have q2 : ((s[k].toNat : Nat) : Int) = 100 := by rw [h2]; rfl
            have HF : Hid (Plain.flipB s[k] = 117) := Lib.hid (by rw [h2]; rfl)
            have HB7 : Hid (∀ W, Calls Try.prog 66 #[.int .u8 100] W (BackPost 100 W)) := Lib.hid (fun W => l10Back_any 100 W)
            clear h1 h2 q1
            go_wp2_with fail
            refine (HB7.out _).mono ?_
            rintro e w' ⟨rfl, rfl⟩
            go_wp2_with fail
            go_round
            case rel => exact ⟨k + 1, _, by omega, by go_num, rfl, by rw [cat_list, HT.out, HS.out, HF.out]; rfl⟩
            case measure => simp [intOf]; omega
          · have q2 : (((s[k].toNat : Nat) : Int) == 100) = false := byte_no (n := 100) (by decide) h2
            have HF : Hid (Plain.flipB s[k] = s[k]) := Lib.hid (by unfold Plain.flipB; rw [if_neg h1, if_neg h2])
            clear h1 h2
            go_wp2_with fail
            go_round
            case rel => exact ⟨k + 1, _, by omega, by go_num, rfl, by rw [cat_list, HT.out, HS.out, HF.out, HO.out]⟩
            case measure => simp [intOf]; omega
      · obtain rfl : k = s.size := by omega
        have HE : Hid (T = ⟨(Plain.flipL l).toArray⟩) := Lib.hid (text_of (by rw [HT.out, ← hlen.out, List.take_length]))
        clear hlt
        go_wp2_with fail
        go_ret2
        rw [HV.out, HE.out]
        exact ⟨rfl, HB1.out⟩
end Go.Proofs.Ytpaijobmoddgpaa
