/- Contracts: impl's trail.word, spec's l10Word: the word of a path. Conditions: a path's points; texts that fit. -/
import Derived.Test.YtpaijobmoddgpaaPathWord
import Derived.Deep.Onto
namespace Go.Proofs.Ytpaijobmoddgpaa
open Go.ChangeShapes Go.WideShapes Go.ChangeAt Go.RowKit
set_option linter.unusedVariables false
set_option linter.unusedSimpArgs false

theorem one_new10 (w : World) (x : Value) (T : TypeId) : ∀ j u, [x][j]? = some u → (w.alloc (.cells #[x] T)).cell? ((⟨w.heap.size, 0, none⟩ : Addr).add j) = some u := fun j u h => by
  rw [add_plain, cell_of_row _ _ _ _ _ _ (heap_alloc_new w _), Nat.zero_add]
  simpa using h
/-- A list of letters that the call made. -/
def LettersPost (L : List Int) (w : World) (e : Ending) (w' : World) : Prop := ∃ v, e = .returned v ∧ Coll L w.heap.size w v w'
theorem path_two {l : List UInt8} {g k : Nat} {w : World} (hp : Plain.pathB l = true) (h : Pts w (some ⟨g, 0, none⟩) (Plain.pts l)) (hk : k < l.length) :
    ∃ px py qx qy, Plain.atP l k = (px, py) ∧ Plain.atP l (k + 1) = (qx, qy) ∧ (-13 ≤ px ∧ px ≤ 13 ∧ -13 ≤ py ∧ py ≤ 13) ∧ (-13 ≤ qx ∧ qx ≤ 13 ∧ -13 ≤ qy ∧ qy ≤ 13) ∧ (qx = px ∨ qx = px + 1 ∨ px = qx + 1) ∧
      (w.cell? ⟨g, k * 2, none⟩ = some (.int .i64 px) ∧ w.cell? ⟨g, k * 2 + 1, none⟩ = some (.int .i64 py)) ∧ (w.cell? ⟨g, (k + 1) * 2, none⟩ = some (.int .i64 qx) ∧ w.cell? ⟨g, (k + 1) * 2 + 1, none⟩ = some (.int .i64 qy)) := by
  obtain ⟨hl, hok⟩ := Plain.path_ok hp
  obtain ⟨b, hb, -, -⟩ := Plain.okTo_at hok hk
  have h1 := Plain.at_bd hok (show k ≤ l.length by omega)
  have h2 := Plain.at_bd hok (show k + 1 ≤ l.length by omega)
  have c1 := h.cells (Plain.pts_get (show k ≤ l.length by omega))
  have c2 := h.cells (Plain.pts_get (show k + 1 ≤ l.length by omega))
  rw [Nat.zero_add] at c1 c2
  have hbe := Plain.next_beside (Plain.atP l k) b
  rw [← Plain.atP_step hb] at hbe
  obtain ⟨a1, a2, a3, a4⟩ := h1
  obtain ⟨b1, b2, b3, b4⟩ := h2
  exact ⟨(Plain.atP l k).1, (Plain.atP l k).2, (Plain.atP l (k + 1)).1, (Plain.atP l (k + 1)).2, rfl, rfl, ⟨by omega, by omega, by omega, by omega⟩, ⟨by omega, by omega, by omega, by omega⟩, hbe, c1, c2⟩
theorem wordNone_any (a : Option Addr) (cap : Nat) (w : World) : Calls Try.prog 60 #[.slice a 0 cap] w (LettersPost [] w) := by
  go_enter Try.func60, Try.ntmps60
  go_wp2_with fail
  refine wp_loop_rounds 1 ?_
  rw [rounds_succ]
  go_wp2_with fail
  go_ret
  exact ⟨_, rfl, coll_start w⟩
set_option maxRecDepth 100000 in
set_option maxHeartbeats 3200000 in
theorem word10_any (l : List UInt8) (g cap : Nat) (w : World) (hp : Hid (Plain.pathB l = true)) (h : Hid (Pts w (some ⟨g, 0, none⟩) (Plain.pts l))) :
    Calls Try.prog 60 #[.slice (some ⟨g, 0, none⟩) (l.length + 1) cap] w (LettersPost (Plain.letsTo l l.length) w) := by
  obtain ⟨i0, hi0, hz0, hz1, hz2⟩ := info_parts infoInt
  obtain ⟨n, hn⟩ : ∃ n, n = l.length := ⟨_, rfl⟩
  have hn4 : n ≤ 400 := by rw [hn]; exact (Plain.path_ok hp.out).1
  have HN := Lib.hid hn
  rw [← hn]
  have HS := Lib.hid (coll_start w)
  clear hn
  go_enter Try.func60, Try.ntmps60
  go_wp2_with fail
  go_loopw [3, 10] (fun v i wr => ∃ k : Nat, k ≤ n ∧ i = .int .i64 k ∧ Coll (Plain.letsTo l k) w.heap.size w v wr) (fun _ i _ => n - (intOf i).toNat)
  case atStart => exact ⟨0, Nat.zero_le _, rfl, HS.out⟩
  case round =>
    obtain ⟨k, hk, rfl, hrel⟩ := hrel
    have HK := Lib.hid hrel
    have hll := Plain.letsTo_le l k
    obtain ⟨L, hL⟩ : ∃ L, L = Plain.letsTo l k := ⟨_, rfl⟩
    rw [← hL] at HK hll
    have HL := Lib.hid hL
    clear hrel hL
    by_cases hlt : k < n
    · obtain ⟨px, py, qx, qy, hP, hQ, hpb, hqb, hbe, ⟨c1, c2⟩, ⟨c3, c4⟩⟩ := path_two hp.out (h.out.on HK.out.2.1) (show k < l.length by rw [← HN.out]; exact hlt)
      have HST := Lib.hid (Plain.letsTo_step l k)
      rw [hP, hQ, ← HL.out] at HST
      obtain ⟨z, hz⟩ : ∃ z, z = Plain.letPQ (px, py) (qx, qy) := ⟨_, rfl⟩
      have hzb := Plain.letPQ_bd (px, py) (qx, qy)
      rw [← hz] at HST hzb
      have HLT : Hid (∀ W, Calls Try.prog 91 #[.agg #[.int .i64 px, .int .i64 py], .agg #[.int .i64 qx, .int .i64 qy]] W (Val (.int .i64 z) W)) := Lib.hid (fun W => by rw [hz]; exact letterTo_any px py qx qy W hpb hqb hbe)
      have HC1 := Lib.hid c1
      have HC2 := Lib.hid c2
      have HC3 := Lib.hid c3
      have HC4 := Lib.hid c4
      clear hP hQ hpb hqb hbe c1 c2 c3 c4 hz
      obtain ⟨hzb1, hzb2⟩ := hzb
      go_upto_region 5 with fail
      go_cut [5] from 13 to 22 (fun s wx => s = .int .i64 z ∧ Below wr.heap.size wr wx)
      case first =>
        have h1 : wr.drew.cell? _ = _ := HC1.out
        have h2 : wr.drew.cell? _ = _ := HC2.out
        have h3 : wr.drew.cell? _ = _ := HC3.out
        have h4 : wr.drew.cell? _ = _ := HC4.out
        have hi : (k : Int) < (n : Int) + 1 := by omega
        have hi0 : (0 : Int) ≤ (k : Int) := by omega
        have hi1 : (0 : Int) ≤ (k : Int) + 1 := by omega
        have hi2 : (k : Int) + 1 < (n : Int) + 1 := by omega
        have hi3 : IntKind.i64.wrap ((k : Int) + 1) = (k : Int) + 1 := Go.IntWalk.i64_in _ (by omega)
        have hi4 : ((k : Int) + 1).toNat = k + 1 := by omega
        go_region_law (go_simp; first
          | (go_at_call 91; refine (HLT.out _).mono ?_; rintro e wy ⟨rfl, hb⟩; have HB1 : Hid (Below wr.heap.size wr wy) := Lib.hid ((Below.refl _ _).drew.trans (hb.mono (Nat.le_refl _))); clear hb))
        all_goals
          go_wp2_with fail
          go_meet
          case rel => exact ⟨rfl, HB1.out⟩
      case rest =>
        obtain ⟨rfl, hbw⟩ := hcut
        have HK1 := Lib.hid (HK.out.later hbw)
        clear hbw
        generalize wc = W1 at HK1 ⊢
        by_cases hz0' : z = 0
        · subst hz0'
          have HNX : Hid (Plain.letsTo l (k + 1) = L) := Lib.hid (by rw [HST.out, if_neg (by simp)])
          go_wp2_with fail
          go_roundw
          case rel => exact ⟨k + 1, by omega, by go_num, by rw [HNX.out]; exact HK1.out⟩
          case measure => simp [intOf]; omega
        · have HNX : Hid (Plain.letsTo l (k + 1) = L ++ [z]) := Lib.hid (by rw [HST.out, if_pos hz0'])
          have hzd : (z != 0) = true := by simpa using hz0'
          clear hz0'
          go_wp2_with (at_builtin; refine wpList_append_own _ rfl _ _ 67 rfl w.heap.size 3 i0 (.int .i64 0) 1 8 Try.underlying67 hi0 hz0 hz1 hz2 rfl (by decide) _ _ _ rfl (HK1.out.1.alloc _) ⟨W1.heap.size, 0, none⟩ 1 1 [.int .i64 z] rfl rfl ?c1 ?c2 ?c3 ?c4 ?c5 ?_)
          case c1 => exact one_new10 _ _ _
          case c2 => simp [Value.oneCell']
          case c3 => unfold maxLen; omega
          case c4 => omega
          case c5 => exact Nat.le_trans HK1.out.2.2 (by simp)
          intro v' w2 hown' hgrow _
          have hR := Lib.hid (coll_push (x := z) HK1.out hown' hgrow)
          clear hown' hgrow
          go_wp2_with fail
          go_roundw
          case rel => exact ⟨k + 1, by omega, by go_num, by rw [HNX.out]; exact hR.out⟩
          case measure => simp [intOf]; omega
    · obtain rfl : k = n := by omega
      clear hlt
      rw [HL.out] at HK
      go_wp2_with fail
      go_ret
      exact ⟨_, rfl, HK.out⟩
theorem coll_back {L : List Int} {w w1 w2 : World} {v : Value} (h : Coll L w1.heap.size w1 v w2) (hb : Below w.heap.size w w1) : Coll L w.heap.size w v w2 :=
  ⟨World.ownsRow.mono h.1 hb.size, hb.trans (h.2.1.mono hb.size), Nat.le_trans hb.size h.2.2⟩
set_option maxRecDepth 100000 in
set_option maxHeartbeats 3200000 in
theorem l10Word_any (s : ByteArray) (l : List UInt8) (hl0 : Hid (l = s.data.toList)) (w : World) (hs : s.size ≤ 9223372036854775807) (hp : Hid (Plain.pathB l = true)) :
    Calls Try.prog 59 #[.string s] w (LettersPost (Plain.letsTo l l.length) w) := by
  obtain ⟨i0, hi0, hz0, hz1, hz2⟩ := info_parts infoInt
  obtain ⟨n, hn⟩ : ∃ n, n = l.length := ⟨_, rfl⟩
  have hn4 : n ≤ 400 := by rw [hn]; exact (Plain.path_ok hp.out).1
  have HN := Lib.hid hn
  rw [← hn]
  clear hn
  go_enter Try.func59, Try.ntmps59
  go_wp2_with fail
  refine (l10Points_any s l hl0 _ hs).mono ?_
  rintro e w1 ⟨v, L, rfl, hr, hL, hb⟩
  obtain rfl := hL hp.out
  have HB1 := Lib.hid hb
  obtain ⟨a, cap, rfl, hpts, hne, hcap, hcapm⟩ := hr.form
  have hLn := Plain.pts_length l
  obtain ⟨g, rfl, hg1, hg2, hg3⟩ := hne (by intro e; rw [e] at hLn; cases hLn)
  rw [← HN.out] at hLn
  rw [hLn] at hcap ⊢
  have h := Lib.hid hpts
  have HS := Lib.hid (coll_start w1)
  clear hr hL hb hpts hne hg1 hg2 hg3 hLn
  go_wp2_with fail
  go_loopw [5, 6] (fun v i wr => ∃ k : Nat, k ≤ n ∧ i = .int .i64 ((k : Int) + 1) ∧ Coll (Plain.letsTo l k) w1.heap.size w1 v wr) (fun _ i _ => n + 1 - (intOf i).toNat)
  case atStart => exact ⟨0, Nat.zero_le _, rfl, HS.out⟩
  case round =>
    obtain ⟨k, hk, rfl, hrel⟩ := hrel
    have HK := Lib.hid hrel
    have hll := Plain.letsTo_le l k
    obtain ⟨L, hL⟩ : ∃ L, L = Plain.letsTo l k := ⟨_, rfl⟩
    rw [← hL] at HK hll
    have HL := Lib.hid hL
    clear hrel hL
    by_cases hlt : k < n
    · obtain ⟨px, py, qx, qy, hP, hQ, hpb, hqb, hbe, ⟨c1, c2⟩, ⟨c3, c4⟩⟩ := path_two hp.out (h.out.on HK.out.2.1) (show k < l.length by rw [← HN.out]; exact hlt)
      have HST := Lib.hid (Plain.letsTo_step l k)
      rw [hP, hQ, ← HL.out] at HST
      obtain ⟨z, hz⟩ : ∃ z, z = Plain.letPQ (px, py) (qx, qy) := ⟨_, rfl⟩
      have hzb := Plain.letPQ_bd (px, py) (qx, qy)
      rw [← hz] at HST hzb
      have HLT : Hid (∀ W, Calls Try.prog 90 #[.agg #[.int .i64 px, .int .i64 py], .agg #[.int .i64 qx, .int .i64 qy]] W (Val (.int .i64 z) W)) := Lib.hid (fun W => by rw [hz]; exact l10Letter_any px py qx qy W hpb hqb hbe)
      have HC1 := Lib.hid c1
      have HC2 := Lib.hid c2
      have HC3 := Lib.hid c3
      have HC4 := Lib.hid c4
      clear hP hQ hpb hqb hbe c1 c2 c3 c4 hz
      obtain ⟨hzb1, hzb2⟩ := hzb
      have hlt2 : (k : Int) + 1 < (n : Int) + 1 := by omega
      go_upto_region 6 with fail
      go_cut [7] from 20 to 29 (fun s wx => s = .int .i64 z ∧ Below wr.heap.size wr wx)
      case first =>
        have h1 : wr.drew.cell? _ = _ := HC1.out
        have h2 : wr.drew.cell? _ = _ := HC2.out
        have h3 : wr.drew.cell? _ = _ := HC3.out
        have h4 : wr.drew.cell? _ = _ := HC4.out
        have hi : (k : Int) < (n : Int) + 1 := by omega
        have hi0 : (0 : Int) ≤ (k : Int) := by omega
        have hi1 : (0 : Int) ≤ (k : Int) + 1 := by omega
        have hi3 : IntKind.i64.wrap ((k : Int) + 1 - 1) = (k : Int) := by rw [show (k : Int) + 1 - 1 = (k : Int) by omega]; exact Go.IntWalk.i64_in _ (by omega)
        have hi5 : IntKind.i64.wrap (k : Int) = (k : Int) := Go.IntWalk.i64_in _ (by omega)
        have hi4 : ((k : Int) + 1).toNat = k + 1 := by omega
        go_region_law (go_simp; first
          | (go_at_call 90; refine (HLT.out _).mono ?_; rintro e wy ⟨rfl, hb⟩; have HB2 : Hid (Below wr.heap.size wr wy) := Lib.hid ((Below.refl _ _).drew.trans (hb.mono (Nat.le_refl _))); clear hb))
        all_goals
          go_wp2_with fail
          go_meet
          case rel => exact ⟨rfl, HB2.out⟩
      case rest =>
        obtain ⟨rfl, hbw⟩ := hcut
        have HK1 := Lib.hid (HK.out.later hbw)
        clear hbw
        generalize wc = W1 at HK1 ⊢
        by_cases hz0' : z = 0
        · subst hz0'
          have HNX : Hid (Plain.letsTo l (k + 1) = L) := Lib.hid (by rw [HST.out, if_neg (by simp)])
          go_wp2_with fail
          go_roundw
          case rel => exact ⟨k + 1, by omega, by go_num, by rw [HNX.out]; exact HK1.out⟩
          case measure => simp [intOf]; omega
        · have HNX : Hid (Plain.letsTo l (k + 1) = L ++ [z]) := Lib.hid (by rw [HST.out, if_pos hz0'])
          have hzd : (z != 0) = true := by simpa using hz0'
          clear hz0'
          go_wp2_with (at_builtin; refine wpList_append_own _ rfl _ _ 29 rfl w1.heap.size 3 i0 (.int .i64 0) 1 8 Try.underlying29 hi0 hz0 hz1 hz2 rfl (by decide) _ _ _ rfl (HK1.out.1.alloc _) ⟨W1.heap.size, 0, none⟩ 1 1 [.int .i64 z] rfl rfl ?c1 ?c2 ?c3 ?c4 ?c5 ?_)
          case c1 => exact one_new10 _ _ _
          case c2 => simp [Value.oneCell']
          case c3 => unfold maxLen; omega
          case c4 => omega
          case c5 => exact Nat.le_trans HK1.out.2.2 (by simp)
          intro v' w2 hown' hgrow _
          have hR := Lib.hid (coll_push (x := z) HK1.out hown' hgrow)
          clear hown' hgrow
          go_wp2_with fail
          go_roundw
          case rel => exact ⟨k + 1, by omega, by go_num, by rw [HNX.out]; exact hR.out⟩
          case measure => simp [intOf]; omega
    · obtain rfl : k = n := by omega
      clear hlt
      rw [HL.out] at HK
      go_wp2_with fail
      go_ret
      exact ⟨_, rfl, coll_back HK.out HB1.out⟩
end Go.Proofs.Ytpaijobmoddgpaa
