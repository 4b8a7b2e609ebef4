/- Contracts: ReversePath of both programs. Condition: texts that fit. -/
import Derived.Test.YtpaijobmoddgpaaPathRevs
namespace Go.Proofs.Ytpaijobmoddgpaa
open Go.ChangeShapes Go.WideShapes Go.ChangeAt Go.RowKit
set_option linter.unusedVariables false
set_option linter.unusedSimpArgs false

namespace Plain
def revL (l : List UInt8) : List UInt8 := l.reverse.map backB
theorem rev_length (l : List UInt8) : (revL l).length = l.length := by simp [revL]
theorem next_back {p : Pt} {b : UInt8} (h : isStepB b = true) : nextP (nextP p b) (backB b) = p := by
  obtain ⟨-, h1, h2, -⟩ := back_step h
  obtain ⟨x, y⟩ := p
  unfold nextP
  simp only []
  rw [h1, h2, Prod.mk.injEq]
  omega
theorem rev_get {l : List UInt8} {k m : Nat} (h : k + m + 1 = l.length) : ∃ b, l[m]? = some b ∧ (revL l)[k]? = some (backB b) := by
  refine ⟨l[m]'(by omega), List.getElem?_eq_getElem (by omega), ?_⟩
  unfold revL
  rw [List.getElem?_map, List.getElem?_reverse (by omega), show l.length - 1 - k = m by omega, List.getElem?_eq_getElem (by omega)]
  rfl
theorem rev_atP {l : List UInt8} (h : ∀ b ∈ l, isStepB b = true) (hc : goP l = (0, 0)) : ∀ k m, k + m = l.length → atP (revL l) k = atP l m
  | 0, m, hk => by
    have e : m = l.length := by omega
    rw [e, atP_full, hc]; rfl
  | k + 1, m, hk => by
    obtain ⟨b, hb, hr⟩ := rev_get (l := l) (k := k) (m := m) (by omega)
    rw [atP_step hr, rev_atP h hc k (m + 1) (by omega), atP_step hb]
    exact next_back (h b (List.mem_of_getElem? hb))
theorem rev_pts {l : List UInt8} (h : ∀ b ∈ l, isStepB b = true) (hc : goP l = (0, 0)) : (pts l).reverse = pts (revL l) := by
  apply List.ext_getElem?
  intro k
  by_cases hk : k ≤ l.length
  · rw [List.getElem?_reverse (by rw [pts_length]; omega), pts_length, show l.length + 1 - 1 - k = l.length - k by omega, pts_get (by omega), pts_get (by rw [rev_length]; exact hk), rev_atP h hc k (l.length - k) (by omega)]
  · rw [List.getElem?_eq_none (by rw [List.length_reverse, pts_length]; omega), List.getElem?_eq_none (by rw [pts_length, rev_length]; omega)]
end Plain
theorem rev_near {l : List UInt8} (h : Plain.okTo l l.length = true) (hc : Plain.goP l = (0, 0)) : Near (Plain.revL l) ∧ Steps (Plain.revL l) := by
  obtain ⟨hn, hs⟩ := ok_near h
  refine ⟨fun k hk => ?_, fun b hb => ?_⟩
  · rw [Plain.rev_length] at hk
    rw [Plain.rev_atP hs hc k (l.length - k) (by omega)]
    exact hn _ (by omega)
  · unfold Plain.revL at hb
    obtain ⟨c, hc, rfl⟩ := List.mem_map.1 hb
    exact (Plain.back_step (hs c (List.mem_reverse.1 hc))).1
theorem closed_parts {l : List UInt8} (h : closedB l = true) : Plain.pathB l = true ∧ Plain.goP l = (0, 0) := by simpa [closedB] using h
def revV (l : List UInt8) : ByteArray := if closedB l = true then ⟨(Plain.revL l).toArray⟩ else ⟨#[]⟩
set_option maxRecDepth 100000 in
set_option maxHeartbeats 3200000 in
theorem specReversePath_any (s : ByteArray) (l : List UInt8) (hl0 : Hid (l = s.data.toList)) (w : World) (hs : s.size ≤ 9223372036854775807) : Calls Try.prog 32 #[.string s] w (Val (.tuple #[.string (revV l), .bool (closedB l)]) w) := by
  cases hp : closedB l with
  | false =>
    have HP := Lib.hid hp
    have HV : Hid (revV l = ⟨#[]⟩) := Lib.hid (by unfold revV; rw [hp]; rfl)
    rw [HV.out]
    clear hp
    go_enter Try.func32, Try.ntmps32
    go_wp2_with fail
    refine (l10Closed_any s l hl0 _ hs).mono ?_
    rw [HP.out]
    rintro e w1 ⟨rfl, hb⟩
    have HB1 := Lib.hid hb
    clear hb
    go_wp2_with fail
    go_ret2
    exact ⟨rfl, HB1.out⟩
  | true =>
    have HP := Lib.hid hp
    have HV : Hid (revV l = ⟨(Plain.revL l).toArray⟩) := Lib.hid (by unfold revV; rw [hp]; rfl)
    have hlen : Hid (l.length = s.size) := Lib.hid (by rw [hl0.out]; simp)
    have hln : s.size ≤ 400 := by rw [← hlen.out]; exact (Plain.path_ok (closed_parts hp).1).1
    clear hp
    go_enter Try.func32, Try.ntmps32
    go_wp2_with fail
    refine (l10Closed_any s l hl0 _ hs).mono ?_
    rw [HP.out]
    rintro e w1 ⟨rfl, hb⟩
    have HB1 := Lib.hid hb
    clear hb
    go_wp2_with fail
    go_loop [4, 5] (fun t i => ∃ (m k : Nat) (T : ByteArray), k + m = s.size ∧ i = .int .i64 ((m : Int) - 1) ∧ t = .string T ∧ T.data.toList = (Plain.revL l).take k) (fun _ i => (intOf i + 1).toNat)
    case atStart => exact ⟨s.size, 0, ⟨#[]⟩, by omega, by go_num, rfl, rfl⟩
    case round =>
      obtain ⟨m, k, T, hk, rfl, rfl, hT⟩ := hrel
      have hTs : T.size = k := by rw [size_list hT, List.length_take, Plain.rev_length, hlen.out]; omega
      have hTn : T.size ≤ 400 := by omega
      have HT := Lib.hid hT
      have HKM := Lib.hid hk
      clear hT hTs
      cases m with
      | zero =>
        have HE : Hid (T = ⟨(Plain.revL l).toArray⟩) := Lib.hid (text_of (by rw [HT.out, List.take_of_length_le (by rw [Plain.rev_length, hlen.out]; omega)]))
        clear hk
        go_wp2_with fail
        go_ret2
        rw [HV.out, HE.out]
        exact ⟨rfl, HB1.out⟩
      | succ m =>
        have hms : m < s.size := by omega
        have hme : ((m + 1 : Nat) : Int) - 1 = (m : Int) := by omega
        rw [hme]
        obtain ⟨b, hb, hr⟩ := Plain.rev_get (l := l) (k := k) (m := m) (by rw [hlen.out]; omega)
        have hb2 := bytes_at hl0.out hms
        rw [hb2] at hb
        cases hb
        have HS : Hid ((Plain.revL l).take (k + 1) = (Plain.revL l).take k ++ [Plain.backB s[m]]) := Lib.hid (Plain.at_get hr)
        have HBK : Hid (∀ W, Calls Try.prog 66 #[.int .u8 s[m].toNat] W (BackPost s[m] W)) := Lib.hid (fun W => l10Back_any s[m] W)
        clear hb2 hr hme hk
        go_wp2_with fail
        refine (HBK.out _).mono ?_
        rintro e w' ⟨rfl, rfl⟩
        go_wp2_with fail
        go_round
        case rel => exact ⟨m, k + 1, _, by have := HKM.out; omega, by go_num, rfl, by rw [cat_list, HT.out, HS.out]⟩
        case measure => simp [intOf]; try omega
theorem implReversePath_any (s : ByteArray) (l : List UInt8) (hl0 : Hid (l = s.data.toList)) (w : World) (hs : s.size ≤ 9223372036854775807) : Calls Try.prog 33 #[.string s] w (Val (.tuple #[.string (revV l), .bool (closedB l)]) w) := by
  cases hp : closedB l with
  | false =>
    have HP := Lib.hid hp
    have HV : Hid (revV l = ⟨#[]⟩) := Lib.hid (by unfold revV; rw [hp]; rfl)
    rw [HV.out]
    clear hp
    go_enter Try.func33, Try.ntmps33
    go_wp2_with fail
    refine (implIsClosed_any s l hl0 _ hs).mono ?_
    rw [HP.out]
    rintro e w1 ⟨rfl, hb⟩
    have HB1 := Lib.hid hb
    clear hb
    go_wp2_with fail
    go_ret2
    exact ⟨rfl, HB1.out⟩
  | true =>
    have HP := Lib.hid hp
    obtain ⟨hpp, hcc⟩ := closed_parts hp
    have HPB := Lib.hid hpp
    have HV : Hid (revV l = ⟨(Plain.revL l).toArray⟩) := Lib.hid (by unfold revV; rw [hp]; rfl)
    rw [HV.out]
    have hN := rev_near (Plain.path_ok hpp).2 hcc
    have HN := Lib.hid hN.1
    have HS := Lib.hid hN.2
    have hl4 : (Plain.revL l).length ≤ 400 := by rw [Plain.rev_length]; exact (Plain.path_ok hpp).1
    have HG : Hid (Changes 68 l (Plain.revL l)) := Lib.hid (fun g cap W h _ => by
      rw [← Plain.rev_pts (ok_near (Plain.path_ok HPB.out).2).2 hcc]
      exact reversed_any l.length g cap (Plain.pts l) W (Plain.pts_length l) (Plain.path_ok HPB.out).1 h)
    clear hp hN hpp hcc
    go_enter Try.func33, Try.ntmps33
    go_wp2_with fail
    refine (implIsClosed_any s l hl0 _ hs).mono ?_
    rw [HP.out]
    rintro e w1 ⟨rfl, hb⟩
    have HB1 := Lib.hid hb
    clear hb
    go_wp2_with fail
    refine (changed_reversed s l _ hl0 _ hs HPB HN HS hl4 HG).mono ?_
    rintro e w2 ⟨rfl, hb⟩
    have HB2 := Lib.hid (HB1.out.trans (hb.mono HB1.out.size))
    clear hb
    go_wp2_with fail
    go_ret2
    exact ⟨rfl, HB2.out⟩
end Go.Proofs.Ytpaijobmoddgpaa
