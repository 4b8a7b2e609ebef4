/- Contracts: impl.fitsJoined, impl.anyHolds, impl.JoinStrings. Condition: sizes of at most 2^20. -/
import Derived.Test.YthcggmjgecdfgaaJoinWalks
import Derived.Test.YthcggmjgecdfgaaShelf
import Derived.Test.YthcggmjgecdfgaaCloneWalks
import Derived.Deep.LoopGhost
namespace Go.Proofs.Ythcggmjgecdfgaa
open Go.ChangeShapes Go.WideShapes Go.ChangeAt Go.RowKit

def anyHas (c : UInt8) (ss : List ByteArray) : Bool := ss.any (fun x => Plain.has x c)
theorem anyHas_yes {c : UInt8} {ss : List ByteArray} {k : Nat} {x : ByteArray} (hx : ss[k]? = some x) (h : Plain.has x c = true) : anyHas c ss = true := by
  unfold anyHas
  rw [List.any_eq_true]
  exact ⟨x, List.mem_of_getElem? hx, h⟩
theorem anyHas_no {c : UInt8} {ss : List ByteArray} (h : ∀ y ∈ ss, Plain.has y c = false) : anyHas c ss = false := by
  unfold anyHas
  rw [List.any_eq_false]
  intro x hx
  rw [h x hx]; simp
theorem has_hit {x : ByteArray} {c : UInt8} {j : Nat} (hj : j < x.size) (h : x[j] = c) : Plain.has x c = true := by
  have h1 := Plain.take_snoc x j hj
  have h2 : c ∈ x.data.toList := List.mem_of_mem_take (i := j + 1) (by rw [h1, h]; simp)
  unfold Plain.has; simp [h2]
theorem has_miss {x : ByteArray} {c : UInt8} {j : Nat} (hj : x.size ≤ j) (h : c ∉ x.data.toList.take j) : Plain.has x c = false := by
  rw [Plain.take_all x j hj] at h
  unfold Plain.has; simp [h]
theorem notin_snoc {x : ByteArray} {c : UInt8} {j : Nat} (hj : j < x.size) (h : c ∉ x.data.toList.take j) (he : ¬ x[j] = c) : c ∉ x.data.toList.take (j + 1) := by
  rw [Plain.take_snoc x j hj]
  simp only [List.mem_append, List.mem_singleton, not_or]
  exact ⟨h, fun e => he e.symm⟩

set_option maxHeartbeats 1000000 in
theorem anyHolds_is (a : Option Addr) (cap : Nat) (c : UInt8) (ss : List ByteArray) (w : World) (h : Hid (Strs w a ss)) (hn : ss.length + Plain.tot ss ≤ 1048576) :
    Calls Try.prog 32 #[.slice a ss.length cap, .int .u8 (c.toNat : Int)] w fun e w' => e = .returned (.bool (anyHas c ss)) ∧ w = w' := by
  go_enter Try.func32, Try.ntmps32
  go_wp2
  go_step3
  go_wp2
  go_step3
  go_wp2
  go_loopg [5, 11] ss.length (fun g s5 s11 wx => ∃ k : Nat, k + g = ss.length ∧ s11 = .int .i64 k ∧ s5 = .bool false ∧ Hid (∀ y ∈ ss.take k, Plain.has y c = false) ∧ w = wx)
  case atStart => exact ⟨0, by omega, rfl, rfl, Lib.hid (by simp), rfl⟩
  case round =>
    obtain ⟨k, hkg, rfl, rfl, HI, rfl⟩ := hrel
    cases gk with
    | zero =>
      have hkz : ¬ ((k : Int) < (ss.length : Int)) := by omega
      have HN := Lib.hid (anyHas_no (Plain.none_all (by omega) HI.out))
      go_wp2
      try rw [Exit.noGoto_ret]
      go_ret
      exact ⟨ret_bool HN.out.symm, rfl⟩
    | succ g =>
      have hlt : k < ss.length := by omega
      obtain ⟨x, hx⟩ := Plain.some_at ss k hlt
      obtain ⟨b, o, rfl, hc⟩ := h.out k x hx
      have hxs := Plain.le_tot ss k x hx
      have HX := Lib.hid hx
      clear hx
      go_wp2
      clear hc
      go_loopg [5, 17] x.size (fun g2 s5 s17 wy => ∃ j : Nat, j + g2 = x.size ∧ s17 = .int .i64 j ∧ s5 = .bool false ∧ Hid (c ∉ x.data.toList.take j) ∧ w = wy)
      case atStart => exact ⟨0, by omega, rfl, rfl, Lib.hid (by simp), rfl⟩
      case round =>
        obtain ⟨j, hjg, rfl, rfl, HJ, rfl⟩ := hrel
        cases gk with
        | zero =>
          have hjz : ¬ ((j : Int) < (x.size : Int)) := by omega
          have HM := Lib.hid (Plain.none_snoc HI.out HX.out (has_miss (by omega) HJ.out))
          go_wp2
          go_roundg g
          case measure => omega
          case rel => exact ⟨k + 1, by omega, by go_num, rfl, HM, rfl⟩
        | succ g2 =>
          have hj : j < x.size := by omega
          by_cases he : x[j] = c
          · have hbq : ((x[j].toNat : Int) == (c.toNat : Int)) = true := by rw [he]; simp
            have HY := Lib.hid (anyHas_yes HX.out (has_hit hj he))
            clear he
            go_wp2
            try rw [Exit.noGoto_ret]
            go_ret
            exact ⟨ret_bool HY.out.symm, rfl⟩
          · have hbq : ((x[j].toNat : Int) == (c.toNat : Int)) = false := by
              rw [beq_eq_false_iff_ne]
              intro e
              exact he (UInt8.toNat_inj.1 (by omega))
            have HM := Lib.hid (notin_snoc hj HJ.out he)
            clear he
            go_wp2
            go_roundg g2
            case measure => omega
            case rel => exact ⟨j + 1, by omega, by go_num, rfl, HM, rfl⟩

def fits (ss : List ByteArray) : Bool := decide (ss.length + Plain.tot ss ≤ 4001)

set_option maxHeartbeats 400000 in
theorem fits_is (a : Option Addr) (cap : Nat) (ss : List ByteArray) (w : World) (h : Hid (Strs w a ss)) (h0 : 0 < ss.length) (hn : ss.length + Plain.tot ss ≤ 1048576) :
    Calls Try.prog 31 #[.slice a ss.length cap] w fun e w' => e = .returned (.bool (fits ss)) ∧ w = w' := by
  go_enter Try.func31, Try.ntmps31
  go_wp2_with fail
  go_loop [3, 11] (fun z i => ∃ k : Nat, k ≤ ss.length ∧ i = .int .i64 k ∧ z = .int .i64 ((ss.length : Int) - 1 + (Plain.tot (ss.take k) : Int)) ∧ (0 < k → ss.length + Plain.tot (ss.take k) ≤ 4001)) (fun _ i => ss.length - (intOf i).toNat)
  case atStart => exact ⟨0, Nat.zero_le _, rfl, by simp [Plain.tot], by omega⟩
  case round =>
    obtain ⟨k, hk, rfl, rfl, hle⟩ := hrel
    have ht := Plain.tot_take_le ss k
    by_cases hlt : k < ss.length
    · obtain ⟨x, hx⟩ := Plain.some_at ss k hlt
      obtain ⟨b, o, rfl, hc⟩ := h.out k x hx
      have hxs := Plain.le_tot ss k x hx
      have HS := Lib.hid (Plain.tot_take ss k x hx)
      have ht2 := Plain.tot_take_le ss (k + 1)
      rw [HS.out] at ht2
      clear hx hle
      by_cases hbig : 4001 < ss.length + (Plain.tot (ss.take k) + x.size)
      · have HF : Hid (fits ss = false) := Lib.hid (decide_eq_false (by omega))
        generalize Plain.tot (ss.take k) = t at HS ht ht2 hbig ⊢
        go_wp2
        go_ret
        exact ⟨ret_bool HF.out.symm, rfl⟩
      · generalize Plain.tot (ss.take k) = t at HS ht ht2 hbig ⊢
        go_wp2
        go_round
        case rel => exact ⟨k + 1, by omega, by go_num, by rw [HS.out]; go_num, by rw [HS.out]; omega⟩
        case measure => simp [intOf]; omega
    · obtain rfl : k = ss.length := by omega
      have hle2 := hle h0
      rw [Plain.tot_all ss ss.length (Nat.le_refl _)] at hle2
      have HF : Hid (fits ss = true) := Lib.hid (decide_eq_true (by omega))
      clear hle hle2
      go_wp2
      go_ret
      exact ⟨ret_bool HF.out.symm, rfl⟩

theorem strs_join (a : Option Addr) (cap : Nat) (c : UInt8) (ss : List ByteArray) (w : World) (h : Strs w a ss) (h0 : 0 < ss.length) (hcap : ss.length ≤ cap) (hn : ss.length + Plain.tot ss ≤ 1048576) :
    Calls Try.prog 33 #[.slice a ss.length cap, .string ⟨#[c]⟩] w fun e w' => e = .returned (.string (Plain.jn ⟨#[c]⟩ ss)) ∧ Below w.heap.size w w' := by
  obtain ⟨x, hx⟩ := Plain.some_at ss 0 h0
  obtain ⟨b, o, rfl, hc⟩ := h 0 x hx
  have hz := Plain.jn_size c ss h0
  exact Try.strings_Join b o cap ss ⟨#[c]⟩ w (fun j y hy => by
    obtain ⟨b2, o2, e, h2⟩ := h j y hy
    simp only [Option.some.injEq, Addr.mk.injEq, and_true] at e
    obtain ⟨rfl, rfl⟩ := e
    exact h2) (World.block_lt_of_cell? w _ hc) (by omega) hcap (by rw [← Plain.jn_list, ← Plain.size_list]; omega)

theorem implJoin_sep (a : Option Addr) (n cap : Nat) (sep : ByteArray) (w : World) (hn : n ≤ 9223372036854775807) (h : ¬ sep.size = 1) :
    Calls Try.prog 12 #[.slice a n cap, .string sep] w (NoJoin w) := by
  have hq : ((sep.size : Int) == 1) = false := by rw [beq_eq_false_iff_ne]; omega
  have hq2 : ((sep.size : Int) != 1) = true := by rw [bne, hq]; rfl
  clear h
  by_cases h0 : n = 0
  · subst h0
    go_enter Try.func12, Try.ntmps12
    go_wp2_with fail
    go_ret2
    exact noJoin (Below.refl _ _)
  · have hq3 : ((n : Int) == 0) = false := by rw [beq_eq_false_iff_ne]; omega
    go_enter Try.func12, Try.ntmps12
    go_wp2_with fail
    go_ret2
    exact noJoin (Below.refl _ _)

theorem implJoin_nil (a : Option Addr) (cap : Nat) (c : UInt8) (w : World) :
    Calls Try.prog 12 #[.slice a 0 cap, .string ⟨#[c]⟩] w (NoJoin w) := by
  go_enter Try.func12, Try.ntmps12
  go_wp2_with fail
  go_ret2
  exact noJoin (Below.refl _ _)

theorem joinOk_eq (c : UInt8) (ss : List ByteArray) (h0 : 0 < ss.length) : Plain.joinOk c ss = (fits ss && !anyHas c ss) := by
  have hz := Plain.jn_size c ss h0
  have e : decide ((Plain.jn ⟨#[c]⟩ ss).size ≤ 4000) = fits ss := by
    unfold fits
    rw [decide_eq_decide]
    omega
  unfold Plain.joinOk
  rw [e]
  congr 1
  unfold anyHas
  induction ss with
  | nil => rfl
  | cons y r ih => simp [List.all_eq_not_any_not]

theorem fits_v {a : Option Addr} {cap : Nat} {ss : List ByteArray} {t : Bool} (h0 : 0 < ss.length) (hn : ss.length + Plain.tot ss ≤ 1048576) (hf : fits ss = t) (w : World) (h : Hid (Strs w a ss)) :
    Calls Try.prog 31 #[.slice a ss.length cap] w fun e w' => e = .returned (.bool t) ∧ w = w' := by subst hf; exact fits_is a cap ss w h h0 hn
theorem any_v {a : Option Addr} {cap : Nat} {c : UInt8} {ss : List ByteArray} {t : Bool} (hn : ss.length + Plain.tot ss ≤ 1048576) (hf : anyHas c ss = t) (w : World) (h : Hid (Strs w a ss)) :
    Calls Try.prog 32 #[.slice a ss.length cap, .int .u8 (c.toNat : Int)] w fun e w' => e = .returned (.bool t) ∧ w = w' := by subst hf; exact anyHolds_is a cap c ss w h hn

theorem implJoin_any (a : Option Addr) (cap : Nat) (c : UInt8) (ss : List ByteArray) (w : World) (h : Hid (Strs w a ss)) (h0 : 0 < ss.length) (hcap : ss.length ≤ cap) (hn : ss.length + Plain.tot ss ≤ 1048576) :
    Calls Try.prog 12 #[.slice a ss.length cap, .string ⟨#[c]⟩] w (JoinPost c ss w) := by
  have hidx := index_sep c
  have hq3 : ((ss.length : Int) == 0) = false := by rw [beq_eq_false_iff_ne]; omega
  have hje := joinOk_eq c ss h0
  cases hf : fits ss with
  | false =>
    have HF := Lib.hid (fits_v (a := a) (cap := cap) h0 hn hf w h)
    have HN : Hid (Plain.joinOk c ss = false) := Lib.hid (by rw [hje, hf]; rfl)
    clear hje hf
    go_enter Try.func12, Try.ntmps12
    go_wp2_with (go_at_call 31; refine HF.out.mono ?_; rintro e w' ⟨rfl, rfl⟩)
    go_ret2
    exact join_no HN.out (Below.refl _ _)
  | true =>
    have HF := Lib.hid (fits_v (a := a) (cap := cap) h0 hn hf w h)
    cases ha : anyHas c ss with
    | true =>
      have HA := Lib.hid (any_v (a := a) (cap := cap) hn ha w h)
      have HN : Hid (Plain.joinOk c ss = false) := Lib.hid (by rw [hje, hf, ha]; rfl)
      clear hje hf ha
      go_enter Try.func12, Try.ntmps12
      go_wp2_with (first | (go_at_call 31; refine HF.out.mono ?_; rintro e w' ⟨rfl, rfl⟩) | (go_at_call 32; refine HA.out.mono ?_; rintro e w' ⟨rfl, rfl⟩))
      go_ret2
      exact join_no HN.out (Below.refl _ _)
    | false =>
      have HA := Lib.hid (any_v (a := a) (cap := cap) hn ha w h)
      have HN : Hid (Plain.joinOk c ss = true) := Lib.hid (by rw [hje, hf, ha]; rfl)
      have HJ := Lib.hid (strs_join a cap c ss w h.out h0 hcap hn)
      have hjz := Plain.jn_size c ss h0
      have HC := Lib.hid (fun w => clone_any (Plain.jn ⟨#[c]⟩ ss) w (by omega))
      clear hje hf ha hjz
      go_enter Try.func12, Try.ntmps12
      go_wp2_with (first | (go_at_call 31; refine HF.out.mono ?_; rintro e w' ⟨rfl, rfl⟩) | (go_at_call 32; refine HA.out.mono ?_; rintro e w' ⟨rfl, rfl⟩) | (go_at_call 33; refine HJ.out.mono ?_; rintro e w1 ⟨rfl, hb1⟩) | (go_at_call 28; refine (HC.out _).mono ?_; rintro e w2 ⟨rfl, hb2⟩))
      go_ret2
      exact join_yes HN.out rfl (hb1.trans (hb2.mono hb1.size))

end Go.Proofs.Ythcggmjgecdfgaa
