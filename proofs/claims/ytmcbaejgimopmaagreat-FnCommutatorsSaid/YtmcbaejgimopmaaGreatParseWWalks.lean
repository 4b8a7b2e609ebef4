/- Contracts: spec.ParseWord, impl.ParseWord read a word from its text. Condition: a length that fits. -/
import Derived.Test.YtmcbaejgimopmaaGreatIntsWalks
import Derived.Test.YtmcbaejgimopmaaGreatLawKit
namespace Go.Proofs.YtmcbaejgimopmaaGreat
open Go.ChangeShapes Go.WideShapes Go.ChangeAt Go.RowKit
set_option linter.unusedVariables false

/-- The letter of a byte, or 0. -/
def byteL (c : UInt8) : Int := if 97 ≤ c.toNat ∧ c.toNat < 103 then (c.toNat : Int) - 97 + 1 else if 65 ≤ c.toNat ∧ c.toNat < 71 then -((c.toNat : Int) - 65) - 1 else 0
theorem byteL_low {c : UInt8} (h : 97 ≤ c.toNat ∧ c.toNat < 103) : byteL c = (c.toNat : Int) - 97 + 1 := if_pos h
theorem byteL_up {c : UInt8} (h : 65 ≤ c.toNat ∧ c.toNat < 71) : byteL c = -((c.toNat : Int) - 65) - 1 := by rw [byteL, if_neg (by omega), if_pos h]
theorem byteL_no {c : UInt8} (h1 : ¬ (97 ≤ c.toNat ∧ c.toNat < 103)) (h2 : ¬ (65 ≤ c.toNat ∧ c.toNat < 71)) : byteL c = 0 := by rw [byteL, if_neg h1, if_neg h2]
theorem ret_intbool {a b : Int} {c d : Bool} (h1 : a = b) (h2 : c = d) : Ending.returned (.tuple #[.int .i64 a, .bool c]) = .returned (.tuple #[.int .i64 b, .bool d]) := by rw [h1, h2]

theorem byteL_cases (c : UInt8) : (97 ≤ c.toNat ∧ c.toNat < 103) ∨ (103 ≤ c.toNat) ∨ (65 ≤ c.toNat ∧ c.toNat < 71) ∨ (71 ≤ c.toNat ∧ c.toNat < 97) ∨ c.toNat < 65 := by omega


def okL (c : UInt8) : Bool := decide (byteL c ≠ 0)
theorem okL_yes {c : UInt8} (h : byteL c ≠ 0) : okL c = true := decide_eq_true h
theorem okL_no {c : UInt8} (h : byteL c = 0) : okL c = false := decide_eq_false (by simp [h])
theorem letterOf_any (c : UInt8) (w : World) : Calls Tryz.prog 119 #[.int .u8 (c.toNat : Int)] w fun e w' => e = .returned (.tuple #[.int .i64 (byteL c), .bool (okL c)]) ∧ w = w' := by
  have hc := UInt8.toNat_lt c
  rcases byteL_cases c with h | h | h | h | h
  · have HE := Lib.hid (And.intro (byteL_low h) (okL_yes (byteL_low h ▸ (by omega : (c.toNat : Int) - 97 + 1 ≠ 0))))
    obtain ⟨n, hn⟩ : ∃ n, n = c.toNat := ⟨_, rfl⟩
    rw [← hn] at HE h ⊢
    obtain ⟨h1, h2⟩ := h
    have HN := Lib.hid hn
    clear hc hn
    have d1 : decide ((97 : Int) ≤ (n : Int)) = true := decide_eq_true (by omega)
    have d2 : decide ((n : Int) < 103) = true := decide_eq_true (by omega)
    have g1 : (97 : Int) ≤ (n : Int) := by omega
    have g2 : (n : Int) < 103 := by omega
    go_enter Tryz.func119, Tryz.ntmps119
    go_wp2
    go_ret2
    exact ⟨ret_intbool HE.out.1.symm HE.out.2.symm, rfl⟩
  · have HE := Lib.hid (And.intro (byteL_no (c := c) (by omega) (by omega)) (okL_no (byteL_no (c := c) (by omega) (by omega))))
    obtain ⟨n, hn⟩ : ∃ n, n = c.toNat := ⟨_, rfl⟩
    rw [← hn] at h hc ⊢
    have HN := Lib.hid hn
    clear hn
    have d1 : decide ((97 : Int) ≤ (n : Int)) = true := decide_eq_true (by omega)
    have d2 : decide ((n : Int) < 103) = false := decide_eq_false (by omega)
    have d3 : decide ((65 : Int) ≤ (n : Int)) = true := decide_eq_true (by omega)
    have d4 : decide ((n : Int) < 71) = false := decide_eq_false (by omega)
    go_enter Tryz.func119, Tryz.ntmps119
    go_wp2
    go_ret2
    exact ⟨ret_intbool HE.out.1.symm HE.out.2.symm, rfl⟩
  · have HE := Lib.hid (And.intro (byteL_up h) (okL_yes (byteL_up h ▸ (by omega : -((c.toNat : Int) - 65) - 1 ≠ 0))))
    obtain ⟨n, hn⟩ : ∃ n, n = c.toNat := ⟨_, rfl⟩
    rw [← hn] at HE h ⊢
    obtain ⟨h1, h2⟩ := h
    have HN := Lib.hid hn
    clear hc hn
    have d1 : decide ((97 : Int) ≤ (n : Int)) = false := decide_eq_false (by omega)
    have d3 : decide ((65 : Int) ≤ (n : Int)) = true := decide_eq_true (by omega)
    have d4 : decide ((n : Int) < 71) = true := decide_eq_true (by omega)
    have g1 : (65 : Int) ≤ (n : Int) := by omega
    have g2 : (n : Int) < 71 := by omega
    go_enter Tryz.func119, Tryz.ntmps119
    go_wp2
    go_ret2
    exact ⟨ret_intbool HE.out.1.symm HE.out.2.symm, rfl⟩
  · have HE := Lib.hid (And.intro (byteL_no (c := c) (by omega) (by omega)) (okL_no (byteL_no (c := c) (by omega) (by omega))))
    obtain ⟨n, hn⟩ : ∃ n, n = c.toNat := ⟨_, rfl⟩
    rw [← hn] at h hc ⊢
    have HN := Lib.hid hn
    clear hn
    have d1 : decide ((97 : Int) ≤ (n : Int)) = false := decide_eq_false (by omega)
    have d3 : decide ((65 : Int) ≤ (n : Int)) = true := decide_eq_true (by omega)
    have d4 : decide ((n : Int) < 71) = false := decide_eq_false (by omega)
    go_enter Tryz.func119, Tryz.ntmps119
    go_wp2
    go_ret2
    exact ⟨ret_intbool HE.out.1.symm HE.out.2.symm, rfl⟩
  · have HE := Lib.hid (And.intro (byteL_no (c := c) (by omega) (by omega)) (okL_no (byteL_no (c := c) (by omega) (by omega))))
    obtain ⟨n, hn⟩ : ∃ n, n = c.toNat := ⟨_, rfl⟩
    rw [← hn] at h hc ⊢
    have HN := Lib.hid hn
    clear hn
    have d1 : decide ((97 : Int) ≤ (n : Int)) = false := decide_eq_false (by omega)
    have d3 : decide ((65 : Int) ≤ (n : Int)) = false := decide_eq_false (by omega)
    go_enter Tryz.func119, Tryz.ntmps119
    go_wp2
    go_ret2
    exact ⟨ret_intbool HE.out.1.symm HE.out.2.symm, rfl⟩

theorem byteL_in (c : UInt8) : -6 ≤ byteL c ∧ byteL c ≤ 6 := by unfold byteL; split <;> (try split) <;> omega
/-- What the first k bytes tell. -/
def readTo (s : ByteArray) (k : Nat) : List Int := (s.data.toList.take k).map byteL
theorem byte_at {s : ByteArray} {k : Nat} (h : k < s.size) : s.data.toList[k]? = some s[k] := by
  rw [Array.getElem?_toList]
  exact Array.getElem?_eq_getElem (by simpa using h)
theorem readTo_succ {s : ByteArray} {k : Nat} (h : k < s.size) : readTo s (k + 1) = readTo s k ++ [byteL s[k]] := by
  unfold readTo
  rw [List.take_add_one, byte_at h]
  simp
theorem readTo_length {s : ByteArray} {k : Nat} (h : k ≤ s.size) : (readTo s k).length = k := by
  have hz : s.data.toList.length = s.size := by simp
  rw [readTo, List.length_map, List.length_take, hz]
  omega
def signsB (s : ByteArray) : Bool := s.data.toList.all okL
def parseB (s : ByteArray) : Bool := decide (s.size ≤ 64) && signsB s
def parseOut (s : ByteArray) : List Int := if parseB s = true then readTo s s.size else []
theorem parse_no {s : ByteArray} (h : parseB s = false) : parseOut s = [] := if_neg (by rw [h]; simp)
theorem parse_yes {s : ByteArray} (h : parseB s = true) : parseOut s = readTo s s.size := if_pos h
theorem parse_long {s : ByteArray} (h : 64 < s.size) : parseB s = false := by simp [parseB]; omega
theorem parse_bad {s : ByteArray} {k : Nat} (hk : k < s.size) (h : byteL s[k] = 0) : parseB s = false := by
  have : signsB s = false := by
    rw [← Bool.not_eq_true, signsB, List.all_eq_true]
    intro hall
    have := hall s[k] (List.mem_of_getElem? (byte_at hk))
    rw [okL_no h] at this
    cases this
  simp [parseB, this]
def Fine (s : ByteArray) (k : Nat) : Prop := ∀ (j : Nat) (h : j < s.size), j < k → byteL s[j] ≠ 0
theorem parse_good {s : ByteArray} (hs : s.size ≤ 64) (h : Fine s s.size) : parseB s = true := by
  have : signsB s = true := by
    rw [signsB, List.all_eq_true]
    intro c hc
    obtain ⟨j, hj⟩ := List.getElem?_of_mem hc
    have hjs : j < s.size := by have := at_lt hj; simpa using this
    rw [byte_at hjs] at hj
    cases hj
    exact okL_yes (h j hjs hjs)
  simp [parseB, this, hs]
theorem fine_succ {s : ByteArray} {k : Nat} (hk : k < s.size) (h : Fine s k) (h0 : byteL s[k] ≠ 0) : Fine s (k + 1) := fun j hj hlt => by
  by_cases e : j = k
  · subst e; exact h0
  · exact h j hj (by omega)
theorem parseOut_le (s : ByteArray) : (parseOut s).length ≤ s.size := by
  unfold parseOut
  split
  · rw [readTo_length (Nat.le_refl _)]; exact Nat.le_refl _
  · simp
theorem sb_is {out out' : List Int} {ok ok' : Bool} {w w' : World} {e : Ending} (h1 : out = out') (h2 : ok = ok') (h : SB out' ok' w e w') : SB out ok w e w' := by subst h1 h2; exact h


theorem readTo_at {s : ByteArray} {k : Nat} (h : k < s.size) : (readTo s s.size)[k]? = some (byteL s[k]) := by
  have hz : s.data.toList.length = s.size := by simp
  rw [readTo, List.take_of_length_le (by omega), List.getElem?_map, byte_at h]
  rfl
set_option maxRecDepth 100000 in
set_option maxHeartbeats 800000 in
theorem implParseW_any (s : ByteArray) (w : World) (hs : s.size ≤ 9223372036854775807) :
    Calls Tryz.prog 111 #[.string s] w (SB (parseOut s) (parseB s) w) := by
  obtain ⟨i0, hi0, hz0, hz1, hz2⟩ := info_parts infoInt
  by_cases hlong : 64 < s.size
  · have HS := Lib.hid (coll_start w)
    have HB := Lib.hid (parse_long hlong)
    have HO := Lib.hid (parse_no (parse_long hlong))
    go_enter Tryz.func111, Tryz.ntmps111
    go_wp2
    go_ret2
    exact sb_is HO.out HB.out ⟨_, rfl, (coll_res HS.out).1, HS.out.2.1⟩
  · have hxl := readTo_length (s := s) (k := s.size) (Nat.le_refl _)
    obtain ⟨xs, hxs⟩ : ∃ xs, xs = readTo s s.size := ⟨_, rfl⟩
    rw [← hxs] at hxl
    have HXL := Lib.hid hxl
    have HXS := Lib.hid hxs
    clear hxl hxs
    go_enter Tryz.func111, Tryz.ntmps111
    go_wp2_with (at_make; refine wpList_make_full _ rfl _ _ 24 rfl w.heap.size 3 i0 (.int .i64 0) 1 Tryz.underlying24 hi0 hz0 hz1 .i64 .i64 _ _ s.size rfl rfl rfl rfl (by rw [hz2]; omega) (by unfold maxLen; omega) (Nat.le_refl _) ?_; intro w1 hown hg)
    have HF : Hid (Filled xs w.heap.size w 0 w1) := Lib.hid (by
      refine ⟨?_, (Below.refl _ w).grown hg (Nat.le_refl _) (fun j hj => by cases hj)⟩
      rw [mixed_zero, HXL.out]
      simpa [toList_madeCells_one, Value.cells, nums] using hown)
    clear hown hg
    go_wp2
    go_loopw [17] (fun i wr => ∃ k : Nat, k ≤ s.size ∧ i = .int .i64 k ∧ Filled xs w.heap.size w k wr ∧ Fine s k) (fun i _ => s.size - (intOf i).toNat)
    case atStart => exact ⟨0, Nat.zero_le _, rfl, HF.out, fun j hj h => by omega⟩
    case round =>
      obtain ⟨k, hk, rfl, hrel, hFi⟩ := hrel
      have HFi := Lib.hid hFi
      have hsz := hrel.2.size
      by_cases hlt : k < s.size
      · have hbi := byteL_in s[k]
        by_cases h0 : byteL s[k] = 0
        · have HB := Lib.hid (parse_bad hlt h0)
          have HO := Lib.hid (parse_no (parse_bad hlt h0))
          have H0 := Lib.hid h0
          have HK := Lib.hid (okL_no h0)
          have HBw := Lib.hid hrel.2
          have HCr := Lib.hid (coll_start wr)
          clear h0 hbi hrel hFi
          go_wp2_with fail
          refine (letterOf_any _ _).mono ?_
          rw [H0.out, HK.out]
          rintro e w' ⟨rfl, rfl⟩
          go_wp2
          go_ret2
          exact sb_is HO.out HB.out ⟨_, rfl, (coll_res HCr.out).1.mono HBw.out.size, HBw.out.trans (HCr.out.2.1.mono HBw.out.size)⟩
        · have HF2 := Lib.hid (fine_succ hlt HFi.out h0)
          have HK := Lib.hid (okL_yes h0)
          obtain ⟨x, hxe⟩ : ∃ x, x = byteL s[k] := ⟨_, rfl⟩
          have hat : xs[k]? = some x := by rw [HXS.out, hxe]; exact readTo_at hlt
          have HR := Lib.hid (hrel.step hat)
          obtain ⟨u, hd⟩ := hrel.cell (by rw [HXL.out]; exact hlt)
          have hf : wr.frozen? ⟨w.heap.size, k, none⟩ = false := World.ownsRow.frozenAt hrel.1 k
          have HX := Lib.hid hxe
          clear h0 hbi hrel hFi hat hxe
          go_wp2_with fail
          refine (letterOf_any _ _).mono ?_
          rw [← HX.out, HK.out]
          rintro e w' ⟨rfl, rfl⟩
          go_wp2
          go_roundw
          case rel => exact ⟨k + 1, by omega, by go_num, HR.out, HF2.out⟩
          case measure => simp [intOf]; omega
      · obtain rfl : k = s.size := by omega
        have HB := Lib.hid (parse_good (by omega) HFi.out)
        have HO := Lib.hid (parse_yes HB.out)
        have R : Hid (Res w.heap.size wr (.slice (some ⟨w.heap.size, 0, none⟩) s.size s.size) xs) := Lib.hid (by
          have h1 := hrel.1
          rw [← HXL.out, mixed_all] at h1
          rw [← HXL.out]
          exact owns_ints h1)
        have HBw := Lib.hid hrel.2
        clear hrel hFi
        go_wp2
        go_ret2
        exact sb_is (HO.out.trans HXS.out.symm) HB.out ⟨_, rfl, R.out, HBw.out⟩
end Go.Proofs.YtmcbaejgimopmaaGreat
