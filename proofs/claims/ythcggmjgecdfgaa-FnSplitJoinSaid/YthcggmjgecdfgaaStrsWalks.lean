/- Contracts of the helpers on lists of texts: laws.szStringS, laws.toStringS, laws.eqStringS (at equal lists). Conditions: as each says. -/
import Derived.Test.YthcggmjgecdfgaaSplitWalks
import Derived.Test.YthcggmjgecdfgaaStrs
import Derived.Laws.OwnMore
import Derived.OwnWalk
import Derived.Deep.QuietTactic
import Derived.BigQuiet
namespace Go.Proofs.Ythcggmjgecdfgaa
open Go.ChangeShapes Go.WideShapes Go.ChangeAt Go.RowKit

/-- At an address lie these texts. -/
def Strs (w : World) (a : Option Addr) (ss : List ByteArray) : Prop := ∀ j x, ss[j]? = some x → ∃ b o, a = some ⟨b, o, none⟩ ∧ w.cell? ⟨b, o + j, none⟩ = some (.string x)

theorem Strs.on {w w' : World} {a : Option Addr} {ss : List ByteArray} (h : Strs w a ss) (hb : Below w.heap.size w w') : Strs w' a ss := fun j x hx => by
  obtain ⟨b, o, e, hc⟩ := h j x hx
  exact ⟨b, o, e, cell_later hb hc⟩

theorem strVals_length (ss : List ByteArray) : (strVals ss).length = ss.length := by simp [strVals]
theorem strVals_at {ss : List ByteArray} {j : Nat} {x : ByteArray} (h : ss[j]? = some x) : (strVals ss)[j]? = some (.string x) := by simp [strVals, h]

/-- What a call owns reads as its texts. -/
theorem strs_of_owns {w : World} {B : Nat} {v : Value} {ss : List ByteArray} (h : w.ownsRow B 9 1 v ss.length (strVals ss)) :
    ∃ a cap, v = .slice a ss.length cap ∧ Strs w a ss := by
  have h0 := h
  obtain ⟨hl, ⟨rfl, hn⟩ | ⟨g, cap, cur, rfl, hg, hc, hn, hm, hz, ht⟩⟩ := h
  · have : ss = [] := List.eq_nil_of_length_eq_zero hn
    subst this
    exact ⟨none, 0, rfl, fun j x hx => by simp at hx⟩
  · refine ⟨_, cap, rfl, fun j x hx => ⟨g, 0, rfl, ?_⟩⟩
    have hj : j < ss.length := by
      rw [List.getElem?_eq_some_iff] at hx
      exact hx.1
    rw [Nat.zero_add, World.ownsRow.cellAt h0 j (by omega), strVals_at hx]

def szLeft (ss : List ByteArray) (k : Nat) : Int := 1048576 - (ss.length : Int) - (Plain.tot (ss.take k) : Int)
theorem szLeft_zero (ss : List ByteArray) : szLeft ss 0 = 1048576 - (ss.length : Int) := by simp [szLeft, Plain.tot]
theorem szLeft_succ (ss : List ByteArray) (k : Nat) (x : ByteArray) (h : ss[k]? = some x) : szLeft ss (k + 1) = szLeft ss k - (x.size : Int) := by
  unfold szLeft; rw [Plain.tot_take ss k x h]; omega
theorem szLeft_le (ss : List ByteArray) (k : Nat) : szLeft ss k ≤ 1048576 := by unfold szLeft; omega

def Sizes (ss : List ByteArray) : Prop := ∀ (j : Nat) (x : ByteArray), ss[j]? = some x → x.size ≤ 9223372036854775807
def SzPost (ss : List ByteArray) (w : World) (e : Ending) (w' : World) : Prop := ∃ m : Int, e = .returned (.int .i64 m) ∧ (m < 0 ∨ (0 ≤ m ∧ ss.length + Plain.tot ss ≤ 1048576)) ∧ w = w'
theorem sz_neg (ss : List ByteArray) (w : World) : SzPost ss w (.returned (.int .i64 (-1))) w := ⟨-1, rfl, .inl (by omega), rfl⟩

set_option maxHeartbeats 400000 in
theorem sz_any (a : Option Addr) (cap : Nat) (ss : List ByteArray) (w : World) (h : Hid (Strs w a ss)) (hn : ss.length ≤ 9223372036854775807) (hsz : Hid (Sizes ss)) :
    Calls Try.prog 21 #[.slice a ss.length cap, .int .i64 1048576] w (SzPost ss w) := by
  by_cases h0 : 1048576 < ss.length
  · go_enter Try.func21, Try.ntmps21
    go_wp2_with fail
    go_ret
    exact sz_neg ss w
  · go_enter Try.func21, Try.ntmps21
    go_wp2_with fail
    go_loop [1, 5] (fun l i => ∃ k : Nat, k ≤ ss.length ∧ i = .int .i64 k ∧ l = .int .i64 (szLeft ss k) ∧ 0 ≤ szLeft ss k) (fun _ i => ss.length - (intOf i).toNat)
    case atStart => exact ⟨0, Nat.zero_le _, rfl, by rw [szLeft_zero], by rw [szLeft_zero]; omega⟩
    case round =>
      obtain ⟨k, hk, rfl, rfl, hl0⟩ := hrel
      have hl1 := szLeft_le ss k
      by_cases hlt : k < ss.length
      · obtain ⟨x, hx⟩ := Plain.some_at ss k hlt
        obtain ⟨b, o, rfl, hc⟩ := h.out k x hx
        have hxs := hsz.out k x hx
        have HS := Lib.hid (szLeft_succ ss k x hx)
        have HX := Lib.hid hx
        clear hx
        generalize szLeft ss k = l at HS hl0 hl1 ⊢
        by_cases hneg : l < (x.size : Int)
        · go_wp2
          go_ret
          exact sz_neg ss w
        · go_wp2
          go_round
          case rel => exact ⟨k + 1, by omega, by go_num, by rw [HS.out], by rw [HS.out]; omega⟩
          case measure => simp [intOf]; omega
      · obtain rfl : k = ss.length := by omega
        go_wp2
        go_ret
        have ht := Plain.tot_all ss ss.length (Nat.le_refl _)
        exact ⟨_, rfl, .inr ⟨hl0, by unfold szLeft at hl0; rw [ht] at hl0; omega⟩, rfl⟩

def mixed (ss : List ByteArray) (k : Nat) : List Value := strVals (ss.take k) ++ List.replicate (ss.length - k) (.string ByteArray.empty)
theorem mixed_set (ss : List ByteArray) (k : Nat) (x : ByteArray) (hx : ss[k]? = some x) : (mixed ss k).set k (.string x) = mixed ss (k + 1) := by
  have hk : k < ss.length := by rw [List.getElem?_eq_some_iff] at hx; exact hx.1
  have hl : (strVals (ss.take k)).length = k := by simp [strVals]; omega
  unfold mixed
  obtain ⟨n, hn⟩ : ∃ n, ss.length - k = n + 1 := ⟨ss.length - k - 1, by omega⟩
  rw [hn, List.replicate_succ, List.set_append_right _ _ (by omega), hl, Nat.sub_self, List.set_cons_zero, show ss.length - (k + 1) = n by omega]
  rw [List.take_add_one, hx]
  simp [strVals]
theorem mixed_zero (ss : List ByteArray) : mixed ss 0 = List.replicate ss.length (.string ByteArray.empty) := by simp [mixed, strVals]
theorem mixed_all (ss : List ByteArray) : mixed ss ss.length = strVals ss := by simp [mixed]
theorem mixed_at (ss : List ByteArray) (k : Nat) (h : k < ss.length) : ∃ u, (mixed ss k)[k]? = some (.string u) := by
  have hl : (strVals (ss.take k)).length = k := by simp [strVals]; omega
  refine ⟨ByteArray.empty, ?_⟩
  unfold mixed
  rw [List.getElem?_append_right (by omega), hl, Nat.sub_self, List.getElem?_replicate, if_pos (by omega)]

/-- The loop's relation behind k stores. -/
def Filled (ss : List ByteArray) (B : Nat) (w : World) (k : Nat) (wr : World) : Prop :=
  wr.ownsRow B 9 1 (.slice (some ⟨B, 0, none⟩) ss.length ss.length) ss.length (mixed ss k) ∧ Below B w wr

theorem Filled.step {ss : List ByteArray} {B k : Nat} {w wr : World} {x : ByteArray} (h : Filled ss B w k wr) (hx : ss[k]? = some x) : Filled ss B w (k + 1) (wr.setCell ⟨B, k, none⟩ (.string x)) := by
  obtain ⟨ho, hb⟩ := h
  refine ⟨?_, hb.setCell (p := ⟨B, k, none⟩) (Nat.le_refl _) _⟩
  rw [← mixed_set ss k x hx]
  exact (World.ownsRow.stored ho k (.string x)).1

set_option maxHeartbeats 400000 in
theorem to_any (a : Option Addr) (cap : Nat) (ss : List ByteArray) (w : World) (h : Hid (Strs w a ss)) (hn : ss.length ≤ 1048576) :
    Calls Try.prog 22 #[.slice a ss.length cap] w fun e w' => e = .returned (.slice (some ⟨w.heap.size, 0, none⟩) ss.length ss.length) ∧ Filled ss w.heap.size w ss.length w' := by
  obtain ⟨i0, hi, hz0, hz1, hz2⟩ := info_parts infoStr
  go_enter Try.func22, Try.ntmps22
  go_wp2_with (at_make; refine wpList_make_full _ rfl _ _ 26 rfl w.heap.size 9 i0 (.string ByteArray.empty) 1 Try.underlying26 hi hz0 hz1 .i64 .i64 _ _ ss.length rfl rfl rfl rfl (by rw [hz2]; omega) (by unfold maxLen; omega) (Nat.le_refl _) ?_; intro w1 hown hg)
  have HF : Hid (Filled ss w.heap.size w 0 w1) := Lib.hid (by
    refine ⟨?_, (Below.refl _ w).grown hg (Nat.le_refl _) (fun j hj => by cases hj)⟩
    rw [mixed_zero]
    simpa [toList_madeCells_one, Value.cells] using hown)
  clear hown hg
  go_wp2
  go_loopw [4] (fun i wr => ∃ k : Nat, k ≤ ss.length ∧ i = .int .i64 k ∧ Filled ss w.heap.size w k wr) (fun i _ => ss.length - (intOf i).toNat)
  case atStart => exact ⟨0, Nat.zero_le _, rfl, HF.out⟩
  case round =>
    obtain ⟨k, hk, rfl, hrel⟩ := hrel
    by_cases hlt : k < ss.length
    · obtain ⟨x, hx⟩ := Plain.some_at ss k hlt
      obtain ⟨b, o, rfl, hc0⟩ := h.out k x hx
      have hc : wr.cell? ⟨b, o + k, none⟩ = some (.string x) := cell_later hrel.2 hc0
      obtain ⟨u, hu⟩ := mixed_at ss k hlt
      have hd : wr.cell? ⟨w.heap.size, k, none⟩ = some (.string u) := by rw [World.ownsRow.cellAt hrel.1 k (by omega), hu]
      have hf : wr.frozen? ⟨w.heap.size, k, none⟩ = false := World.ownsRow.frozenAt hrel.1 k
      have HR := Lib.hid (hrel.step hx)
      clear hrel hc0 hu hx
      go_wp2
      go_roundw
      case rel => exact ⟨k + 1, by omega, by go_num, HR.out⟩
      case measure => simp [intOf]; omega
    · obtain rfl : k = ss.length := by omega
      have HR := Lib.hid hrel
      clear hrel
      go_wp2
      go_ret
      exact ⟨rfl, HR.out⟩

theorem str_same (x : ByteArray) : (x.toList == x.toList) = true := by simp
set_option maxHeartbeats 400000 in
/-- Equal lists are equal. -/
theorem eqS_same (a b : Option Addr) (ca cb : Nat) (ss : List ByteArray) (w : World) (ha : Hid (Strs w a ss)) (hb : Hid (Strs w b ss)) (hn : ss.length ≤ 9223372036854775807) :
    Calls Try.prog 18 #[.slice a ss.length ca, .slice b ss.length cb] w fun e w' => e = .returned (.bool true) ∧ Below w.heap.size w w' := by
  go_enter Try.func18, Try.ntmps18
  go_wp2_with fail
  go_loopw [5] (fun i wr => ∃ k : Nat, k ≤ ss.length ∧ i = .int .i64 k ∧ Below w.heap.size w wr) (fun i _ => ss.length - (intOf i).toNat)
  case atStart => exact ⟨0, Nat.zero_le _, rfl, Below.refl _ _⟩
  case round =>
    obtain ⟨k, hk, rfl, hrel⟩ := hrel
    by_cases hlt : k < ss.length
    · obtain ⟨x, hx⟩ := Plain.some_at ss k hlt
      obtain ⟨b, o, rfl, hc0⟩ := ha.out k x hx
      obtain ⟨b2, o2, rfl, hd0⟩ := hb.out k x hx
      have hc : wr.cell? ⟨b, o + k, none⟩ = some (.string x) := cell_later hrel hc0
      have hd : wr.cell? ⟨b2, o2 + k, none⟩ = some (.string x) := cell_later hrel hd0
      have hq := str_same x
      have HR := Lib.hid hrel
      have hi : (k : Int) < (ss.length : Int) := by omega
      have hi0 : (0 : Int) ≤ (k : Int) := by omega
      clear hc0 hd0 hx hrel
      go_wp2
      go_quiet (fail)
      go_wp2
      go_roundw
      case rel => exact ⟨k + 1, by omega, by go_num, below_drewN HR.out _⟩
      case measure => simp [intOf]; omega
    · obtain rfl : k = ss.length := by omega
      have HR := Lib.hid hrel
      clear hrel
      go_wp2
      go_ret
      exact ⟨rfl, HR.out⟩

end Go.Proofs.Ythcggmjgecdfgaa
