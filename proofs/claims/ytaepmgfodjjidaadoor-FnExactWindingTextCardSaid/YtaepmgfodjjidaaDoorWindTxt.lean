/- Contracts: WindingText of both. Conditions: numbers of 64 bits, lengths that fit; the library's table of powers of ten lies as its initialiser lays it. -/
import Derived.Test.YtaepmgfodjjidaaDoorWindWin
import Derived.Test.YtaepmgfodjjidaaDoorFmtWalks
import Derived.Test.YtaepmgfodjjidaaDoorTextSpec
import Derived.Test.YtaepmgfodjjidaaDoorStrsWalks
import Derived.Test.YtaepmgfodjjidaaDoorJoinM
import Derived.Test.YtaepmgfodjjidaaDoorShelf
namespace Go.Proofs.YtaepmgfodjjidaaDoor
open Go.ChangeShapes Go.WideShapes Go.ChangeAt Go.RowKit
set_option linter.unusedVariables false

theorem ret_sb8 {a b : ByteArray} {c d : Bool} (h1 : a = b) (h2 : c = d) : Ending.returned (.tuple #[.string a, .bool c]) = .returned (.tuple #[.string b, .bool d]) := by rw [h1, h2]
/-- What is told of a nail; of the first k nails that have a winding. -/
def wpart (xs : List Int) (i : Nat) : ByteArray := ⟨#[signB ((i : Int) + 1)]⟩ ++ Plain.intS (Plain.cof xs (i + 1))
def wparts (xs : List Int) (k : Nat) : List ByteArray := ((List.range k).filter fun i => decide (Plain.cof xs (i + 1) ≠ 0)).map (wpart xs)
theorem wparts_zero (xs : List Int) : wparts xs 0 = [] := rfl
theorem wparts_miss {xs : List Int} {k : Nat} (h : Plain.cof xs (k + 1) = 0) : wparts xs (k + 1) = wparts xs k := by
  unfold wparts
  rw [List.range_succ, List.filter_append]
  simp [h]
theorem wparts_hit {xs : List Int} {k : Nat} (h : Plain.cof xs (k + 1) ≠ 0) : wparts xs (k + 1) = wparts xs k ++ [wpart xs k] := by
  unfold wparts
  rw [List.range_succ, List.filter_append, List.map_append]
  simp [h]
theorem wparts_le (xs : List Int) (k : Nat) : (wparts xs k).length ≤ k := by
  have := List.length_filter_le (fun i => decide (Plain.cof xs (i + 1) ≠ 0)) (List.range k)
  simpa [wparts] using this
theorem intS_size {n : Int} (h : -262144 ≤ n ∧ n ≤ 262144) : (Plain.intS n).size ≤ 20 := by
  by_cases hp : 0 ≤ n
  · obtain ⟨u, rfl⟩ : ∃ u : Nat, n = u := ⟨n.toNat, by omega⟩
    rw [Plain.intS_nat]
    exact Nat.le_trans (Plain.numS_size u (by omega)) (by omega)
  · obtain ⟨u, rfl⟩ : ∃ u : Nat, n = -(u : Int) := ⟨n.natAbs, by omega⟩
    rw [Plain.intS_neg u (by omega), ByteArray.size_append]
    have := Plain.numS_size u (by omega)
    show 1 + _ ≤ 20
    omega
theorem wpart_size {xs : List Int} {i : Nat} (h : -262144 ≤ Plain.cof xs (i + 1) ∧ Plain.cof xs (i + 1) ≤ 262144) : 1 ≤ (wpart xs i).size ∧ (wpart xs i).size ≤ 21 := by
  unfold wpart
  rw [ByteArray.size_append]
  have := intS_size h
  show 1 ≤ 1 + _ ∧ 1 + _ ≤ 21
  omega
theorem tot_snoc (L : List ByteArray) (x : ByteArray) : Plain.tot (L ++ [x]) = Plain.tot L + x.size := by simp [Plain.tot]
theorem wparts_tot {xs : List Int} (hs : Plain.Small (Plain.cof xs)) (k : Nat) (hk : k ≤ 6) : Plain.tot (wparts xs k) ≤ 21 * k := by
  induction k with
  | zero => exact Nat.le_refl _
  | succ k ih =>
    have h1 := ih (by omega)
    by_cases h : Plain.cof xs (k + 1) = 0
    · rw [wparts_miss h]; omega
    · have h2 := wpart_size (xs := xs) (i := k) (hs (k + 1) (by omega))
      rw [wparts_hit h, tot_snoc]; omega
theorem wtext_size {xs : List Int} (hs : Plain.Small (Plain.cof xs)) (k : Nat) (hk : k ≤ 6) : (Plain.jn ⟨#[32]⟩ (wparts xs k)).size ≤ 200 := by
  have h1 := wparts_tot hs k hk
  have h2 := wparts_le xs k
  by_cases h : (wparts xs k).length = 0
  · rw [List.eq_nil_of_length_eq_zero h, Plain.jn_nil]; exact Nat.zero_le _
  · have := Plain.jn_size 32 (wparts xs k) (by omega)
    omega
theorem jn_one (P : List ByteArray) (x : ByteArray) (h : P = []) : Plain.jn ⟨#[32]⟩ (P ++ [x]) = Plain.jn ⟨#[32]⟩ P ++ x := by
  subst h
  have := Plain.jn_first ⟨#[32]⟩ [x] x rfl
  simpa using this
theorem jn_more (P : List ByteArray) (x : ByteArray) (h : P ≠ []) : Plain.jn ⟨#[32]⟩ (P ++ [x]) = (Plain.jn ⟨#[32]⟩ P ++ ⟨#[32]⟩) ++ x := by
  have hl : 0 < P.length := List.length_pos_iff.2 h
  have := Plain.jn_next ⟨#[32]⟩ (P ++ [x]) P.length x hl (by simp)
  rw [List.take_of_length_le (by simp)] at this
  rw [this]
  simp
theorem wtext_empty {xs : List Int} (hs : Plain.Small (Plain.cof xs)) {k : Nat} (hk : k ≤ 6) : (Plain.jn ⟨#[32]⟩ (wparts xs k)).size = 0 ↔ wparts xs k = [] := by
  constructor
  · intro h
    refine Classical.byContradiction fun hne => ?_
    have hl : 0 < (wparts xs k).length := List.length_pos_iff.2 hne
    have h1 := Plain.jn_size 32 (wparts xs k) hl
    have h2 : (wparts xs k).length ≤ Plain.tot (wparts xs k) := by
      clear h h1 hne hl
      induction k with
      | zero => exact Nat.zero_le _
      | succ k ih =>
        have h1 := ih (by omega)
        by_cases h : Plain.cof xs (k + 1) = 0
        · rw [wparts_miss h]; exact h1
        · have h2 := wpart_size (xs := xs) (i := k) (hs (k + 1) (by omega))
          rw [wparts_hit h, tot_snoc]; simp; omega
    have h3 : Plain.tot (wparts xs k) ≤ 1 := by omega
    have h4 : (Plain.jn ⟨#[32]⟩ (wparts xs k)).size + 1 ≥ 1 + 1 := by omega
    omega
  · intro h
    rw [h, Plain.jn_nil]; rfl
/-- What WindingText answers. -/
def wtxt (xs : List Int) : ByteArray := if Plain.wordB xs = true then (if (wparts xs 6).length = 0 then ⟨#[45]⟩ else Plain.jn ⟨#[32]⟩ (wparts xs 6)) else ⟨#[]⟩
theorem wtxt_no {xs : List Int} (h : Plain.wordB xs = false) : wtxt xs = ⟨#[]⟩ := if_neg (by rw [h]; simp)
theorem wtxt_none {xs : List Int} (h : Plain.wordB xs = true) (h0 : (wparts xs 6).length = 0) : wtxt xs = ⟨#[45]⟩ := (if_pos h).trans (if_pos h0)
theorem wtxt_some {xs : List Int} (h : Plain.wordB xs = true) (h0 : ¬ (wparts xs 6).length = 0) : wtxt xs = Plain.jn ⟨#[32]⟩ (wparts xs 6) := (if_pos h).trans (if_neg h0)

/-- Texts that are appended to. -/
def Txts (ss : List ByteArray) (B : Nat) (w : World) (v : Value) (wr : World) : Prop := wr.ownsRow B 9 1 v ss.length (strVals ss) ∧ Below B w wr ∧ B ≤ wr.heap.size
theorem txts_start (w : World) : Txts [] w.heap.size w (.slice (some ⟨w.heap.size, 0, none⟩) 0 0) (w.alloc (.cells #[] 9)) :=
  ⟨World.ownsRow_made w #[] 0 (Nat.le_refl _) (Nat.zero_le _) rfl, (Below.refl _ w).alloc (Nat.le_refl _) _, by simp⟩
theorem Txts.later {ss : List ByteArray} {B : Nat} {w wr w1 : World} {v : Value} (h : Txts ss B w v wr) (hb : Below wr.heap.size wr w1) : Txts ss B w v w1 :=
  ⟨h.1.kept (row := none) ⟨hb.os, hb.tape, hb.output, hb.size, fun j hj _ => hb.block j hj⟩ (by cases hv : v.ownBlock with | none => exact .inl rfl | some g => exact .inr (by simp)), h.2.1.trans (hb.mono h.2.2), by have := hb.size; have := h.2.2; omega⟩
theorem txts_push {x : ByteArray} {ss : List ByteArray} {B : Nat} {w wr w1 : World} {v v' : Value} {o : Obj} (h : Txts ss B w v wr)
    (hown : w1.ownsRow B 9 1 v' (ss.length + 1) (strVals ss ++ [.string x])) (hgrow : (wr.alloc o).grownBy w1 v.ownBlock) : Txts (ss ++ [x]) B w v' w1 := by
  obtain ⟨ho, hb, hB⟩ := h
  refine ⟨by simpa [strVals] using hown, (hb.alloc hB o).grown hgrow (by simp; omega) (fun j hj => (ho.lt j hj).1), by have := hgrow.size; simp at this; omega⟩
theorem txts_strs {ss : List ByteArray} {B : Nat} {w wr : World} {v : Value} (h : Txts ss B w v wr) : ∃ a cap, v = .slice a ss.length cap ∧ Strs wr a ss ∧ ss.length ≤ cap := by
  obtain ⟨a, cap, rfl, hs⟩ := strs_of_owns h.1
  refine ⟨a, cap, rfl, hs, ?_⟩
  obtain ⟨-, ⟨e, hn⟩ | ⟨g, cap2, cur, e, -, -, hn, -⟩⟩ := h.1
  · omega
  · cases e; exact hn
theorem strs8_join (a : Option Addr) (cap : Nat) (c : UInt8) (ss : List ByteArray) (w : World) (h : Strs w a ss) (h0 : 0 < ss.length) (hcap : ss.length ≤ cap) (hn : ss.length + Plain.tot ss ≤ 1048576) :
    Calls Tryd.prog 25 #[.slice a ss.length cap, .string ⟨#[c]⟩] w fun e w' => e = .returned (.string (Plain.jn ⟨#[c]⟩ ss)) ∧ Below w.heap.size w w' := by
  obtain ⟨x, hx⟩ := Plain.some_at ss 0 h0
  obtain ⟨b, o, rfl, hc⟩ := h 0 x hx
  have hz := Plain.jn_size c ss h0
  exact Tryd.strings_Join b o cap ss ⟨#[c]⟩ w (fun j y hy => by
    obtain ⟨b2, o2, e, h2⟩ := h j y hy
    simp only [Option.some.injEq, Addr.mk.injEq, and_true] at e
    obtain ⟨rfl, rfl⟩ := e
    exact h2) (World.block_lt_of_cell? w _ hc) (by omega) hcap (by rw [← Plain.jn_list, ← Plain.size8_list]; omega)
theorem sign8_any (x : Int) (w : World) (hx : x ≠ 0 ∧ -6 ≤ x ∧ x ≤ 6) : Calls Tryd.prog 24 #[.int .i64 x] w fun e w' => e = .returned (.int .u8 ((signB x).toNat : Int)) ∧ w = w' := by
  rcases sign_six hx with rfl | rfl | rfl | rfl | rfl | rfl | rfl | rfl | rfl | rfl | rfl | rfl
  all_goals
    go_enter Tryd.func24, Tryd.ntmps24
    go_wp2
    go_ret
    exact ⟨by rfl, rfl⟩
theorem conv8 (k : Nat) (hk : k < 6) (w : World) : Sem.run Tryd.prog (convert 5 9 (.int .u8 ((signB ((k : Int) + 1)).toNat : Int))) w = .ok (.string ⟨#[signB ((k : Int) + 1)]⟩) w := by
  obtain rfl | rfl | rfl | rfl | rfl | rfl : k = 0 ∨ k = 1 ∨ k = 2 ∨ k = 3 ∨ k = 4 ∨ k = 5 := by omega
  all_goals kernel_rfl
theorem index_7 (v : Nat → Int) (k : Nat) (w : World) (hk : (k : Int) < 7) : Sem.run Tryd.prog (Instr.index 47 (.agg (ints7 v)) (.int .i64 (k : Int))) w = .ok (.int .i64 (v k)) w := by
  have h2 : (ints7 v)[k]? = some (.int .i64 (v k)) := arrN_at _ (by omega)
  unfold Instr.index
  go_simp
  intro h
  omega

set_option maxRecDepth 100000 in
set_option maxHeartbeats 4000000 in
theorem implWindingText_any (a : Option Addr) (cap : Nat) (xs : List Int) (w : World) (hT : Hid (Tab w)) (h : Hid (Ints w a xs)) (h64 : Hid (In64 xs)) (hn : xs.length ≤ 1048576) :
    Calls Tryd.prog 12 #[.slice a xs.length cap] w (Val (.tuple #[.string (wtxt xs), .bool (Plain.wordB xs)]) w) := by
  obtain ⟨i0, hi, hz0, hz1, hz2⟩ := info_parts infoStr
  cases hw : Plain.wordB xs with
  | false =>
    have HW := Lib.hid hw
    have HE := Lib.hid (wtxt_no hw)
    clear hw
    go_enter Tryd.func12, Tryd.ntmps12
    go_wp2_with fail
    refine (isWord_any _ _ xs _ h h64 (by omega)).mono ?_
    rw [HW.out]
    rintro e w1 ⟨rfl, rfl⟩
    go_wp2_with fail
    go_ret2
    exact ⟨ret_sb8 HE.out.symm rfl, Below.refl _ _⟩
  | true =>
    have HW := Lib.hid hw
    have HU := Lib.hid (Plain.wordB_iff.1 hw).2
    have hu64 := (Plain.wordB_iff.1 hw).1
    have hs := Plain.small_cof hu64
    have HS := Lib.hid hs
    have HEN := Lib.hid (wtxt_none hw)
    have HES := Lib.hid (wtxt_some hw)
    have hb0 := (Below.refl w.heap.size w).alloc (Nat.le_refl _) (.cells #[] 9)
    have HI := Lib.hid (h.out.on hb0)
    have HX := Lib.hid (txts_start w)
    clear hw hs hb0
    go_enter Tryd.func12, Tryd.ntmps12
    go_wp2_with fail
    refine (isWord_any _ _ xs _ h h64 (by omega)).mono ?_
    rw [HW.out]
    rintro e w1 ⟨rfl, rfl⟩
    go_wp2_with fail
    refine (windings_any _ _ xs _ HI HU hu64).mono ?_
    rintro e w3 ⟨rfl, hb⟩
    have HX3 := Lib.hid (HX.out.later hb)
    clear hb
    go_wp2_with fail
    go_loopw [4, 15] (fun v i wr => ∃ k : Nat, k ≤ 7 ∧ i = .int .i64 (k : Int) ∧ Txts (wparts xs (k - 1)) w.heap.size w v wr) (fun _ i _ => 7 - (intOf i).toNat)
    case atStart => exact ⟨0, Nat.zero_le _, rfl, HX3.out⟩
    case round =>
      clear HX HX3
      obtain ⟨k, hk, rfl, hrel⟩ := hrel
      have HK := Lib.hid hrel
      clear hrel
      by_cases hlt : k < 7
      · have hk7 : (k : Int) < 7 := by omega
        obtain ⟨X, hX⟩ : ∃ X, X = windV xs k := ⟨_, rfl⟩
        have hix : ∀ w5 : World, Sem.run Tryd.prog (Instr.index 47 (.agg (ints7 (windV xs))) (.int .i64 (k : Int))) w5 = .ok (.int .i64 X) w5 := fun w5 => by rw [hX]; exact index_7 _ k w5 hk7
        by_cases hX0 : X = 0
        · have hXb : (X != 0) = false := by simp [hX0]
          have HN : Hid (Txts (wparts xs (k + 1 - 1)) w.heap.size w u4 wr) := Lib.hid (by
            cases k with
            | zero => exact HK.out
            | succ j =>
              have e : Plain.cof xs (j + 1) = 0 := by rw [← hX0, hX]; unfold windV; rw [if_neg (by omega)]
              rw [show j + 1 + 1 - 1 = j + 1 by omega, wparts_miss e]
              exact HK.out)
          clear hX hX0 HK
          go_wp2_with fail
          go_roundw
          case rel => exact ⟨k + 1, by omega, by go_num, HN.out⟩
          case measure => simp [intOf]; omega
        · have hXb : (X != 0) = true := by simpa using hX0
          cases k with
          | zero => exact absurd hX hX0
          | succ j =>
            have hXc : X = Plain.cof xs (j + 1) := by rw [hX]; unfold windV; rw [if_neg (by omega)]
            have hXs : -262144 ≤ X ∧ X ≤ 262144 := by rw [hXc]; exact HS.out _ (by omega)
            have HPT : Hid (wparts xs (j + 1) = wparts xs j ++ [⟨#[signB ((j : Int) + 1)]⟩ ++ Plain.intS X]) := Lib.hid (by rw [wparts_hit (by rw [← hXc]; exact hX0)]; unfold wpart; rw [hXc])
            have hsz := intS_size hXs
            have hpl := wparts_le xs j
            obtain ⟨T, hT2⟩ : ∃ T, T = Plain.intS X := ⟨_, rfl⟩
            rw [← hT2] at HPT hsz
            have HFm := Lib.hid (fun (W5 : World) (h5 : Hid (Tab W5)) => implFormatInt_any X (by omega) (by omega) W5 h5)
            rw [← hT2] at HFm
            have hcv := conv8 j (by omega)
            have HSG := Lib.hid (fun W5 => sign8_any ((j : Int) + 1) W5 (by omega))
            obtain ⟨c, hc⟩ : ∃ c, c = signB ((j : Int) + 1) := ⟨_, rfl⟩
            rw [← hc] at HPT hcv HSG
            have HTw : Hid (Tab wr) := Lib.hid (hT.out.on HK.out.2.1)
            have hcs : (⟨#[c]⟩ : ByteArray).size = 1 := rfl
            have hix2 : ∀ w5 : World, Sem.run Tryd.prog (Instr.index 47 (.agg (ints7 (windV xs))) (.int .i64 ((j : Int) + 1))) w5 = .ok (.int .i64 X) w5 := hix
            have hj7 : (j : Int) + 1 < 7 := by omega
            clear hX hX0 hXc hT2 hc hix hk7
            go_wp2_with fail
            refine (HFm.out _ HTw).mono ?_
            rintro e w4 ⟨rfl, hb⟩
            have HK4 : Hid (Txts (wparts xs j) w.heap.size w u4 w4) := Lib.hid (HK.out.later hb)
            clear hb
            go_wp2_with fail
            refine (HSG.out _).mono ?_
            rintro e w5 ⟨rfl, rfl⟩
            go_wp2_with (at_builtin; refine wpList_append_own _ rfl _ _ 46 rfl w.heap.size 9 i0 (.string ByteArray.empty) 1 16 Tryd.underlying46 hi hz0 hz1 hz2 rfl (by decide) _ _ _ rfl (HK4.out.1.alloc _) ⟨_, 0, none⟩ 1 1 [.string (⟨#[c]⟩ ++ T)] rfl rfl ?c1 ?c2 ?c3 ?c4 ?c5 ?_)
            case c1 => exact cell_one_new _ _ _
            case c2 => simp [Value.oneCell']
            case c3 => unfold maxLen; omega
            case c4 => omega
            case c5 => exact Nat.le_trans HK4.out.2.2 (by simp)
            intro v' w6 hown' hgrow _
            have HN : Hid (Txts (wparts xs (j + 1)) w.heap.size w v' w6) := Lib.hid (by rw [HPT.out]; exact txts_push HK4.out hown' hgrow)
            clear hown' hgrow
            go_wp2_with fail
            go_roundw
            case rel => exact ⟨j + 1 + 1, by omega, by go_num, HN.out⟩
            case measure => simp [intOf]; omega
      · obtain rfl : k = 7 := by omega
        have hK6 : Txts (wparts xs 6) w.heap.size w u4 wr := HK.out
        have HK6 := Lib.hid hK6
        have HB6 := Lib.hid hK6.2.1
        obtain ⟨a6, c6, rfl, hst, hcp⟩ := txts_strs hK6
        have HST := Lib.hid hst
        have hpl := wparts_le xs 6
        have HTT := Lib.hid (wparts_tot HS.out 6 (by omega))
        clear hK6 hst HK
        by_cases h0 : (wparts xs 6).length = 0
        · have HE := Lib.hid (HEN.out h0)
          rw [h0]
          clear h0
          go_wp2_with fail
          go_ret2
          exact ⟨ret_sb8 HE.out.symm rfl, HB6.out⟩
        · have HE := Lib.hid (HES.out h0)
          have h0i : (((wparts xs 6).length : Int) == 0) = false := by simpa using h0
          have HJ := Lib.hid (fun W5 (h5 : Strs W5 a6 (wparts xs 6)) => strs8_join a6 c6 32 (wparts xs 6) W5 h5 (by omega) hcp (by have := HTT.out; omega))
          clear h0
          go_wp2_with fail
          refine (HJ.out _ HST.out).mono ?_
          rintro e w7 ⟨rfl, hb⟩
          have HB7 := Lib.hid (HB6.out.trans (hb.mono HB6.out.size))
          clear hb
          go_wp2_with fail
          go_ret2
          exact ⟨ret_sb8 HE.out.symm rfl, HB7.out⟩

theorem ints_one8 (W : World) (g : Nat) (x : Int) (h : W.heap[g]? = some (.cells #[.int .i64 x] 3 (0, 0))) : Ints W (some ⟨g, 0, none⟩) [x] := fun j y hy => by
  refine ⟨_, _, rfl, ?_⟩
  rw [cell_of_row _ _ _ _ _ _ h]
  match j, hy with
  | 0, hy => simp at hy; subst hy; rfl
set_option maxRecDepth 100000 in
set_option maxHeartbeats 8000000 in
theorem specWindingText_any (a : Option Addr) (cap : Nat) (xs : List Int) (w : World) (h : Hid (Ints w a xs)) (h64 : Hid (In64 xs)) (hn : xs.length ≤ 1048576) :
    Calls Tryd.prog 10 #[.slice a xs.length cap] w (Val (.tuple #[.string (wtxt xs), .bool (Plain.wordB xs)]) w) := by
  cases hw : Plain.wordB xs with
  | false =>
    have HW := Lib.hid hw
    have HE := Lib.hid (wtxt_no hw)
    clear hw
    go_enter Tryd.func10, Tryd.ntmps10
    go_wp2_with fail
    refine (l2Word_any _ _ xs _ h h64 (by omega)).mono ?_
    rw [HW.out]
    rintro e w1 ⟨rfl, rfl⟩
    go_wp2_with fail
    go_ret2
    exact ⟨ret_sb8 HE.out.symm rfl, Below.refl _ _⟩
  | true =>
    have HW := Lib.hid hw
    have HU := Lib.hid (Plain.wordB_iff.1 hw).2
    have hu64 := (Plain.wordB_iff.1 hw).1
    have HS := Lib.hid (Plain.small_cof hu64)
    have HEN := Lib.hid (wtxt_none hw)
    have HES := Lib.hid (wtxt_some hw)
    clear hw
    go_enter Tryd.func10, Tryd.ntmps10
    go_wp2_with fail
    refine (l2Word_any _ _ xs _ h h64 (by omega)).mono ?_
    rw [HW.out]
    rintro e w1 ⟨rfl, rfl⟩
    go_wp2_with fail
    refine (l8Of_any _ _ xs _ h HU hu64).mono ?_
    rintro e w3 ⟨rfl, hb⟩
    have HSw : Hid (SerAt ((w3.alloc (.cells Tryd.zeroCells43 43)).setRow w3.heap.size (sers (Plain.cof xs))) w3.heap.size (Plain.cof xs)) := Lib.hid (serAt_row (heap_alloc_new w3 _))
    have HBw : Hid (Below w.heap.size w ((w3.alloc (.cells Tryd.zeroCells43 43)).setRow w3.heap.size (sers (Plain.cof xs)))) := Lib.hid (below_setRow (hb.alloc hb.size _) hb.size _)
    clear hb
    go_wp2_with (refine wpList_store_row rfl 43 _ _ rfl w3.heap.size (sers (Plain.cof xs)) rfl rfl 43 (sers fun _ => 0) (by rw [sers_zero]; exact heap_alloc_new _ _) (infoSers _) (by rw [sers_size, sers_size]) (sers_one _) ?_)
    generalize ((w3.alloc (.cells Tryd.zeroCells43 43)).setRow w3.heap.size (sers (Plain.cof xs))) = W4 at HSw HBw ⊢
    go_loopw [4, 6] (fun t i wr => ∃ k : Nat, k ≤ 6 ∧ i = .int .i64 (k : Int) ∧ t = .string (Plain.jn ⟨#[32]⟩ (wparts xs k)) ∧ SerAt wr w3.heap.size (Plain.cof xs) ∧ Below w.heap.size w wr) (fun _ i _ => 6 - (intOf i).toNat)
    case atStart => exact ⟨0, Nat.zero_le _, rfl, by rw [wparts_zero, Plain.jn_nil], HSw.out, HBw.out⟩
    case round =>
      clear HSw HBw
      obtain ⟨k, hk, rfl, rfl, hS, hB⟩ := hrel
      have HSr := Lib.hid hS
      have HBr := Lib.hid hB
      clear hS hB
      have hsz0 : ((Plain.jn ⟨#[32]⟩ (wparts xs k)).size : Int) ≤ 200 := by have := wtext_size HS.out k hk; omega
      by_cases hlt : k < 6
      · have hk6 : (k : Int) < 6 := by omega
        have hk0 : (0 : Int) ≤ (k : Int) := by omega
        have e1 := HSr.out.cell (k := k) (by omega)
        have hXs := HS.out (k + 1) (by omega)
        obtain ⟨X, hX⟩ : ∃ X, X = Plain.cof xs (k + 1) := ⟨_, rfl⟩
        have e2 := (HSr.out.on ((Below.refl _ wr).alloc (Nat.le_refl _) (.cells #[.int .i64 ((k : Int) + 1)] 3))).cell (k := k) (by omega)
        have hwk : IntKind.i64.wrap ((k : Int) + 1) = (k : Int) + 1 := Go.IntWalk.i64_in _ ⟨by omega, by omega⟩
        rw [← hX] at e1 e2 hXs
        by_cases hX0 : X = 0
        · have HTX : Hid (Plain.jn ⟨#[32]⟩ (wparts xs (k + 1)) = Plain.jn ⟨#[32]⟩ (wparts xs k)) := Lib.hid (by rw [wparts_miss (by rw [← hX]; exact hX0)])
          rw [hX0] at e1
          clear e2
          clear hX hX0 hXs
          generalize Plain.jn ⟨#[32]⟩ (wparts xs k) = S0 at HTX hsz0 ⊢
          go_wp2_with fail
          go_roundw
          case rel => exact ⟨k + 1, by omega, by go_num, by rw [HTX.out], HSr.out, HBr.out⟩
          case measure => simp [intOf]; omega
        · have hXb : (X == 0) = false := by simpa using hX0
          have hPS : wparts xs (k + 1) = wparts xs k ++ [⟨#[signB ((k : Int) + 1)]⟩ ++ Plain.intS X] := by rw [wparts_hit (by rw [← hX]; exact hX0)]; unfold wpart; rw [← hX]
          have hTs := intS_size hXs
          obtain ⟨T, hT2⟩ : ∃ T, T = Plain.intS X := ⟨_, rfl⟩
          have HTT : Hid (Plain.intS X = T) := Lib.hid hT2.symm
          obtain ⟨c, hc⟩ : ∃ c, c = signB ((k : Int) + 1) := ⟨_, rfl⟩
          have HTO : Hid (textOf [(k : Int) + 1] = ⟨#[c]⟩) := Lib.hid (by rw [hc]; rfl)
          have HLT : Hid (Plain.Letters [(k : Int) + 1]) := Lib.hid (fun x hx => by rw [List.mem_singleton.1 hx]; omega)
          rw [← hT2] at hTs hPS
          rw [← hc] at hPS
          have hTs2 : (T.size : Int) ≤ 20 := by omega
          have hcs : (⟨#[c]⟩ : ByteArray).size = 1 := rfl
          by_cases hnil : wparts xs k = []
          · have hj : Plain.jn ⟨#[32]⟩ (wparts xs k) = ⟨#[]⟩ := by rw [hnil, Plain.jn_nil]
            have hTX : Plain.jn ⟨#[32]⟩ (wparts xs (k + 1)) = (⟨#[]⟩ ++ ⟨#[c]⟩) ++ T := by
              rw [hPS, jn_one _ _ hnil, hj, ByteArray.append_assoc]
            rw [hj]
            have HTX := Lib.hid hTX
            have hz1 : 1 + T.size ≤ 9223372036854775807 := by omega
            clear hX hX0 hPS hT2 hc hj hTX hsz0 hnil hTs
            go_wp2_with fail
            have d1 : wr.drew.cell? ⟨w3.heap.size, k, none⟩ = _ := e1
            have HL2 : Hid (Ints (wr.alloc (.cells #[.int .i64 ((k : Int) + 1)] 3)).drew (some ⟨wr.heap.size, 0, none⟩) [(k : Int) + 1]) := Lib.hid (ints_one8 (wr.alloc (.cells #[.int .i64 ((k : Int) + 1)] 3)) wr.heap.size ((k : Int) + 1) (heap_alloc_new wr _))
            have d2 : (wr.alloc (.cells #[.int .i64 ((k : Int) + 1)] 3)).drew.cell? ⟨w3.heap.size, k, none⟩ = _ := e2
            clear e1 e2
            refine wp_region_any (by kernel_rfl) ?_
            change wpAny _ _ _ _ _ _ _ (World.drew _)
            refine wpAny_take (i := 0) (v := .string ⟨#[]⟩) rfl (by kernel_rfl) (by kernel_rfl) (by kernel_rfl) (fun _ _ _ h => h) (.inl ⟨by kernel_rfl, fun w => by go_simp⟩) ?_
            refine wpAny_take (i := 1) (v := .int .i64 (k : Int)) rfl (by kernel_rfl) (by kernel_rfl) (by kernel_rfl) (fun _ _ _ h => h) (.inl ⟨by kernel_rfl, fun w => by go_simp⟩) ?_
            refine wpAny_take (i := 2) (v := .int .i64 ((k : Int) + 1)) rfl (by kernel_rfl) (by kernel_rfl) (by kernel_rfl) (fun _ _ _ h => h) (.inl ⟨by kernel_rfl, fun w => by go_simp⟩) ?_
            refine wpAny_take (i := 6) (v := .int .i64 (k : Int)) rfl (by kernel_rfl) (by kernel_rfl) (by kernel_rfl) (fun _ _ _ h => h) (.inl ⟨by kernel_rfl, fun w => by go_simp⟩) ?_
            refine wpAny_take (i := 7) (v := .pointer (some ⟨w3.heap.size, 0, none⟩)) rfl (by kernel_rfl) (by kernel_rfl) (by kernel_rfl) (fun _ _ _ h => h) (.inl ⟨by kernel_rfl, fun w => by go_simp⟩) ?_
            refine wpAny_take (i := 8) (v := .pointer (some ⟨w3.heap.size, k, none⟩)) rfl (by kernel_rfl) (by kernel_rfl) (by kernel_rfl) (fun _ _ _ h => h) (.inl ⟨by kernel_rfl, fun w => by go_simp⟩) ?_
            refine wpAny_ready (rs := [3, 9]) (by kernel_rfl) (by simp) ?_
            refine AllReady.cons rfl (fun K hK => ?_) ?_
            · go_simp
              refine hK _ _ ?_
              clear hK K
              refine wpAny_ready (rs := [4, 9]) (by kernel_rfl) (by simp) ?_
              refine AllReady.cons rfl (fun K hK => ?_) ?_
              · go_simp
                go_at_call 21
                refine (l2Text_any (some ⟨wr.heap.size, 0, none⟩) 1 [(k : Int) + 1] _ HL2 HLT (by simp)).mono ?_
                rw [HTO.out]
                rintro e w5 ⟨rfl, rfl⟩
                refine hK _ _ ?_
                clear hK K
                refine wpAny_take (i := 5) (v := .string (⟨#[]⟩ ++ ⟨#[c]⟩)) rfl (by kernel_rfl) (by kernel_rfl) (by kernel_rfl) (fun _ _ _ h => h) (.inl ⟨by kernel_rfl, fun w => by go_simp⟩) ?_
                refine wpAny_ready (rs := [9]) (by kernel_rfl) (by simp) ?_
                refine AllReady.cons rfl (fun K hK => ?_) ?_
                · go_simp
                  refine hK _ _ ?_
                  clear hK K
                  refine wpAny_ready (rs := [10]) (by kernel_rfl) (by simp) ?_
                  refine AllReady.cons rfl (fun K hK => ?_) ?_
                  · go_simp
                    go_at_call 15
                    refine (l1Num_any X (by omega) (by omega) _).mono ?_
                    rw [HTT.out]
                    rintro e w6 ⟨rfl, m6, rfl⟩
                    refine hK _ _ ?_
                    clear hK K
                    refine wpAny_take (i := 11) (v := .string ((⟨#[]⟩ ++ ⟨#[c]⟩) ++ T)) rfl (by kernel_rfl) (by kernel_rfl) (by kernel_rfl) (fun _ _ _ h => h) (.inl ⟨by kernel_rfl, fun w => by go_simp⟩) ?_
                    refine wpAny_take (i := 12) (v := .string ((⟨#[]⟩ ++ ⟨#[c]⟩) ++ T)) rfl (by kernel_rfl) (by kernel_rfl) (by kernel_rfl) (fun _ _ _ h => h) (.inl ⟨by kernel_rfl, fun w => by go_simp⟩) ?_
                    refine wpAny_done (by kernel_rfl) ?_ _
                    go_wp2_with fail
                    go_roundw
                    case rel => exact ⟨k + 1, by omega, by go_num, by rw [HTX.out], HSr.out.on (below_drewN ((Below.refl wr.heap.size wr).alloc (Nat.le_refl _) (.cells #[.int .i64 ((k : Int) + 1)] 3)) _), HBr.out.trans (Below.mono (below_drewN ((Below.refl wr.heap.size wr).alloc (Nat.le_refl _) (.cells #[.int .i64 ((k : Int) + 1)] 3)) _) (by have := HBr.out.size; omega))⟩
                    case measure => simp [intOf]; omega
                  exact AllReady.nil
                exact AllReady.nil
              refine AllReady.cons rfl (fun K hK => ?_) ?_
              · go_simp
                refine hK _ _ ?_
                clear hK K
                refine wpAny_ready (rs := [4]) (by kernel_rfl) (by simp) ?_
                refine AllReady.cons rfl (fun K hK => ?_) ?_
                · go_simp
                  go_at_call 21
                  refine (l2Text_any (some ⟨wr.heap.size, 0, none⟩) 1 [(k : Int) + 1] _ HL2 HLT (by simp)).mono ?_
                  rw [HTO.out]
                  rintro e w5 ⟨rfl, rfl⟩
                  refine hK _ _ ?_
                  clear hK K
                  refine wpAny_take (i := 5) (v := .string (⟨#[]⟩ ++ ⟨#[c]⟩)) rfl (by kernel_rfl) (by kernel_rfl) (by kernel_rfl) (fun _ _ _ h => h) (.inl ⟨by kernel_rfl, fun w => by go_simp⟩) ?_
                  refine wpAny_ready (rs := [10]) (by kernel_rfl) (by simp) ?_
                  refine AllReady.cons rfl (fun K hK => ?_) ?_
                  · go_simp
                    go_at_call 15
                    refine (l1Num_any X (by omega) (by omega) _).mono ?_
                    rw [HTT.out]
                    rintro e w6 ⟨rfl, m6, rfl⟩
                    refine hK _ _ ?_
                    clear hK K
                    refine wpAny_take (i := 11) (v := .string ((⟨#[]⟩ ++ ⟨#[c]⟩) ++ T)) rfl (by kernel_rfl) (by kernel_rfl) (by kernel_rfl) (fun _ _ _ h => h) (.inl ⟨by kernel_rfl, fun w => by go_simp⟩) ?_
                    refine wpAny_take (i := 12) (v := .string ((⟨#[]⟩ ++ ⟨#[c]⟩) ++ T)) rfl (by kernel_rfl) (by kernel_rfl) (by kernel_rfl) (fun _ _ _ h => h) (.inl ⟨by kernel_rfl, fun w => by go_simp⟩) ?_
                    refine wpAny_done (by kernel_rfl) ?_ _
                    go_wp2_with fail
                    go_roundw
                    case rel => exact ⟨k + 1, by omega, by go_num, by rw [HTX.out], HSr.out.on (below_drewN ((Below.refl wr.heap.size wr).alloc (Nat.le_refl _) (.cells #[.int .i64 ((k : Int) + 1)] 3)) _), HBr.out.trans (Below.mono (below_drewN ((Below.refl wr.heap.size wr).alloc (Nat.le_refl _) (.cells #[.int .i64 ((k : Int) + 1)] 3)) _) (by have := HBr.out.size; omega))⟩
                    case measure => simp [intOf]; omega
                  exact AllReady.nil
                exact AllReady.nil
              exact AllReady.nil
            refine AllReady.cons rfl (fun K hK => ?_) ?_
            · go_simp
              refine hK _ _ ?_
              clear hK K
              refine wpAny_ready (rs := [3]) (by kernel_rfl) (by simp) ?_
              refine AllReady.cons rfl (fun K hK => ?_) ?_
              · go_simp
                refine hK _ _ ?_
                clear hK K
                refine wpAny_ready (rs := [4]) (by kernel_rfl) (by simp) ?_
                refine AllReady.cons rfl (fun K hK => ?_) ?_
                · go_simp
                  go_at_call 21
                  refine (l2Text_any (some ⟨wr.heap.size, 0, none⟩) 1 [(k : Int) + 1] _ HL2 HLT (by simp)).mono ?_
                  rw [HTO.out]
                  rintro e w5 ⟨rfl, rfl⟩
                  refine hK _ _ ?_
                  clear hK K
                  refine wpAny_take (i := 5) (v := .string (⟨#[]⟩ ++ ⟨#[c]⟩)) rfl (by kernel_rfl) (by kernel_rfl) (by kernel_rfl) (fun _ _ _ h => h) (.inl ⟨by kernel_rfl, fun w => by go_simp⟩) ?_
                  refine wpAny_ready (rs := [10]) (by kernel_rfl) (by simp) ?_
                  refine AllReady.cons rfl (fun K hK => ?_) ?_
                  · go_simp
                    go_at_call 15
                    refine (l1Num_any X (by omega) (by omega) _).mono ?_
                    rw [HTT.out]
                    rintro e w6 ⟨rfl, m6, rfl⟩
                    refine hK _ _ ?_
                    clear hK K
                    refine wpAny_take (i := 11) (v := .string ((⟨#[]⟩ ++ ⟨#[c]⟩) ++ T)) rfl (by kernel_rfl) (by kernel_rfl) (by kernel_rfl) (fun _ _ _ h => h) (.inl ⟨by kernel_rfl, fun w => by go_simp⟩) ?_
                    refine wpAny_take (i := 12) (v := .string ((⟨#[]⟩ ++ ⟨#[c]⟩) ++ T)) rfl (by kernel_rfl) (by kernel_rfl) (by kernel_rfl) (fun _ _ _ h => h) (.inl ⟨by kernel_rfl, fun w => by go_simp⟩) ?_
                    refine wpAny_done (by kernel_rfl) ?_ _
                    go_wp2_with fail
                    go_roundw
                    case rel => exact ⟨k + 1, by omega, by go_num, by rw [HTX.out], HSr.out.on (below_drewN ((Below.refl wr.heap.size wr).alloc (Nat.le_refl _) (.cells #[.int .i64 ((k : Int) + 1)] 3)) _), HBr.out.trans (Below.mono (below_drewN ((Below.refl wr.heap.size wr).alloc (Nat.le_refl _) (.cells #[.int .i64 ((k : Int) + 1)] 3)) _) (by have := HBr.out.size; omega))⟩
                    case measure => simp [intOf]; omega
                  exact AllReady.nil
                exact AllReady.nil
              exact AllReady.nil
            exact AllReady.nil
          · have hTX : Plain.jn ⟨#[32]⟩ (wparts xs (k + 1)) = ((Plain.jn ⟨#[32]⟩ (wparts xs k) ++ ⟨#[32]⟩) ++ ⟨#[c]⟩) ++ T := by
              rw [hPS, jn_more _ _ hnil]
              simp only [ByteArray.append_assoc]
            have hne : (Plain.jn ⟨#[32]⟩ (wparts xs k)).toList.isEmpty = false := by
              have h0 : ¬ (Plain.jn ⟨#[32]⟩ (wparts xs k)).size = 0 := fun h => hnil ((wtext_empty HS.out (by omega)).1 h)
              rw [Plain.size8_list] at h0
              rw [ByteArray.toList_eq]
              cases hl : (Plain.jn ⟨#[32]⟩ (wparts xs k)).data.toList with
              | nil => rw [hl] at h0; exact absurd rfl h0
              | cons _ _ => rfl
            have HTX := Lib.hid hTX
            clear hX hX0 hPS hT2 hc hTX hnil hTs
            generalize Plain.jn ⟨#[32]⟩ (wparts xs k) = S at HTX hsz0 hne ⊢
            have hz1 : S.size + 1 + 1 ≤ 9223372036854775807 := by omega
            have hz2 : S.size + 1 + 1 + T.size ≤ 9223372036854775807 := by omega
            have hz3 : S.size + 1 ≤ 9223372036854775807 := by omega
            go_wp2_with fail
            have d1 : wr.drew.cell? ⟨w3.heap.size, k, none⟩ = _ := e1
            have HL2 : Hid (Ints (wr.alloc (.cells #[.int .i64 ((k : Int) + 1)] 3)).drew (some ⟨wr.heap.size, 0, none⟩) [(k : Int) + 1]) := Lib.hid (ints_one8 (wr.alloc (.cells #[.int .i64 ((k : Int) + 1)] 3)) wr.heap.size ((k : Int) + 1) (heap_alloc_new wr _))
            have d2 : (wr.alloc (.cells #[.int .i64 ((k : Int) + 1)] 3)).drew.cell? ⟨w3.heap.size, k, none⟩ = _ := e2
            clear e1 e2
            refine wp_region_any (by kernel_rfl) ?_
            change wpAny _ _ _ _ _ _ _ (World.drew _)
            refine wpAny_take (i := 0) (v := .string (S ++ ⟨#[32]⟩)) rfl (by kernel_rfl) (by kernel_rfl) (by kernel_rfl) (fun _ _ _ h => h) (.inl ⟨by kernel_rfl, fun w => by go_simp⟩) ?_
            refine wpAny_take (i := 1) (v := .int .i64 (k : Int)) rfl (by kernel_rfl) (by kernel_rfl) (by kernel_rfl) (fun _ _ _ h => h) (.inl ⟨by kernel_rfl, fun w => by go_simp⟩) ?_
            refine wpAny_take (i := 2) (v := .int .i64 ((k : Int) + 1)) rfl (by kernel_rfl) (by kernel_rfl) (by kernel_rfl) (fun _ _ _ h => h) (.inl ⟨by kernel_rfl, fun w => by go_simp⟩) ?_
            refine wpAny_take (i := 6) (v := .int .i64 (k : Int)) rfl (by kernel_rfl) (by kernel_rfl) (by kernel_rfl) (fun _ _ _ h => h) (.inl ⟨by kernel_rfl, fun w => by go_simp⟩) ?_
            refine wpAny_take (i := 7) (v := .pointer (some ⟨w3.heap.size, 0, none⟩)) rfl (by kernel_rfl) (by kernel_rfl) (by kernel_rfl) (fun _ _ _ h => h) (.inl ⟨by kernel_rfl, fun w => by go_simp⟩) ?_
            refine wpAny_take (i := 8) (v := .pointer (some ⟨w3.heap.size, k, none⟩)) rfl (by kernel_rfl) (by kernel_rfl) (by kernel_rfl) (fun _ _ _ h => h) (.inl ⟨by kernel_rfl, fun w => by go_simp⟩) ?_
            refine wpAny_ready (rs := [3, 9]) (by kernel_rfl) (by simp) ?_
            refine AllReady.cons rfl (fun K hK => ?_) ?_
            · go_simp
              refine hK _ _ ?_
              clear hK K
              refine wpAny_ready (rs := [4, 9]) (by kernel_rfl) (by simp) ?_
              refine AllReady.cons rfl (fun K hK => ?_) ?_
              · go_simp
                go_at_call 21
                refine (l2Text_any (some ⟨wr.heap.size, 0, none⟩) 1 [(k : Int) + 1] _ HL2 HLT (by simp)).mono ?_
                rw [HTO.out]
                rintro e w5 ⟨rfl, rfl⟩
                refine hK _ _ ?_
                clear hK K
                refine wpAny_take (i := 5) (v := .string ((S ++ ⟨#[32]⟩) ++ ⟨#[c]⟩)) rfl (by kernel_rfl) (by kernel_rfl) (by kernel_rfl) (fun _ _ _ h => h) (.inl ⟨by kernel_rfl, fun w => by go_simp⟩) ?_
                refine wpAny_ready (rs := [9]) (by kernel_rfl) (by simp) ?_
                refine AllReady.cons rfl (fun K hK => ?_) ?_
                · go_simp
                  refine hK _ _ ?_
                  clear hK K
                  refine wpAny_ready (rs := [10]) (by kernel_rfl) (by simp) ?_
                  refine AllReady.cons rfl (fun K hK => ?_) ?_
                  · go_simp
                    go_at_call 15
                    refine (l1Num_any X (by omega) (by omega) _).mono ?_
                    rw [HTT.out]
                    rintro e w6 ⟨rfl, m6, rfl⟩
                    refine hK _ _ ?_
                    clear hK K
                    refine wpAny_take (i := 11) (v := .string (((S ++ ⟨#[32]⟩) ++ ⟨#[c]⟩) ++ T)) rfl (by kernel_rfl) (by kernel_rfl) (by kernel_rfl) (fun _ _ _ h => h) (.inl ⟨by kernel_rfl, fun w => by go_simp⟩) ?_
                    refine wpAny_take (i := 12) (v := .string (((S ++ ⟨#[32]⟩) ++ ⟨#[c]⟩) ++ T)) rfl (by kernel_rfl) (by kernel_rfl) (by kernel_rfl) (fun _ _ _ h => h) (.inl ⟨by kernel_rfl, fun w => by go_simp⟩) ?_
                    refine wpAny_done (by kernel_rfl) ?_ _
                    go_wp2_with fail
                    go_roundw
                    case rel => exact ⟨k + 1, by omega, by go_num, by rw [HTX.out], HSr.out.on (below_drewN ((Below.refl wr.heap.size wr).alloc (Nat.le_refl _) (.cells #[.int .i64 ((k : Int) + 1)] 3)) _), HBr.out.trans (Below.mono (below_drewN ((Below.refl wr.heap.size wr).alloc (Nat.le_refl _) (.cells #[.int .i64 ((k : Int) + 1)] 3)) _) (by have := HBr.out.size; omega))⟩
                    case measure => simp [intOf]; omega
                  exact AllReady.nil
                exact AllReady.nil
              refine AllReady.cons rfl (fun K hK => ?_) ?_
              · go_simp
                refine hK _ _ ?_
                clear hK K
                refine wpAny_ready (rs := [4]) (by kernel_rfl) (by simp) ?_
                refine AllReady.cons rfl (fun K hK => ?_) ?_
                · go_simp
                  go_at_call 21
                  refine (l2Text_any (some ⟨wr.heap.size, 0, none⟩) 1 [(k : Int) + 1] _ HL2 HLT (by simp)).mono ?_
                  rw [HTO.out]
                  rintro e w5 ⟨rfl, rfl⟩
                  refine hK _ _ ?_
                  clear hK K
                  refine wpAny_take (i := 5) (v := .string ((S ++ ⟨#[32]⟩) ++ ⟨#[c]⟩)) rfl (by kernel_rfl) (by kernel_rfl) (by kernel_rfl) (fun _ _ _ h => h) (.inl ⟨by kernel_rfl, fun w => by go_simp⟩) ?_
                  refine wpAny_ready (rs := [10]) (by kernel_rfl) (by simp) ?_
                  refine AllReady.cons rfl (fun K hK => ?_) ?_
                  · go_simp
                    go_at_call 15
                    refine (l1Num_any X (by omega) (by omega) _).mono ?_
                    rw [HTT.out]
                    rintro e w6 ⟨rfl, m6, rfl⟩
                    refine hK _ _ ?_
                    clear hK K
                    refine wpAny_take (i := 11) (v := .string (((S ++ ⟨#[32]⟩) ++ ⟨#[c]⟩) ++ T)) rfl (by kernel_rfl) (by kernel_rfl) (by kernel_rfl) (fun _ _ _ h => h) (.inl ⟨by kernel_rfl, fun w => by go_simp⟩) ?_
                    refine wpAny_take (i := 12) (v := .string (((S ++ ⟨#[32]⟩) ++ ⟨#[c]⟩) ++ T)) rfl (by kernel_rfl) (by kernel_rfl) (by kernel_rfl) (fun _ _ _ h => h) (.inl ⟨by kernel_rfl, fun w => by go_simp⟩) ?_
                    refine wpAny_done (by kernel_rfl) ?_ _
                    go_wp2_with fail
                    go_roundw
                    case rel => exact ⟨k + 1, by omega, by go_num, by rw [HTX.out], HSr.out.on (below_drewN ((Below.refl wr.heap.size wr).alloc (Nat.le_refl _) (.cells #[.int .i64 ((k : Int) + 1)] 3)) _), HBr.out.trans (Below.mono (below_drewN ((Below.refl wr.heap.size wr).alloc (Nat.le_refl _) (.cells #[.int .i64 ((k : Int) + 1)] 3)) _) (by have := HBr.out.size; omega))⟩
                    case measure => simp [intOf]; omega
                  exact AllReady.nil
                exact AllReady.nil
              exact AllReady.nil
            refine AllReady.cons rfl (fun K hK => ?_) ?_
            · go_simp
              refine hK _ _ ?_
              clear hK K
              refine wpAny_ready (rs := [3]) (by kernel_rfl) (by simp) ?_
              refine AllReady.cons rfl (fun K hK => ?_) ?_
              · go_simp
                refine hK _ _ ?_
                clear hK K
                refine wpAny_ready (rs := [4]) (by kernel_rfl) (by simp) ?_
                refine AllReady.cons rfl (fun K hK => ?_) ?_
                · go_simp
                  go_at_call 21
                  refine (l2Text_any (some ⟨wr.heap.size, 0, none⟩) 1 [(k : Int) + 1] _ HL2 HLT (by simp)).mono ?_
                  rw [HTO.out]
                  rintro e w5 ⟨rfl, rfl⟩
                  refine hK _ _ ?_
                  clear hK K
                  refine wpAny_take (i := 5) (v := .string ((S ++ ⟨#[32]⟩) ++ ⟨#[c]⟩)) rfl (by kernel_rfl) (by kernel_rfl) (by kernel_rfl) (fun _ _ _ h => h) (.inl ⟨by kernel_rfl, fun w => by go_simp⟩) ?_
                  refine wpAny_ready (rs := [10]) (by kernel_rfl) (by simp) ?_
                  refine AllReady.cons rfl (fun K hK => ?_) ?_
                  · go_simp
                    go_at_call 15
                    refine (l1Num_any X (by omega) (by omega) _).mono ?_
                    rw [HTT.out]
                    rintro e w6 ⟨rfl, m6, rfl⟩
                    refine hK _ _ ?_
                    clear hK K
                    refine wpAny_take (i := 11) (v := .string (((S ++ ⟨#[32]⟩) ++ ⟨#[c]⟩) ++ T)) rfl (by kernel_rfl) (by kernel_rfl) (by kernel_rfl) (fun _ _ _ h => h) (.inl ⟨by kernel_rfl, fun w => by go_simp⟩) ?_
                    refine wpAny_take (i := 12) (v := .string (((S ++ ⟨#[32]⟩) ++ ⟨#[c]⟩) ++ T)) rfl (by kernel_rfl) (by kernel_rfl) (by kernel_rfl) (fun _ _ _ h => h) (.inl ⟨by kernel_rfl, fun w => by go_simp⟩) ?_
                    refine wpAny_done (by kernel_rfl) ?_ _
                    go_wp2_with fail
                    go_roundw
                    case rel => exact ⟨k + 1, by omega, by go_num, by rw [HTX.out], HSr.out.on (below_drewN ((Below.refl wr.heap.size wr).alloc (Nat.le_refl _) (.cells #[.int .i64 ((k : Int) + 1)] 3)) _), HBr.out.trans (Below.mono (below_drewN ((Below.refl wr.heap.size wr).alloc (Nat.le_refl _) (.cells #[.int .i64 ((k : Int) + 1)] 3)) _) (by have := HBr.out.size; omega))⟩
                    case measure => simp [intOf]; omega
                  exact AllReady.nil
                exact AllReady.nil
              exact AllReady.nil
            exact AllReady.nil
      · obtain rfl : k = 6 := by omega
        by_cases h0 : (wparts xs 6).length = 0
        · have HE := Lib.hid (HEN.out h0)
          have hj : Plain.jn ⟨#[32]⟩ (wparts xs 6) = ⟨#[]⟩ := by rw [List.eq_nil_of_length_eq_zero h0, Plain.jn_nil]
          rw [hj]
          clear h0 hj hsz0
          go_wp2_with fail
          go_ret2
          exact ⟨ret_sb8 HE.out.symm rfl, HBr.out⟩
        · have HE := Lib.hid (HES.out h0)
          have hne : (Plain.jn ⟨#[32]⟩ (wparts xs 6)).toList.isEmpty = false := by
            have h1 : ¬ (Plain.jn ⟨#[32]⟩ (wparts xs 6)).size = 0 := fun h => h0 (by rw [(wtext_empty HS.out (by omega)).1 h]; rfl)
            rw [Plain.size8_list] at h1
            rw [ByteArray.toList_eq]
            cases hl : (Plain.jn ⟨#[32]⟩ (wparts xs 6)).data.toList with
            | nil => rw [hl] at h1; exact absurd rfl h1
            | cons _ _ => rfl
          clear h0
          generalize Plain.jn ⟨#[32]⟩ (wparts xs 6) = S at hsz0 hne HE ⊢
          go_wp2_with fail
          go_ret2
          exact ⟨ret_sb8 HE.out.symm rfl, HBr.out⟩

theorem bothWindingText (xs : List Int) (h64 : Hid (In64 xs)) (hn : xs.length ≤ 1048576) : ∃ (t : ByteArray) (c : Bool),
    (∀ a cap w, Hid (Ints w a xs) → Hid (Tab w) → Calls Tryd.prog 10 #[.slice a xs.length cap] w (Val (.tuple #[.string t, .bool c]) w)) ∧
    (∀ a cap w, Hid (Ints w a xs) → Hid (Tab w) → Calls Tryd.prog 12 #[.slice a xs.length cap] w (Val (.tuple #[.string t, .bool c]) w)) :=
  ⟨_, _, fun a cap w h _ => specWindingText_any a cap xs w h h64 hn, fun a cap w h ht => implWindingText_any a cap xs w ht h h64 hn⟩


end Go.Proofs.YtaepmgfodjjidaaDoor
