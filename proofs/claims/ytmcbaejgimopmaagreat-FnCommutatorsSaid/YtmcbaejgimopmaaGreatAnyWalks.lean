/- Contracts: strings.IndexRune, strings.IndexAny at the marks ",]", for texts of whatever bytes. Condition: at most 80 bytes. -/
import Derived.Test.YtmcbaejgimopmaaGreatBdPTree
import Derived.Test.YtmcbaejgimopmaaGreatPtRead
import Derived.Test.YtmcbaejgimopmaaGreatShelf
import Derived.Lib.IndexAny
import Derived.Lib.IndexBytes
import Derived.Laws.RangeAny
import Derived.Laws.Runes
import Derived.WalkMore
import Derived.Laws.Strings3
import Derived.Deep.LoopGhost
namespace Go.Proofs.YtmcbaejgimopmaaGreat
open Go.ChangeShapes Go.WideShapes Go.ChangeAt Go.RowKit
set_option linter.unusedVariables false

theorem byte_none (t : ByteArray) (ht : t.data.toList = []) (c : Int) (w : World) : Calls Tryz.prog 123 #[.string t, .int .u8 c] w fun e w' => e = .returned (.int .i64 (-1)) ∧ w' = w := by
  have h := Tryz.strings_IndexByte t c w
  rw [ht] at h
  exact h
set_option maxRecDepth 1000000 in
set_option maxHeartbeats 4000000 in
theorem rune_far (M : ByteArray) (HM : Hid (M = ⟨#[44, 93]⟩)) (c : Nat) (w : World) (h128 : 128 ≤ c) (hm : c ≤ 1114111) (hne : c ≠ 65533) :
    Calls Tryz.prog 115 #[.string M, .int .i32 (c : Int)] w fun e w' => e = .returned (.int .i64 (-1)) ∧ Below w.heap.size w w' := by
  have hM2 : (M.size : Int) = 2 := by rw [HM.out]; rfl
  have hw2 : IntKind.i64.wrap 2 = 2 := by decide
  have HX : Hid ((M.extract 2 M.size).data.toList = []) := Lib.hid (by rw [ByteArray.data_extract, Array.toList_extract, HM.out]; rfl)
  have h1 : ¬ ((c : Int) < 128) := by omega
  have h2 : ((c : Int) == 65533) = false := by simp; omega
  cases hv : Lib.validRune (c : Int) with
  | false =>
    have HV := Lib.hid hv
    clear hv
    go_enter Tryz.func115, Tryz.ntmps115
    go_wp2_with fail
    refine (Tryz.utf8_ValidRune _ _).mono ?_
    rintro e w' ⟨rfl, hw⟩
    rw [HV.out, hw]
    go_wp2_with fail
    go_ret
    exact ⟨rfl, Below.refl _ _⟩
  | true =>
    have HV := Lib.hid hv
    have hv2 : Utf8.valid (c : Int) = true := by rw [validRune_eq]; exact hv
    obtain ⟨f1, f2, f3⟩ := encode_facts (c : Int) hv2 (by omega)
    clear hv hv2
    have hconv : ∀ W, (convert 21 9 (.int .i32 (c : Int))).run Tryz.prog W = .ok (.string (Utf8.encode (c : Int))) W := fun W => run_convert_int_string W 21 9 .i32 c (by rw [Tryz.underlying21]; rfl) Tryz.underlying9
    obtain ⟨E, hE⟩ : ∃ E, E = Utf8.encode (c : Int) := ⟨_, rfl⟩
    rw [← hE] at f1 f2 f3
    simp only [← hE] at hconv
    obtain ⟨n, hn⟩ : ∃ n, E.size = n := ⟨_, rfl⟩
    have hni : (E.size : Int) = (n : Int) := by rw [hn]
    clear hE
    by_cases h3 : n = 2
    · subst h3
      have hlt : 1 < E.size := by omega
      have h4 : 128 ≤ (E[1]'hlt).toNat := by
        have := f3 (by omega)
        simpa [hn] using this
      have hMl : 1 < M.size := by rw [HM.out]; decide
      have e93 : (M[1]'hMl).toNat = 93 := by
        have e : M[1]'hMl = 93 := by have := HM.out; subst this; rfl
        rw [e]; rfl
      have h5 : (((M[1]'hMl).toNat : Int) != ((E[1]'hlt).toNat : Int)) = true := by simp; omega
      have hn1 : (E.size : Int) - 1 = 1 := by omega
      clear f1 f2 f3
      go_enter Tryz.func115, Tryz.ntmps115
      go_wp2_with fail
      refine (Tryz.utf8_ValidRune _ _).mono ?_
      rintro e w' ⟨rfl, hw⟩
      rw [HV.out, hw]
      go_wp2_with fail
      go_step3
      go_wp2_with fail
      go_loop [9, 10] (fun i f => i = .int .i64 1) (fun _ _ => 0)
      case atStart => rfl
      case round =>
        subst hrel
        go_wp2_with fail
        go_step3
        go_wp2_with fail
        go_quiet (fail)
        have HB : Hid (Below w.heap.size w (w.drewN nq)) := Lib.hid (drewN_below w nq)
        generalize w.drewN nq = W1 at HB ⊢
        go_wp2_with fail
        go_quiet ((go_at_call 123; exact Calls.quiet_of_same (byte_none _ HX.out _ _)))
        go_wp2_with fail
        simp +zetaDelta only [Exit.noGoto_ret, Exit.inBlock, Exit.then]
        go_ret
        exact ⟨rfl, (HB.out.trans ((drewN_below _ _).mono HB.out.size))⟩
    · have h6 : (2 : Int) ≤ (n : Int) - 1 := by omega
      have h7 : ¬ ((n : Int) - 1 < 2) := by omega
      clear f3
      go_enter Tryz.func115, Tryz.ntmps115
      go_wp2_with fail
      refine (Tryz.utf8_ValidRune _ _).mono ?_
      rintro e w' ⟨rfl, hw⟩
      rw [HV.out, hw]
      go_wp2_with fail
      go_step3
      go_wp2_with fail
      go_loop [9, 10] (fun i f => i = .int .i64 ((n : Int) - 1)) (fun _ _ => 0)
      case atStart => rfl
      case round =>
        subst hrel
        go_wp2_with fail
        go_ret
        exact ⟨rfl, Below.refl _ _⟩

set_option maxRecDepth 1000000 in
set_option maxHeartbeats 4000000 in
theorem rune_error (M : ByteArray) (HM : Hid (M = ⟨#[44, 93]⟩)) (w : World) :
    Calls Tryz.prog 115 #[.string M, .int .i32 65533] w fun e w' => e = .returned (.int .i64 (-1)) ∧ Below w.heap.size w w' := by
  have hM2 : M.size = 2 := by rw [HM.out]; rfl
  have hd0 : Utf8.decode M 0 = (44, 1) := by rw [HM.out]; decide
  have hd1 : Utf8.decode M 1 = (93, 1) := by rw [HM.out]; decide
  have hn0 := fun ty => run_next_any (P := Tryz.prog) w M 0 ty (by omega)
  have hn1 := fun ty => run_next_any (P := Tryz.prog) w M 1 ty (by omega)
  have hn2 := fun ty => run_next_end (P := Tryz.prog) w M 2 ty (by omega)
  rw [hd0] at hn0
  rw [hd1] at hn1
  go_enter Tryz.func115, Tryz.ntmps115
  go_wp2_with fail
  go_loopg [5, 6] 2 (fun g _ _ wx => ∃ i, i + g = 2 ∧ wx = w.iter M i)
  case atStart => exact ⟨0, rfl, rfl⟩
  case round =>
    obtain ⟨i, hig, rfl⟩ := hrel
    match gk, hig with
    | 0, hig =>
      obtain rfl : i = 2 := by omega
      go_wp2_with fail
      go_ret
      exact ⟨rfl, (Below.refl _ _).alloc (Nat.le_refl _) _⟩
    | 1, hig =>
      obtain rfl : i = 1 := by omega
      go_wp2_with fail
      go_roundg 0
      case measure => omega
      case rel => exact ⟨2, rfl, rfl⟩
    | 2, hig =>
      obtain rfl : i = 0 := by omega
      go_wp2_with fail
      go_roundg 1
      case measure => omega
      case rel => exact ⟨1, rfl, rfl⟩
    | k + 3, hig => omega

/-! a text of whatever bytes, rune by rune -/
theorem next_at (W : World) (R : Nat) (s : ByteArray) (pos : Nat) (ty : TypeId) (hR : W.heap[R]? = some (.stringIter s pos)) (h : pos < s.size) :
    (Instr.next (.pointer (some ⟨R, 0, none⟩)) true ty).run Tryz.prog W = .ok (.tuple #[.bool true, .int .i64 pos, .int .i32 (Utf8.decode s pos).1]) { W with heap := W.heap.setIfInBounds R (.stringIter s (pos + (Utf8.decode s pos).2)) } := by
  simp only [Instr.next, getObj, setObj, Sem.run_bind, Sem.run, hR, Result.andThen, h, if_true]
  simp [goInt]
theorem next_end (W : World) (R : Nat) (s : ByteArray) (pos : Nat) (ty : TypeId) (hR : W.heap[R]? = some (.stringIter s pos)) (h : ¬ pos < s.size) :
    (Instr.next (.pointer (some ⟨R, 0, none⟩)) true ty).run Tryz.prog W = .ok (.tuple #[.bool false]) W := by
  simp [Instr.next, getObj, Sem.run, hR, h]
theorem get_byte (s : ByteArray) (j : Nat) (h : j < s.size) : s.get! j = s[j]'h := by
  simp [ByteArray.get!, getElem!_pos, h]
  rfl
/-- A rune that is no ASCII byte: it takes no ASCII byte with it. -/
theorem decode_span (s : ByteArray) (pos : Nat) (h : pos < s.size) (ha : 128 ≤ (s[pos]'h).toNat) :
    128 ≤ (Utf8.decode s pos).1 ∧ (Utf8.decode s pos).1 ≤ 1114111 ∧ 1 ≤ (Utf8.decode s pos).2 ∧ pos + (Utf8.decode s pos).2 ≤ s.size ∧ ∀ j, pos ≤ j → j < pos + (Utf8.decode s pos).2 → 128 ≤ (s.get! j).toNat := by
  have hn : ¬ (s[pos]'h).toNat < 128 := by omega
  have hb : ∀ k, (s.get! (pos + k)).toNat < 256 := fun k => (s.get! (pos + k)).toNat_lt
  have e0 := get_at s pos h
  have h0 := hb 0; have h1 := hb 1; have h2 := hb 2; have h3 := hb 3
  have hg : 128 ≤ (s.get! pos).toNat := by rw [get_byte s pos h]; exact ha
  have one : ∀ j, pos ≤ j → j < pos + 1 → 128 ≤ (s.get! j).toNat := fun j hj hj2 => by rw [show j = pos by omega]; exact hg
  simp only [Utf8.decode, e0, hn, if_false]
  split
  · rename_i hc
    simp only [Bool.and_eq_true, beq_iff_eq, decide_eq_true_eq] at hc
    split
    · refine ⟨by omega, by omega, by omega, by omega, fun j hj hj2 => ?_⟩
      rcases (by omega : j = pos ∨ j = pos + 1) with rfl | rfl
      · exact hg
      · omega
    · exact ⟨by decide, by decide, by omega, by omega, one⟩
  · split
    · rename_i hc
      simp only [Bool.and_eq_true, beq_iff_eq, decide_eq_true_eq] at hc
      split
      · rename_i hv
        simp only [Bool.and_eq_true, decide_eq_true_eq] at hv
        refine ⟨by omega, by omega, by omega, by omega, fun j hj hj2 => ?_⟩
        rcases (by omega : j = pos ∨ j = pos + 1 ∨ j = pos + 2) with rfl | rfl | rfl
        · exact hg
        · omega
        · omega
      · exact ⟨by decide, by decide, by omega, by omega, one⟩
    · split
      · rename_i hc
        simp only [Bool.and_eq_true, beq_iff_eq, decide_eq_true_eq] at hc
        split
        · rename_i hv
          simp only [Bool.and_eq_true, decide_eq_true_eq] at hv
          refine ⟨by omega, ?_, by omega, by omega, fun j hj hj2 => ?_⟩
          · have := hv.2
            simp [Utf8.valid] at this
            omega
          rcases (by omega : j = pos ∨ j = pos + 1 ∨ j = pos + 2 ∨ j = pos + 3) with rfl | rfl | rfl | rfl
          · exact hg
          · omega
          · omega
          · omega
        · exact ⟨by decide, by decide, by omega, by omega, one⟩
      · exact ⟨by decide, by decide, by omega, by omega, one⟩
theorem idx_leaf : ∀ l : List UInt8, Lib.indexAny l [44, 93] = if leafLen l < l.length then (leafLen l : Int) else -1
  | [] => rfl
  | c :: l => by
    have ih := idx_leaf l
    have hle := leafLen_le l
    rw [Lib.indexAny, leafLen]
    have e : ([44, 93] : List UInt8).contains c = stopB c := by
      simp [stopB]
      rfl
    rw [e]
    cases stopB c with
    | true => simp
    | false =>
      simp only [Bool.false_eq_true, if_false, List.length_cons, ih]
      by_cases h : leafLen l < l.length
      · have h1 : leafLen l + 1 < l.length + 1 := by omega
        have h2 : ¬ (((leafLen l : Int) == -1) = true) := by simp
        simp only [if_pos h, if_pos h1, if_neg h2]
        omega
      · have h1 : ¬ leafLen l + 1 < l.length + 1 := by omega
        simp only [if_neg h, if_neg h1]
        rfl
theorem no_any {s : ByteArray} {i m : Nat} (h : Lib.NoAny s.data.toList [44, 93] i) (hm : m ≤ s.size) (h2 : ∀ j, i ≤ j → j < m → 128 ≤ (s.get! j).toNat) : Lib.NoAny s.data.toList [44, 93] m := fun j b hj hb => by
  by_cases hji : j < i
  · exact h j b hji hb
  · have hjs : j < s.size := by omega
    have h3 := h2 j (by omega) hj
    rw [get_byte s j hjs] at h3
    rw [byte_at hjs] at hb
    cases hb
    cases hc : ([44, 93] : List UInt8).contains s[j] with
    | false => rfl
    | true =>
      simp at hc
      rcases hc with hc | hc <;> rw [hc] at h3 <;> simp at h3
theorem iter_set {B R : Nat} {w W : World} {s : ByteArray} {p : Nat} (h : Below B w W) (hB : B ≤ R) (hR : R < W.heap.size) : Below B w { W with heap := W.heap.setIfInBounds R (.stringIter s p) } ∧ ({ W with heap := W.heap.setIfInBounds R (.stringIter s p) } : World).heap[R]? = some (.stringIter s p) := by
  refine ⟨⟨h.os, h.tape, h.output, by simpa using h.size, fun j hj => ?_⟩, ?_⟩
  · show (W.heap.setIfInBounds R _)[j]? = _
    rw [Array.getElem?_setIfInBounds_ne (by omega)]
    exact h.block j hj
  · show (W.heap.setIfInBounds R _)[R]? = _
    rw [Array.getElem?_setIfInBounds_self_of_lt hR]

set_option maxRecDepth 1000000 in
set_option maxHeartbeats 8000000 in
theorem any_short (M : ByteArray) (HM : Hid (M = ⟨#[44, 93]⟩)) (s : ByteArray) (w : World) (h8 : s.size ≤ 8) :
    Calls Tryz.prog 110 #[.string s, .string M] w fun e w' => e = .returned (.int .i64 (Lib.indexAny s.data.toList [44, 93])) ∧ Below w.heap.size w w' := by
  have hM2 : (M.size : Int) = 2 := by rw [HM.out]; rfl
  have hMl : M.data.toList = [44, 93] := by rw [HM.out]
  have hemp : M.toList.isEmpty = false := by rw [Lib.toList_data, hMl]; rfl
  have h8z : decide ((8 : Int) < (s.size : Int)) = false := decide_eq_false (by omega)
  have HML := Lib.hid hMl
  clear hMl
  go_enter Tryz.func110, Tryz.ntmps110
  go_wp2_with fail
  refine (Tryz.strings_shouldUseASCIISet _ _).mono ?_
  rintro e w' ⟨rfl, hw⟩
  rw [hw, h8z]
  go_wp2_with fail
  have HW0 : Hid ((w.iter s 0).heap[w.heap.size]? = some (.stringIter s 0) ∧ Below w.heap.size w (w.iter s 0)) := Lib.hid ⟨World.iter_heap w s 0, (Below.refl _ w).alloc (Nat.le_refl _) _⟩
  go_loopg [9, 10] s.size (fun g _ _ wx => ∃ i : Nat, i + g = s.size ∧ wx.heap[w.heap.size]? = some (.stringIter s i) ∧ Below w.heap.size w wx ∧ Lib.NoAny s.data.toList [44, 93] i)
  case atStart => exact ⟨0, by omega, HW0.out.1, HW0.out.2, Lib.NoAny.zero _ _⟩
  case round =>
    obtain ⟨i, hig, hR, hb, hno⟩ := hrel
    have HN := Lib.hid hno
    have HR := Lib.hid hR
    have HB := Lib.hid hb
    clear hno hb hR HW0
    cases gk with
    | zero =>
      obtain rfl : i = s.size := by omega
      have hnx := fun ty => next_end _ _ s s.size ty HR.out (by omega)
      go_wp2_with fail
      go_ret
      exact ⟨by rw [Lib.indexAny_none (by rw [← Lib.size_eq]; exact HN.out)]; rfl, HB.out⟩
    | succ g =>
      have hi : i < s.size := by omega
      have hlt : w.heap.size < wr.heap.size := (Array.getElem?_eq_some_iff.1 HR.out).1
      obtain ⟨B1, R1⟩ := iter_set (s := s) (p := i + (Utf8.decode s i).2) HB.out (Nat.le_refl _) hlt
      obtain ⟨W1, hW1⟩ : ∃ W1, W1 = ({ wr with heap := wr.heap.setIfInBounds w.heap.size (.stringIter s (i + (Utf8.decode s i).2)) } : World) := ⟨_, rfl⟩
      have hnx : ∀ ty, (Instr.next (.pointer (some ⟨w.heap.size, 0, none⟩)) true ty).run Tryz.prog wr = .ok (.tuple #[.bool true, .int .i64 i, .int .i32 (Utf8.decode s i).1]) W1 := fun ty => by rw [hW1]; exact next_at _ _ s i ty HR.out hi
      rw [← hW1] at B1 R1
      clear hW1
      have HB1 := Lib.hid B1
      have HR1 := Lib.hid R1
      clear B1 R1
      by_cases ha : (s[i]'hi).toNat < 128
      · rw [decode_ascii s i hi ha] at hnx HR1
        obtain ⟨x, hx⟩ : ∃ x : UInt8, x = s[i]'hi := ⟨_, rfl⟩
        rw [← hx] at hnx ha
        have Hx : Hid (s.data.toList[i]? = some x) := Lib.hid (by rw [hx]; exact byte_at hi)
        have hcon := Lib.contains_iff_indexByte [44, 93] x
        have HC : Hid (∀ W, Calls Tryz.prog 115 #[.string M, .int .i32 (x.toNat : Int)] W fun e w' => e = .returned (.int .i64 (Lib.indexByte [44, 93] x)) ∧ w' = W) := Lib.hid (fun W => by
          have h := Tryz.strings_IndexRune_ascii M (x.toNat : Int) W (by omega) (by omega)
          rw [HML.out] at h
          simpa using h)
        generalize Lib.indexByte [44, 93] x = v at hcon HC
        clear hx
        cases hin : ([44, 93] : List UInt8).contains x with
        | false =>
          rw [hin] at hcon
          have hlt0 : ¬ ((0 : Int) ≤ v) := of_decide_eq_false hcon.symm
          have HIN := Lib.hid hin
          clear hcon hin
          go_wp2_with fail
          refine (HC.out _).mono ?_
          rintro e w' ⟨rfl, rfl⟩
          go_wp2_with fail
          go_roundg g
          case measure => omega
          case rel => exact ⟨i + 1, by omega, HR1.out, HB1.out, HN.out.succ Hx.out HIN.out⟩
        | true =>
          rw [hin] at hcon
          have hge : (0 : Int) ≤ v := of_decide_eq_true hcon.symm
          have HIN := Lib.hid hin
          clear hcon hin
          go_wp2_with fail
          refine (HC.out _).mono ?_
          rintro e w' ⟨rfl, rfl⟩
          go_wp2_with fail
          go_ret
          exact ⟨by rw [Lib.indexAny_hit HN.out Hx.out HIN.out]; rfl, HB1.out⟩
      · obtain ⟨g1, g2, g3, g4, g5⟩ := decode_span s i hi (by omega)
        have HS := Lib.hid (no_any HN.out g4 g5)
        obtain ⟨c, hc⟩ : ∃ c, c = (Utf8.decode s i).1 := ⟨_, rfl⟩
        obtain ⟨wd, hwd⟩ : ∃ wd, wd = (Utf8.decode s i).2 := ⟨_, rfl⟩
        rw [← hc] at hnx
        rw [← hc] at g1 g2
        rw [← hwd] at g3 g4 HR1 HS
        have HC : Hid (∀ W, Calls Tryz.prog 115 #[.string M, .int .i32 (c : Int)] W fun e w' => e = .returned (.int .i64 (-1)) ∧ Below W.heap.size W w') := Lib.hid (fun W => by
          by_cases h : c = 65533
          · rw [h]; exact rune_error M HM W
          · exact rune_far M HM c W g1 g2 h)
        have hl1 : w.heap.size < W1.heap.size := (Array.getElem?_eq_some_iff.1 HR1.out).1
        clear hc hwd g5 ha
        go_wp2_with fail
        refine (HC.out _).mono ?_
        rintro e w2 ⟨rfl, hb2⟩
        have HB2 := Lib.hid (HB1.out.trans (hb2.mono (Nat.le_of_lt hl1)))
        have HR2 := Lib.hid ((hb2.block _ hl1).trans HR1.out)
        clear hb2
        go_wp2_with fail
        go_roundg (s.size - (i + wd))
        case measure => omega
        case rel => exact ⟨i + wd, by omega, HR2.out, HB2.out, HS.out⟩

/-- Where a leaf ends. -/
theorem indexAny_leaf (s : ByteArray) (w : World) (hs : s.size ≤ 80) :
    Calls Tryz.prog 110 #[.string s, .string ⟨#[44, 93]⟩] w fun e w' => e = .returned (.int .i64 (if leafLen s.data.toList < s.size then (leafLen s.data.toList : Int) else -1)) ∧ Below w.heap.size w w' := by
  have hz : s.data.toList.length = s.size := by simp
  rw [← hz, ← idx_leaf]
  by_cases h8 : s.size ≤ 8
  · exact any_short _ (Lib.hid rfl) s w h8
  · have h116 : (Tryz.prog.info? 112).map (fun i => (i.zero, i.size)) = some (some (.agg (Array.replicate 256 (.bool false))), 256) := by kernel_rfl
    refine (Tryz.strings_IndexAny_long (zero_of_info h116).1 s ⟨#[44, 93]⟩ w (by decide) (by omega) (by omega) (by decide) (fun j b hj => ?_)).mono ?_
    · match j, hj with
      | 0, hj => simp at hj; subst hj; decide
      | 1, hj => simp at hj; subst hj; decide
      | j + 2, hj => simp at hj
    · rintro e w' ⟨rfl, rfl⟩
      exact ⟨rfl, ((Below.refl _ _).alloc (Nat.le_refl _) _).alloc (by simp) _⟩

end Go.Proofs.YtmcbaejgimopmaaGreat
