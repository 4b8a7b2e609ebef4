/- Contracts of the helpers on lists of numbers: laws.toIntS copies one into new memory, laws.eqIntS compares two, laws.markIntS writes numbers from k on, laws.heldIntS finds them there. Conditions: lengths that fit. -/
import Derived.Test.YtpaijobmoddgpabInts
namespace Go.Proofs.Ytpaijobmoddgpab
open Go.ChangeShapes Go.WideShapes Go.ChangeAt Go.RowKit

/-- A list's first k numbers, and zeros behind. -/
def mixed (xs : List Int) (k : Nat) : List Int := xs.take k ++ List.replicate (xs.length - k) 0
theorem mixed_length (xs : List Int) (k : Nat) (h : k ≤ xs.length) : (mixed xs k).length = xs.length := by simp [mixed]; omega
theorem mixed_zero (xs : List Int) : mixed xs 0 = List.replicate xs.length 0 := by simp [mixed]
theorem mixed_all (xs : List Int) : mixed xs xs.length = xs := by simp [mixed]
theorem mixed_set (xs : List Int) (k : Nat) (x : Int) (hx : xs[k]? = some x) : (mixed xs k).set k x = mixed xs (k + 1) := by
  have hk := at_lt hx
  have hl : (xs.take k).length = k := by simp; omega
  unfold mixed
  obtain ⟨n, hn⟩ : ∃ n, xs.length - k = n + 1 := ⟨xs.length - k - 1, by omega⟩
  rw [hn, List.replicate_succ, List.set_append_right _ _ (by omega), hl, Nat.sub_self, List.set_cons_zero, show xs.length - (k + 1) = n by omega]
  rw [List.take_add_one, hx]
  simp
theorem nums_set (xs : List Int) (k : Nat) (x : Int) : (nums xs).set k (.int .i64 x) = nums (xs.set k x) := by simp [nums, List.map_set]

/-- The loop's relation behind k stores. -/
def Filled (xs : List Int) (B : Nat) (w : World) (k : Nat) (wr : World) : Prop :=
  wr.ownsRow B 3 1 (.slice (some ⟨B, 0, none⟩) xs.length xs.length) xs.length (nums (mixed xs k)) ∧ Below B w wr
theorem Filled.step {xs : List Int} {B k : Nat} {w wr : World} {x : Int} (h : Filled xs B w k wr) (hx : xs[k]? = some x) : Filled xs B w (k + 1) (wr.setCell ⟨B, k, none⟩ (.int .i64 x)) := by
  obtain ⟨ho, hb⟩ := h
  refine ⟨?_, hb.setCell (p := ⟨B, k, none⟩) (Nat.le_refl _) _⟩
  rw [← mixed_set xs k x hx, ← nums_set]
  exact (World.ownsRow.stored ho k (.int .i64 x)).1
theorem Filled.cell {xs : List Int} {B k : Nat} {w wr : World} (h : Filled xs B w k wr) (hk : k < xs.length) : ∃ y, wr.cell? ⟨B, k, none⟩ = some (.int .i64 y) := by
  obtain ⟨y, hy⟩ := at_some (mixed xs k) k (by rw [mixed_length xs k (by omega)]; omega)
  exact ⟨y, by rw [World.ownsRow.cellAt h.1 k (by omega), nums_at hy]⟩

/-- Behind a copy: a new block holds the numbers. -/
def CopyPost (xs : List Int) (w : World) (e : Ending) (w' : World) : Prop :=
  e = .returned (.slice (some ⟨w.heap.size, 0, none⟩) xs.length xs.length) ∧ Ints w' (some ⟨w.heap.size, 0, none⟩) xs ∧ Own w.heap.size w' (some ⟨w.heap.size, 0, none⟩) xs.length ∧ Below w.heap.size w w'
theorem copy_post {xs : List Int} {w w' : World} (h : Filled xs w.heap.size w xs.length w') : CopyPost xs w (.returned (.slice (some ⟨w.heap.size, 0, none⟩) xs.length xs.length)) w' := by
  obtain ⟨ho, hb⟩ := h
  rw [mixed_all] at ho
  obtain ⟨a, cap, e, h1, h2, -⟩ := owns_ints ho
  simp only [Value.slice.injEq] at e
  obtain ⟨rfl, -, rfl⟩ := e
  exact ⟨rfl, h1, h2, hb⟩

set_option maxHeartbeats 400000 in
theorem to_any (a : Option Addr) (cap : Nat) (xs : List Int) (w : World) (h : Hid (Ints w a xs)) (hn : xs.length ≤ 1048576) :
    Calls Try.prog 8 #[.slice a xs.length cap] w (CopyPost xs w) := by
  obtain ⟨i0, hi, hz0, hz1, hz2⟩ := info_parts infoInt
  go_enter Try.func8, Try.ntmps8
  go_wp2_with (at_make; refine wpList_make_full _ rfl _ _ 22 rfl w.heap.size 3 i0 (.int .i64 0) 1 Try.underlying22 hi hz0 hz1 .i64 .i64 _ _ xs.length rfl rfl rfl rfl (by rw [hz2]; omega) (by unfold maxLen; omega) (Nat.le_refl _) ?_; intro w1 hown hg)
  have HF : Hid (Filled xs w.heap.size w 0 w1) := Lib.hid (by
    refine ⟨?_, (Below.refl _ w).grown hg (Nat.le_refl _) (fun j hj => by cases hj)⟩
    rw [mixed_zero]
    simpa [toList_madeCells_one, Value.cells, nums] using hown)
  clear hown hg
  go_wp2
  go_loopw [4] (fun i wr => ∃ k : Nat, k ≤ xs.length ∧ i = .int .i64 k ∧ Filled xs w.heap.size w k wr) (fun i _ => xs.length - (intOf i).toNat)
  case atStart => exact ⟨0, Nat.zero_le _, rfl, HF.out⟩
  case round =>
    obtain ⟨k, hk, rfl, hrel⟩ := hrel
    by_cases hlt : k < xs.length
    · obtain ⟨x, hx⟩ := at_some xs k hlt
      obtain ⟨b, o, rfl, hc0⟩ := h.out k x hx
      have hc : wr.cell? ⟨b, o + k, none⟩ = some (.int .i64 x) := cell_later hrel.2 hc0
      obtain ⟨u, hd⟩ := hrel.cell hlt
      have hf : wr.frozen? ⟨w.heap.size, k, none⟩ = false := World.ownsRow.frozenAt hrel.1 k
      have HR := Lib.hid (hrel.step hx)
      clear hrel hc0 hx
      go_wp2
      go_roundw
      case rel => exact ⟨k + 1, by omega, by go_num, HR.out⟩
      case measure => simp [intOf]; omega
    · obtain rfl : k = xs.length := by omega
      have HR := Lib.hid (copy_post hrel)
      clear hrel
      go_wp2
      go_ret
      exact HR.out

/-- Two lists are compared from place k on. -/
theorem eq_differ {xs ys : List Int} {k : Nat} {x y : Int} (hx : xs[k]? = some x) (hy : ys[k]? = some y) (hne : x ≠ y) : decide (xs = ys) = false := by
  rw [decide_eq_false_iff_not]
  rintro rfl
  rw [hx] at hy
  exact hne (by simpa using hy)
theorem eq_agree {xs ys : List Int} (hl : xs.length = ys.length) (h : ∀ (j : Nat) (x y : Int), j < xs.length → xs[j]? = some x → ys[j]? = some y → x = y) : decide (xs = ys) = true := by
  rw [decide_eq_true_iff]
  refine List.ext_getElem hl fun i h1 h2 => ?_
  exact h i _ _ h1 (List.getElem?_eq_getElem h1) (List.getElem?_eq_getElem h2)
def Agree (xs ys : List Int) (k : Nat) : Prop := ∀ (j : Nat) (x y : Int), j < k → xs[j]? = some x → ys[j]? = some y → x = y
theorem agree_zero (xs ys : List Int) : Agree xs ys 0 := fun j x y h => by omega
theorem agree_succ {xs ys : List Int} {k : Nat} {x : Int} (h : Agree xs ys k) (hx : xs[k]? = some x) (hy : ys[k]? = some x) : Agree xs ys (k + 1) := fun j a b hj ha hb => by
  by_cases e : j = k
  · subst e
    rw [hx] at ha; rw [hy] at hb
    simp at ha hb
    omega
  · exact h j a b (by omega) ha hb

def EqPost (b : Bool) (w : World) (e : Ending) (w' : World) : Prop := e = .returned (.bool b) ∧ ∃ n, w' = w.drewN n
theorem EqPost.on {b : Bool} {w w' : World} {e : Ending} (h : EqPost b w e w') : e = .returned (.bool b) ∧ Below w.heap.size w w' := by
  obtain ⟨rfl, n, rfl⟩ := h
  exact ⟨rfl, below_drewN (Below.refl _ _) n⟩

set_option maxHeartbeats 400000 in
theorem eq_any (a b : Option Addr) (ca cb : Nat) (xs ys : List Int) (w : World) (ha : Hid (Ints w a xs)) (hb : Hid (Ints w b ys)) (hn : xs.length ≤ 9223372036854775807) :
    Calls Try.prog 11 #[.slice a xs.length ca, .slice b ys.length cb] w (EqPost (decide (xs = ys)) w) := by
  by_cases hl : xs.length = ys.length
  · have HL := Lib.hid hl
    have hll : ((xs.length : Int) != (ys.length : Int)) = false := by rw [hl]; simp
    have hll2 : ((xs.length : Int) == (ys.length : Int)) = true := by rw [hl]; simp
    clear hl
    go_enter Try.func11, Try.ntmps11
    go_wp2_with fail
    go_loopw [5] (fun i wr => ∃ k : Nat, k ≤ xs.length ∧ i = .int .i64 k ∧ Agree xs ys k ∧ ∃ n, wr = w.drewN n) (fun i _ => xs.length - (intOf i).toNat)
    case atStart => exact ⟨0, Nat.zero_le _, rfl, agree_zero _ _, 0, rfl⟩
    case round =>
      obtain ⟨k, hk, rfl, hag, n, rfl⟩ := hrel
      have HA := Lib.hid hag
      clear hag
      by_cases hlt : k < xs.length
      · obtain ⟨x, hx⟩ := at_some xs k hlt
        obtain ⟨y, hy⟩ := at_some ys k (by have := HL.out; omega)
        obtain ⟨b, o, rfl, hc⟩ := ha.out k x hx
        obtain ⟨b2, o2, rfl, hd⟩ := hb.out k y hy
        have HX := Lib.hid hx
        have HY := Lib.hid hy
        have hlt2 : k < ys.length := at_lt hy
        have hi : (k : Int) < (xs.length : Int) := by omega
        have hi2 : (k : Int) < (ys.length : Int) := by omega
        have hi0 : (0 : Int) ≤ (k : Int) := by omega
        clear hx hy
        by_cases he : x = y
        · subst he
          go_wp2
          go_quiet (fail)
          go_wp2
          go_roundw
          case rel => exact ⟨k + 1, by omega, by go_num, agree_succ HA.out HX.out HY.out, _, rfl⟩
          case measure => simp [intOf]; omega
        · have hne : (x == y) = false := by simpa using he
          have hne2 : (x != y) = true := by simpa using he
          have HD := Lib.hid (eq_differ HX.out HY.out he)
          clear he
          go_wp2
          go_quiet (fail)
          go_wp2
          go_ret
          exact ⟨ret_bool HD.out.symm, _, World.drewN_drewN _ _ _⟩
      · have HD := Lib.hid (eq_agree HL.out (fun j x y hj => HA.out j x y (by omega)))
        have hi : ¬ (k : Int) < (xs.length : Int) := by omega
        go_wp2
        go_ret
        exact ⟨ret_bool HD.out.symm, n, rfl⟩
  · have hll : ((xs.length : Int) != (ys.length : Int)) = true := by simp; omega
    have hll2 : ((xs.length : Int) == (ys.length : Int)) = false := by simp; omega
    have HD : Hid (decide (xs = ys) = false) := Lib.hid (by rw [decide_eq_false_iff_not]; rintro rfl; exact hl rfl)
    clear hl
    go_enter Try.func11, Try.ntmps11
    go_wp2_with fail
    go_ret
    exact ⟨ret_bool HD.out.symm, 0, rfl⟩
/-- Equal lists. -/
theorem eq_same (a b : Option Addr) (ca cb : Nat) (xs : List Int) (w : World) (ha : Hid (Ints w a xs)) (hb : Hid (Ints w b xs)) (hn : xs.length ≤ 9223372036854775807) :
    Calls Try.prog 11 #[.slice a xs.length ca, .slice b xs.length cb] w fun e w' => e = .returned (.bool true) ∧ Below w.heap.size w w' := by
  refine (eq_any a b ca cb xs xs w ha hb hn).mono fun e w' h => ?_
  obtain ⟨rfl, hb⟩ := h.on
  exact ⟨by simp, hb⟩

theorem grown_set (w : World) (B i : Nat) (v : Value) : w.grownBy (w.setCell ⟨B, i, none⟩ v) (some B) := by
  refine ⟨rfl, rfl, rfl, ?_, fun j hj hne => ?_⟩
  · simp [World.setCell]
  · exact Below.heap_setCell _ _ _ _ (by simpa using hne)
theorem frozen_set (w : World) (b i j : Nat) (v : Value) : (w.setCell ⟨b, i, none⟩ v).frozen? ⟨b, j, none⟩ = w.frozen? ⟨b, j, none⟩ := by
  simp only [World.frozen?, World.setCell, Array.getElem?_modify]
  simp
  cases w.heap[b]? with
  | none => rfl
  | some x => cases x <;> rfl
/-- The first i numbers are k, k + 1, .. -/
def marked (k i : Nat) (xs : List Int) : List Int := (List.range i).map (fun j => ((k + j : Nat) : Int)) ++ xs.drop i
theorem marked_length (k i : Nat) (xs : List Int) (h : i ≤ xs.length) : (marked k i xs).length = xs.length := by simp [marked]; omega
theorem marked_zero (k : Nat) (xs : List Int) : marked k 0 xs = xs := by simp [marked]
theorem marked_set (k i : Nat) (xs : List Int) (h : i < xs.length) : (marked k i xs).set i ((k + i : Nat) : Int) = marked k (i + 1) xs := by
  unfold marked
  have hl : ((List.range i).map (fun j => ((k + j : Nat) : Int))).length = i := by simp
  rw [List.set_append_right _ _ (by omega), hl, Nat.sub_self, List.drop_eq_getElem_cons h, List.set_cons_zero, List.range_succ, List.map_append, List.append_assoc]
  rfl
theorem marked_at (k n : Nat) (xs : List Int) (j : Nat) (hj : j < n) : (marked k n xs)[j]? = some ((k + j : Nat) : Int) := by
  unfold marked
  rw [List.getElem?_append_left (by simp; omega)]
  simp [hj]
/-- At an address lie n marks from k on. -/
def Marks (w : World) (a : Option Addr) (k n : Nat) : Prop := ∀ j, j < n → ∃ b o, a = some ⟨b, o, none⟩ ∧ w.cell? ⟨b, o + j, none⟩ = some (.int .i64 ((k + j : Nat) : Int))
theorem Marks.on {w w' : World} {a : Option Addr} {k n : Nat} (h : Marks w a k n) (hb : Below w.heap.size w w') : Marks w' a k n := fun j hj => by
  obtain ⟨b, o, e, hc⟩ := h j hj
  exact ⟨b, o, e, cell_later hb hc⟩
theorem Marks.off {w w' : World} {a : Option Addr} {k n g : Nat} (h : Marks w a k n) (hg : w.grownBy w' (some g)) (hne : ∀ b o, a = some ⟨b, o, none⟩ → n ≠ 0 → b ≠ g) : Marks w' a k n := fun j hj => by
  obtain ⟨b, o, e, hc⟩ := h j hj
  refine ⟨b, o, e, hg.cell hc ?_⟩
  have := hne b o e (by omega)
  simp; omega
theorem marks_of {w : World} {a : Option Addr} {k : Nat} {xs : List Int} (h : Ints w a (marked k xs.length xs)) : Marks w a k xs.length := fun j hj => h j _ (marked_at k xs.length xs j hj)

theorem grown_self (w : World) (row : Option Nat) : w.grownBy w row := ⟨rfl, rfl, rfl, Nat.le_refl _, fun _ _ _ => rfl⟩
def MarkAt (b o k : Nat) (xs : List Int) (w : World) (i : Nat) (wr : World) : Prop := Ints wr (some ⟨b, o, none⟩) (marked k i xs) ∧ (∀ j, wr.frozen? ⟨b, j, none⟩ = false) ∧ w.grownBy wr (some b)
theorem MarkAt.step {b o k i : Nat} {xs : List Int} {w wr : World} (h : MarkAt b o k xs w i wr) (hi : i < xs.length) : MarkAt b o k xs w (i + 1) (wr.setCell ⟨b, o + i, none⟩ (.int .i64 ((k + i : Nat) : Int))) := by
  obtain ⟨h1, h2, h3⟩ := h
  have hl := marked_length k i xs (by omega)
  refine ⟨fun j x hx => ⟨b, o, rfl, ?_⟩, fun j => by rw [frozen_set]; exact h2 j, h3.trans (grown_set _ _ _ _)⟩
  have hj : j < xs.length := by have := at_lt hx; rw [marked_length k (i + 1) xs (by omega)] at this; exact this
  rw [← marked_set k i xs hi] at hx
  obtain ⟨y, hy⟩ := at_some (marked k i xs) j (by omega)
  obtain ⟨b1, o1, e1, hc⟩ := h1 j y hy
  simp only [Option.some.injEq, Addr.mk.injEq, and_true] at e1
  obtain ⟨rfl, rfl⟩ := e1
  by_cases e : j = i
  · subst e
    rw [List.getElem?_set_self (by omega)] at hx
    simp only [Option.some.injEq] at hx
    subst hx
    exact World.cell?_setCell_same wr _ _ hc
  · rw [List.getElem?_set_ne (by omega)] at hx
    rw [hy] at hx
    simp only [Option.some.injEq] at hx
    subst hx
    rw [World.cell?_setCell_other wr _ _ _ (by simp; try omega)]
    exact hc

def MarkPost (a : Option Addr) (k : Nat) (xs : List Int) (w : World) (e : Ending) (w' : World) : Prop :=
  e = .returned (.int .i64 ((k + xs.length : Nat) : Int)) ∧ Marks w' a k xs.length ∧ (xs.length = 0 ∧ Below w.heap.size w w' ∨ xs.length ≠ 0 ∧ ∃ b o, a = some ⟨b, o, none⟩ ∧ w.grownBy w' (some b))

set_option maxHeartbeats 400000 in
theorem mark_any (B : Nat) (a : Option Addr) (cap k : Nat) (xs : List Int) (w : World) (h : Hid (Ints w a xs)) (ho : Hid (Own B w a xs.length)) (hn : k + xs.length ≤ 9223372036854775807) :
    Calls Try.prog 16 #[.slice a xs.length cap, .int .i64 (k : Int)] w (MarkPost a k xs w) := by
  by_cases hz : xs.length = 0
  · obtain rfl : xs = [] := List.eq_nil_of_length_eq_zero hz
    clear hz
    have hl0 : ¬ (0 : Int) < (([] : List Int).length : Int) := by simp
    go_enter Try.func16, Try.ntmps16
    go_wp2
    go_loopw [1, 5] (fun q j wr => j = .int .i64 0 ∧ q = .int .i64 (k : Int) ∧ wr = w) (fun _ _ _ => 0)
    case atStart => exact ⟨rfl, rfl, rfl⟩
    case round =>
      obtain ⟨rfl, rfl, rfl⟩ := hrel
      go_wp2
      go_ret
      exact ⟨rfl, fun j hj => by simp at hj, .inl ⟨rfl, Below.refl _ _⟩⟩
  · obtain ⟨b, o, rfl, hB, hbs, hfz⟩ := ho.out.resolve_left hz
    have HZ := Lib.hid hz
    clear hz
    have H0 : Hid (MarkAt b o k xs w 0 w) := Lib.hid ⟨by rw [marked_zero]; exact h.out, hfz, grown_self _ _⟩
    clear hfz
    go_enter Try.func16, Try.ntmps16
    go_wp2_with fail
    go_loopw [1, 5] (fun q j wr => ∃ i : Nat, i ≤ xs.length ∧ j = .int .i64 i ∧ q = .int .i64 ((k + i : Nat) : Int) ∧ MarkAt b o k xs w i wr) (fun _ j _ => xs.length - (intOf j).toNat)
    case atStart => exact ⟨0, Nat.zero_le _, rfl, rfl, H0.out⟩
    case round =>
      obtain ⟨i, hi, rfl, rfl, hM⟩ := hrel
      by_cases hlt : i < xs.length
      · obtain ⟨q, hq⟩ : ∃ q : Nat, q = k + i := ⟨_, rfl⟩
        have hq2 : q < 9223372036854775807 := by omega
        have HQ := Lib.hid hq
        have HR := Lib.hid (hM.step hlt)
        rw [← hq] at HR ⊢
        clear hq
        obtain ⟨x, hx⟩ := at_some (marked k i xs) i (by rw [marked_length k i xs (by omega)]; exact hlt)
        obtain ⟨b1, o1, e1, hd⟩ := hM.1 i x hx
        simp only [Option.some.injEq, Addr.mk.injEq, and_true] at e1
        obtain ⟨rfl, rfl⟩ := e1
        have hf : wr.frozen? ⟨b, o + i, none⟩ = false := hM.2.1 _
        clear hM hx
        go_wp2
        go_roundw
        case rel => exact ⟨i + 1, by omega, by go_num, by rw [HQ.out]; go_num, HR.out⟩
        case measure => simp [intOf]; omega
      · obtain rfl : i = xs.length := by omega
        have HM : Hid (MarkPost (some ⟨b, o, none⟩) k xs w (.returned (.int .i64 ((k + xs.length : Nat) : Int))) wr) := Lib.hid ⟨rfl, marks_of hM.1, .inr ⟨HZ.out, b, o, rfl, hM.2.2⟩⟩
        clear hM
        go_wp2
        go_ret
        exact HM.out

set_option maxHeartbeats 400000 in
theorem held_any (a : Option Addr) (cap k n : Nat) (w : World) (h : Hid (Marks w a k n)) (hn : k + n ≤ 9223372036854775807) :
    Calls Try.prog 17 #[.slice a n cap, .int .i64 (k : Int)] w fun e w' => e = .returned (.int .i64 ((k + n : Nat) : Int)) ∧ Below w.heap.size w w' := by
  go_enter Try.func17, Try.ntmps17
  go_wp2_with fail
  go_loopw [1, 5] (fun q j wr => ∃ i : Nat, i ≤ n ∧ j = .int .i64 i ∧ q = .int .i64 ((k + i : Nat) : Int) ∧ Below w.heap.size w wr) (fun _ j _ => n - (intOf j).toNat)
  case atStart => exact ⟨0, Nat.zero_le _, rfl, rfl, Below.refl _ _⟩
  case round =>
    obtain ⟨i, hi, rfl, rfl, hB⟩ := hrel
    by_cases hlt : i < n
    · obtain ⟨q, hq⟩ : ∃ q : Nat, q = k + i := ⟨_, rfl⟩
      have hq2 : q < 9223372036854775807 := by omega
      have HQ := Lib.hid hq
      obtain ⟨b, o, rfl, hc0⟩ := h.out i hlt
      rw [← hq] at hc0 ⊢
      clear hq
      have hc : wr.cell? ⟨b, o + i, none⟩ = some (.int .i64 (q : Int)) := cell_later hB hc0
      have HB := Lib.hid hB
      clear hc0 hB
      go_wp2
      go_roundw
      case rel => exact ⟨i + 1, by omega, by go_num, by rw [HQ.out]; go_num, HB.out⟩
      case measure => simp [intOf]; omega
    · obtain rfl : i = n := by omega
      have HB := Lib.hid hB
      clear hB
      go_wp2
      go_ret
      exact ⟨rfl, HB.out⟩

end Go.Proofs.Ytpaijobmoddgpab
