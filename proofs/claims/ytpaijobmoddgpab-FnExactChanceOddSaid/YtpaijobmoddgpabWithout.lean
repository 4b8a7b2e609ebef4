/- Contracts: slices.Clone, slices.DeleteFunc at the closure of word.without, word.without: what is left when nails are taken out. Conditions: letters, sets from 0 to 63, lengths that fit. -/
import Derived.Test.YtpaijobmoddgpabFallSpec
import Derived.Test.YtpaijobmoddgpabReducedWalks
import Derived.Laws.IdiomCopy
import Derived.Lib.SliceRun
namespace Go.Proofs.Ytpaijobmoddgpab
open Go.ChangeShapes Go.WideShapes Go.ChangeAt Go.RowKit
set_option linter.unusedVariables false

/-- What a made slice owns. -/
def OwnPost (xs : List Int) (w : World) (e : Ending) (w' : World) : Prop := ∃ v, e = .returned v ∧ w'.ownsRow w.heap.size 3 1 v xs.length (nums xs) ∧ Below w.heap.size w w'
set_option maxHeartbeats 400000 in
theorem clone_any (a : Option Addr) (cap : Nat) (xs : List Int) (w : World) (h : Hid (Ints w a xs)) (hn : xs.length ≤ 1048576) :
    Calls Try.prog 83 #[.slice a xs.length cap] w (OwnPost xs w) := by
  obtain ⟨i0, hi0, hz0, hz1, hz2⟩ := info_parts infoInt
  cases a with
  | none =>
    have hx : xs = [] := by
      cases xs with
      | nil => rfl
      | cons y t => obtain ⟨b, o, e, _⟩ := h.out 0 y rfl; cases e
    subst hx
    have hq : ∀ W, (binOp .eql 70 (.slice none 0 cap) (.slice none 0 0)).run Try.prog W = .ok (.bool true) W := fun W => Lib.run_eql_slice_nil W _ _ none _ _ _ _ Try.underlying70
    go_enter Try.func83, Try.ntmps83
    go_wp2_with fail
    go_ret
    exact ⟨_, rfl, World.ownsRow_nil _ _ _ _, Below.refl _ _⟩
  | some ad =>
    have hcell : Hid (∀ j u, (nums xs)[j]? = some u → (w.alloc (.cells #[] 3)).cell? (ad.add j) = some u) := Lib.hid fun j u hj => by
      obtain ⟨y, hy⟩ := at_some xs j (by have := at_lt hj; simpa [nums] using this)
      rw [nums_at hy] at hj
      cases hj
      obtain ⟨b, o, e, hc⟩ := h.out j y hy
      cases e
      rw [add_plain]
      exact Lib.cell?_alloc_some _ hc
    have HL := Lib.hid (nums_length xs)
    have hq : ∀ W, (binOp .eql 70 (.slice (some ad) xs.length cap) (.slice none 0 0)).run Try.prog W = .ok (.bool false) W := fun W => Lib.run_eql_slice_nil W _ _ (some ad) _ _ _ _ Try.underlying70
    have HO : Hid ((w.alloc (.cells #[] 3)).ownsRow w.heap.size 3 1 (.slice (some ⟨w.heap.size, 0, none⟩) 0 0) 0 (nums [])) := Lib.hid (World.ownsRow_made w #[] 0 (Nat.le_refl _) (Nat.zero_le _) rfl)
    go_enter Try.func83, Try.ntmps83
    go_wp2_with (at_builtin; refine wpList_append_own _ rfl _ _ 70 rfl w.heap.size 3 i0 (.int .i64 0) 1 8 Try.underlying70 hi0 hz0 hz1 hz2 rfl (by decide) _ 0 (nums []) rfl HO.out ad xs.length _ (nums xs) rfl ?c0 hcell.out (nums_one xs) ?c3 ?c4 ?c5 ?_)
    case c0 => rw [HL.out, Nat.mul_one]
    case c3 => unfold maxLen; omega
    case c4 => omega
    case c5 => simp
    intro v' w1 hown hgrow _
    have HR : Hid (w1.ownsRow w.heap.size 3 1 v' xs.length (nums xs)) := Lib.hid (by simpa [nums] using hown)
    have HB : Hid (Below w.heap.size w w1) := Lib.hid (((Below.refl _ w).alloc (Nat.le_refl _) _).grown hgrow (by simp) (fun j hj => by cases hj; exact Nat.le_refl _))
    clear hown hgrow
    go_wp2_with fail
    go_ret
    exact ⟨_, rfl, HR.out, HB.out⟩

theorem drops_any (s : Nat) (x : Int) (g : Nat) (w : World) (hs : s < 64) (hx : x ≠ 0 ∧ -6 ≤ x ∧ x ≤ 6) (hc : w.cell? ⟨g, 0, none⟩ = some (.int .i64 (s : Int))) :
    Calls Try.prog 84 #[.int .i64 x, .pointer (some ⟨g, 0, none⟩)] w fun e w' => e = .returned (.bool (Plain.inB s x)) ∧ ∃ n, w' = w.drewN n := by
  obtain ⟨p, q, hp, hp5, hpow, hq, hstep⟩ := nail_parts hx
  have HP := Lib.hid hp
  have HW := Lib.hid hpow
  have HX := Lib.hid hx.2
  have hand := and_nail hs hp5 hpow
  have hin : Plain.inB s x = s.testBit p := by rw [Plain.inB, hp, show ((p : Int) + 1).toNat - 1 = p by omega]
  have hq0 : 0 < q := by
    have h1 : (2 : Nat) ^ p = q := by exact_mod_cast hpow
    rw [← h1]
    exact Nat.pow_pos (by decide)
  have hqn : ((q : Int) != 0) = true := by simp; omega
  have HI := Lib.hid hin
  cases ht : s.testBit p with
  | true =>
    rw [ht] at hand
    simp only [if_true] at hand
    have HI2 : Hid (Plain.inB s x = true) := Lib.hid (hin.trans ht)
    clear hin ht hstep hp hpow hx HI
    go_enter Try.func84, Try.ntmps84
    go_wp2_with fail
    go_quiet (first | (go_at_call 85; exact Calls.quiet_of_same ((nailOf_any x _ HX.out))) | (go_at_call 78; rw [HP.out]; exact Calls.quiet_of_same ((nailSet_any p q _ hp5 HW.out).mono fun _ _ h => ⟨h.1, h.2.symm⟩)))
    go_wp2_with fail
    go_ret
    exact ⟨ret_bool HI2.out.symm, _, rfl⟩
  | false =>
    rw [ht] at hand
    simp only [Bool.false_eq_true, if_false] at hand
    have HI2 : Hid (Plain.inB s x = false) := Lib.hid (hin.trans ht)
    clear hin ht hstep hp hpow hx HI
    go_enter Try.func84, Try.ntmps84
    go_wp2_with fail
    go_quiet (first | (go_at_call 85; exact Calls.quiet_of_same ((nailOf_any x _ HX.out))) | (go_at_call 78; rw [HP.out]; exact Calls.quiet_of_same ((nailSet_any p q _ hp5 HW.out).mono fun _ _ h => ⟨h.1, h.2.symm⟩)))
    go_wp2_with fail
    go_ret
    exact ⟨ret_bool HI2.out.symm, _, rfl⟩

/-- Behind the search: the first number that is dropped, or none. -/
def Found (xs : List Int) (s : Nat) (w : World) (e : Ending) (w' : World) : Prop :=
  (∃ n, w' = w.drewN n) ∧ ((e = .returned (.int .i64 (-1)) ∧ ∀ y ∈ xs, Plain.inB s y = false) ∨ ∃ (k : Nat) (x : Int), e = .returned (.int .i64 (k : Int)) ∧ xs[k]? = some x ∧ Plain.inB s x = true ∧ ∀ y ∈ xs.take k, Plain.inB s y = false)
set_option maxHeartbeats 400000 in
theorem index_any (a : Option Addr) (cap : Nat) (xs : List Int) (s g : Nat) (w : World) (h : Hid (Ints w a xs)) (hl : Hid (Plain.Letters xs)) (hn : xs.length ≤ 1048576) (hs : s < 64) (hg : Hid (w.cell? ⟨g, 0, none⟩ = some (.int .i64 (s : Int)))) :
    Calls Try.prog 88 #[.slice a xs.length cap, .func (.func 84) #[] #[.pointer (some ⟨g, 0, none⟩)]] w (Found xs s w) := by
  go_enter Try.func88, Try.ntmps88
  go_wp2_with fail
  go_loopw [8] (fun i wr => ∃ k : Nat, k ≤ xs.length ∧ i = .int .i64 k ∧ (∀ y ∈ xs.take k, Plain.inB s y = false) ∧ ∃ n, wr = w.drewN n) (fun i _ => xs.length - (intOf i).toNat)
  case atStart => exact ⟨0, Nat.zero_le _, rfl, by simp, 0, rfl⟩
  case round =>
    obtain ⟨k, hk, rfl, hno, n, hwr⟩ := hrel
    have HN := Lib.hid hno
    have HW := Lib.hid hwr
    by_cases hlt : k < xs.length
    · obtain ⟨x, hx⟩ := at_some xs k hlt
      obtain ⟨b, o, rfl, hc0⟩ := h.out k x hx
      have HX := Lib.hid hx
      have HL := Lib.hid (hl.out.at hx)
      have hc : wr.cell? ⟨b, o + k, none⟩ = some (.int .i64 x) := by rw [hwr]; exact hc0
      have HG : Hid (wr.cell? ⟨g, 0, none⟩ = some (.int .i64 (s : Int))) := Lib.hid (by rw [hwr]; exact hg.out)
      have hi : (k : Int) < (xs.length : Int) := by omega
      have hi0 : (0 : Int) ≤ (k : Int) := by omega
      clear hx hno hwr hc0
      go_wp2_with fail
      refine (drops_any s x g _ hs HL.out HG.out).mono ?_
      cases hb : Plain.inB s x with
      | true =>
        have HB := Lib.hid hb
        clear hb
        rintro e w' ⟨rfl, m, hm⟩
        have HM := Lib.hid hm
        clear hm
        go_wp2_with fail
        go_ret
        refine ⟨⟨n + m, ?_⟩, .inr ⟨k, x, rfl, HX.out, HB.out, HN.out⟩⟩
        rw [HM.out, HW.out]
        exact World.drewN_drewN _ _ _
      | false =>
        have HB := Lib.hid hb
        clear hb
        rintro e w' ⟨rfl, m, hm⟩
        have HM := Lib.hid hm
        clear hm
        go_wp2_with fail
        go_roundw
        case rel =>
          refine ⟨k + 1, by omega, by go_num, ?_, n + m, ?_⟩
          · rw [Plain.take_snoc HX.out]
            intro y hy
            rcases List.mem_append.1 hy with hy | hy
            · exact HN.out y hy
            · simp only [List.mem_singleton] at hy
              rw [hy]; exact HB.out
          · rw [HM.out, HW.out]
            exact World.drewN_drewN _ _ _
        case measure => simp [intOf]; omega
    · obtain rfl : k = xs.length := by omega
      clear hwr hno
      go_wp2_with fail
      go_ret
      exact ⟨⟨n, HW.out⟩, .inl ⟨rfl, fun y hy => HN.out y (by rw [List.take_length]; exact hy)⟩⟩

theorem below_setCells {B g : Nat} {w : World} (hg : B ≤ g) (vs : List Value) : ∀ (o : Nat) (wr : World), Below B w wr → Below B w (wr.setCells g o vs) := by
  induction vs with
  | nil => intro o wr h; exact h
  | cons v r ih => intro o wr h; exact ih _ _ (h.setCell (p := ⟨g, o, none⟩) hg _)
theorem without_none {xs : List Int} {s : Nat} (h : ∀ y ∈ xs, Plain.inB s y = false) : Plain.without xs s = xs := by
  rw [Plain.without, List.filter_eq_self]
  intro y hy
  simp [h y hy]
/-- The loop's relation: i numbers of the first j are kept, in front; behind j the row is as it was. -/
def Del (xs : List Int) (s B g cap i j : Nat) (w wr : World) : Prop :=
  ∃ ys : List Int, ys.length = xs.length ∧ wr.ownsRow B 3 1 (.slice (some ⟨g, 0, none⟩) xs.length cap) xs.length (nums ys) ∧ i = (Plain.without (xs.take j) s).length ∧ ys.take i = Plain.without (xs.take j) s ∧ (∀ t, j ≤ t → ys[t]? = xs[t]?) ∧ i < j ∧ Below B w wr
theorem Del.start {xs : List Int} {s B g cap k : Nat} {x : Int} {w : World} (n : Nat) (ho : w.ownsRow B 3 1 (.slice (some ⟨g, 0, none⟩) xs.length cap) xs.length (nums xs)) (hx : xs[k]? = some x) (hd : Plain.inB s x = true) (hk : ∀ y ∈ xs.take k, Plain.inB s y = false) : Del xs s B g cap k (k + 1) w (w.drewN n) := by
  have hlt := at_lt hx
  have he : Plain.without (xs.take (k + 1)) s = xs.take k := by rw [Plain.without_take s hx, if_pos hd, without_none hk]
  refine ⟨xs, rfl, ho, ?_, ?_, fun t _ => rfl, by omega, below_drewN (Below.refl _ _) n⟩
  · rw [he]; simp; omega
  · rw [he]
theorem Del.later {xs : List Int} {s B g cap i j n : Nat} {w wr w1 : World} (h : Del xs s B g cap i j w wr) (e : w1 = wr.drewN n) : Del xs s B g cap i j w w1 := by
  subst e
  obtain ⟨ys, h1, h2, h3, h4, h5, h6, h7⟩ := h
  exact ⟨ys, h1, h2, h3, h4, h5, h6, below_drewN h7 n⟩
theorem Del.skip {xs : List Int} {s B g cap i j : Nat} {x : Int} {w wr : World} (h : Del xs s B g cap i j w wr) (hx : xs[j]? = some x) (hd : Plain.inB s x = true) : Del xs s B g cap i (j + 1) w wr := by
  obtain ⟨ys, h1, h2, h3, h4, h5, h6, h7⟩ := h
  have he : Plain.without (xs.take (j + 1)) s = Plain.without (xs.take j) s := by rw [Plain.without_take s hx, if_pos hd]
  exact ⟨ys, h1, h2, by rw [he]; exact h3, by rw [he]; exact h4, fun t ht => h5 t (by omega), by omega, h7⟩
theorem Del.keep {xs : List Int} {s B g cap i j : Nat} {x : Int} {w wr : World} (hB : B ≤ g) (h : Del xs s B g cap i j w wr) (hx : xs[j]? = some x) (hd : Plain.inB s x = false) : Del xs s B g cap (i + 1) (j + 1) w (wr.setCell ⟨g, i, none⟩ (.int .i64 x)) := by
  obtain ⟨ys, h1, h2, h3, h4, h5, h6, h7⟩ := h
  have hlt := at_lt hx
  have he : Plain.without (xs.take (j + 1)) s = Plain.without (xs.take j) s ++ [x] := by rw [Plain.without_take s hx, if_neg (by simp [hd])]
  refine ⟨ys.set i x, by simpa using h1, ?_, by rw [he]; simp; omega, ?_, fun t ht => ?_, by omega, h7.setCell (p := ⟨g, i, none⟩) hB _⟩
  · rw [← nums_set]
    exact (World.ownsRow.stored h2 i (.int .i64 x)).1
  · rw [he, List.take_add_one, List.getElem?_set_self (by omega), List.take_set_of_le (Nat.le_refl _), h4]
    rfl
  · rw [List.getElem?_set_ne (by omega), h5 t (by omega)]
theorem Del.cell {xs : List Int} {s B g cap i j : Nat} {x : Int} {w wr : World} (h : Del xs s B g cap i j w wr) (hx : xs[j]? = some x) : wr.cell? ⟨g, j, none⟩ = some (.int .i64 x) := by
  obtain ⟨ys, h1, h2, h3, h4, h5, h6, h7⟩ := h
  have hlt := at_lt hx
  rw [World.ownsRow.cellAt h2 j (by omega), nums_at ((h5 j (Nat.le_refl _)).trans hx)]
theorem Del.room {xs : List Int} {s B g cap i j t : Nat} {w wr : World} (h : Del xs s B g cap i j w wr) (ht : t < xs.length) : (∃ u, wr.cell? ⟨g, t, none⟩ = some (.int .i64 u)) ∧ wr.frozen? ⟨g, t, none⟩ = false := by
  obtain ⟨ys, h1, h2, h3, h4, h5, h6, h7⟩ := h
  obtain ⟨u, hu⟩ := at_some ys t (by omega)
  exact ⟨⟨u, by rw [World.ownsRow.cellAt h2 t (by omega), nums_at hu]⟩, World.ownsRow.frozenAt h2 _⟩
theorem Del.done {xs : List Int} {s B g cap i : Nat} {w wr : World} (hB : B ≤ g) (h : Del xs s B g cap i xs.length w wr) (vs : List Value) : i = (Plain.without xs s).length ∧ Ints (wr.setCells g i vs) (some ⟨g, 0, none⟩) (Plain.without xs s) ∧ Below B w (wr.setCells g i vs) := by
  obtain ⟨ys, h1, h2, h3, h4, h5, h6, h7⟩ := h
  rw [List.take_length] at h3 h4
  refine ⟨h3, fun t x hx => ⟨g, 0, rfl, ?_⟩, below_setCells hB vs _ _ h7⟩
  have ht := at_lt hx
  rw [Nat.zero_add, World.cell?_setCells_out g vs i wr ⟨g, t, none⟩ (fun _ _ => .inl (by show t < i; omega)), World.ownsRow.cellAt h2 t (by omega)]
  refine nums_at ?_
  rw [← h4, List.getElem?_take_of_lt (by omega)] at hx
  exact hx

/-- What is kept of a row that is the call's own. -/
def DelPost (xs : List Int) (s B : Nat) (w : World) (e : Ending) (w' : World) : Prop := ∃ a c, e = .returned (.slice a (Plain.without xs s).length c) ∧ Ints w' a (Plain.without xs s) ∧ Below B w w'
theorem del_same {xs : List Int} {s B : Nat} {a : Option Addr} {c n : Nat} {w : World} (h : Ints w a xs) (hk : ∀ y ∈ xs, Plain.inB s y = false) : DelPost xs s B w (.returned (.slice a xs.length c)) (w.drewN n) := by
  unfold DelPost
  rw [without_none hk]
  exact ⟨a, c, rfl, h.drewN n, below_drewN (Below.refl _ _) n⟩
set_option maxRecDepth 100000 in
set_option maxHeartbeats 800000 in
theorem delete_any (v : Value) (xs : List Int) (s p B : Nat) (w : World) (ho : w.ownsRow B 3 1 v xs.length (nums xs)) (hl : Hid (Plain.Letters xs)) (hn : xs.length ≤ 1048576) (hs : s < 64) (hg : Hid (w.cell? ⟨p, 0, none⟩ = some (.int .i64 (s : Int)))) (hp : p < B) :
    Calls Try.prog 82 #[v, .func (.func 84) #[] #[.pointer (some ⟨p, 0, none⟩)]] w (DelPost xs s B w) := by
  obtain ⟨a, cap, rfl, hI, hO, hC⟩ := owns_ints ho
  have HI := Lib.hid hI
  have HC := Lib.hid hC
  have HO := Lib.hid ho
  clear hI hC hO ho
  go_enter Try.func82, Try.ntmps82
  go_wp2_with fail
  refine (index_any a cap xs s p _ HI hl hn hs hg).mono ?_
  rintro e w1 ⟨⟨n, hw1⟩, ⟨rfl, hno⟩ | ⟨k, x, rfl, hx, hd, hno⟩⟩
  · have HR : Hid (DelPost xs s B w (.returned (.slice a xs.length cap)) w1) := Lib.hid (by rw [hw1]; exact del_same HI.out hno)
    clear hno hw1
    go_wp2_with fail
    go_ret
    exact HR.out
  · obtain ⟨g, z, rfl, -⟩ := HI.out k x hx
    have hz : z = 0 := by
      obtain ⟨-, ⟨h1, -⟩ | ⟨g', cap', cur, h1, -⟩⟩ := HO.out
      · cases h1
      · simp only [Value.slice.injEq, Option.some.injEq, Addr.mk.injEq] at h1; exact h1.1.2.1
    subst hz
    have hB : B ≤ g := (World.ownsRow.lt HO.out g rfl).1
    have hk := at_lt hx
    have hcap := HC.out.1
    have hcap2 := HC.out.2.1
    have HD : Hid (Del xs s B g cap k (k + 1) w w1) := Lib.hid (by rw [hw1]; exact Del.start n HO.out hx hd hno)
    have hne : ((k : Int) == -1) = false := beq_eq_false_iff_ne.2 (by omega)
    clear hno hw1 hx hd
    go_wp2_with fail
    go_loopw [5, 6] (fun u v wr => ∃ i j : Nat, u = .int .i64 i ∧ v = .int .i64 j ∧ j ≤ xs.length ∧ Del xs s B g cap i j w wr) (fun _ v _ => xs.length - (intOf v).toNat)
    case atStart => exact ⟨k, k + 1, rfl, by go_num, by omega, HD.out⟩
    case round =>
      obtain ⟨i, j, rfl, rfl, hj, hrel⟩ := hrel
      have hij : i < j := by obtain ⟨_, _, _, _, _, _, h, _⟩ := hrel; exact h
      by_cases hlt : j < xs.length
      · obtain ⟨x, hx⟩ := at_some xs j hlt
        have hc := hrel.cell hx
        have HX := Lib.hid hx
        have HL := Lib.hid (hl.out.at hx)
        have HR := Lib.hid hrel
        have HG : Hid (wr.cell? ⟨p, 0, none⟩ = some (.int .i64 (s : Int))) := Lib.hid (by
          obtain ⟨_, _, _, _, _, _, _, hb⟩ := hrel
          exact (hb.cell (p := ⟨p, 0, none⟩) hp).trans hg.out)
        have hi : (j : Int) < (xs.length : Int) := by omega
        have hi0 : (0 : Int) ≤ (j : Int) := by omega
        have hii : (i : Int) < (xs.length : Int) := by omega
        have hii0 : (0 : Int) ≤ (i : Int) := by omega
        clear hx hrel
        go_wp2_with fail
        refine (drops_any s x p _ hs HL.out HG.out).mono ?_
        cases hb : Plain.inB s x with
        | true =>
          rintro e w2 ⟨rfl, m, hm⟩
          have HR2 := Lib.hid ((HR.out.later hm).skip HX.out hb)
          clear hm hb
          go_wp2_with fail
          go_roundw
          case rel => exact ⟨i, j + 1, rfl, by go_num, by omega, HR2.out⟩
          case measure => simp [intOf]; omega
        | false =>
          rintro e w2 ⟨rfl, m, hm⟩
          have HR2 := Lib.hid ((HR.out.later hm).keep hB HX.out hb)
          obtain ⟨⟨u, hu⟩, hf⟩ := (HR.out.later hm).room (t := i) (by omega)
          clear hm hb hc
          go_wp2_with fail
          go_roundw
          case rel => exact ⟨i + 1, j + 1, by go_num, by go_num, by omega, HR2.out⟩
          case measure => simp [intOf]; omega
      · obtain rfl : j = xs.length := by omega
        have hcl : ∀ ty, (Builtin.clear_ #[70] ty #[.slice (some ⟨g, i, none⟩) (xs.length - i) (cap - i)]).run Try.prog wr = .ok (.tuple #[]) (wr.setCells g i (List.replicate (xs.length - i) (.int .i64 0))) :=
          fun ty => Lib.run_clear_slice wr _ 3 ty (.int .i64 0) Try.underlying70 Try.zeroValue3 rfl rfl g i _ _ (by omega) (fun t ht => by obtain ⟨⟨u, hu⟩, -⟩ := hrel.room (t := i + t) (by omega); rw [hu]; rfl) (fun t ht => (hrel.room (t := i + t) (by omega)).2)
        have HE := Lib.hid (hrel.done hB (List.replicate (xs.length - i) (.int .i64 0)))
        clear hrel
        go_wp2_with fail
        go_ret
        refine ⟨some ⟨g, 0, none⟩, cap, ?_, HE.out.2.1, HE.out.2.2⟩
        rw [← HE.out.1]
        rfl

set_option maxRecDepth 100000 in
set_option maxHeartbeats 800000 in
theorem without_any (a : Option Addr) (cap : Nat) (xs : List Int) (s : Nat) (w : World) (h : Hid (Ints w a xs)) (hl : Hid (Plain.Letters xs)) (hn : xs.length ≤ 1048576) (hs : s < 64) :
    Calls Try.prog 75 #[.slice a xs.length cap, .int .i64 (s : Int)] w (ListPost (Plain.takeOut xs s) w) := by
  have hb0 := (Below.refl w.heap.size w).alloc (Nat.le_refl _) (.cells #[.int .i64 (s : Int)] 3)
  have HI := Lib.hid (h.out.on hb0)
  have HB := Lib.hid hb0
  have hc0 : (w.alloc (.cells #[.int .i64 (s : Int)] 3)).cell? ⟨w.heap.size, 0, none⟩ = some (.int .i64 (s : Int)) := by simp
  have HC := Lib.hid hc0
  have hsz : (w.alloc (.cells #[.int .i64 (s : Int)] 3)).heap.size = w.heap.size + 1 := by simp
  have HZ := Lib.hid hsz
  have hle := Plain.without_le xs s
  have HL := Lib.hid (hl.out.without s)
  clear hb0 hc0 hsz
  go_enter Try.func75, Try.ntmps75
  go_wp2_with fail
  obtain ⟨W, hW⟩ : ∃ W, W = w.alloc (.cells #[.int .i64 (s : Int)] 3) := ⟨_, rfl⟩
  rw [← hW] at HI HB HC HZ ⊢
  clear hW
  refine (clone_any a cap xs _ HI hn).mono ?_
  rintro e w1 ⟨v, rfl, hown, hb1⟩
  have HO : Hid (w1.ownsRow (w.heap.size + 1) 3 1 v xs.length (nums xs)) := Lib.hid (by rw [← HZ.out]; exact hown)
  have HB1 := Lib.hid (HB.out.trans (hb1.mono (by rw [HZ.out]; omega)))
  have HC1 : Hid (w1.cell? ⟨w.heap.size, 0, none⟩ = some (.int .i64 (s : Int))) := Lib.hid (cell_later hb1 HC.out)
  clear hown hb1
  go_wp2_with fail
  refine (delete_any v xs s w.heap.size (w.heap.size + 1) _ HO.out hl hn hs HC1 (by omega)).mono ?_
  rintro e w2 ⟨a2, c2, rfl, hi2, hb2⟩
  have HI2 := Lib.hid hi2
  have HB2 := Lib.hid (HB1.out.trans (hb2.mono (by omega)))
  clear hi2 hb2
  obtain ⟨L, hL⟩ : ∃ L, L = Plain.without xs s := ⟨_, rfl⟩
  have HT : Hid (Plain.red L = Plain.takeOut xs s) := Lib.hid (by rw [hL]; rfl)
  rw [← hL] at HI2 HL hle ⊢
  clear hL
  go_wp2_with fail
  refine (reduced_any a2 c2 L _ HI2 HL (by omega)).mono ?_
  rintro e w3 ⟨v3, rfl, hr, hb3⟩
  have HO3 := Lib.hid (And.intro (hr.mono HB2.out.size) (HB2.out.trans (hb3.mono HB2.out.size)))
  rw [HT.out] at HO3
  clear hr hb3
  go_wp2_with fail
  go_ret
  exact ⟨_, rfl, HO3.out.1, HO3.out.2⟩

end Go.Proofs.Ytpaijobmoddgpab
