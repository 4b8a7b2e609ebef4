/- Contracts: slices.IndexFunc and DeleteFunc at lists of ints and any test that keeps a statement of the world and leaves alone what lies from a block on. Conditions: a row of the call's own, lengths that fit. -/
import Derived.Test.YtpaijobmoddgpabLawKit
import Derived.Test.YtpaijobmoddgpabFallSpec
import Derived.Laws.IdiomCopy
import Derived.Lib.SliceRun
namespace Go.Proofs.Ytpaijobmoddgpab
open Go.ChangeShapes Go.WideShapes Go.ChangeAt Go.RowKit
set_option linter.unusedVariables false

/-- A test that may be asked for each number of the list wherever I holds; I is kept, and so is what lies from B on. -/
structure Asks (g : Nat) (bs cs : Array Value) (f : Int → Bool) (xs : List Int) (B : Nat) (I : World → Prop) : Prop where
  enters : ∀ args w, (callFunc g args).run Try.prog w = .ok (.enter g args) w
  call : ∀ x W, x ∈ xs → I W → Calls Try.prog g (bs ++ #[.int .i64 x] ++ cs) W fun e W' => e = .returned (.bool (f x)) ∧ I W' ∧ ∃ row, W.grownBy W' row ∧ ∀ j, row = some j → j < B
  set : ∀ W b o v, B ≤ b → I W → I (W.setCell ⟨b, o, none⟩ v)
theorem own_kept {w w' : World} {B n : Nat} {v : Value} {l : List Value} {row : Option Nat} (h : w.ownsRow B 3 1 v n l) (hg : w.grownBy w' row) (hr : ∀ j, row = some j → j < B) : w'.ownsRow B 3 1 v n l := by
  refine h.kept hg ?_
  cases hv : v.ownBlock with
  | none => exact .inl rfl
  | some b =>
    have := (h.lt b hv).1
    refine .inr fun e => ?_
    have := hr b e.symm
    omega
theorem snoc_take {xs : List Int} {k : Nat} {x : Int} (h : xs[k]? = some x) : xs.take (k + 1) = xs.take k ++ [x] := by
  have hlt := at_lt h
  rw [List.take_add_one, h]; rfl
/-- What is kept of a list. -/
def keepL (f : Int → Bool) (xs : List Int) : List Int := xs.filter fun x => !f x
theorem keepL_take {f : Int → Bool} {xs : List Int} {k : Nat} {x : Int} (h : xs[k]? = some x) : keepL f (xs.take (k + 1)) = if f x = true then keepL f (xs.take k) else keepL f (xs.take k) ++ [x] := by
  rw [snoc_take h, keepL, List.filter_append, keepL]
  cases hb : f x <;> simp [hb]
theorem keepL_none {f : Int → Bool} {xs : List Int} (h : ∀ y ∈ xs, f y = false) : keepL f xs = xs := by
  rw [keepL, List.filter_eq_self]
  intro y hy
  simp [h y hy]
theorem keepL_le (f : Int → Bool) (xs : List Int) : (keepL f xs).length ≤ xs.length := List.length_filter_le _ _
/-- Behind the search: the first number that passes, or none. -/
def FoundI (xs : List Int) (f : Int → Bool) (B : Nat) (I : World → Prop) (v : Value) (e : Ending) (w' : World) : Prop :=
  I w' ∧ w'.ownsRow B 3 1 v xs.length (nums xs) ∧ ((e = .returned (.int .i64 (-1)) ∧ ∀ y ∈ xs, f y = false) ∨ ∃ (k : Nat) (x : Int), e = .returned (.int .i64 (k : Int)) ∧ xs[k]? = some x ∧ f x = true ∧ ∀ y ∈ xs.take k, f y = false)
set_option maxHeartbeats 800000 in
theorem indexI_any (g : Nat) (bs cs : Array Value) (f : Int → Bool) (B : Nat) (I : World → Prop) (a : Option Addr) (cap : Nat) (xs : List Int) (w : World) (h : Hid (w.ownsRow B 3 1 (.slice a xs.length cap) xs.length (nums xs))) (hn : xs.length ≤ 1048576) (hA : Hid (Asks g bs cs f xs B I)) (hI : Hid (I w)) :
    Calls Try.prog 87 #[.slice a xs.length cap, .func (.func g) bs cs] w (FoundI xs f B I (.slice a xs.length cap)) := by
  have eg := hA.out.enters
  go_enter Try.func87, Try.ntmps87
  go_wp2_with fail
  go_loopw [8] (fun i wr => ∃ k : Nat, k ≤ xs.length ∧ i = .int .i64 k ∧ (∀ y ∈ xs.take k, f y = false) ∧ I wr ∧ wr.ownsRow B 3 1 (.slice a xs.length cap) xs.length (nums xs)) (fun i _ => xs.length - (intOf i).toNat)
  case atStart => exact ⟨0, Nat.zero_le _, rfl, by simp, hI.out, h.out⟩
  case round =>
    obtain ⟨k, hk, rfl, hno, hi1, ho1⟩ := hrel
    have HN := Lib.hid hno
    have HI := Lib.hid hi1
    have HO := Lib.hid ho1
    clear hi1 hno ho1
    by_cases hlt : k < xs.length
    · obtain ⟨x, hx⟩ := at_some xs k hlt
      obtain ⟨a', c', he, hin, -⟩ := owns_ints HO.out
      cases he
      obtain ⟨b, o, rfl, hc⟩ := hin k x hx
      have HX := Lib.hid hx
      have hcall := hA.out.call x wr (List.mem_of_getElem? hx) HI.out
      have hi : (k : Int) < (xs.length : Int) := by omega
      have hi0 : (0 : Int) ≤ (k : Int) := by omega
      clear hx hin
      go_wp2_with fail
      refine hcall.mono ?_
      clear hcall
      cases hb : f x with
      | true =>
        have HB := Lib.hid hb
        clear hb
        rintro e w' ⟨rfl, hi2, row, hg, hr⟩
        have HI2 := Lib.hid hi2
        have HO2 := Lib.hid (own_kept HO.out hg hr)
        clear hi2 hg hr
        go_wp2_with fail
        go_ret
        exact ⟨HI2.out, HO2.out, .inr ⟨k, x, rfl, HX.out, HB.out, HN.out⟩⟩
      | false =>
        have HB := Lib.hid hb
        clear hb
        rintro e w' ⟨rfl, hi2, row, hg, hr⟩
        have HI2 := Lib.hid hi2
        have HO2 := Lib.hid (own_kept HO.out hg hr)
        clear hi2 hg hr
        go_wp2_with fail
        go_roundw
        case rel =>
          refine ⟨k + 1, by omega, by go_num, ?_, HI2.out, HO2.out⟩
          rw [snoc_take HX.out]
          intro y hy
          rcases List.mem_append.1 hy with hy | hy
          · exact HN.out y hy
          · simp only [List.mem_singleton] at hy
            rw [hy]; exact HB.out
        case measure => simp [intOf]; omega
    · obtain rfl : k = xs.length := by omega
      go_wp2_with fail
      go_ret
      exact ⟨HI.out, HO.out, .inl ⟨rfl, fun y hy => HN.out y (by rw [List.take_length]; exact hy)⟩⟩

/-- The loop's relation: i numbers of the first j are kept, in front; behind j the row is as it was. -/
def DelI (xs : List Int) (f : Int → Bool) (B g cap i j : Nat) (wr : World) : Prop :=
  ∃ ys : List Int, ys.length = xs.length ∧ wr.ownsRow B 3 1 (.slice (some ⟨g, 0, none⟩) xs.length cap) xs.length (nums ys) ∧ i = (keepL f (xs.take j)).length ∧ ys.take i = keepL f (xs.take j) ∧ (∀ t, j ≤ t → ys[t]? = xs[t]?) ∧ i < j
theorem DelI.start {xs : List Int} {f : Int → Bool} {B g cap k : Nat} {x : Int} {w : World} (ho : w.ownsRow B 3 1 (.slice (some ⟨g, 0, none⟩) xs.length cap) xs.length (nums xs)) (hx : xs[k]? = some x) (hd : f x = true) (hk : ∀ y ∈ xs.take k, f y = false) : DelI xs f B g cap k (k + 1) w := by
  have hlt := at_lt hx
  have he : keepL f (xs.take (k + 1)) = xs.take k := by rw [keepL_take hx, if_pos hd, keepL_none hk]
  refine ⟨xs, rfl, ho, ?_, ?_, fun t _ => rfl, by omega⟩
  · rw [he]; simp; omega
  · rw [he]
theorem DelI.later {xs : List Int} {f : Int → Bool} {B g cap i j : Nat} {wr w1 : World} {row : Option Nat} (h : DelI xs f B g cap i j wr) (hg : wr.grownBy w1 row) (hr : ∀ j, row = some j → j < B) : DelI xs f B g cap i j w1 := by
  obtain ⟨ys, h1, h2, h3, h4, h5, h6⟩ := h
  exact ⟨ys, h1, own_kept h2 hg hr, h3, h4, h5, h6⟩
theorem DelI.skip {xs : List Int} {f : Int → Bool} {B g cap i j : Nat} {x : Int} {wr : World} (h : DelI xs f B g cap i j wr) (hx : xs[j]? = some x) (hd : f x = true) : DelI xs f B g cap i (j + 1) wr := by
  obtain ⟨ys, h1, h2, h3, h4, h5, h6⟩ := h
  have he : keepL f (xs.take (j + 1)) = keepL f (xs.take j) := by rw [keepL_take hx, if_pos hd]
  exact ⟨ys, h1, h2, by rw [he]; exact h3, by rw [he]; exact h4, fun t ht => h5 t (by omega), by omega⟩
theorem DelI.keep {xs : List Int} {f : Int → Bool} {B g cap i j : Nat} {x : Int} {wr : World} (h : DelI xs f B g cap i j wr) (hx : xs[j]? = some x) (hd : f x = false) : DelI xs f B g cap (i + 1) (j + 1) (wr.setCell ⟨g, i, none⟩ (.int .i64 x)) := by
  obtain ⟨ys, h1, h2, h3, h4, h5, h6⟩ := h
  have hlt := at_lt hx
  have he : keepL f (xs.take (j + 1)) = keepL f (xs.take j) ++ [x] := by rw [keepL_take hx, if_neg (by simp [hd])]
  refine ⟨ys.set i x, by simpa using h1, ?_, by rw [he]; simp; omega, ?_, fun t ht => ?_, by omega⟩
  · rw [← nums_set]
    exact (World.ownsRow.stored h2 i (.int .i64 x)).1
  · rw [he, List.take_add_one, List.getElem?_set_self (by omega), List.take_set_of_le (Nat.le_refl _), h4]
    rfl
  · rw [List.getElem?_set_ne (by omega), h5 t (by omega)]
theorem DelI.cell {xs : List Int} {f : Int → Bool} {B g cap i j : Nat} {x : Int} {wr : World} (h : DelI xs f B g cap i j wr) (hx : xs[j]? = some x) : wr.cell? ⟨g, j, none⟩ = some (.int .i64 x) := by
  obtain ⟨ys, h1, h2, h3, h4, h5, h6⟩ := h
  have hlt := at_lt hx
  rw [World.ownsRow.cellAt h2 j (by omega), nums_at ((h5 j (Nat.le_refl _)).trans hx)]
theorem DelI.room {xs : List Int} {f : Int → Bool} {B g cap i j t : Nat} {wr : World} (h : DelI xs f B g cap i j wr) (ht : t < xs.length) : (∃ u, wr.cell? ⟨g, t, none⟩ = some (.int .i64 u)) ∧ wr.frozen? ⟨g, t, none⟩ = false := by
  obtain ⟨ys, h1, h2, h3, h4, h5, h6⟩ := h
  obtain ⟨u, hu⟩ := at_some ys t (by omega)
  exact ⟨⟨u, by rw [World.ownsRow.cellAt h2 t (by omega), nums_at hu]⟩, World.ownsRow.frozenAt h2 _⟩
theorem own_zeros {w : World} {B g cap n : Nat} : ∀ (k i : Nat) (ys : List Int) (w : World), ys.length = n → w.ownsRow B 3 1 (.slice (some ⟨g, 0, none⟩) n cap) n (nums ys) → i + k = n →
    ∃ zs : List Int, zs.length = n ∧ (w.setCells g i (List.replicate k (.int .i64 0))).ownsRow B 3 1 (.slice (some ⟨g, 0, none⟩) n cap) n (nums zs) ∧ zs.take i = ys.take i
  | 0, i, ys, w, hl, h, e => ⟨ys, hl, h, rfl⟩
  | k + 1, i, ys, w, hl, h, e => by
    have h2 := (World.ownsRow.stored h i (.int .i64 0)).1
    rw [nums_set] at h2
    obtain ⟨zs, z1, z2, z3⟩ := own_zeros (w := w) k (i + 1) (ys.set i 0) _ (by simpa using hl) h2 (by omega)
    refine ⟨zs, z1, z2, ?_⟩
    have := congrArg (List.take i) z3
    rw [List.take_take, List.take_take, Nat.min_eq_left (by omega), List.take_set_of_le (Nat.le_refl _)] at this
    exact this
theorem own_front {w : World} {B g cap n i : Nat} {ys : List Int} (h : w.ownsRow B 3 1 (.slice (some ⟨g, 0, none⟩) n cap) n (nums ys)) (hl : ys.length = n) (hi : i ≤ n) : w.ownsRow B 3 1 (.slice (some ⟨g, 0, none⟩) i cap) i (nums (ys.take i)) := by
  obtain ⟨h1, ⟨h2, -⟩ | ⟨g', cap', cur, h2, h3, h4, h5, h6, h7, h8⟩⟩ := h
  · cases h2
  · simp only [Value.slice.injEq, Option.some.injEq, Addr.mk.injEq] at h2
    obtain ⟨⟨rfl, -, -⟩, -, rfl⟩ := h2
    refine ⟨by simp [nums]; omega, .inr ⟨g, cap, cur, rfl, h3, h4, by omega, h6, h7, ?_⟩⟩
    have e : nums (ys.take i) = (nums ys).take i := by simp [nums]
    rw [e]
    have h9 := congrArg (List.take i) h8
    rw [List.take_take] at h9
    rw [← h9]
    congr 1
    omega
theorem DelI.done {xs : List Int} {f : Int → Bool} {B g cap i : Nat} {wr : World} (h : DelI xs f B g cap i xs.length wr) (hi : i ≤ xs.length) : i = (keepL f xs).length ∧ (wr.setCells g i (List.replicate (xs.length - i) (.int .i64 0))).ownsRow B 3 1 (.slice (some ⟨g, 0, none⟩) (keepL f xs).length cap) (keepL f xs).length (nums (keepL f xs)) := by
  obtain ⟨ys, h1, h2, h3, h4, h5, h6⟩ := h
  rw [List.take_length] at h3 h4
  refine ⟨h3, ?_⟩
  obtain ⟨zs, z1, z2, z3⟩ := own_zeros (w := wr) (xs.length - i) i ys wr h1 h2 (by omega)
  have := own_front z2 z1 hi
  rw [z3, h4, h3] at this
  rw [← h3] at this ⊢
  exact this
theorem set_cells {B g : Nat} {I : World → Prop} (hB : B ≤ g) (hs : ∀ W b o v, B ≤ b → I W → I (W.setCell ⟨b, o, none⟩ v)) (vs : List Value) : ∀ (o : Nat) (W : World), I W → I (W.setCells g o vs) := by
  induction vs with
  | nil => intro o W h; exact h
  | cons v r ih => intro o W h; exact ih _ _ (hs _ _ _ _ hB h)
/-- What is kept of a row that is the call's own. -/
def KeepPost (L : List Int) (B : Nat) (I : World → Prop) (e : Ending) (w' : World) : Prop := ∃ v, e = .returned v ∧ w'.ownsRow B 3 1 v L.length (nums L) ∧ I w'
set_option maxRecDepth 100000 in
set_option maxHeartbeats 800000 in
theorem deleteI_any (g0 : Nat) (bs cs : Array Value) (f : Int → Bool) (B : Nat) (I : World → Prop) (v : Value) (xs : List Int) (w : World) (ho : w.ownsRow B 3 1 v xs.length (nums xs)) (hn : xs.length ≤ 1048576) (hA : Hid (Asks g0 bs cs f xs B I)) (hI : Hid (I w)) :
    Calls Try.prog 79 #[v, .func (.func g0) bs cs] w (KeepPost (keepL f xs) B I) := by
  have eg := hA.out.enters
  obtain ⟨a, cap, rfl, hI0, hO0, hC⟩ := owns_ints ho
  have HI0 := Lib.hid hI0
  have HC := Lib.hid hC
  have HO := Lib.hid ho
  clear hI0 hC hO0 ho
  go_enter Try.func79, Try.ntmps79
  go_wp2_with fail
  refine (indexI_any g0 bs cs f B I a cap xs _ HO hn hA hI).mono ?_
  rintro e w1 ⟨hi1, ho1, ⟨rfl, hno⟩ | ⟨k, x, rfl, hx, hd, hno⟩⟩
  · have HR : Hid (KeepPost (keepL f xs) B I (.returned (.slice a xs.length cap)) w1) := Lib.hid (by rw [keepL_none hno]; exact ⟨_, rfl, ho1, hi1⟩)
    clear hno hi1 ho1
    go_wp2_with fail
    go_ret
    exact HR.out
  · obtain ⟨g, z, rfl, -⟩ := HI0.out k x hx
    have hz : z = 0 := by
      obtain ⟨-, ⟨h1, -⟩ | ⟨g', cap', cur, h1, -⟩⟩ := HO.out
      · cases h1
      · simp only [Value.slice.injEq, Option.some.injEq, Addr.mk.injEq] at h1; exact h1.1.2.1
    subst hz
    have hB : B ≤ g := (World.ownsRow.lt HO.out g rfl).1
    have hk := at_lt hx
    have hcap := HC.out.1
    have hcap2 := HC.out.2.1
    have HD : Hid (DelI xs f B g cap k (k + 1) w1) := Lib.hid (DelI.start ho1 hx hd hno)
    have HI1 := Lib.hid hi1
    have hne : ((k : Int) == -1) = false := beq_eq_false_iff_ne.2 (by omega)
    clear hno hx hd hi1 ho1
    go_wp2_with fail
    go_loopw [5, 6] (fun u v wr => ∃ i j : Nat, u = .int .i64 i ∧ v = .int .i64 j ∧ j ≤ xs.length ∧ DelI xs f B g cap i j wr ∧ I wr) (fun _ v _ => xs.length - (intOf v).toNat)
    case atStart => exact ⟨k, k + 1, rfl, by go_num, by omega, HD.out, HI1.out⟩
    case round =>
      obtain ⟨i, j, rfl, rfl, hj, hrel, hi2⟩ := hrel
      have HI2 := Lib.hid hi2
      clear hi2
      have hij : i < j := by obtain ⟨_, _, _, _, _, _, h⟩ := hrel; exact h
      by_cases hlt : j < xs.length
      · obtain ⟨x, hx⟩ := at_some xs j hlt
        have hc := hrel.cell hx
        have HX := Lib.hid hx
        have HR := Lib.hid hrel
        have hcall := hA.out.call x wr (List.mem_of_getElem? hx) HI2.out
        have hi : (j : Int) < (xs.length : Int) := by omega
        have hi0 : (0 : Int) ≤ (j : Int) := by omega
        have hii : (i : Int) < (xs.length : Int) := by omega
        have hii0 : (0 : Int) ≤ (i : Int) := by omega
        clear hx hrel
        go_wp2_with fail
        refine hcall.mono ?_
        clear hcall
        cases hb : f x with
        | true =>
          rintro e w2 ⟨rfl, hi3, row, hg, hr⟩
          have HR2 := Lib.hid ((HR.out.later hg hr).skip HX.out hb)
          have HI3 := Lib.hid hi3
          clear hb hi3 hg hr
          go_wp2_with fail
          go_roundw
          case rel => exact ⟨i, j + 1, rfl, by go_num, by omega, HR2.out, HI3.out⟩
          case measure => simp [intOf]; omega
        | false =>
          rintro e w2 ⟨rfl, hi3, row, hg, hr⟩
          have HR2 := Lib.hid ((HR.out.later hg hr).keep HX.out hb)
          have hc2 := (HR.out.later hg hr).cell HX.out
          obtain ⟨⟨u, hu⟩, hf⟩ := (HR.out.later hg hr).room (t := i) (by omega)
          have HI3 := Lib.hid (hA.out.set _ g i (.int .i64 x) hB hi3)
          clear hb hc hi3 hg hr
          go_wp2_with fail
          go_roundw
          case rel => exact ⟨i + 1, j + 1, by go_num, by go_num, by omega, HR2.out, HI3.out⟩
          case measure => simp [intOf]; omega
      · obtain rfl : j = xs.length := by omega
        have hcl : ∀ ty, (Builtin.clear_ #[22] ty #[.slice (some ⟨g, i, none⟩) (xs.length - i) (cap - i)]).run Try.prog wr = .ok (.tuple #[]) (wr.setCells g i (List.replicate (xs.length - i) (.int .i64 0))) :=
          fun ty => Lib.run_clear_slice wr _ 3 ty (.int .i64 0) Try.underlying22 Try.zeroValue3 rfl rfl g i _ _ (by omega) (fun t ht => by obtain ⟨⟨u, hu⟩, -⟩ := hrel.room (t := i + t) (by omega); rw [hu]; rfl) (fun t ht => (hrel.room (t := i + t) (by omega)).2)
        have HE := Lib.hid (hrel.done (by omega))
        have HI3 := Lib.hid (set_cells hB hA.out.set (List.replicate (xs.length - i) (.int .i64 0)) i _ HI2.out)
        clear hrel
        go_wp2_with fail
        go_ret
        refine ⟨.slice (some ⟨g, 0, none⟩) i cap, rfl, ?_, HI3.out⟩
        have := HE.out.2
        rw [← HE.out.1] at this ⊢
        exact this

end Go.Proofs.Ytpaijobmoddgpab
