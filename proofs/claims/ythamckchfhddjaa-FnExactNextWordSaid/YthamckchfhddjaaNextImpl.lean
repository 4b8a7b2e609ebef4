/- Contract: impl.word.nextOfLength. Conditions: a reduced word of at most 64 letters of the nails 1..n, n at most 6. -/
import Derived.Test.YthamckchfhddjaaNextSpec
import Derived.Test.YthamckchfhddjaaBackW
import Derived.Test.YthamckchfhddjaaRoundAny
import Derived.Maps.AppendAt
import Derived.Deep.RegionLaw
namespace Go.Proofs.Ythamckchfhddjaa
open Go.RowKit Go.Shelf Go.ChangeShapes Go.WideShapes Go.ChangeAt
set_option linter.unusedVariables false
attribute [local go_sem] Oper.semAt_some

theorem ints_kept {W W' : World} {row : Option Nat} {a : Option Addr} {xs : List Int} (h : Ints W a xs) (hg : W.grownBy W' row) (hrow : ∀ r, row = some r → ∃ o : Obj, W.heap[r]? = some o ∧ o.isCells = false) : Ints W' a xs := fun j x hx => by
  obtain ⟨b, o, e, hc⟩ := h j x hx
  exact ⟨b, o, e, cell_kept hc hg hrow⟩
theorem own_kept {W W' : World} {row : Option Nat} {B : Nat} {a : Option Addr} {xs : List Int} (h : Own B W a xs.length) (hi : Ints W a xs) (hg : W.grownBy W' row) (hrow : ∀ r, row = some r → ∃ o : Obj, W.heap[r]? = some o ∧ o.isCells = false) : Own B W' a xs.length := by
  rcases h with h | ⟨b, o, e, h1, h2, h3⟩
  · exact .inl h
  · by_cases hx : xs.length = 0
    · exact .inl hx
    · obtain ⟨x, hx⟩ := at_some xs 0 (by omega)
      obtain ⟨b', o', e', hc⟩ := hi 0 x hx
      rw [e] at e'
      cases e'
      obtain ⟨ob, hob, hcs⟩ := cells_of_cell hc
      have hblk := grownBy_keeps_cells hg hrow hob hcs
      exact .inr ⟨b, o, e, h1, by have := hg.size; omega, fun j => (World.frozen?_of_block (a := ⟨b, j, none⟩) hblk).trans (h3 j)⟩
theorem res_kept {W W' : World} {row : Option Nat} {B : Nat} {v : Value} {xs : List Int} (h : Res B W v xs) (hg : W.grownBy W' row) (hrow : ∀ r, row = some r → ∃ o : Obj, W.heap[r]? = some o ∧ o.isCells = false) : Res B W' v xs := by
  obtain ⟨a, c, e, h1, h2, h3⟩ := h
  exact ⟨a, c, e, ints_kept h1 hg hrow, own_kept h2 h1 hg hrow, h3⟩
theorem results_cells2 {fn : Func} {p q : Tmp} (h : fn.results = #[.cell p 47, .cell q 4]) (tmps : Array Value) (w : World) (g1 g2 : Nat) (u b : Value) (hp : tmps.getD p undef = .pointer (some ⟨g1, 0, none⟩)) (hq : tmps.getD q undef = .pointer (some ⟨g2, 0, none⟩))
    (c1 : w.cell? ⟨g1, 0, none⟩ = some u) (c2 : w.cell? ⟨g2, 0, none⟩ = some b) : (results fn tmps).run Try.prog w = .ok (.tuple #[u, b]) w := by
  have l1 : (loadVar 47 ⟨g1, 0, none⟩).run Try.prog w = .ok u w := by go_simp
  have l2 : (loadVar 4 ⟨g2, 0, none⟩).run Try.prog w = .ok b w := by go_simp
  have hp' : tmps[p]?.getD undef = .pointer (some ⟨g1, 0, none⟩) := by simpa using hp
  have hq' : tmps[q]?.getD undef = .pointer (some ⟨g2, 0, none⟩) := by simpa using hq
  simp [results, h, hp', hq', asAddr, l1, l2]

theorem res_set {B g : Nat} {w : World} {v u : Value} {xs : List Int} (h : Res B w v xs) (hg : g < B) : Res B (w.setCell ⟨g, 0, none⟩ u) v xs := by
  obtain ⟨a, c, e, h1, h2, h3⟩ := h
  have hgr := grownBy_setCell' w g u
  have key : ∀ b, B ≤ b → b < w.heap.size → (w.setCell ⟨g, 0, none⟩ u).heap[b]? = w.heap[b]? := fun b hb hlt => hgr.block b hlt (fun e => by cases e; omega)
  rcases h2 with h2 | ⟨b, o, rfl, q1, q2, q3⟩
  · exact ⟨a, c, e, fun j x hx => absurd (at_lt hx) (by omega), .inl h2, h3⟩
  · refine ⟨_, c, e, fun j x hx => ?_, .inr ⟨b, o, rfl, q1, by have := hgr.size; omega, fun j => (World.frozen?_of_block (a := ⟨b, j, none⟩) (key _ q1 q2)).trans (q3 j)⟩, h3⟩
    obtain ⟨b', o', e', hc⟩ := h1 j x hx
    cases e'
    exact ⟨_, _, rfl, (World.cell?_of_block (key _ q1 q2)).trans hc⟩
theorem step_append_one {w : World} {ops : Array Oper} {o : Oper} {a : Act} {K : Act → World → Prop} {Q : Exit → Act → World → Prop} {E : Prop} (hgd : o.guard = none) (s x : Operand) (t : TypeId) (i : TypeInfo)
    (ho : o.op = .call { callee := .builtin .append, args := #[s, x], argTypes := #[t, t] }) (ht : Try.prog.underlying t = some (.slice 3))
    (hi : Try.prog.info? 3 = some i) (hz : i.zero = some (.int .i64 0)) (hsize : i.size = 1) (hby : i.bytes = 8)
    (b k off : Nat) (xs : List Int) (hs : a.eval s = .slice (some ⟨b, off, none⟩) k k) (hl : xs.length = k) (holds : Ints w (some ⟨b, off, none⟩) xs) (g : Nat) (y : Int) (hx : a.eval x = .slice (some ⟨g, 0, none⟩) 1 1) (hc : w.cell? ⟨g, 0, none⟩ = some (.int .i64 y)) (hk : k ≤ 1000000)
    (h : ∀ v' w', Coll (xs ++ [y]) w.heap.size w v' w' → K (a.put o.dst v') w') : if Region.wanted o (yielded ops a.tmps) = true then Oper.wp Try.prog o a w K Q else E := by
  have hw : Region.wanted o (yielded ops a.tmps) = true := by simp [Region.wanted, hgd]
  rw [if_pos hw]
  obtain ⟨v', w', hrun, r1, r2⟩ := run_append_arg_grows (P := Try.prog) w t o.type 3 i (.int .i64 0) 1 8 ht hi hz hsize hby rfl (by decide) ⟨b, off, none⟩ k k (nums xs) (by simp [nums, hl]) (fun j u hj => by
      obtain ⟨z, hz'⟩ := at_some xs j (by have := at_lt hj; simpa [nums] using this)
      rw [nums_at hz'] at hj
      cases hj
      obtain ⟨b', o', e, hc'⟩ := holds j z hz'
      cases e
      rw [add_plain]
      exact hc') ⟨g, 0, none⟩ 1 1 [.int .i64 y] rfl (fun j u hj => by
      have : j = 0 := by have := at_lt hj; simp at this; omega
      subst this
      cases hj
      exact hc) (by omega) (by unfold maxLen; omega) (by omega)
  have hC : Coll (xs ++ [y]) w.heap.size w v' w' := ⟨by simpa [nums, hl] using r1, (Below.refl _ _).grown r2 (Nat.le_refl _) (fun q hq => by cases hq), r2.size⟩
  unfold Oper.wp
  simp [execOp, ho, resolve, invoke, builtin, hs, hx, hrun, Result.andThen]
  exact h v' w' hC

/-- A round that found the next letter has left: what lies in the two results. -/
def Found7 (n s0 : Nat) (xs : List Int) (w : World) (ps : List (Spot xs)) (W : World) : Prop :=
  ∃ (pre : List (Spot xs)) (x : Spot xs) (y : Int), ps = pre ++ [x] ∧ (∀ p ∈ pre, Plain.nextAt n (xs.take p.1.1) p.1.2 = none) ∧ Plain.nextAt n (xs.take x.1.1) x.1.2 = some y ∧
    ∃ v, W.cell? ⟨s0 + 1 + 1, 0, none⟩ = some v ∧ W.cell? ⟨s0 + 1 + 1 + 1, 0, none⟩ = some (.bool true) ∧ Res s0 W v (Plain.fillW (xs.length - (x.1.1 + 1)) (xs.take x.1.1 ++ [y])) ∧ Below s0 w W
theorem found_own (n s0 B : Nat) (xs : List Int) (w : World) (hw : s0 ≤ w.heap.size) (hB : s0 ≤ B) : OwnFrom B (Found7 n s0 xs w) := by
  rintro ps W W' row ⟨pre, x, y, e1, e2, e3, v, c1, c2, hres, hb⟩ hg hr
  have hr2 : ∀ r, row = some r → ∃ o : Obj, W.heap[r]? = some o ∧ o.isCells = false := fun r e => (hr r e).2
  exact ⟨pre, x, y, e1, e2, e3, v, cell_kept c1 hg hr2, cell_kept c2 hg hr2, res_kept hres hg hr2, hb.grown hg (Nat.le_trans hw hb.size) (fun k e => Nat.le_trans hB (hr k e).1)⟩
/-- What came so far decides what comes next. -/
theorem next_down {n : Nat} {xs : List Int} : ∀ {k : Nat} {pre : List (Spot xs)}, k ≤ xs.length → places pre = down xs.length k → (∀ p ∈ pre, Plain.nextAt n (xs.take p.1.1) p.1.2 = none) → Plain.nextFrom n xs xs.length = Plain.nextFrom n xs (xs.length - k) := by
  intro k
  induction k with
  | zero => intro pre _ _ _; rfl
  | succ k ih =>
    intro pre hk hp hall
    have hne : pre ≠ [] := fun e => by subst e; have := congrArg List.length hp; rw [down_len] at this; simp [places] at this
    obtain ⟨q, x, rfl⟩ : ∃ q x, pre = q ++ [x] := ⟨_, _, (List.dropLast_concat_getLast hne).symm⟩
    rw [places_snoc, down] at hp
    obtain ⟨hp1, hp2⟩ := List.append_inj' hp rfl
    have hx : x.1.1 = xs.length - 1 - k := by simpa using hp2
    rw [ih (by omega) hp1 (fun p hp => hall p (List.mem_append_left _ hp))]
    have h2 := x.2
    rw [hx] at h2
    have h3 := hall x (by simp)
    rw [hx] at h3
    have := Plain.next_none h2 h3
    rw [show xs.length - 1 - k + 1 = xs.length - k by omega] at this
    rw [this, show xs.length - (k + 1) = xs.length - 1 - k by omega]
theorem down_le {L k : Nat} {ys : List Nat} (h : ys = down L k) (hb : ∀ y ∈ ys, y < L) (hL : ys.length ≤ L) : k ≤ L := by
  have := congrArg List.length h
  rw [down_len] at this
  omega
theorem next_found {n k : Nat} {xs : List Int} {pre : List (Spot xs)} {x : Spot xs} {y : Int} (hk : k ≤ xs.length) (hp : places (pre ++ [x]) = down xs.length k) (hall : ∀ p ∈ pre, Plain.nextAt n (xs.take p.1.1) p.1.2 = none) (hy : Plain.nextAt n (xs.take x.1.1) x.1.2 = some y) :
    Plain.nextFrom n xs xs.length = some (Plain.fillW (xs.length - (x.1.1 + 1)) (xs.take x.1.1 ++ [y])) := by
  rw [places_snoc] at hp
  cases k with
  | zero => simp [down] at hp
  | succ k =>
    rw [down] at hp
    obtain ⟨hp1, hp2⟩ := List.append_inj' hp rfl
    have hx : x.1.1 = xs.length - 1 - k := by simpa using hp2
    rw [next_down (by omega) hp1 hall]
    rw [show xs.length - k = x.1.1 + 1 by omega]
    exact Plain.next_some x.2 hy

set_option maxRecDepth 100000 in
set_option maxHeartbeats 4000000 in
theorem nextOf_any (a : Option Addr) (cap : Nat) (xs : List Int) (n : Nat) (w : World) (h : Hid (Ints w a xs)) (hcap : Hid (Cap a xs.length cap)) (hg : Hid (Plain.Good n xs)) (hL : Hid (Plain.Letters xs)) (hl : xs.length ≤ 64) (h1 : 1 ≤ n) (h6 : n ≤ 6) :
    Calls Try.prog 41 #[.slice a xs.length cap, .int .i64 (n : Int)] w (SB ((Plain.nextFrom n xs xs.length).getD []) (Plain.nextFrom n xs xs.length).isSome w) := by
  obtain ⟨i0, hi0, hz0, hz1, hz2⟩ := info_parts infoInt
  have hcl := hcap.out.1
  have hch := hcap.out.2.1
  refine (callsIn_wide (n := 5)).1 ?_
  refine callsIn_of_wp_marks Try.func41 rfl trivial ?_ rfl
  simp only [Try.ntmps41, List.size_toArray, List.length_cons, List.length_nil, Nat.reduceAdd, Nat.reduceSub, Array.replicate_succ, Array.replicate_zero, List.push_toArray, List.append_toArray, List.nil_append, List.cons_append]
  gi_wp2_with fail
  refine ⟨trivial, ?_⟩
  obtain ⟨W4, hW4⟩ : ∃ W4, W4 = (((w.alloc (Obj.cells #[Value.slice a xs.length cap] 47)).alloc (Obj.cells #[Value.int IntKind.i64 ↑n] 3)).alloc (Obj.cells #[Value.slice none 0 0] 47)).alloc (Obj.cells #[Value.bool false] 4) := ⟨_, rfl⟩
  have hs4 : W4.heap.size = w.heap.size + 4 := by rw [hW4]; simp
  have hb4 : Below w.heap.size w W4 := by rw [hW4]; exact ((((Below.refl _ w).alloc (Nat.le_refl _) _).alloc (by simp) _).alloc (by simp; omega) _).alloc (by simp; omega) _
  have x0 : Boxed W4 w.heap.size 47 (.slice a xs.length cap) := by rw [hW4]; exact (((Boxed.new w _ _).alloc _).alloc _).alloc _
  have x1 : Boxed W4 (w.heap.size + 1) 3 (.int .i64 n) := by
    have b1 := Boxed.new (w.alloc (Obj.cells #[Value.slice a xs.length cap] 47)) 3 (Value.int IntKind.i64 ↑n)
    rw [World.size_alloc] at b1
    rw [hW4]; exact (b1.alloc _).alloc _
  have x2 : Boxed W4 (w.heap.size + 1 + 1) 47 (.slice none 0 0) := by
    have b1 := Boxed.new ((w.alloc (Obj.cells #[Value.slice a xs.length cap] 47)).alloc (Obj.cells #[Value.int IntKind.i64 ↑n] 3)) 47 (Value.slice none 0 0)
    rw [World.size_alloc, World.size_alloc] at b1
    rw [hW4]; exact b1.alloc _
  have x3 : Boxed W4 (w.heap.size + 1 + 1 + 1) 4 (.bool false) := by
    have b1 := Boxed.new (((w.alloc (Obj.cells #[Value.slice a xs.length cap] 47)).alloc (Obj.cells #[Value.int IntKind.i64 ↑n] 3)).alloc (Obj.cells #[Value.slice none 0 0] 47)) 4 (Value.bool false)
    rw [World.size_alloc, World.size_alloc, World.size_alloc] at b1
    rw [hW4]; exact b1
  rw [← hW4]
  clear hW4
  refine (callsIn_wide.2 (backW_made a cap xs.length _)).mono ?_
  rintro e w' ⟨rfl, rfl⟩
  obtain ⟨W5, hW5⟩ : ∃ W5, W5 = W4.alloc (.cells #[.slice a xs.length cap] 47) := ⟨_, rfl⟩
  have hs5 : W5.heap.size = w.heap.size + 5 := by rw [hW5, World.size_alloc, hs4]
  have hb5 : Below w.heap.size w W5 := by rw [hW5]; exact hb4.alloc (by omega) _
  have x4 : Boxed W5 W4.heap.size 47 (.slice a xs.length cap) := by rw [hW5]; exact Boxed.new _ _ _
  have y0 : Boxed W5 w.heap.size 47 (.slice a xs.length cap) := by rw [hW5]; exact x0.alloc _
  have y1 : Boxed W5 (w.heap.size + 1) 3 (.int .i64 n) := by rw [hW5]; exact x1.alloc _
  have y2 : Boxed W5 (w.heap.size + 1 + 1) 47 (.slice none 0 0) := by rw [hW5]; exact x2.alloc _
  have y3 : Boxed W5 (w.heap.size + 1 + 1 + 1) 4 (.bool false) := by rw [hW5]; exact x3.alloc _
  rw [← hW5]
  have HX := Lib.hid (And.intro hs4 (And.intro hs5 (And.intro hb5 (And.intro y0 (And.intro y1 (And.intro y2 (And.intro y3 x4)))))))
  clear hW5 x0 x1 x2 x3 x4 y0 y1 y2 y3 hb4 hb5 hs4 hs5
  gi_wp2_with fail
  refine wpIn_rangeFunc_ownF rfl (by omega) (gf := 59) rfl trivial (enters_of Try.func59 (by kernel_rfl) rfl)
    (backW_stops 4 (by omega) W4.heap.size a cap xs (by omega) W5 (Lib.hid (h.out.on (by have := HX.out.2.2.1; exact this))) (Lib.hid HX.out.2.2.2.2.2.2.2.cell) (by have := HX.out.1; have := HX.out.2.1; omega)) belowK_t (belowK_b (Nat.le_refl _)) (Below.refl _ _) (fun _ => rfl)
    (fun pre W => (∀ p ∈ pre, Plain.nextAt n (xs.take p.1.1) p.1.2 = none) ∧ Below W5.heap.size W5 W)
    (fun c ps W => c = .ret ∧ Found7 n w.heap.size xs w ps W)
    (OwnFrom.and (ownFrom_pure _ _) (ownFrom_below (Nat.le_refl _) (Nat.le_refl _)))
    (fun c => OwnFrom.and (ownFrom_pure _ _) (found_own n w.heap.size _ xs w (Nat.le_refl _) (by have := HX.out.2.1; omega)))
    ⟨fun p hp => (by cases hp), Below.refl _ _⟩ (fun x : Spot xs => { tmps := #[.slice a xs.length cap, .int .i64 (n : Int), .pointer (some { block := w.heap.size, off := 0 }), .pointer (some { block := w.heap.size + 1, off := 0 }), .pointer (some { block := w.heap.size + 1 + 1, off := 0 }), .pointer (some { block := w.heap.size + 1 + 1 + 1, off := 0 }), .int .i64 (x.1.1 : Int), .int .i64 x.1.2, undef, undef, undef, .slice a xs.length cap, .func (Fn.func 59) #[] #[.pointer (some { block := W4.heap.size, off := 0 })], .int .i64 (x.1.1 : Int), .int .i64 x.1.2, undef, undef, undef, undef, undef, undef, undef, undef, undef, undef, undef, undef, undef, undef, undef, undef, undef, undef, undef, undef, undef, undef, undef, undef, undef, undef, undef, undef, undef], defers := [] }) ?assign ?body ?done ?stop
  case assign =>
    intro l x W K hK
    gi_wp2
    exact hK
  case stop =>
    rintro D c ps W hD ⟨k, hkl, hk⟩ ⟨rfl, pre, x, y, rfl, hall, hy, v, c1, c2, hres, hb⟩ hK
    have HE := Lib.hid (next_found hkl hk hall hy)
    have HR := Lib.hid (And.intro c1 (And.intro c2 (And.intro hres (And.intro hb hD))))
    clear hkl hk hall hy c1 c2 hres hb
    gi_wp2
    refine ⟨by simp, .inl ⟨_, _, rfl, run_takeDeferred hK, ?_⟩⟩
    have hk := grownBy_putObj' W D (.deferred none)
    have hr : ∀ r, some D = some r → ∃ o : Obj, W.heap[r]? = some o ∧ o.isCells = false := fun r e => (by cases e; exact ⟨_, hK, rfl⟩)
    exact ⟨_, results_cells2 rfl _ _ _ _ _ _ rfl rfl (cell_kept HR.out.1 hk hr) (cell_kept HR.out.2.1 hk hr), sb_of (by rw [HE.out]; rfl) (by rw [HE.out]; rfl) ⟨_, rfl, res_kept HR.out.2.2.1 hk hr, HR.out.2.2.2.1.trans (belowK_b (w := w) (Nat.le_refl _) W D _ _ (by have := HX.out.2.1; have := HR.out.2.2.2.2; omega) hK rfl rfl)⟩⟩
  case done =>
    rintro D ys W hD hys ⟨hall, hbw⟩ hK
    have HE := Lib.hid (show Plain.nextFrom n xs xs.length = none by rw [next_down (Nat.le_refl _) hys hall, Nat.sub_self]; rfl)
    have z2 : Boxed W (w.heap.size + 1 + 1) 47 (.slice none 0 0) := (hbw.block _ (by have := HX.out.2.1; omega)).trans HX.out.2.2.2.2.2.1
    have z3 : Boxed W (w.heap.size + 1 + 1 + 1) 4 (.bool false) := (hbw.block _ (by have := HX.out.2.1; omega)).trans HX.out.2.2.2.2.2.2.1
    have u2 := z2.alloc (.cells #[] 3)
    have u3 := z3.alloc (.cells #[] 3)
    have t2 := u2.set (.slice (some ⟨W.heap.size, 0, none⟩) 0 0)
    have t3 := u3.other (B' := w.heap.size + 1 + 1) (by omega) (.slice (some ⟨W.heap.size, 0, none⟩) 0 0)
    have q2 := u2.cell
    have q2f := u2.frozen
    have q3 := t3.cell
    have q3f := t3.frozen
    have HZ := Lib.hid (And.intro t2 (And.intro t3 (And.intro hbw hD)))
    clear hall hys hbw z2 z3 u2 u3 t2 t3
    gi_wp2
    have hK7 := (((KeepsOthers.alloc W (.cells #[] 3)).trans (KeepsOthers.setCell _ ⟨w.heap.size + 1 + 1, 0, none⟩ (.slice (some ⟨W.heap.size, 0, none⟩) 0 0))).trans (KeepsOthers.setCell _ ⟨w.heap.size + 1 + 1 + 1, 0, none⟩ (.bool false))).same D _ hK rfl
    have r2 := (HZ.out.1.other (B' := w.heap.size + 1 + 1 + 1) (by omega) (.bool false)).cell
    have r3 := (HZ.out.2.1.set (.bool false)).cell
    have hb7 : Below w.heap.size w (((W.alloc (.cells #[] 3)).setCell ⟨w.heap.size + 1 + 1, 0, none⟩ (.slice (some ⟨W.heap.size, 0, none⟩) 0 0)).setCell ⟨w.heap.size + 1 + 1 + 1, 0, none⟩ (.bool false)) := (((HX.out.2.2.1.trans (HZ.out.2.2.1.mono (by have := HX.out.2.1; omega))).alloc (by have := HX.out.2.1; have := HZ.out.2.2.1.size; omega) _).setCell (p := ⟨w.heap.size + 1 + 1, 0, none⟩) (by simp; omega) _).setCell (p := ⟨w.heap.size + 1 + 1 + 1, 0, none⟩) (by simp; omega) _
    refine ⟨by simp, .inl ⟨_, _, rfl, run_takeDeferred hK7, ?_⟩⟩
    obtain ⟨W7, hW7⟩ : ∃ W7, W7 = (((W.alloc (.cells #[] 3)).setCell ⟨w.heap.size + 1 + 1, 0, none⟩ (.slice (some ⟨W.heap.size, 0, none⟩) 0 0)).setCell ⟨w.heap.size + 1 + 1 + 1, 0, none⟩ (.bool false)) := ⟨_, rfl⟩
    rw [← hW7] at hK7 r2 r3 hb7 ⊢
    have hk := grownBy_putObj' W7 D (.deferred none)
    have hr : ∀ r, some D = some r → ∃ o : Obj, W7.heap[r]? = some o ∧ o.isCells = false := fun r e => (by cases e; exact ⟨_, hK7, rfl⟩)
    exact ⟨_, results_cells2 rfl _ _ _ _ _ _ rfl rfl (cell_kept r2 hk hr) (cell_kept r3 hk hr), sb_of (by rw [HE.out]; rfl) (by rw [HE.out]; rfl) ⟨_, rfl, ⟨_, _, rfl, Ints.nil _ _, .inl rfl, ⟨Nat.le_refl _, Nat.zero_le _, fun e => (by cases e), fun x e => (by cases e; exact ⟨_, _, rfl⟩)⟩⟩, hb7.trans (belowK_b (w := w) (Nat.le_refl _) W7 D _ _ (by have := HX.out.2.1; have := HZ.out.2.2.2; omega) hK7 rfl rfl)⟩⟩
  case body =>
    rintro l pre ⟨⟨i, y0⟩, hx⟩ W ⟨hall, hbw⟩ hlt
    dsimp only
    have hil : i < xs.length := at_lt hx
    have z0 : Boxed W w.heap.size 47 (.slice a xs.length cap) := (hbw.block _ (by have := HX.out.2.1; omega)).trans HX.out.2.2.2.1
    have z1 : Boxed W (w.heap.size + 1) 3 (.int .i64 n) := (hbw.block _ (by have := HX.out.2.1; omega)).trans HX.out.2.2.2.2.1
    have z2 : Boxed W (w.heap.size + 1 + 1) 47 (.slice none 0 0) := (hbw.block _ (by have := HX.out.2.1; omega)).trans HX.out.2.2.2.2.2.1
    have z3 : Boxed W (w.heap.size + 1 + 1 + 1) 4 (.bool false) := (hbw.block _ (by have := HX.out.2.1; omega)).trans HX.out.2.2.2.2.2.2.1
    have hbw0 : Below w.heap.size w W := HX.out.2.2.1.trans (hbw.mono (by have := HX.out.2.1; omega))
    obtain ⟨b0, o0, rfl, -⟩ := (h.out.on hbw0) i y0 hx
    have HI0 : Hid (Ints W (some ⟨b0, o0, none⟩) xs) := Lib.hid (h.out.on hbw0)
    have HT : Hid (Ints W.drew (some ⟨b0, o0, none⟩) (xs.take i)) := Lib.hid (ints_take HI0.out i)
    have HTL := Lib.hid (take_letters hL.out i)
    have HTN : Hid ((xs.take i).length = i) := Lib.hid (by simp; omega)
    have d0 : W.drew.cell? ⟨w.heap.size, 0, none⟩ = some (.slice (some ⟨b0, o0, none⟩) xs.length cap) := z0.cell
    have d1 : W.drew.cell? ⟨w.heap.size + 1, 0, none⟩ = some (.int .i64 n) := z1.cell
    have HZ := Lib.hid (And.intro z0 (And.intro z1 (And.intro z2 (And.intro z3 (And.intro hbw hbw0)))))
    have HA := Lib.hid (And.intro hall hx)
    have hipos : (0 : Int) ≤ (i : Int) := by omega
    have hic : (i : Int) ≤ (cap : Int) := by omega
    clear z0 z1 z2 z3 hbw hbw0 hall
    gi_wp2_with fail
    refine wpIn_mono (region_in (Q := fun e a' w' => match e with | .normal => ∃ v, a' = { tmps := #[.slice (some ⟨b0, o0, none⟩) xs.length cap, .int .i64 (n : Int), .pointer (some { block := w.heap.size, off := 0 }), .pointer (some { block := w.heap.size + 1, off := 0 }), .pointer (some { block := w.heap.size + 1 + 1, off := 0 }), .pointer (some { block := w.heap.size + 1 + 1 + 1, off := 0 }), .int .i64 (i : Int), .int .i64 y0, v, undef, undef, .slice (some ⟨b0, o0, none⟩) xs.length cap, .func (Fn.func 59) #[] #[.pointer (some { block := W4.heap.size, off := 0 })], .int .i64 (i : Int), .int .i64 y0, .slice (some ⟨b0, o0, none⟩) xs.length cap, .int .i64 (i : Int), .slice (some ⟨b0, o0, none⟩) i cap, .int .i64 (n : Int), v, undef, undef, undef, undef, undef, undef, undef, undef, undef, undef, undef, undef, undef, undef, undef, undef, undef, undef, undef, undef, undef, undef, undef, undef], defers := [] } ∧ Coll (Plain.behind (xs.take i) (2 * n)) W.drew.heap.size W.drew v w' | _ => False) (by kernel_rfl) (by kernel_rfl) (fun h => by obtain ⟨_, _, h⟩ := h; exact h) ?walk4) ?cont4
    case walk4 =>
      refine wpAny_take (i := 1) (v := .int .i64 (i : Int)) rfl (by kernel_rfl) (by kernel_rfl) (by kernel_rfl) (fun _ _ _ h => h) (.inl ⟨by kernel_rfl, fun w => by go_simp⟩) ?_
      refine wpAny_ready (rs := [0, 3]) (by kernel_rfl) (by simp) ?_
      refine AllReady.cons rfl (fun K hK => ?_) ?_
      · go_simp
        refine hK _ _ ?_; clear hK K
        refine wpAny_take (i := 2) (v := .slice (some ⟨b0, o0, none⟩) i cap) rfl (by kernel_rfl) (by kernel_rfl) (by kernel_rfl) (fun _ _ _ h => h) (.inl ⟨by kernel_rfl, fun w => by go_simp⟩) ?_
        refine wpAny_ready (rs := [3]) (by kernel_rfl) (by simp) ?_
        refine AllReady.cons rfl (fun K hK => ?_) ?_
        · go_simp
          refine hK _ _ ?_; clear hK K
          refine wpAny_ready (rs := [4]) (by kernel_rfl) (by simp) ?_
          refine AllReady.cons rfl (fun K hK => ?_) ?_
          · go_simp
            go_at_call 32
            refine (behindC_any (some ⟨b0, o0, none⟩) i cap (xs.take i) n _ HT HTL HTN (by omega) h6).mono ?_
            rintro e w1 ⟨v, rfl, hC⟩
            have HC := Lib.hid hC
            clear hC
            refine hK _ _ ?_; clear hK K
            refine wpAny_ready (rs := [5]) (by kernel_rfl) (by simp) ?_
            refine AllReady.cons rfl (fun K hK => ?_) ?_
            · go_simp
              refine hK _ _ ?_; clear hK K
              refine wpAny_done (by kernel_rfl) ?_ _
              exact ⟨_, rfl, HC.out⟩
            exact AllReady.nil

          exact AllReady.nil

        exact AllReady.nil

      refine AllReady.cons rfl (fun K hK => ?_) ?_
      · go_simp
        refine hK _ _ ?_; clear hK K
        refine wpAny_ready (rs := [0]) (by kernel_rfl) (by simp) ?_
        refine AllReady.cons rfl (fun K hK => ?_) ?_
        · go_simp
          refine hK _ _ ?_; clear hK K
          refine wpAny_take (i := 2) (v := .slice (some ⟨b0, o0, none⟩) i cap) rfl (by kernel_rfl) (by kernel_rfl) (by kernel_rfl) (fun _ _ _ h => h) (.inl ⟨by kernel_rfl, fun w => by go_simp⟩) ?_
          refine wpAny_ready (rs := [4]) (by kernel_rfl) (by simp) ?_
          refine AllReady.cons rfl (fun K hK => ?_) ?_
          · go_simp
            go_at_call 32
            refine (behindC_any (some ⟨b0, o0, none⟩) i cap (xs.take i) n _ HT HTL HTN (by omega) h6).mono ?_
            rintro e w1 ⟨v, rfl, hC⟩
            have HC := Lib.hid hC
            clear hC
            refine hK _ _ ?_; clear hK K
            refine wpAny_ready (rs := [5]) (by kernel_rfl) (by simp) ?_
            refine AllReady.cons rfl (fun K hK => ?_) ?_
            · go_simp
              refine hK _ _ ?_; clear hK K
              refine wpAny_done (by kernel_rfl) ?_ _
              exact ⟨_, rfl, HC.out⟩
            exact AllReady.nil

          exact AllReady.nil

        exact AllReady.nil

      exact AllReady.nil
    case cont4 =>
      rintro e a' w' hq
      cases e with
      | normal =>
        obtain ⟨v, rfl, hC⟩ := hq
        have hble := Plain.behind_le (xs.take i) (2 * n)
        obtain ⟨hp1, hp2, hp3⟩ := Plain.good_place hg.out HA.out.2
        have HNOB : Hid (∀ (j : Nat) (y : Int), j < Plain.placeOf (xs.take i) y0 → (Plain.behind (xs.take i) (2 * n))[j]? = some y → y ≠ y0) := Lib.hid (fun j y hj hy e => by
          subst e
          exact Plain.place_first hg.out HA.out.2 hj hy)
        have HNA : Hid (Plain.nextAt n (xs.take i) y0 = (Plain.behind (xs.take i) (2 * n))[Plain.placeOf (xs.take i) y0 + 1]?) := Lib.hid rfl
        obtain ⟨j, hj⟩ : ∃ j, j = Plain.placeOf (xs.take i) y0 := ⟨_, rfl⟩
        obtain ⟨ls, hls⟩ : ∃ ls, ls = Plain.behind (xs.take i) (2 * n) := ⟨_, rfl⟩
        rw [← hj, ← hls] at HNOB HNA
        rw [← hls] at hC hble
        rw [← hls, ← hj] at hp1
        obtain ⟨la, lc, rfl, hil', -, hlc⟩ := (coll_res hC).1
        have hjl := at_lt hp1
        have HLS := Lib.hid hil'
        have HLL := Lib.hid hls
        have HP1 := Lib.hid hp1
        have HB1 : Hid (Below W.heap.size W w') := Lib.hid ((Below.refl _ W).drew.trans (coll_res hC).2)
        have hln : ls.length ≤ 1048576 := by omega
        have hl12 : ls.length ≤ 12 := by omega
        clear hp1 hp2 hp3 hj hls hil' hC hble
        gi_wp2_with fail
        refine ⟨trivial, ?_⟩
        refine (CallsIn.inRound l (callsIn_wide.2 (index_any la lc ls y0 j _ HLS hln HP1 HNOB))).mono ?_
        rintro e w2 ⟨rfl, rfl⟩
        by_cases hlt2 : j + 1 < ls.length
        · have hlI : (j : Int) + 1 < (ls.length : Int) := by omega
          have hj0 : (0 : Int) ≤ (j : Int) := by omega
          obtain ⟨y, hy⟩ := at_some ls (j + 1) hlt2
          obtain ⟨lb, lo, rfl, hcy⟩ := HLS.out (j + 1) y hy
          have HE : Hid (Plain.nextAt n (xs.take i) y0 = some y) := Lib.hid (by rw [HNA.out]; exact hy)
          have hyr : y ≠ 0 ∧ -6 ≤ y ∧ y ≤ 6 := Plain.behind_range (w := xs.take i) (k := 2 * n) (by omega) (by rw [← HLL.out]; exact List.mem_of_getElem? hy)
          have hb := HB1.out
          have z0 : Boxed w2 w.heap.size 47 (.slice (some ⟨b0, o0, none⟩) xs.length cap) := (hb.block _ HZ.out.1.lt).trans HZ.out.1
          have z1 : Boxed w2 (w.heap.size + 1) 3 (.int .i64 n) := (hb.block _ HZ.out.2.1.lt).trans HZ.out.2.1
          have e0 : w2.drew.cell? ⟨w.heap.size, 0, none⟩ = some (.slice (some ⟨b0, o0, none⟩) xs.length cap) := z0.cell
          have e0' : ((w2.alloc (.cells #[.int .i64 y] 3)).drew).cell? ⟨w.heap.size, 0, none⟩ = some (.slice (some ⟨b0, o0, none⟩) xs.length cap) := (z0.alloc _).cell
          have ey : w2.drew.cell? ⟨lb, lo + (j + 1), none⟩ = some (.int .i64 y) := hcy
          have HT2 : Hid (Ints ((w2.alloc (.cells #[.int .i64 y] 3)).drew) (some ⟨b0, o0, none⟩) (xs.take i)) := Lib.hid (ints_take (HI0.out.on (hb.alloc hb.size _).drew) i)
          have HB2 : Hid (Below W.heap.size W ((w2.alloc (.cells #[.int .i64 y] 3)).drew)) := Lib.hid (hb.alloc hb.size _).drew
          have HY := Lib.hid (And.intro hy (And.intro hyr (And.intro z0 z1)))
          have hi64 : i ≤ 1000000 := by omega
          clear hb z0 z1 hy hyr hcy hlt2
          gi_wp2_with fail
          refine wpIn_mono (region_in (Q := fun e a' w' => match e with | .normal => ∃ p q v, a' = { tmps := #[.slice (some ⟨b0, o0, none⟩) xs.length cap, .int .i64 (n : Int), .pointer (some { block := w.heap.size, off := 0 }), .pointer (some { block := w.heap.size + 1, off := 0 }), .pointer (some { block := w.heap.size + 1 + 1, off := 0 }), .pointer (some { block := w.heap.size + 1 + 1 + 1, off := 0 }), .int .i64 (i : Int), .int .i64 y0, .slice (some ⟨lb, lo, none⟩) ls.length lc, .int .i64 ((j : Int) + 1), v, .slice (some ⟨b0, o0, none⟩) xs.length cap, .func (Fn.func 59) #[] #[.pointer (some { block := W4.heap.size, off := 0 })], .int .i64 (i : Int), .int .i64 y0, .slice (some ⟨b0, o0, none⟩) xs.length cap, .int .i64 (i : Int), .slice (some ⟨b0, o0, none⟩) i cap, .int .i64 (n : Int), .slice (some ⟨lb, lo, none⟩) ls.length lc, .slice (some ⟨lb, lo, none⟩) ls.length lc, .int .i64 y0, .int .i64 (j : Int), .int .i64 ((j : Int) + 1), .int .i64 ((j : Int) + 1), .slice (some ⟨lb, lo, none⟩) ls.length lc, .int .i64 (ls.length : Int), .bool true, .slice (some ⟨b0, o0, none⟩) xs.length cap, .int .i64 (i : Int), .int .i64 (i : Int), .slice (some ⟨b0, o0, none⟩) i i, .slice (some ⟨lb, lo, none⟩) ls.length lc, .int .i64 ((j : Int) + 1), p, .int .i64 y, q, v, undef, undef, undef, undef, undef, undef], defers := [] } ∧ Coll (xs.take i ++ [y]) ((w2.alloc (.cells #[.int .i64 y] 3)).drew).heap.size ((w2.alloc (.cells #[.int .i64 y] 3)).drew) v w' | _ => False) (by kernel_rfl) (by kernel_rfl) (fun h => by obtain ⟨_, _, h⟩ := h; exact h) ?walk7) ?cont7
          case walk7 =>
            refine wpAny_take (i := 1) (v := .int .i64 (i : Int)) rfl (by kernel_rfl) (by kernel_rfl) (by kernel_rfl) (fun _ _ _ h => h) (.inl ⟨by kernel_rfl, fun w => by go_simp⟩) ?_
            refine wpAny_take (i := 2) (v := .int .i64 (i : Int)) rfl (by kernel_rfl) (by kernel_rfl) (by kernel_rfl) (fun _ _ _ h => h) (.inl ⟨by kernel_rfl, fun w => by go_simp⟩) ?_
            refine wpAny_take (i := 4) (v := .slice (some ⟨lb, lo, none⟩) ls.length lc) rfl (by kernel_rfl) (by kernel_rfl) (by kernel_rfl) (fun _ _ _ h => h) (.inl ⟨by kernel_rfl, fun w => by go_simp⟩) ?_
            refine wpAny_take (i := 5) (v := .int .i64 ((j : Int) + 1)) rfl (by kernel_rfl) (by kernel_rfl) (by kernel_rfl) (fun _ _ _ h => h) (.inl ⟨by kernel_rfl, fun w => by go_simp⟩) ?_
            refine wpAny_ready (rs := [0, 6]) (by kernel_rfl) (by simp) ?_
            refine AllReady.cons rfl (fun K hK => ?_) ?_
            · go_simp
              refine hK _ _ ?_; clear hK K
              refine wpAny_take (i := 3) (v := .slice (some ⟨b0, o0, none⟩) i i) rfl (by kernel_rfl) (by kernel_rfl) (by kernel_rfl) (fun _ _ _ h => h) (.inl ⟨by kernel_rfl, fun w => by go_simp⟩) ?_
              refine wpAny_ready (rs := [6]) (by kernel_rfl) (by simp) ?_
              refine AllReady.cons rfl (fun K hK => ?_) ?_
              · go_simp
                refine hK _ _ ?_; clear hK K
                refine wpAny_ready (rs := [7]) (by kernel_rfl) (by simp) ?_
                refine AllReady.cons rfl (fun K hK => ?_) ?_
                · go_simp
                  refine hK _ _ ?_; clear hK K
                  refine wpAny_ready (rs := [8]) (by kernel_rfl) (by simp) ?_
                  refine AllReady.cons rfl (fun K hK => ?_) ?_
                  · go_simp
                    refine hK _ _ ?_; clear hK K
                    refine wpAny_ready (rs := [9]) (by kernel_rfl) (by simp) ?_
                    refine AllReady.cons rfl (fun K hK => ?_) ?_
                    · refine step_append_one rfl _ _ 47 i0 rfl Try.underlying47 hi0 hz0 hz1 hz2 b0 i o0 (xs.take i) rfl HTN.out HT2.out w2.heap.size y rfl (show (w2.alloc (.cells #[.int .i64 y] 3)).drew.cell? ⟨w2.heap.size, 0, none⟩ = some (.int .i64 y) from (Boxed.new w2 3 (.int .i64 y)).cell) hi64 ?_
                      intro v' w3 hC3
                      have HC3 := Lib.hid hC3
                      clear hC3
                      refine hK _ _ ?_; clear hK K
                      refine wpAny_ready (rs := [10]) (by kernel_rfl) (by simp) ?_
                      refine AllReady.cons rfl (fun K hK => ?_) ?_
                      · go_simp
                        refine hK _ _ ?_; clear hK K
                        refine wpAny_done (by kernel_rfl) ?_ _
                        exact ⟨_, _, _, rfl, HC3.out⟩

                      exact AllReady.nil

                    exact AllReady.nil

                  exact AllReady.nil

                exact AllReady.nil

              exact AllReady.nil

            refine AllReady.cons rfl (fun K hK => ?_) ?_
            · go_simp
              refine hK _ _ ?_; clear hK K
              refine wpAny_ready (rs := [0, 7]) (by kernel_rfl) (by simp) ?_
              refine AllReady.cons rfl (fun K hK => ?_) ?_
              · go_simp
                refine hK _ _ ?_; clear hK K
                refine wpAny_take (i := 3) (v := .slice (some ⟨b0, o0, none⟩) i i) rfl (by kernel_rfl) (by kernel_rfl) (by kernel_rfl) (fun _ _ _ h => h) (.inl ⟨by kernel_rfl, fun w => by go_simp⟩) ?_
                refine wpAny_ready (rs := [7]) (by kernel_rfl) (by simp) ?_
                refine AllReady.cons rfl (fun K hK => ?_) ?_
                · go_simp
                  refine hK _ _ ?_; clear hK K
                  refine wpAny_ready (rs := [8]) (by kernel_rfl) (by simp) ?_
                  refine AllReady.cons rfl (fun K hK => ?_) ?_
                  · go_simp
                    refine hK _ _ ?_; clear hK K
                    refine wpAny_ready (rs := [9]) (by kernel_rfl) (by simp) ?_
                    refine AllReady.cons rfl (fun K hK => ?_) ?_
                    · refine step_append_one rfl _ _ 47 i0 rfl Try.underlying47 hi0 hz0 hz1 hz2 b0 i o0 (xs.take i) rfl HTN.out HT2.out w2.heap.size y rfl (show (w2.alloc (.cells #[.int .i64 y] 3)).drew.cell? ⟨w2.heap.size, 0, none⟩ = some (.int .i64 y) from (Boxed.new w2 3 (.int .i64 y)).cell) hi64 ?_
                      intro v' w3 hC3
                      have HC3 := Lib.hid hC3
                      clear hC3
                      refine hK _ _ ?_; clear hK K
                      refine wpAny_ready (rs := [10]) (by kernel_rfl) (by simp) ?_
                      refine AllReady.cons rfl (fun K hK => ?_) ?_
                      · go_simp
                        refine hK _ _ ?_; clear hK K
                        refine wpAny_done (by kernel_rfl) ?_ _
                        exact ⟨_, _, _, rfl, HC3.out⟩

                      exact AllReady.nil

                    exact AllReady.nil

                  exact AllReady.nil

                exact AllReady.nil

              refine AllReady.cons rfl (fun K hK => ?_) ?_
              · go_simp
                refine hK _ _ ?_; clear hK K
                refine wpAny_ready (rs := [0, 8]) (by kernel_rfl) (by simp) ?_
                refine AllReady.cons rfl (fun K hK => ?_) ?_
                · go_simp
                  refine hK _ _ ?_; clear hK K
                  refine wpAny_take (i := 3) (v := .slice (some ⟨b0, o0, none⟩) i i) rfl (by kernel_rfl) (by kernel_rfl) (by kernel_rfl) (fun _ _ _ h => h) (.inl ⟨by kernel_rfl, fun w => by go_simp⟩) ?_
                  refine wpAny_ready (rs := [8]) (by kernel_rfl) (by simp) ?_
                  refine AllReady.cons rfl (fun K hK => ?_) ?_
                  · go_simp
                    refine hK _ _ ?_; clear hK K
                    refine wpAny_ready (rs := [9]) (by kernel_rfl) (by simp) ?_
                    refine AllReady.cons rfl (fun K hK => ?_) ?_
                    · refine step_append_one rfl _ _ 47 i0 rfl Try.underlying47 hi0 hz0 hz1 hz2 b0 i o0 (xs.take i) rfl HTN.out HT2.out w2.heap.size y rfl (show (w2.alloc (.cells #[.int .i64 y] 3)).drew.cell? ⟨w2.heap.size, 0, none⟩ = some (.int .i64 y) from (Boxed.new w2 3 (.int .i64 y)).cell) hi64 ?_
                      intro v' w3 hC3
                      have HC3 := Lib.hid hC3
                      clear hC3
                      refine hK _ _ ?_; clear hK K
                      refine wpAny_ready (rs := [10]) (by kernel_rfl) (by simp) ?_
                      refine AllReady.cons rfl (fun K hK => ?_) ?_
                      · go_simp
                        refine hK _ _ ?_; clear hK K
                        refine wpAny_done (by kernel_rfl) ?_ _
                        exact ⟨_, _, _, rfl, HC3.out⟩

                      exact AllReady.nil

                    exact AllReady.nil

                  exact AllReady.nil

                refine AllReady.cons rfl (fun K hK => ?_) ?_
                · go_simp
                  refine hK _ _ ?_; clear hK K
                  refine wpAny_ready (rs := [0]) (by kernel_rfl) (by simp) ?_
                  refine AllReady.cons rfl (fun K hK => ?_) ?_
                  · go_simp
                    refine hK _ _ ?_; clear hK K
                    refine wpAny_take (i := 3) (v := .slice (some ⟨b0, o0, none⟩) i i) rfl (by kernel_rfl) (by kernel_rfl) (by kernel_rfl) (fun _ _ _ h => h) (.inl ⟨by kernel_rfl, fun w => by go_simp⟩) ?_
                    refine wpAny_ready (rs := [9]) (by kernel_rfl) (by simp) ?_
                    refine AllReady.cons rfl (fun K hK => ?_) ?_
                    · refine step_append_one rfl _ _ 47 i0 rfl Try.underlying47 hi0 hz0 hz1 hz2 b0 i o0 (xs.take i) rfl HTN.out HT2.out w2.heap.size y rfl (show (w2.alloc (.cells #[.int .i64 y] 3)).drew.cell? ⟨w2.heap.size, 0, none⟩ = some (.int .i64 y) from (Boxed.new w2 3 (.int .i64 y)).cell) hi64 ?_
                      intro v' w3 hC3
                      have HC3 := Lib.hid hC3
                      clear hC3
                      refine hK _ _ ?_; clear hK K
                      refine wpAny_ready (rs := [10]) (by kernel_rfl) (by simp) ?_
                      refine AllReady.cons rfl (fun K hK => ?_) ?_
                      · go_simp
                        refine hK _ _ ?_; clear hK K
                        refine wpAny_done (by kernel_rfl) ?_ _
                        exact ⟨_, _, _, rfl, HC3.out⟩

                      exact AllReady.nil

                    exact AllReady.nil

                  exact AllReady.nil

                exact AllReady.nil

              exact AllReady.nil

            exact AllReady.nil
          case cont7 =>
            rintro e a' w' hq
            cases e with
            | normal =>
              obtain ⟨p, q, v, rfl, hC⟩ := hq
              obtain ⟨V7, hV7⟩ : ∃ V7, V7 = (w2.alloc (.cells #[.int .i64 y] 3)).drew := ⟨_, rfl⟩
              rw [← hV7] at hC HB2
              obtain ⟨zs, hzs⟩ : ∃ zs, zs = xs.take i ++ [y] := ⟨_, rfl⟩
              have hzl : zs.length = i + 1 := by rw [hzs, List.length_append, HTN.out]; rfl
              have HLZ : Hid (Plain.Letters zs) := Lib.hid (by
                rw [hzs]
                intro z hz
                rcases List.mem_append.1 hz with hz | hz
                · exact HTL.out z hz
                · obtain rfl := List.mem_singleton.1 hz
                  exact HY.out.2.1)
              rw [← hzs] at hC
              have HZS : Hid (xs.take i ++ [y] = zs) := Lib.hid hzs.symm
              have hb3 := HB2.out.trans (hC.2.1.mono HB2.out.size)
              have f0 : w'.cell? ⟨w.heap.size, 0, none⟩ = some (.slice (some ⟨b0, o0, none⟩) xs.length cap) := ((show Boxed w' w.heap.size 47 _ from (hb3.block _ HZ.out.1.lt).trans HZ.out.1)).cell
              have f1 : w'.cell? ⟨w.heap.size + 1, 0, none⟩ = some (.int .i64 n) := ((show Boxed w' (w.heap.size + 1) 3 _ from (hb3.block _ HZ.out.2.1.lt).trans HZ.out.2.1)).cell
              have HC := Lib.hid hC
              have hzl100 : zs.length ≤ 100 := by omega
              have HZL := Lib.hid hzl
              clear hV7 hzs hzl hC hb3
              gi_wp2_with fail
              refine ⟨trivial, ?_⟩
              refine (CallsIn.inRound l (callsIn_wide.2 (firstBegun_any zs n xs.length V7.heap.size V7 _ v HC HLZ h1 h6 hzl100 (by omega)))).mono ?_
              rintro e w4 ⟨v4, rfl, hC4⟩
              rw [HZL.out] at hC4
              have hres := (coll_res hC4).1
              have hb4 := HB2.out.trans (hC4.2.1.mono HB2.out.size)
              obtain ⟨R, hR⟩ : ∃ R, R = Plain.fillW (xs.length - (i + 1)) zs := ⟨_, rfl⟩
              rw [← hR] at hres
              obtain ⟨av, cv, rfl, k1, k2, k3⟩ := hres
              have HRES : Hid (Res V7.heap.size w4 (.slice av R.length cv) R) := Lib.hid ⟨av, cv, rfl, k1, k2, k3⟩
              have hcv := k3.1
              have hcv2 := k3.2.1
              have z2 : Boxed w4 (w.heap.size + 1 + 1) 47 (.slice none 0 0) := (hb4.block _ HZ.out.2.2.1.lt).trans HZ.out.2.2.1
              have z3 : Boxed w4 (w.heap.size + 1 + 1 + 1) 4 (.bool false) := (hb4.block _ HZ.out.2.2.2.1.lt).trans HZ.out.2.2.2.1
              have t2 := z2.set (.slice av R.length cv)
              have t3 := z3.other (B' := w.heap.size + 1 + 1) (by omega) (.slice av R.length cv)
              have q2 := z2.cell
              have q2f := z2.frozen
              have q3 := t3.cell
              have q3f := t3.frozen
              have HRR := Lib.hid hR
              have HT3 := Lib.hid (And.intro t2 (And.intro t3 hb4))
              clear hC4 hb4 k1 k2 k3 z2 z3 t2 t3 hR
              gi_wp2_with fail
              have hb4 := HT3.out.2.2
              refine ⟨((KeepsOthers.of_grownBy (row := none) ⟨hb4.os, hb4.tape, hb4.output, hb4.size, fun j hj _ => hb4.block j hj⟩ (fun j o e => (by cases e))).trans (KeepsOthers.setCell _ _ _)).trans (KeepsOthers.setCell _ _ _), rfl, pre, ⟨(i, y0), hx⟩, y, rfl, HA.out.1, HE.out, _, (HT3.out.1.other (B' := w.heap.size + 1 + 1 + 1) (by omega) (.bool true)).cell, (HT3.out.2.1.set (.bool true)).cell, ?_, ?_⟩
              · have hlt7 : w.heap.size + 1 + 1 + 1 < V7.heap.size := Nat.lt_of_lt_of_le HZ.out.2.2.2.1.lt HB2.out.size
                have hr := res_set (u := .bool true) (res_set (g := w.heap.size + 1 + 1) (u := .slice av R.length cv) HRES.out (by omega)) hlt7
                show Res w.heap.size _ (.slice av R.length cv) (Plain.fillW (xs.length - (i + 1)) (xs.take i ++ [y]))
                rw [HZS.out, ← HRR.out]
                exact hr.mono (by omega)
              · exact ((HZ.out.2.2.2.2.2.trans (hb4.mono HZ.out.2.2.2.2.2.size)).setCell (p := ⟨w.heap.size + 1 + 1, 0, none⟩) (by simp; omega) _).setCell (p := ⟨w.heap.size + 1 + 1 + 1, 0, none⟩) (by simp; omega) _
            | _ => exact hq.elim
        · have hlI : ¬ ((j : Int) + 1 < (ls.length : Int)) := by omega
          have HE : Hid (Plain.nextAt n (xs.take i) y0 = none) := Lib.hid (by rw [HNA.out]; exact List.getElem?_eq_none (by omega))
          clear hlt2
          gi_wp2_with fail
          have hb := HB1.out
          exact ⟨KeepsOthers.of_grownBy (row := none) ⟨hb.os, hb.tape, hb.output, hb.size, fun j hj _ => hb.block j hj⟩ (fun j o e => (by cases e)), hb.mono HZ.out.2.2.2.2.1.size, fun p hp => by
            rcases List.mem_append.1 hp with hp | hp
            · exact HA.out.1 p hp
            · obtain rfl := List.mem_singleton.1 hp
              exact HE.out, HZ.out.2.2.2.2.1.trans (hb.mono HZ.out.2.2.2.2.1.size)⟩
      | _ => exact hq.elim

end Go.Proofs.Ythamckchfhddjaa
