/- Contracts: spec.l5Both, AndFamily, OrFamily; impl's familyPair, AndFamily, OrFamily. Conditions: numbers of 64 bits, lengths that fit. -/
import Derived.Test.YtfikbjfgieiifaaFamOf
import Derived.Test.YtfikbjfgieiifaaFamMore
import Derived.Test.YtfikbjfgieiifaaFamLaw
import Derived.Test.YtfikbjfgieiifaaHasImpl
import Derived.Test.YtfikbjfgieiifaaPass
import Derived.Deep.DeepCutAuto
import Derived.Deep.CutRange
namespace Go.Proofs.Ytfikbjfgieiifaa
open Go.ChangeShapes Go.WideShapes Go.ChangeAt Go.RowKit
set_option linter.unusedVariables false

/-- What both Families have, or either. -/
def andT (o : Bool) (fs gs : List Int) : Nat → Bool := fun s => if o = true then Plain.hasB fs s && Plain.hasB gs s else Plain.hasB fs s || Plain.hasB gs s
def andB (fs gs : List Int) : Bool := Plain.famB fs && Plain.famB gs
def andW (o : Bool) (fs gs : List Int) : List Int := if andB fs gs = true then Plain.edges (andT o fs gs) true else []
theorem and_no {o : Bool} {fs gs : List Int} (h : Plain.famB fs = false ∨ Plain.famB gs = false) : andW o fs gs = [] ∧ andB fs gs = false := by
  have hb : andB fs gs = false := by rcases h with h | h <;> simp [andB, h]
  exact ⟨by rw [andW, hb]; simp, hb⟩
theorem and_yes {o : Bool} {fs gs : List Int} (h1 : Plain.famB fs = true) (h2 : Plain.famB gs = true) : andW o fs gs = Plain.edges (andT o fs gs) true ∧ andB fs gs = true := by
  have hb : andB fs gs = true := by simp [andB, h1, h2]
  exact ⟨by rw [andW, hb]; simp, hb⟩
theorem andW_le (o : Bool) (fs gs : List Int) : (andW o fs gs).length ≤ 64 := by
  unfold andW
  split
  · exact Plain.edges_le _ _
  · simp
def TwoRows (w3 : World) (t u : Nat → Bool) (p q : Value) (wx : World) : Prop := ∃ g1 g2, p = .pointer (some ⟨g1, 0, none⟩) ∧ q = .pointer (some ⟨g2, 0, none⟩) ∧ g1 ≠ g2 ∧ w3.heap.size ≤ g1 ∧ w3.heap.size ≤ g2 ∧ Tab wx g1 t ∧ Tab wx g2 u ∧ Below w3.heap.size w3 wx
/-- What holds all through the region in which both tables are told. -/
structure Two3 (w3 : World) (h : Nat) (a1 a2 : Option Addr) (c1 c2 m1 m2 : Nat) (fs gs : List Int) (W : World) : Prop where
  j1 : Ints W a1 fs
  j2 : Ints W a2 gs
  f1 : FamAt W h (.slice a1 m1 c1)
  f2 : FamAt W (h + 1) (.slice a2 m2 c2)
  b : Below w3.heap.size w3 W
theorem Two3.on {w3 : World} {h : Nat} {a1 a2 : Option Addr} {c1 c2 m1 m2 : Nat} {fs gs : List Int} {W W' : World} (x : Two3 w3 h a1 a2 c1 c2 m1 m2 fs gs W) (hb : Below W.heap.size W W') : Two3 w3 h a1 a2 c1 c2 m1 m2 fs gs W' :=
  ⟨x.j1.on hb, x.j2.on hb, x.f1.on hb, x.f2.on hb, x.b.trans (hb.mono x.b.size)⟩
theorem step_store_row {ops : Array Oper} {o : Oper} {a : Act} {w : World} {K : Act → World → Prop} {Q : Exit → Act → World → Prop} {E : Prop} (hgd : o.guard = none) (ty : TypeId) (x y : Operand) (ho : o.op = .store ty x y)
    (g : Nat) (cells : Array Value) (hx : a.eval x = .pointer (some ⟨g, 0, none⟩)) (hy : a.eval y = .agg cells)
    (t : TypeId) (old : Array Value) (hg : w.heap[g]? = some (.cells old t (0, 0))) (hi : (Try.prog.info? ty).map (·.size) = some cells.size)
    (hold : old.size = cells.size) (h1 : cells.all (·.oneCell') = true)
    (h : K (a.put o.dst undef) (w.setRow g cells)) : if Region.wanted o (yielded ops a.tmps) = true then Oper.wp Try.prog o a w K Q else E := by
  rw [if_pos (by simp [Region.wanted, hgd])]
  exact wp_store_row ty x y ho g cells hx hy t old hg hi hold h1 h
def opsB : Array Oper := #[{ dst := some 20, op := Op.load 26 (Operand.tmp 3), type := 26, pos := "l5_rules.go:75", after := #[], guard := none },
  { dst := some 21, op := Op.call { callee := Callee.value (Operand.func 40), args := #[Operand.tmp 20], argTypes := #[26] }, type := 48, pos := "l5_rules.go:75", after := #[{ on := 0, ground := Ground.data }], guard := none },
  { dst := some 22, op := Op.load 26 (Operand.tmp 4), type := 26, pos := "l5_rules.go:75", after := #[], guard := none },
  { dst := some 23, op := Op.call { callee := Callee.value (Operand.func 40), args := #[Operand.tmp 22], argTypes := #[26] }, type := 48, pos := "l5_rules.go:75", after := #[{ on := 2, ground := Ground.data }, { on := 1, ground := Ground.chain }], guard := none },
  { dst := some 8, op := Op.alloc 48, type := 0, pos := "l5_rules.go:75", after := #[], guard := none },
  { dst := some 9, op := Op.alloc 48, type := 0, pos := "l5_rules.go:75", after := #[], guard := none },
  { dst := none, op := Op.store 48 (Operand.tmp 8) (Operand.tmp 21), type := 0, pos := "l5_rules.go:75", after := #[{ on := 4, ground := Ground.data }, { on := 1, ground := Ground.data }, { on := 3, ground := Ground.chain }, { on := 0, ground := Ground.phase }, { on := 1, ground := Ground.phase }, { on := 2, ground := Ground.textOnly Departure.lateStores }, { on := 3, ground := Ground.textOnly Departure.lateStoresUnsure }, { on := 4, ground := Ground.phase }, { on := 5, ground := Ground.phase }], guard := none },
  { dst := none, op := Op.store 48 (Operand.tmp 9) (Operand.tmp 23), type := 0, pos := "l5_rules.go:75", after := #[{ on := 5, ground := Ground.data }, { on := 3, ground := Ground.data }, { on := 6, ground := Ground.chain }, { on := 0, ground := Ground.phase }, { on := 1, ground := Ground.phase }, { on := 2, ground := Ground.phase }, { on := 3, ground := Ground.phase }, { on := 4, ground := Ground.phase }, { on := 5, ground := Ground.phase }, { on := 6, ground := Ground.phase }], guard := none }]
/-- What the calls of the region hand back, and what is asked at its end. -/
structure Ctx (w3 : World) (h : Nat) (a1 a2 : Option Addr) (c1 c2 m1 m2 : Nat) (fs gs : List Int) (t u : Nat → Bool) (o : Bool) (Q : Exit → Act → World → Prop) : Prop where
  k1 : ∀ W, Hid (Ints W a1 fs) → Calls Try.prog 40 #[.agg #[.slice a1 m1 c1]] W (Val (.agg (bools t)) W)
  k2 : ∀ W, Hid (Ints W a2 gs) → Calls Try.prog 40 #[.agg #[.slice a2 m2 c2]] W (Val (.agg (bools u)) W)
  q : ∀ (g1 g2 : Nat) (V : World), g1 ≠ g2 → w3.heap.size ≤ g1 → w3.heap.size ≤ g2 → Tab V g1 t → Tab V g2 u → Below w3.heap.size w3 V → Q .normal { tmps := #[.agg #[.slice a1 m1 c1], .agg #[.slice a2 m2 c2], .bool o, .pointer (some ⟨h, 0, none⟩), .pointer (some ⟨h + 1, 0, none⟩), undef, .pointer (some ⟨h + 1 + 1, 0, none⟩), .bool false, .pointer (some ⟨g1, 0, none⟩), .pointer (some ⟨g2, 0, none⟩), undef, .agg #[.slice a1 m1 c1], .bool true, .bool false, .bool false, .agg #[.slice a2 m2 c2], .bool true, .bool false, .bool false, undef, .agg #[.slice a1 m1 c1], .agg (bools t), .agg #[.slice a2 m2 c2], .agg (bools u), undef, undef, undef, undef, undef, undef, undef, undef, undef, undef, undef, undef, undef, undef, undef, undef, undef, undef, undef, undef, undef, undef, undef, undef, undef, undef, undef], defers := [] } V
set_option maxRecDepth 100000
set_option maxHeartbeats 2000000
theorem both_01234567 (w3 : World) (h : Nat) (a1 a2 : Option Addr) (c1 c2 m1 m2 : Nat) (fs gs : List Int) (t u : Nat → Bool) (o : Bool) (Q : Exit → Act → World → Prop) (X : Ctx w3 h a1 a2 c1 c2 m1 m2 fs gs t u o Q) (V : World) (g1 : Nat) (g2 : Nat) (B : Hid (Below w3.heap.size w3 V)) (E1 : Hid (w3.heap.size ≤ g1)) (R1 : Hid (Tab V g1 (t))) (E2 : Hid (w3.heap.size ≤ g2)) (R2 : Hid (Tab V g2 (u))) (NE : Hid (g1 ≠ g2)) (L : Array Bool) (hL : L = #[true, true, true, true, true, true, true, true]) :
    wpAny Try.prog .any opsB Q 0 L { tmps := #[.agg #[.slice a1 m1 c1], .agg #[.slice a2 m2 c2], .bool o, .pointer (some ⟨h, 0, none⟩), .pointer (some ⟨h + 1, 0, none⟩), undef, .pointer (some ⟨h + 1 + 1, 0, none⟩), .bool false, .pointer (some ⟨g1, 0, none⟩), .pointer (some ⟨g2, 0, none⟩), undef, .agg #[.slice a1 m1 c1], .bool true, .bool false, .bool false, .agg #[.slice a2 m2 c2], .bool true, .bool false, .bool false, undef, .agg #[.slice a1 m1 c1], .agg (bools t), .agg #[.slice a2 m2 c2], .agg (bools u), undef, undef, undef, undef, undef, undef, undef, undef, undef, undef, undef, undef, undef, undef, undef, undef, undef, undef, undef, undef, undef, undef, undef, undef, undef, undef, undef], defers := [] } V := by
  subst hL
  exact wpAny_done (by kernel_rfl) (X.q g1 g2 V NE.out E1.out E2.out R1.out R2.out B.out) _
theorem both_0123456 (w3 : World) (h : Nat) (a1 a2 : Option Addr) (c1 c2 m1 m2 : Nat) (fs gs : List Int) (t u : Nat → Bool) (o : Bool) (Q : Exit → Act → World → Prop) (X : Ctx w3 h a1 a2 c1 c2 m1 m2 fs gs t u o Q) (V : World) (g1 : Nat) (g2 : Nat) (B : Hid (Below w3.heap.size w3 V)) (E1 : Hid (w3.heap.size ≤ g1)) (R1 : Hid (Tab V g1 (t))) (E2 : Hid (w3.heap.size ≤ g2)) (R2 : Hid (Tab V g2 (fun _ => false))) (NE : Hid (g1 ≠ g2)) (L : Array Bool) (hL : L = #[true, true, true, true, true, true, true, false]) :
    wpAny Try.prog .any opsB Q 1 L { tmps := #[.agg #[.slice a1 m1 c1], .agg #[.slice a2 m2 c2], .bool o, .pointer (some ⟨h, 0, none⟩), .pointer (some ⟨h + 1, 0, none⟩), undef, .pointer (some ⟨h + 1 + 1, 0, none⟩), .bool false, .pointer (some ⟨g1, 0, none⟩), .pointer (some ⟨g2, 0, none⟩), undef, .agg #[.slice a1 m1 c1], .bool true, .bool false, .bool false, .agg #[.slice a2 m2 c2], .bool true, .bool false, .bool false, undef, .agg #[.slice a1 m1 c1], .agg (bools t), .agg #[.slice a2 m2 c2], .agg (bools u), undef, undef, undef, undef, undef, undef, undef, undef, undef, undef, undef, undef, undef, undef, undef, undef, undef, undef, undef, undef, undef, undef, undef, undef, undef, undef, undef], defers := [] } V := by
  subst hL
  refine wpAny_ready (rs := [7]) (by kernel_rfl) (by simp) ?_
  refine AllReady.cons rfl (fun K hK => ?_) ?_
  · refine step_store_row rfl 48 _ _ rfl g2 (bools u) rfl rfl 48 _ R2.out info64 rfl (bools_one _) (hK _ _ ?_)
    exact both_01234567 w3 h a1 a2 c1 c2 m1 m2 fs gs t u o Q X _ g1 g2 (Lib.hid (below_setRow B.out E2.out (bools u))) E1 (Lib.hid (R1.out.other (cs := bools u) NE.out)) E2 (Lib.hid (tab_row (t := u) R2.out)) NE _ (by kernel_rfl)
  exact AllReady.nil
theorem both_012345 (w3 : World) (h : Nat) (a1 a2 : Option Addr) (c1 c2 m1 m2 : Nat) (fs gs : List Int) (t u : Nat → Bool) (o : Bool) (Q : Exit → Act → World → Prop) (X : Ctx w3 h a1 a2 c1 c2 m1 m2 fs gs t u o Q) (V : World) (g1 : Nat) (g2 : Nat) (P : Hid (Two3 w3 h a1 a2 c1 c2 m1 m2 fs gs V)) (E1 : Hid (w3.heap.size ≤ g1)) (R1 : Hid (Tab V g1 (fun _ => false))) (E2 : Hid (w3.heap.size ≤ g2)) (R2 : Hid (Tab V g2 (fun _ => false))) (NE : Hid (g1 ≠ g2)) (L : Array Bool) (hL : L = #[true, true, true, true, true, true, false, false]) :
    wpAny Try.prog .any opsB Q 2 L { tmps := #[.agg #[.slice a1 m1 c1], .agg #[.slice a2 m2 c2], .bool o, .pointer (some ⟨h, 0, none⟩), .pointer (some ⟨h + 1, 0, none⟩), undef, .pointer (some ⟨h + 1 + 1, 0, none⟩), .bool false, .pointer (some ⟨g1, 0, none⟩), .pointer (some ⟨g2, 0, none⟩), undef, .agg #[.slice a1 m1 c1], .bool true, .bool false, .bool false, .agg #[.slice a2 m2 c2], .bool true, .bool false, .bool false, undef, .agg #[.slice a1 m1 c1], .agg (bools t), .agg #[.slice a2 m2 c2], .agg (bools u), undef, undef, undef, undef, undef, undef, undef, undef, undef, undef, undef, undef, undef, undef, undef, undef, undef, undef, undef, undef, undef, undef, undef, undef, undef, undef, undef], defers := [] } V := by
  subst hL
  refine wpAny_ready (rs := [6]) (by kernel_rfl) (by simp) ?_
  refine AllReady.cons rfl (fun K hK => ?_) ?_
  · refine step_store_row rfl 48 _ _ rfl g1 (bools t) rfl rfl 48 _ R1.out info64 rfl (bools_one _) (hK _ _ ?_)
    exact both_0123456 w3 h a1 a2 c1 c2 m1 m2 fs gs t u o Q X _ g1 g2 (Lib.hid (below_setRow P.out.b E1.out (bools t))) E1 (Lib.hid (tab_row (t := t) R1.out)) E2 (Lib.hid (R2.out.other (cs := bools t) (fun e => NE.out e.symm))) NE _ (by kernel_rfl)
  exact AllReady.nil
theorem both_01234 (w3 : World) (h : Nat) (a1 a2 : Option Addr) (c1 c2 m1 m2 : Nat) (fs gs : List Int) (t u : Nat → Bool) (o : Bool) (Q : Exit → Act → World → Prop) (X : Ctx w3 h a1 a2 c1 c2 m1 m2 fs gs t u o Q) (V : World) (g1 : Nat) (P : Hid (Two3 w3 h a1 a2 c1 c2 m1 m2 fs gs V)) (E1 : Hid (w3.heap.size ≤ g1)) (R1 : Hid (Tab V g1 (fun _ => false))) (L : Array Bool) (hL : L = #[true, true, true, true, true, false, false, false]) :
    wpAny Try.prog .any opsB Q 3 L { tmps := #[.agg #[.slice a1 m1 c1], .agg #[.slice a2 m2 c2], .bool o, .pointer (some ⟨h, 0, none⟩), .pointer (some ⟨h + 1, 0, none⟩), undef, .pointer (some ⟨h + 1 + 1, 0, none⟩), .bool false, .pointer (some ⟨g1, 0, none⟩), undef, undef, .agg #[.slice a1 m1 c1], .bool true, .bool false, .bool false, .agg #[.slice a2 m2 c2], .bool true, .bool false, .bool false, undef, .agg #[.slice a1 m1 c1], .agg (bools t), .agg #[.slice a2 m2 c2], .agg (bools u), undef, undef, undef, undef, undef, undef, undef, undef, undef, undef, undef, undef, undef, undef, undef, undef, undef, undef, undef, undef, undef, undef, undef, undef, undef, undef, undef], defers := [] } V := by
  subst hL
  refine wpAny_ready (rs := [5]) (by kernel_rfl) (by simp) ?_
  refine AllReady.cons rfl (fun K hK => ?_) ?_
  · have hb : Below V.heap.size V (V.alloc (.cells (bools fun _ => false) 48)) := (Below.refl _ _).alloc (Nat.le_refl _) _
    have hr : Tab (V.alloc (.cells (bools fun _ => false) 48)) V.heap.size (fun _ => false) := tab_new _ _
    delta opsB
    go_simp
    refine hK _ _ ?_
    rw [← bools_zero]
    exact both_012345 w3 h a1 a2 c1 c2 m1 m2 fs gs t u o Q X _ g1 V.heap.size (Lib.hid (P.out.on hb)) E1 (Lib.hid (R1.out.on hb)) (Lib.hid P.out.b.size) (Lib.hid hr) (Lib.hid (Nat.ne_of_lt R1.out.lt)) _ (by kernel_rfl)
  exact AllReady.nil
theorem both_01235 (w3 : World) (h : Nat) (a1 a2 : Option Addr) (c1 c2 m1 m2 : Nat) (fs gs : List Int) (t u : Nat → Bool) (o : Bool) (Q : Exit → Act → World → Prop) (X : Ctx w3 h a1 a2 c1 c2 m1 m2 fs gs t u o Q) (V : World) (g2 : Nat) (P : Hid (Two3 w3 h a1 a2 c1 c2 m1 m2 fs gs V)) (E2 : Hid (w3.heap.size ≤ g2)) (R2 : Hid (Tab V g2 (fun _ => false))) (L : Array Bool) (hL : L = #[true, true, true, true, false, true, false, false]) :
    wpAny Try.prog .any opsB Q 3 L { tmps := #[.agg #[.slice a1 m1 c1], .agg #[.slice a2 m2 c2], .bool o, .pointer (some ⟨h, 0, none⟩), .pointer (some ⟨h + 1, 0, none⟩), undef, .pointer (some ⟨h + 1 + 1, 0, none⟩), .bool false, undef, .pointer (some ⟨g2, 0, none⟩), undef, .agg #[.slice a1 m1 c1], .bool true, .bool false, .bool false, .agg #[.slice a2 m2 c2], .bool true, .bool false, .bool false, undef, .agg #[.slice a1 m1 c1], .agg (bools t), .agg #[.slice a2 m2 c2], .agg (bools u), undef, undef, undef, undef, undef, undef, undef, undef, undef, undef, undef, undef, undef, undef, undef, undef, undef, undef, undef, undef, undef, undef, undef, undef, undef, undef, undef], defers := [] } V := by
  subst hL
  refine wpAny_ready (rs := [4]) (by kernel_rfl) (by simp) ?_
  refine AllReady.cons rfl (fun K hK => ?_) ?_
  · have hb : Below V.heap.size V (V.alloc (.cells (bools fun _ => false) 48)) := (Below.refl _ _).alloc (Nat.le_refl _) _
    have hr : Tab (V.alloc (.cells (bools fun _ => false) 48)) V.heap.size (fun _ => false) := tab_new _ _
    delta opsB
    go_simp
    refine hK _ _ ?_
    rw [← bools_zero]
    exact both_012345 w3 h a1 a2 c1 c2 m1 m2 fs gs t u o Q X _ V.heap.size g2 (Lib.hid (P.out.on hb)) (Lib.hid P.out.b.size) (Lib.hid hr) E2 (Lib.hid (R2.out.on hb)) (Lib.hid (Nat.ne_of_gt R2.out.lt)) _ (by kernel_rfl)
  exact AllReady.nil
theorem both_0123 (w3 : World) (h : Nat) (a1 a2 : Option Addr) (c1 c2 m1 m2 : Nat) (fs gs : List Int) (t u : Nat → Bool) (o : Bool) (Q : Exit → Act → World → Prop) (X : Ctx w3 h a1 a2 c1 c2 m1 m2 fs gs t u o Q) (V : World) (P : Hid (Two3 w3 h a1 a2 c1 c2 m1 m2 fs gs V)) (L : Array Bool) (hL : L = #[true, true, true, true, false, false, false, false]) :
    wpAny Try.prog .any opsB Q 4 L { tmps := #[.agg #[.slice a1 m1 c1], .agg #[.slice a2 m2 c2], .bool o, .pointer (some ⟨h, 0, none⟩), .pointer (some ⟨h + 1, 0, none⟩), undef, .pointer (some ⟨h + 1 + 1, 0, none⟩), .bool false, undef, undef, undef, .agg #[.slice a1 m1 c1], .bool true, .bool false, .bool false, .agg #[.slice a2 m2 c2], .bool true, .bool false, .bool false, undef, .agg #[.slice a1 m1 c1], .agg (bools t), .agg #[.slice a2 m2 c2], .agg (bools u), undef, undef, undef, undef, undef, undef, undef, undef, undef, undef, undef, undef, undef, undef, undef, undef, undef, undef, undef, undef, undef, undef, undef, undef, undef, undef, undef], defers := [] } V := by
  subst hL
  refine wpAny_ready (rs := [4, 5]) (by kernel_rfl) (by simp) ?_
  refine AllReady.cons rfl (fun K hK => ?_) ?_
  · have hb : Below V.heap.size V (V.alloc (.cells (bools fun _ => false) 48)) := (Below.refl _ _).alloc (Nat.le_refl _) _
    have hr : Tab (V.alloc (.cells (bools fun _ => false) 48)) V.heap.size (fun _ => false) := tab_new _ _
    delta opsB
    go_simp
    refine hK _ _ ?_
    rw [← bools_zero]
    exact both_01234 w3 h a1 a2 c1 c2 m1 m2 fs gs t u o Q X _ V.heap.size (Lib.hid (P.out.on hb)) (Lib.hid P.out.b.size) (Lib.hid hr) _ (by kernel_rfl)
  refine AllReady.cons rfl (fun K hK => ?_) ?_
  · have hb : Below V.heap.size V (V.alloc (.cells (bools fun _ => false) 48)) := (Below.refl _ _).alloc (Nat.le_refl _) _
    have hr : Tab (V.alloc (.cells (bools fun _ => false) 48)) V.heap.size (fun _ => false) := tab_new _ _
    delta opsB
    go_simp
    refine hK _ _ ?_
    rw [← bools_zero]
    exact both_01235 w3 h a1 a2 c1 c2 m1 m2 fs gs t u o Q X _ V.heap.size (Lib.hid (P.out.on hb)) (Lib.hid P.out.b.size) (Lib.hid hr) _ (by kernel_rfl)
  exact AllReady.nil
theorem both_01245 (w3 : World) (h : Nat) (a1 a2 : Option Addr) (c1 c2 m1 m2 : Nat) (fs gs : List Int) (t u : Nat → Bool) (o : Bool) (Q : Exit → Act → World → Prop) (X : Ctx w3 h a1 a2 c1 c2 m1 m2 fs gs t u o Q) (V : World) (g1 : Nat) (g2 : Nat) (P : Hid (Two3 w3 h a1 a2 c1 c2 m1 m2 fs gs V)) (E1 : Hid (w3.heap.size ≤ g1)) (R1 : Hid (Tab V g1 (fun _ => false))) (E2 : Hid (w3.heap.size ≤ g2)) (R2 : Hid (Tab V g2 (fun _ => false))) (NE : Hid (g1 ≠ g2)) (L : Array Bool) (hL : L = #[true, true, true, false, true, true, false, false]) :
    wpAny Try.prog .any opsB Q 3 L { tmps := #[.agg #[.slice a1 m1 c1], .agg #[.slice a2 m2 c2], .bool o, .pointer (some ⟨h, 0, none⟩), .pointer (some ⟨h + 1, 0, none⟩), undef, .pointer (some ⟨h + 1 + 1, 0, none⟩), .bool false, .pointer (some ⟨g1, 0, none⟩), .pointer (some ⟨g2, 0, none⟩), undef, .agg #[.slice a1 m1 c1], .bool true, .bool false, .bool false, .agg #[.slice a2 m2 c2], .bool true, .bool false, .bool false, undef, .agg #[.slice a1 m1 c1], .agg (bools t), .agg #[.slice a2 m2 c2], undef, undef, undef, undef, undef, undef, undef, undef, undef, undef, undef, undef, undef, undef, undef, undef, undef, undef, undef, undef, undef, undef, undef, undef, undef, undef, undef, undef], defers := [] } V := by
  subst hL
  refine wpAny_ready (rs := [3]) (by kernel_rfl) (by simp) ?_
  refine AllReady.cons rfl (fun K hK => ?_) ?_
  · delta opsB
    go_simp
    refine (X.k2 _ (Lib.hid P.out.j2)).mono ?_
    rintro e V2 ⟨rfl, hb⟩
    try go_simp
    refine hK _ _ ?_
    exact both_012345 w3 h a1 a2 c1 c2 m1 m2 fs gs t u o Q X V2 g1 g2 (Lib.hid (P.out.on hb)) E1 (Lib.hid (R1.out.on hb)) E2 (Lib.hid (R2.out.on hb)) NE _ (by kernel_rfl)
  exact AllReady.nil
theorem both_0124 (w3 : World) (h : Nat) (a1 a2 : Option Addr) (c1 c2 m1 m2 : Nat) (fs gs : List Int) (t u : Nat → Bool) (o : Bool) (Q : Exit → Act → World → Prop) (X : Ctx w3 h a1 a2 c1 c2 m1 m2 fs gs t u o Q) (V : World) (g1 : Nat) (P : Hid (Two3 w3 h a1 a2 c1 c2 m1 m2 fs gs V)) (E1 : Hid (w3.heap.size ≤ g1)) (R1 : Hid (Tab V g1 (fun _ => false))) (L : Array Bool) (hL : L = #[true, true, true, false, true, false, false, false]) :
    wpAny Try.prog .any opsB Q 4 L { tmps := #[.agg #[.slice a1 m1 c1], .agg #[.slice a2 m2 c2], .bool o, .pointer (some ⟨h, 0, none⟩), .pointer (some ⟨h + 1, 0, none⟩), undef, .pointer (some ⟨h + 1 + 1, 0, none⟩), .bool false, .pointer (some ⟨g1, 0, none⟩), undef, undef, .agg #[.slice a1 m1 c1], .bool true, .bool false, .bool false, .agg #[.slice a2 m2 c2], .bool true, .bool false, .bool false, undef, .agg #[.slice a1 m1 c1], .agg (bools t), .agg #[.slice a2 m2 c2], undef, undef, undef, undef, undef, undef, undef, undef, undef, undef, undef, undef, undef, undef, undef, undef, undef, undef, undef, undef, undef, undef, undef, undef, undef, undef, undef, undef], defers := [] } V := by
  subst hL
  refine wpAny_ready (rs := [3, 5]) (by kernel_rfl) (by simp) ?_
  refine AllReady.cons rfl (fun K hK => ?_) ?_
  · delta opsB
    go_simp
    refine (X.k2 _ (Lib.hid P.out.j2)).mono ?_
    rintro e V2 ⟨rfl, hb⟩
    try go_simp
    refine hK _ _ ?_
    exact both_01234 w3 h a1 a2 c1 c2 m1 m2 fs gs t u o Q X V2 g1 (Lib.hid (P.out.on hb)) E1 (Lib.hid (R1.out.on hb)) _ (by kernel_rfl)
  refine AllReady.cons rfl (fun K hK => ?_) ?_
  · have hb : Below V.heap.size V (V.alloc (.cells (bools fun _ => false) 48)) := (Below.refl _ _).alloc (Nat.le_refl _) _
    have hr : Tab (V.alloc (.cells (bools fun _ => false) 48)) V.heap.size (fun _ => false) := tab_new _ _
    delta opsB
    go_simp
    refine hK _ _ ?_
    rw [← bools_zero]
    exact both_01245 w3 h a1 a2 c1 c2 m1 m2 fs gs t u o Q X _ g1 V.heap.size (Lib.hid (P.out.on hb)) E1 (Lib.hid (R1.out.on hb)) (Lib.hid P.out.b.size) (Lib.hid hr) (Lib.hid (Nat.ne_of_lt R1.out.lt)) _ (by kernel_rfl)
  exact AllReady.nil
theorem both_0125 (w3 : World) (h : Nat) (a1 a2 : Option Addr) (c1 c2 m1 m2 : Nat) (fs gs : List Int) (t u : Nat → Bool) (o : Bool) (Q : Exit → Act → World → Prop) (X : Ctx w3 h a1 a2 c1 c2 m1 m2 fs gs t u o Q) (V : World) (g2 : Nat) (P : Hid (Two3 w3 h a1 a2 c1 c2 m1 m2 fs gs V)) (E2 : Hid (w3.heap.size ≤ g2)) (R2 : Hid (Tab V g2 (fun _ => false))) (L : Array Bool) (hL : L = #[true, true, true, false, false, true, false, false]) :
    wpAny Try.prog .any opsB Q 4 L { tmps := #[.agg #[.slice a1 m1 c1], .agg #[.slice a2 m2 c2], .bool o, .pointer (some ⟨h, 0, none⟩), .pointer (some ⟨h + 1, 0, none⟩), undef, .pointer (some ⟨h + 1 + 1, 0, none⟩), .bool false, undef, .pointer (some ⟨g2, 0, none⟩), undef, .agg #[.slice a1 m1 c1], .bool true, .bool false, .bool false, .agg #[.slice a2 m2 c2], .bool true, .bool false, .bool false, undef, .agg #[.slice a1 m1 c1], .agg (bools t), .agg #[.slice a2 m2 c2], undef, undef, undef, undef, undef, undef, undef, undef, undef, undef, undef, undef, undef, undef, undef, undef, undef, undef, undef, undef, undef, undef, undef, undef, undef, undef, undef, undef], defers := [] } V := by
  subst hL
  refine wpAny_ready (rs := [3, 4]) (by kernel_rfl) (by simp) ?_
  refine AllReady.cons rfl (fun K hK => ?_) ?_
  · delta opsB
    go_simp
    refine (X.k2 _ (Lib.hid P.out.j2)).mono ?_
    rintro e V2 ⟨rfl, hb⟩
    try go_simp
    refine hK _ _ ?_
    exact both_01235 w3 h a1 a2 c1 c2 m1 m2 fs gs t u o Q X V2 g2 (Lib.hid (P.out.on hb)) E2 (Lib.hid (R2.out.on hb)) _ (by kernel_rfl)
  refine AllReady.cons rfl (fun K hK => ?_) ?_
  · have hb : Below V.heap.size V (V.alloc (.cells (bools fun _ => false) 48)) := (Below.refl _ _).alloc (Nat.le_refl _) _
    have hr : Tab (V.alloc (.cells (bools fun _ => false) 48)) V.heap.size (fun _ => false) := tab_new _ _
    delta opsB
    go_simp
    refine hK _ _ ?_
    rw [← bools_zero]
    exact both_01245 w3 h a1 a2 c1 c2 m1 m2 fs gs t u o Q X _ V.heap.size g2 (Lib.hid (P.out.on hb)) (Lib.hid P.out.b.size) (Lib.hid hr) E2 (Lib.hid (R2.out.on hb)) (Lib.hid (Nat.ne_of_gt R2.out.lt)) _ (by kernel_rfl)
  exact AllReady.nil
theorem both_012 (w3 : World) (h : Nat) (a1 a2 : Option Addr) (c1 c2 m1 m2 : Nat) (fs gs : List Int) (t u : Nat → Bool) (o : Bool) (Q : Exit → Act → World → Prop) (X : Ctx w3 h a1 a2 c1 c2 m1 m2 fs gs t u o Q) (V : World) (P : Hid (Two3 w3 h a1 a2 c1 c2 m1 m2 fs gs V)) (L : Array Bool) (hL : L = #[true, true, true, false, false, false, false, false]) :
    wpAny Try.prog .any opsB Q 5 L { tmps := #[.agg #[.slice a1 m1 c1], .agg #[.slice a2 m2 c2], .bool o, .pointer (some ⟨h, 0, none⟩), .pointer (some ⟨h + 1, 0, none⟩), undef, .pointer (some ⟨h + 1 + 1, 0, none⟩), .bool false, undef, undef, undef, .agg #[.slice a1 m1 c1], .bool true, .bool false, .bool false, .agg #[.slice a2 m2 c2], .bool true, .bool false, .bool false, undef, .agg #[.slice a1 m1 c1], .agg (bools t), .agg #[.slice a2 m2 c2], undef, undef, undef, undef, undef, undef, undef, undef, undef, undef, undef, undef, undef, undef, undef, undef, undef, undef, undef, undef, undef, undef, undef, undef, undef, undef, undef, undef], defers := [] } V := by
  subst hL
  refine wpAny_ready (rs := [3, 4, 5]) (by kernel_rfl) (by simp) ?_
  refine AllReady.cons rfl (fun K hK => ?_) ?_
  · delta opsB
    go_simp
    refine (X.k2 _ (Lib.hid P.out.j2)).mono ?_
    rintro e V2 ⟨rfl, hb⟩
    try go_simp
    refine hK _ _ ?_
    exact both_0123 w3 h a1 a2 c1 c2 m1 m2 fs gs t u o Q X V2 (Lib.hid (P.out.on hb)) _ (by kernel_rfl)
  refine AllReady.cons rfl (fun K hK => ?_) ?_
  · have hb : Below V.heap.size V (V.alloc (.cells (bools fun _ => false) 48)) := (Below.refl _ _).alloc (Nat.le_refl _) _
    have hr : Tab (V.alloc (.cells (bools fun _ => false) 48)) V.heap.size (fun _ => false) := tab_new _ _
    delta opsB
    go_simp
    refine hK _ _ ?_
    rw [← bools_zero]
    exact both_0124 w3 h a1 a2 c1 c2 m1 m2 fs gs t u o Q X _ V.heap.size (Lib.hid (P.out.on hb)) (Lib.hid P.out.b.size) (Lib.hid hr) _ (by kernel_rfl)
  refine AllReady.cons rfl (fun K hK => ?_) ?_
  · have hb : Below V.heap.size V (V.alloc (.cells (bools fun _ => false) 48)) := (Below.refl _ _).alloc (Nat.le_refl _) _
    have hr : Tab (V.alloc (.cells (bools fun _ => false) 48)) V.heap.size (fun _ => false) := tab_new _ _
    delta opsB
    go_simp
    refine hK _ _ ?_
    rw [← bools_zero]
    exact both_0125 w3 h a1 a2 c1 c2 m1 m2 fs gs t u o Q X _ V.heap.size (Lib.hid (P.out.on hb)) (Lib.hid P.out.b.size) (Lib.hid hr) _ (by kernel_rfl)
  exact AllReady.nil
theorem both_0145 (w3 : World) (h : Nat) (a1 a2 : Option Addr) (c1 c2 m1 m2 : Nat) (fs gs : List Int) (t u : Nat → Bool) (o : Bool) (Q : Exit → Act → World → Prop) (X : Ctx w3 h a1 a2 c1 c2 m1 m2 fs gs t u o Q) (V : World) (g1 : Nat) (g2 : Nat) (P : Hid (Two3 w3 h a1 a2 c1 c2 m1 m2 fs gs V)) (E1 : Hid (w3.heap.size ≤ g1)) (R1 : Hid (Tab V g1 (fun _ => false))) (E2 : Hid (w3.heap.size ≤ g2)) (R2 : Hid (Tab V g2 (fun _ => false))) (NE : Hid (g1 ≠ g2)) (L : Array Bool) (hL : L = #[true, true, false, false, true, true, false, false]) :
    wpAny Try.prog .any opsB Q 4 L { tmps := #[.agg #[.slice a1 m1 c1], .agg #[.slice a2 m2 c2], .bool o, .pointer (some ⟨h, 0, none⟩), .pointer (some ⟨h + 1, 0, none⟩), undef, .pointer (some ⟨h + 1 + 1, 0, none⟩), .bool false, .pointer (some ⟨g1, 0, none⟩), .pointer (some ⟨g2, 0, none⟩), undef, .agg #[.slice a1 m1 c1], .bool true, .bool false, .bool false, .agg #[.slice a2 m2 c2], .bool true, .bool false, .bool false, undef, .agg #[.slice a1 m1 c1], .agg (bools t), undef, undef, undef, undef, undef, undef, undef, undef, undef, undef, undef, undef, undef, undef, undef, undef, undef, undef, undef, undef, undef, undef, undef, undef, undef, undef, undef, undef, undef], defers := [] } V := by
  subst hL
  refine wpAny_ready (rs := [2]) (by kernel_rfl) (by simp) ?_
  refine AllReady.cons rfl (fun K hK => ?_) ?_
  · have hcx := P.out.f2.cell
    delta opsB
    go_simp
    refine hK _ _ ?_
    exact both_01245 w3 h a1 a2 c1 c2 m1 m2 fs gs t u o Q X V g1 g2 P E1 R1 E2 R2 NE _ (by kernel_rfl)
  exact AllReady.nil
theorem both_014 (w3 : World) (h : Nat) (a1 a2 : Option Addr) (c1 c2 m1 m2 : Nat) (fs gs : List Int) (t u : Nat → Bool) (o : Bool) (Q : Exit → Act → World → Prop) (X : Ctx w3 h a1 a2 c1 c2 m1 m2 fs gs t u o Q) (V : World) (g1 : Nat) (P : Hid (Two3 w3 h a1 a2 c1 c2 m1 m2 fs gs V)) (E1 : Hid (w3.heap.size ≤ g1)) (R1 : Hid (Tab V g1 (fun _ => false))) (L : Array Bool) (hL : L = #[true, true, false, false, true, false, false, false]) :
    wpAny Try.prog .any opsB Q 5 L { tmps := #[.agg #[.slice a1 m1 c1], .agg #[.slice a2 m2 c2], .bool o, .pointer (some ⟨h, 0, none⟩), .pointer (some ⟨h + 1, 0, none⟩), undef, .pointer (some ⟨h + 1 + 1, 0, none⟩), .bool false, .pointer (some ⟨g1, 0, none⟩), undef, undef, .agg #[.slice a1 m1 c1], .bool true, .bool false, .bool false, .agg #[.slice a2 m2 c2], .bool true, .bool false, .bool false, undef, .agg #[.slice a1 m1 c1], .agg (bools t), undef, undef, undef, undef, undef, undef, undef, undef, undef, undef, undef, undef, undef, undef, undef, undef, undef, undef, undef, undef, undef, undef, undef, undef, undef, undef, undef, undef, undef], defers := [] } V := by
  subst hL
  refine wpAny_ready (rs := [2, 5]) (by kernel_rfl) (by simp) ?_
  refine AllReady.cons rfl (fun K hK => ?_) ?_
  · have hcx := P.out.f2.cell
    delta opsB
    go_simp
    refine hK _ _ ?_
    exact both_0124 w3 h a1 a2 c1 c2 m1 m2 fs gs t u o Q X V g1 P E1 R1 _ (by kernel_rfl)
  refine AllReady.cons rfl (fun K hK => ?_) ?_
  · have hb : Below V.heap.size V (V.alloc (.cells (bools fun _ => false) 48)) := (Below.refl _ _).alloc (Nat.le_refl _) _
    have hr : Tab (V.alloc (.cells (bools fun _ => false) 48)) V.heap.size (fun _ => false) := tab_new _ _
    delta opsB
    go_simp
    refine hK _ _ ?_
    rw [← bools_zero]
    exact both_0145 w3 h a1 a2 c1 c2 m1 m2 fs gs t u o Q X _ g1 V.heap.size (Lib.hid (P.out.on hb)) E1 (Lib.hid (R1.out.on hb)) (Lib.hid P.out.b.size) (Lib.hid hr) (Lib.hid (Nat.ne_of_lt R1.out.lt)) _ (by kernel_rfl)
  exact AllReady.nil
theorem both_015 (w3 : World) (h : Nat) (a1 a2 : Option Addr) (c1 c2 m1 m2 : Nat) (fs gs : List Int) (t u : Nat → Bool) (o : Bool) (Q : Exit → Act → World → Prop) (X : Ctx w3 h a1 a2 c1 c2 m1 m2 fs gs t u o Q) (V : World) (g2 : Nat) (P : Hid (Two3 w3 h a1 a2 c1 c2 m1 m2 fs gs V)) (E2 : Hid (w3.heap.size ≤ g2)) (R2 : Hid (Tab V g2 (fun _ => false))) (L : Array Bool) (hL : L = #[true, true, false, false, false, true, false, false]) :
    wpAny Try.prog .any opsB Q 5 L { tmps := #[.agg #[.slice a1 m1 c1], .agg #[.slice a2 m2 c2], .bool o, .pointer (some ⟨h, 0, none⟩), .pointer (some ⟨h + 1, 0, none⟩), undef, .pointer (some ⟨h + 1 + 1, 0, none⟩), .bool false, undef, .pointer (some ⟨g2, 0, none⟩), undef, .agg #[.slice a1 m1 c1], .bool true, .bool false, .bool false, .agg #[.slice a2 m2 c2], .bool true, .bool false, .bool false, undef, .agg #[.slice a1 m1 c1], .agg (bools t), undef, undef, undef, undef, undef, undef, undef, undef, undef, undef, undef, undef, undef, undef, undef, undef, undef, undef, undef, undef, undef, undef, undef, undef, undef, undef, undef, undef, undef], defers := [] } V := by
  subst hL
  refine wpAny_ready (rs := [2, 4]) (by kernel_rfl) (by simp) ?_
  refine AllReady.cons rfl (fun K hK => ?_) ?_
  · have hcx := P.out.f2.cell
    delta opsB
    go_simp
    refine hK _ _ ?_
    exact both_0125 w3 h a1 a2 c1 c2 m1 m2 fs gs t u o Q X V g2 P E2 R2 _ (by kernel_rfl)
  refine AllReady.cons rfl (fun K hK => ?_) ?_
  · have hb : Below V.heap.size V (V.alloc (.cells (bools fun _ => false) 48)) := (Below.refl _ _).alloc (Nat.le_refl _) _
    have hr : Tab (V.alloc (.cells (bools fun _ => false) 48)) V.heap.size (fun _ => false) := tab_new _ _
    delta opsB
    go_simp
    refine hK _ _ ?_
    rw [← bools_zero]
    exact both_0145 w3 h a1 a2 c1 c2 m1 m2 fs gs t u o Q X _ V.heap.size g2 (Lib.hid (P.out.on hb)) (Lib.hid P.out.b.size) (Lib.hid hr) E2 (Lib.hid (R2.out.on hb)) (Lib.hid (Nat.ne_of_gt R2.out.lt)) _ (by kernel_rfl)
  exact AllReady.nil
theorem both_01 (w3 : World) (h : Nat) (a1 a2 : Option Addr) (c1 c2 m1 m2 : Nat) (fs gs : List Int) (t u : Nat → Bool) (o : Bool) (Q : Exit → Act → World → Prop) (X : Ctx w3 h a1 a2 c1 c2 m1 m2 fs gs t u o Q) (V : World) (P : Hid (Two3 w3 h a1 a2 c1 c2 m1 m2 fs gs V)) (L : Array Bool) (hL : L = #[true, true, false, false, false, false, false, false]) :
    wpAny Try.prog .any opsB Q 6 L { tmps := #[.agg #[.slice a1 m1 c1], .agg #[.slice a2 m2 c2], .bool o, .pointer (some ⟨h, 0, none⟩), .pointer (some ⟨h + 1, 0, none⟩), undef, .pointer (some ⟨h + 1 + 1, 0, none⟩), .bool false, undef, undef, undef, .agg #[.slice a1 m1 c1], .bool true, .bool false, .bool false, .agg #[.slice a2 m2 c2], .bool true, .bool false, .bool false, undef, .agg #[.slice a1 m1 c1], .agg (bools t), undef, undef, undef, undef, undef, undef, undef, undef, undef, undef, undef, undef, undef, undef, undef, undef, undef, undef, undef, undef, undef, undef, undef, undef, undef, undef, undef, undef, undef], defers := [] } V := by
  subst hL
  refine wpAny_ready (rs := [2, 4, 5]) (by kernel_rfl) (by simp) ?_
  refine AllReady.cons rfl (fun K hK => ?_) ?_
  · have hcx := P.out.f2.cell
    delta opsB
    go_simp
    refine hK _ _ ?_
    exact both_012 w3 h a1 a2 c1 c2 m1 m2 fs gs t u o Q X V P _ (by kernel_rfl)
  refine AllReady.cons rfl (fun K hK => ?_) ?_
  · have hb : Below V.heap.size V (V.alloc (.cells (bools fun _ => false) 48)) := (Below.refl _ _).alloc (Nat.le_refl _) _
    have hr : Tab (V.alloc (.cells (bools fun _ => false) 48)) V.heap.size (fun _ => false) := tab_new _ _
    delta opsB
    go_simp
    refine hK _ _ ?_
    rw [← bools_zero]
    exact both_014 w3 h a1 a2 c1 c2 m1 m2 fs gs t u o Q X _ V.heap.size (Lib.hid (P.out.on hb)) (Lib.hid P.out.b.size) (Lib.hid hr) _ (by kernel_rfl)
  refine AllReady.cons rfl (fun K hK => ?_) ?_
  · have hb : Below V.heap.size V (V.alloc (.cells (bools fun _ => false) 48)) := (Below.refl _ _).alloc (Nat.le_refl _) _
    have hr : Tab (V.alloc (.cells (bools fun _ => false) 48)) V.heap.size (fun _ => false) := tab_new _ _
    delta opsB
    go_simp
    refine hK _ _ ?_
    rw [← bools_zero]
    exact both_015 w3 h a1 a2 c1 c2 m1 m2 fs gs t u o Q X _ V.heap.size (Lib.hid (P.out.on hb)) (Lib.hid P.out.b.size) (Lib.hid hr) _ (by kernel_rfl)
  exact AllReady.nil
theorem both_0245 (w3 : World) (h : Nat) (a1 a2 : Option Addr) (c1 c2 m1 m2 : Nat) (fs gs : List Int) (t u : Nat → Bool) (o : Bool) (Q : Exit → Act → World → Prop) (X : Ctx w3 h a1 a2 c1 c2 m1 m2 fs gs t u o Q) (V : World) (g1 : Nat) (g2 : Nat) (P : Hid (Two3 w3 h a1 a2 c1 c2 m1 m2 fs gs V)) (E1 : Hid (w3.heap.size ≤ g1)) (R1 : Hid (Tab V g1 (fun _ => false))) (E2 : Hid (w3.heap.size ≤ g2)) (R2 : Hid (Tab V g2 (fun _ => false))) (NE : Hid (g1 ≠ g2)) (L : Array Bool) (hL : L = #[true, false, true, false, true, true, false, false]) :
    wpAny Try.prog .any opsB Q 4 L { tmps := #[.agg #[.slice a1 m1 c1], .agg #[.slice a2 m2 c2], .bool o, .pointer (some ⟨h, 0, none⟩), .pointer (some ⟨h + 1, 0, none⟩), undef, .pointer (some ⟨h + 1 + 1, 0, none⟩), .bool false, .pointer (some ⟨g1, 0, none⟩), .pointer (some ⟨g2, 0, none⟩), undef, .agg #[.slice a1 m1 c1], .bool true, .bool false, .bool false, .agg #[.slice a2 m2 c2], .bool true, .bool false, .bool false, undef, .agg #[.slice a1 m1 c1], undef, .agg #[.slice a2 m2 c2], undef, undef, undef, undef, undef, undef, undef, undef, undef, undef, undef, undef, undef, undef, undef, undef, undef, undef, undef, undef, undef, undef, undef, undef, undef, undef, undef, undef], defers := [] } V := by
  subst hL
  refine wpAny_ready (rs := [1]) (by kernel_rfl) (by simp) ?_
  refine AllReady.cons rfl (fun K hK => ?_) ?_
  · delta opsB
    go_simp
    refine (X.k1 _ (Lib.hid P.out.j1)).mono ?_
    rintro e V2 ⟨rfl, hb⟩
    try go_simp
    refine hK _ _ ?_
    exact both_01245 w3 h a1 a2 c1 c2 m1 m2 fs gs t u o Q X V2 g1 g2 (Lib.hid (P.out.on hb)) E1 (Lib.hid (R1.out.on hb)) E2 (Lib.hid (R2.out.on hb)) NE _ (by kernel_rfl)
  exact AllReady.nil
theorem both_024 (w3 : World) (h : Nat) (a1 a2 : Option Addr) (c1 c2 m1 m2 : Nat) (fs gs : List Int) (t u : Nat → Bool) (o : Bool) (Q : Exit → Act → World → Prop) (X : Ctx w3 h a1 a2 c1 c2 m1 m2 fs gs t u o Q) (V : World) (g1 : Nat) (P : Hid (Two3 w3 h a1 a2 c1 c2 m1 m2 fs gs V)) (E1 : Hid (w3.heap.size ≤ g1)) (R1 : Hid (Tab V g1 (fun _ => false))) (L : Array Bool) (hL : L = #[true, false, true, false, true, false, false, false]) :
    wpAny Try.prog .any opsB Q 5 L { tmps := #[.agg #[.slice a1 m1 c1], .agg #[.slice a2 m2 c2], .bool o, .pointer (some ⟨h, 0, none⟩), .pointer (some ⟨h + 1, 0, none⟩), undef, .pointer (some ⟨h + 1 + 1, 0, none⟩), .bool false, .pointer (some ⟨g1, 0, none⟩), undef, undef, .agg #[.slice a1 m1 c1], .bool true, .bool false, .bool false, .agg #[.slice a2 m2 c2], .bool true, .bool false, .bool false, undef, .agg #[.slice a1 m1 c1], undef, .agg #[.slice a2 m2 c2], undef, undef, undef, undef, undef, undef, undef, undef, undef, undef, undef, undef, undef, undef, undef, undef, undef, undef, undef, undef, undef, undef, undef, undef, undef, undef, undef, undef], defers := [] } V := by
  subst hL
  refine wpAny_ready (rs := [1, 5]) (by kernel_rfl) (by simp) ?_
  refine AllReady.cons rfl (fun K hK => ?_) ?_
  · delta opsB
    go_simp
    refine (X.k1 _ (Lib.hid P.out.j1)).mono ?_
    rintro e V2 ⟨rfl, hb⟩
    try go_simp
    refine hK _ _ ?_
    exact both_0124 w3 h a1 a2 c1 c2 m1 m2 fs gs t u o Q X V2 g1 (Lib.hid (P.out.on hb)) E1 (Lib.hid (R1.out.on hb)) _ (by kernel_rfl)
  refine AllReady.cons rfl (fun K hK => ?_) ?_
  · have hb : Below V.heap.size V (V.alloc (.cells (bools fun _ => false) 48)) := (Below.refl _ _).alloc (Nat.le_refl _) _
    have hr : Tab (V.alloc (.cells (bools fun _ => false) 48)) V.heap.size (fun _ => false) := tab_new _ _
    delta opsB
    go_simp
    refine hK _ _ ?_
    rw [← bools_zero]
    exact both_0245 w3 h a1 a2 c1 c2 m1 m2 fs gs t u o Q X _ g1 V.heap.size (Lib.hid (P.out.on hb)) E1 (Lib.hid (R1.out.on hb)) (Lib.hid P.out.b.size) (Lib.hid hr) (Lib.hid (Nat.ne_of_lt R1.out.lt)) _ (by kernel_rfl)
  exact AllReady.nil
theorem both_025 (w3 : World) (h : Nat) (a1 a2 : Option Addr) (c1 c2 m1 m2 : Nat) (fs gs : List Int) (t u : Nat → Bool) (o : Bool) (Q : Exit → Act → World → Prop) (X : Ctx w3 h a1 a2 c1 c2 m1 m2 fs gs t u o Q) (V : World) (g2 : Nat) (P : Hid (Two3 w3 h a1 a2 c1 c2 m1 m2 fs gs V)) (E2 : Hid (w3.heap.size ≤ g2)) (R2 : Hid (Tab V g2 (fun _ => false))) (L : Array Bool) (hL : L = #[true, false, true, false, false, true, false, false]) :
    wpAny Try.prog .any opsB Q 5 L { tmps := #[.agg #[.slice a1 m1 c1], .agg #[.slice a2 m2 c2], .bool o, .pointer (some ⟨h, 0, none⟩), .pointer (some ⟨h + 1, 0, none⟩), undef, .pointer (some ⟨h + 1 + 1, 0, none⟩), .bool false, undef, .pointer (some ⟨g2, 0, none⟩), undef, .agg #[.slice a1 m1 c1], .bool true, .bool false, .bool false, .agg #[.slice a2 m2 c2], .bool true, .bool false, .bool false, undef, .agg #[.slice a1 m1 c1], undef, .agg #[.slice a2 m2 c2], undef, undef, undef, undef, undef, undef, undef, undef, undef, undef, undef, undef, undef, undef, undef, undef, undef, undef, undef, undef, undef, undef, undef, undef, undef, undef, undef, undef], defers := [] } V := by
  subst hL
  refine wpAny_ready (rs := [1, 4]) (by kernel_rfl) (by simp) ?_
  refine AllReady.cons rfl (fun K hK => ?_) ?_
  · delta opsB
    go_simp
    refine (X.k1 _ (Lib.hid P.out.j1)).mono ?_
    rintro e V2 ⟨rfl, hb⟩
    try go_simp
    refine hK _ _ ?_
    exact both_0125 w3 h a1 a2 c1 c2 m1 m2 fs gs t u o Q X V2 g2 (Lib.hid (P.out.on hb)) E2 (Lib.hid (R2.out.on hb)) _ (by kernel_rfl)
  refine AllReady.cons rfl (fun K hK => ?_) ?_
  · have hb : Below V.heap.size V (V.alloc (.cells (bools fun _ => false) 48)) := (Below.refl _ _).alloc (Nat.le_refl _) _
    have hr : Tab (V.alloc (.cells (bools fun _ => false) 48)) V.heap.size (fun _ => false) := tab_new _ _
    delta opsB
    go_simp
    refine hK _ _ ?_
    rw [← bools_zero]
    exact both_0245 w3 h a1 a2 c1 c2 m1 m2 fs gs t u o Q X _ V.heap.size g2 (Lib.hid (P.out.on hb)) (Lib.hid P.out.b.size) (Lib.hid hr) E2 (Lib.hid (R2.out.on hb)) (Lib.hid (Nat.ne_of_gt R2.out.lt)) _ (by kernel_rfl)
  exact AllReady.nil
theorem both_02 (w3 : World) (h : Nat) (a1 a2 : Option Addr) (c1 c2 m1 m2 : Nat) (fs gs : List Int) (t u : Nat → Bool) (o : Bool) (Q : Exit → Act → World → Prop) (X : Ctx w3 h a1 a2 c1 c2 m1 m2 fs gs t u o Q) (V : World) (P : Hid (Two3 w3 h a1 a2 c1 c2 m1 m2 fs gs V)) (L : Array Bool) (hL : L = #[true, false, true, false, false, false, false, false]) :
    wpAny Try.prog .any opsB Q 6 L { tmps := #[.agg #[.slice a1 m1 c1], .agg #[.slice a2 m2 c2], .bool o, .pointer (some ⟨h, 0, none⟩), .pointer (some ⟨h + 1, 0, none⟩), undef, .pointer (some ⟨h + 1 + 1, 0, none⟩), .bool false, undef, undef, undef, .agg #[.slice a1 m1 c1], .bool true, .bool false, .bool false, .agg #[.slice a2 m2 c2], .bool true, .bool false, .bool false, undef, .agg #[.slice a1 m1 c1], undef, .agg #[.slice a2 m2 c2], undef, undef, undef, undef, undef, undef, undef, undef, undef, undef, undef, undef, undef, undef, undef, undef, undef, undef, undef, undef, undef, undef, undef, undef, undef, undef, undef, undef], defers := [] } V := by
  subst hL
  refine wpAny_ready (rs := [1, 4, 5]) (by kernel_rfl) (by simp) ?_
  refine AllReady.cons rfl (fun K hK => ?_) ?_
  · delta opsB
    go_simp
    refine (X.k1 _ (Lib.hid P.out.j1)).mono ?_
    rintro e V2 ⟨rfl, hb⟩
    try go_simp
    refine hK _ _ ?_
    exact both_012 w3 h a1 a2 c1 c2 m1 m2 fs gs t u o Q X V2 (Lib.hid (P.out.on hb)) _ (by kernel_rfl)
  refine AllReady.cons rfl (fun K hK => ?_) ?_
  · have hb : Below V.heap.size V (V.alloc (.cells (bools fun _ => false) 48)) := (Below.refl _ _).alloc (Nat.le_refl _) _
    have hr : Tab (V.alloc (.cells (bools fun _ => false) 48)) V.heap.size (fun _ => false) := tab_new _ _
    delta opsB
    go_simp
    refine hK _ _ ?_
    rw [← bools_zero]
    exact both_024 w3 h a1 a2 c1 c2 m1 m2 fs gs t u o Q X _ V.heap.size (Lib.hid (P.out.on hb)) (Lib.hid P.out.b.size) (Lib.hid hr) _ (by kernel_rfl)
  refine AllReady.cons rfl (fun K hK => ?_) ?_
  · have hb : Below V.heap.size V (V.alloc (.cells (bools fun _ => false) 48)) := (Below.refl _ _).alloc (Nat.le_refl _) _
    have hr : Tab (V.alloc (.cells (bools fun _ => false) 48)) V.heap.size (fun _ => false) := tab_new _ _
    delta opsB
    go_simp
    refine hK _ _ ?_
    rw [← bools_zero]
    exact both_025 w3 h a1 a2 c1 c2 m1 m2 fs gs t u o Q X _ V.heap.size (Lib.hid (P.out.on hb)) (Lib.hid P.out.b.size) (Lib.hid hr) _ (by kernel_rfl)
  exact AllReady.nil
theorem both_045 (w3 : World) (h : Nat) (a1 a2 : Option Addr) (c1 c2 m1 m2 : Nat) (fs gs : List Int) (t u : Nat → Bool) (o : Bool) (Q : Exit → Act → World → Prop) (X : Ctx w3 h a1 a2 c1 c2 m1 m2 fs gs t u o Q) (V : World) (g1 : Nat) (g2 : Nat) (P : Hid (Two3 w3 h a1 a2 c1 c2 m1 m2 fs gs V)) (E1 : Hid (w3.heap.size ≤ g1)) (R1 : Hid (Tab V g1 (fun _ => false))) (E2 : Hid (w3.heap.size ≤ g2)) (R2 : Hid (Tab V g2 (fun _ => false))) (NE : Hid (g1 ≠ g2)) (L : Array Bool) (hL : L = #[true, false, false, false, true, true, false, false]) :
    wpAny Try.prog .any opsB Q 5 L { tmps := #[.agg #[.slice a1 m1 c1], .agg #[.slice a2 m2 c2], .bool o, .pointer (some ⟨h, 0, none⟩), .pointer (some ⟨h + 1, 0, none⟩), undef, .pointer (some ⟨h + 1 + 1, 0, none⟩), .bool false, .pointer (some ⟨g1, 0, none⟩), .pointer (some ⟨g2, 0, none⟩), undef, .agg #[.slice a1 m1 c1], .bool true, .bool false, .bool false, .agg #[.slice a2 m2 c2], .bool true, .bool false, .bool false, undef, .agg #[.slice a1 m1 c1], undef, undef, undef, undef, undef, undef, undef, undef, undef, undef, undef, undef, undef, undef, undef, undef, undef, undef, undef, undef, undef, undef, undef, undef, undef, undef, undef, undef, undef, undef], defers := [] } V := by
  subst hL
  refine wpAny_ready (rs := [1, 2]) (by kernel_rfl) (by simp) ?_
  refine AllReady.cons rfl (fun K hK => ?_) ?_
  · delta opsB
    go_simp
    refine (X.k1 _ (Lib.hid P.out.j1)).mono ?_
    rintro e V2 ⟨rfl, hb⟩
    try go_simp
    refine hK _ _ ?_
    exact both_0145 w3 h a1 a2 c1 c2 m1 m2 fs gs t u o Q X V2 g1 g2 (Lib.hid (P.out.on hb)) E1 (Lib.hid (R1.out.on hb)) E2 (Lib.hid (R2.out.on hb)) NE _ (by kernel_rfl)
  refine AllReady.cons rfl (fun K hK => ?_) ?_
  · have hcx := P.out.f2.cell
    delta opsB
    go_simp
    refine hK _ _ ?_
    exact both_0245 w3 h a1 a2 c1 c2 m1 m2 fs gs t u o Q X V g1 g2 P E1 R1 E2 R2 NE _ (by kernel_rfl)
  exact AllReady.nil
theorem both_04 (w3 : World) (h : Nat) (a1 a2 : Option Addr) (c1 c2 m1 m2 : Nat) (fs gs : List Int) (t u : Nat → Bool) (o : Bool) (Q : Exit → Act → World → Prop) (X : Ctx w3 h a1 a2 c1 c2 m1 m2 fs gs t u o Q) (V : World) (g1 : Nat) (P : Hid (Two3 w3 h a1 a2 c1 c2 m1 m2 fs gs V)) (E1 : Hid (w3.heap.size ≤ g1)) (R1 : Hid (Tab V g1 (fun _ => false))) (L : Array Bool) (hL : L = #[true, false, false, false, true, false, false, false]) :
    wpAny Try.prog .any opsB Q 6 L { tmps := #[.agg #[.slice a1 m1 c1], .agg #[.slice a2 m2 c2], .bool o, .pointer (some ⟨h, 0, none⟩), .pointer (some ⟨h + 1, 0, none⟩), undef, .pointer (some ⟨h + 1 + 1, 0, none⟩), .bool false, .pointer (some ⟨g1, 0, none⟩), undef, undef, .agg #[.slice a1 m1 c1], .bool true, .bool false, .bool false, .agg #[.slice a2 m2 c2], .bool true, .bool false, .bool false, undef, .agg #[.slice a1 m1 c1], undef, undef, undef, undef, undef, undef, undef, undef, undef, undef, undef, undef, undef, undef, undef, undef, undef, undef, undef, undef, undef, undef, undef, undef, undef, undef, undef, undef, undef, undef], defers := [] } V := by
  subst hL
  refine wpAny_ready (rs := [1, 2, 5]) (by kernel_rfl) (by simp) ?_
  refine AllReady.cons rfl (fun K hK => ?_) ?_
  · delta opsB
    go_simp
    refine (X.k1 _ (Lib.hid P.out.j1)).mono ?_
    rintro e V2 ⟨rfl, hb⟩
    try go_simp
    refine hK _ _ ?_
    exact both_014 w3 h a1 a2 c1 c2 m1 m2 fs gs t u o Q X V2 g1 (Lib.hid (P.out.on hb)) E1 (Lib.hid (R1.out.on hb)) _ (by kernel_rfl)
  refine AllReady.cons rfl (fun K hK => ?_) ?_
  · have hcx := P.out.f2.cell
    delta opsB
    go_simp
    refine hK _ _ ?_
    exact both_024 w3 h a1 a2 c1 c2 m1 m2 fs gs t u o Q X V g1 P E1 R1 _ (by kernel_rfl)
  refine AllReady.cons rfl (fun K hK => ?_) ?_
  · have hb : Below V.heap.size V (V.alloc (.cells (bools fun _ => false) 48)) := (Below.refl _ _).alloc (Nat.le_refl _) _
    have hr : Tab (V.alloc (.cells (bools fun _ => false) 48)) V.heap.size (fun _ => false) := tab_new _ _
    delta opsB
    go_simp
    refine hK _ _ ?_
    rw [← bools_zero]
    exact both_045 w3 h a1 a2 c1 c2 m1 m2 fs gs t u o Q X _ g1 V.heap.size (Lib.hid (P.out.on hb)) E1 (Lib.hid (R1.out.on hb)) (Lib.hid P.out.b.size) (Lib.hid hr) (Lib.hid (Nat.ne_of_lt R1.out.lt)) _ (by kernel_rfl)
  exact AllReady.nil
theorem both_05 (w3 : World) (h : Nat) (a1 a2 : Option Addr) (c1 c2 m1 m2 : Nat) (fs gs : List Int) (t u : Nat → Bool) (o : Bool) (Q : Exit → Act → World → Prop) (X : Ctx w3 h a1 a2 c1 c2 m1 m2 fs gs t u o Q) (V : World) (g2 : Nat) (P : Hid (Two3 w3 h a1 a2 c1 c2 m1 m2 fs gs V)) (E2 : Hid (w3.heap.size ≤ g2)) (R2 : Hid (Tab V g2 (fun _ => false))) (L : Array Bool) (hL : L = #[true, false, false, false, false, true, false, false]) :
    wpAny Try.prog .any opsB Q 6 L { tmps := #[.agg #[.slice a1 m1 c1], .agg #[.slice a2 m2 c2], .bool o, .pointer (some ⟨h, 0, none⟩), .pointer (some ⟨h + 1, 0, none⟩), undef, .pointer (some ⟨h + 1 + 1, 0, none⟩), .bool false, undef, .pointer (some ⟨g2, 0, none⟩), undef, .agg #[.slice a1 m1 c1], .bool true, .bool false, .bool false, .agg #[.slice a2 m2 c2], .bool true, .bool false, .bool false, undef, .agg #[.slice a1 m1 c1], undef, undef, undef, undef, undef, undef, undef, undef, undef, undef, undef, undef, undef, undef, undef, undef, undef, undef, undef, undef, undef, undef, undef, undef, undef, undef, undef, undef, undef, undef], defers := [] } V := by
  subst hL
  refine wpAny_ready (rs := [1, 2, 4]) (by kernel_rfl) (by simp) ?_
  refine AllReady.cons rfl (fun K hK => ?_) ?_
  · delta opsB
    go_simp
    refine (X.k1 _ (Lib.hid P.out.j1)).mono ?_
    rintro e V2 ⟨rfl, hb⟩
    try go_simp
    refine hK _ _ ?_
    exact both_015 w3 h a1 a2 c1 c2 m1 m2 fs gs t u o Q X V2 g2 (Lib.hid (P.out.on hb)) E2 (Lib.hid (R2.out.on hb)) _ (by kernel_rfl)
  refine AllReady.cons rfl (fun K hK => ?_) ?_
  · have hcx := P.out.f2.cell
    delta opsB
    go_simp
    refine hK _ _ ?_
    exact both_025 w3 h a1 a2 c1 c2 m1 m2 fs gs t u o Q X V g2 P E2 R2 _ (by kernel_rfl)
  refine AllReady.cons rfl (fun K hK => ?_) ?_
  · have hb : Below V.heap.size V (V.alloc (.cells (bools fun _ => false) 48)) := (Below.refl _ _).alloc (Nat.le_refl _) _
    have hr : Tab (V.alloc (.cells (bools fun _ => false) 48)) V.heap.size (fun _ => false) := tab_new _ _
    delta opsB
    go_simp
    refine hK _ _ ?_
    rw [← bools_zero]
    exact both_045 w3 h a1 a2 c1 c2 m1 m2 fs gs t u o Q X _ V.heap.size g2 (Lib.hid (P.out.on hb)) (Lib.hid P.out.b.size) (Lib.hid hr) E2 (Lib.hid (R2.out.on hb)) (Lib.hid (Nat.ne_of_gt R2.out.lt)) _ (by kernel_rfl)
  exact AllReady.nil
theorem both_0 (w3 : World) (h : Nat) (a1 a2 : Option Addr) (c1 c2 m1 m2 : Nat) (fs gs : List Int) (t u : Nat → Bool) (o : Bool) (Q : Exit → Act → World → Prop) (X : Ctx w3 h a1 a2 c1 c2 m1 m2 fs gs t u o Q) (V : World) (P : Hid (Two3 w3 h a1 a2 c1 c2 m1 m2 fs gs V)) (L : Array Bool) (hL : L = #[true, false, false, false, false, false, false, false]) :
    wpAny Try.prog .any opsB Q 7 L { tmps := #[.agg #[.slice a1 m1 c1], .agg #[.slice a2 m2 c2], .bool o, .pointer (some ⟨h, 0, none⟩), .pointer (some ⟨h + 1, 0, none⟩), undef, .pointer (some ⟨h + 1 + 1, 0, none⟩), .bool false, undef, undef, undef, .agg #[.slice a1 m1 c1], .bool true, .bool false, .bool false, .agg #[.slice a2 m2 c2], .bool true, .bool false, .bool false, undef, .agg #[.slice a1 m1 c1], undef, undef, undef, undef, undef, undef, undef, undef, undef, undef, undef, undef, undef, undef, undef, undef, undef, undef, undef, undef, undef, undef, undef, undef, undef, undef, undef, undef, undef, undef], defers := [] } V := by
  subst hL
  refine wpAny_ready (rs := [1, 2, 4, 5]) (by kernel_rfl) (by simp) ?_
  refine AllReady.cons rfl (fun K hK => ?_) ?_
  · delta opsB
    go_simp
    refine (X.k1 _ (Lib.hid P.out.j1)).mono ?_
    rintro e V2 ⟨rfl, hb⟩
    try go_simp
    refine hK _ _ ?_
    exact both_01 w3 h a1 a2 c1 c2 m1 m2 fs gs t u o Q X V2 (Lib.hid (P.out.on hb)) _ (by kernel_rfl)
  refine AllReady.cons rfl (fun K hK => ?_) ?_
  · have hcx := P.out.f2.cell
    delta opsB
    go_simp
    refine hK _ _ ?_
    exact both_02 w3 h a1 a2 c1 c2 m1 m2 fs gs t u o Q X V P _ (by kernel_rfl)
  refine AllReady.cons rfl (fun K hK => ?_) ?_
  · have hb : Below V.heap.size V (V.alloc (.cells (bools fun _ => false) 48)) := (Below.refl _ _).alloc (Nat.le_refl _) _
    have hr : Tab (V.alloc (.cells (bools fun _ => false) 48)) V.heap.size (fun _ => false) := tab_new _ _
    delta opsB
    go_simp
    refine hK _ _ ?_
    rw [← bools_zero]
    exact both_04 w3 h a1 a2 c1 c2 m1 m2 fs gs t u o Q X _ V.heap.size (Lib.hid (P.out.on hb)) (Lib.hid P.out.b.size) (Lib.hid hr) _ (by kernel_rfl)
  refine AllReady.cons rfl (fun K hK => ?_) ?_
  · have hb : Below V.heap.size V (V.alloc (.cells (bools fun _ => false) 48)) := (Below.refl _ _).alloc (Nat.le_refl _) _
    have hr : Tab (V.alloc (.cells (bools fun _ => false) 48)) V.heap.size (fun _ => false) := tab_new _ _
    delta opsB
    go_simp
    refine hK _ _ ?_
    rw [← bools_zero]
    exact both_05 w3 h a1 a2 c1 c2 m1 m2 fs gs t u o Q X _ V.heap.size (Lib.hid (P.out.on hb)) (Lib.hid P.out.b.size) (Lib.hid hr) _ (by kernel_rfl)
  exact AllReady.nil
theorem both_245 (w3 : World) (h : Nat) (a1 a2 : Option Addr) (c1 c2 m1 m2 : Nat) (fs gs : List Int) (t u : Nat → Bool) (o : Bool) (Q : Exit → Act → World → Prop) (X : Ctx w3 h a1 a2 c1 c2 m1 m2 fs gs t u o Q) (V : World) (g1 : Nat) (g2 : Nat) (P : Hid (Two3 w3 h a1 a2 c1 c2 m1 m2 fs gs V)) (E1 : Hid (w3.heap.size ≤ g1)) (R1 : Hid (Tab V g1 (fun _ => false))) (E2 : Hid (w3.heap.size ≤ g2)) (R2 : Hid (Tab V g2 (fun _ => false))) (NE : Hid (g1 ≠ g2)) (L : Array Bool) (hL : L = #[false, false, true, false, true, true, false, false]) :
    wpAny Try.prog .any opsB Q 5 L { tmps := #[.agg #[.slice a1 m1 c1], .agg #[.slice a2 m2 c2], .bool o, .pointer (some ⟨h, 0, none⟩), .pointer (some ⟨h + 1, 0, none⟩), undef, .pointer (some ⟨h + 1 + 1, 0, none⟩), .bool false, .pointer (some ⟨g1, 0, none⟩), .pointer (some ⟨g2, 0, none⟩), undef, .agg #[.slice a1 m1 c1], .bool true, .bool false, .bool false, .agg #[.slice a2 m2 c2], .bool true, .bool false, .bool false, undef, undef, undef, .agg #[.slice a2 m2 c2], undef, undef, undef, undef, undef, undef, undef, undef, undef, undef, undef, undef, undef, undef, undef, undef, undef, undef, undef, undef, undef, undef, undef, undef, undef, undef, undef, undef], defers := [] } V := by
  subst hL
  refine wpAny_ready (rs := [0]) (by kernel_rfl) (by simp) ?_
  refine AllReady.cons rfl (fun K hK => ?_) ?_
  · have hcx := P.out.f1.cell
    delta opsB
    go_simp
    refine hK _ _ ?_
    exact both_0245 w3 h a1 a2 c1 c2 m1 m2 fs gs t u o Q X V g1 g2 P E1 R1 E2 R2 NE _ (by kernel_rfl)
  exact AllReady.nil
theorem both_24 (w3 : World) (h : Nat) (a1 a2 : Option Addr) (c1 c2 m1 m2 : Nat) (fs gs : List Int) (t u : Nat → Bool) (o : Bool) (Q : Exit → Act → World → Prop) (X : Ctx w3 h a1 a2 c1 c2 m1 m2 fs gs t u o Q) (V : World) (g1 : Nat) (P : Hid (Two3 w3 h a1 a2 c1 c2 m1 m2 fs gs V)) (E1 : Hid (w3.heap.size ≤ g1)) (R1 : Hid (Tab V g1 (fun _ => false))) (L : Array Bool) (hL : L = #[false, false, true, false, true, false, false, false]) :
    wpAny Try.prog .any opsB Q 6 L { tmps := #[.agg #[.slice a1 m1 c1], .agg #[.slice a2 m2 c2], .bool o, .pointer (some ⟨h, 0, none⟩), .pointer (some ⟨h + 1, 0, none⟩), undef, .pointer (some ⟨h + 1 + 1, 0, none⟩), .bool false, .pointer (some ⟨g1, 0, none⟩), undef, undef, .agg #[.slice a1 m1 c1], .bool true, .bool false, .bool false, .agg #[.slice a2 m2 c2], .bool true, .bool false, .bool false, undef, undef, undef, .agg #[.slice a2 m2 c2], undef, undef, undef, undef, undef, undef, undef, undef, undef, undef, undef, undef, undef, undef, undef, undef, undef, undef, undef, undef, undef, undef, undef, undef, undef, undef, undef, undef], defers := [] } V := by
  subst hL
  refine wpAny_ready (rs := [0, 5]) (by kernel_rfl) (by simp) ?_
  refine AllReady.cons rfl (fun K hK => ?_) ?_
  · have hcx := P.out.f1.cell
    delta opsB
    go_simp
    refine hK _ _ ?_
    exact both_024 w3 h a1 a2 c1 c2 m1 m2 fs gs t u o Q X V g1 P E1 R1 _ (by kernel_rfl)
  refine AllReady.cons rfl (fun K hK => ?_) ?_
  · have hb : Below V.heap.size V (V.alloc (.cells (bools fun _ => false) 48)) := (Below.refl _ _).alloc (Nat.le_refl _) _
    have hr : Tab (V.alloc (.cells (bools fun _ => false) 48)) V.heap.size (fun _ => false) := tab_new _ _
    delta opsB
    go_simp
    refine hK _ _ ?_
    rw [← bools_zero]
    exact both_245 w3 h a1 a2 c1 c2 m1 m2 fs gs t u o Q X _ g1 V.heap.size (Lib.hid (P.out.on hb)) E1 (Lib.hid (R1.out.on hb)) (Lib.hid P.out.b.size) (Lib.hid hr) (Lib.hid (Nat.ne_of_lt R1.out.lt)) _ (by kernel_rfl)
  exact AllReady.nil
theorem both_25 (w3 : World) (h : Nat) (a1 a2 : Option Addr) (c1 c2 m1 m2 : Nat) (fs gs : List Int) (t u : Nat → Bool) (o : Bool) (Q : Exit → Act → World → Prop) (X : Ctx w3 h a1 a2 c1 c2 m1 m2 fs gs t u o Q) (V : World) (g2 : Nat) (P : Hid (Two3 w3 h a1 a2 c1 c2 m1 m2 fs gs V)) (E2 : Hid (w3.heap.size ≤ g2)) (R2 : Hid (Tab V g2 (fun _ => false))) (L : Array Bool) (hL : L = #[false, false, true, false, false, true, false, false]) :
    wpAny Try.prog .any opsB Q 6 L { tmps := #[.agg #[.slice a1 m1 c1], .agg #[.slice a2 m2 c2], .bool o, .pointer (some ⟨h, 0, none⟩), .pointer (some ⟨h + 1, 0, none⟩), undef, .pointer (some ⟨h + 1 + 1, 0, none⟩), .bool false, undef, .pointer (some ⟨g2, 0, none⟩), undef, .agg #[.slice a1 m1 c1], .bool true, .bool false, .bool false, .agg #[.slice a2 m2 c2], .bool true, .bool false, .bool false, undef, undef, undef, .agg #[.slice a2 m2 c2], undef, undef, undef, undef, undef, undef, undef, undef, undef, undef, undef, undef, undef, undef, undef, undef, undef, undef, undef, undef, undef, undef, undef, undef, undef, undef, undef, undef], defers := [] } V := by
  subst hL
  refine wpAny_ready (rs := [0, 4]) (by kernel_rfl) (by simp) ?_
  refine AllReady.cons rfl (fun K hK => ?_) ?_
  · have hcx := P.out.f1.cell
    delta opsB
    go_simp
    refine hK _ _ ?_
    exact both_025 w3 h a1 a2 c1 c2 m1 m2 fs gs t u o Q X V g2 P E2 R2 _ (by kernel_rfl)
  refine AllReady.cons rfl (fun K hK => ?_) ?_
  · have hb : Below V.heap.size V (V.alloc (.cells (bools fun _ => false) 48)) := (Below.refl _ _).alloc (Nat.le_refl _) _
    have hr : Tab (V.alloc (.cells (bools fun _ => false) 48)) V.heap.size (fun _ => false) := tab_new _ _
    delta opsB
    go_simp
    refine hK _ _ ?_
    rw [← bools_zero]
    exact both_245 w3 h a1 a2 c1 c2 m1 m2 fs gs t u o Q X _ V.heap.size g2 (Lib.hid (P.out.on hb)) (Lib.hid P.out.b.size) (Lib.hid hr) E2 (Lib.hid (R2.out.on hb)) (Lib.hid (Nat.ne_of_gt R2.out.lt)) _ (by kernel_rfl)
  exact AllReady.nil
theorem both_2 (w3 : World) (h : Nat) (a1 a2 : Option Addr) (c1 c2 m1 m2 : Nat) (fs gs : List Int) (t u : Nat → Bool) (o : Bool) (Q : Exit → Act → World → Prop) (X : Ctx w3 h a1 a2 c1 c2 m1 m2 fs gs t u o Q) (V : World) (P : Hid (Two3 w3 h a1 a2 c1 c2 m1 m2 fs gs V)) (L : Array Bool) (hL : L = #[false, false, true, false, false, false, false, false]) :
    wpAny Try.prog .any opsB Q 7 L { tmps := #[.agg #[.slice a1 m1 c1], .agg #[.slice a2 m2 c2], .bool o, .pointer (some ⟨h, 0, none⟩), .pointer (some ⟨h + 1, 0, none⟩), undef, .pointer (some ⟨h + 1 + 1, 0, none⟩), .bool false, undef, undef, undef, .agg #[.slice a1 m1 c1], .bool true, .bool false, .bool false, .agg #[.slice a2 m2 c2], .bool true, .bool false, .bool false, undef, undef, undef, .agg #[.slice a2 m2 c2], undef, undef, undef, undef, undef, undef, undef, undef, undef, undef, undef, undef, undef, undef, undef, undef, undef, undef, undef, undef, undef, undef, undef, undef, undef, undef, undef, undef], defers := [] } V := by
  subst hL
  refine wpAny_ready (rs := [0, 4, 5]) (by kernel_rfl) (by simp) ?_
  refine AllReady.cons rfl (fun K hK => ?_) ?_
  · have hcx := P.out.f1.cell
    delta opsB
    go_simp
    refine hK _ _ ?_
    exact both_02 w3 h a1 a2 c1 c2 m1 m2 fs gs t u o Q X V P _ (by kernel_rfl)
  refine AllReady.cons rfl (fun K hK => ?_) ?_
  · have hb : Below V.heap.size V (V.alloc (.cells (bools fun _ => false) 48)) := (Below.refl _ _).alloc (Nat.le_refl _) _
    have hr : Tab (V.alloc (.cells (bools fun _ => false) 48)) V.heap.size (fun _ => false) := tab_new _ _
    delta opsB
    go_simp
    refine hK _ _ ?_
    rw [← bools_zero]
    exact both_24 w3 h a1 a2 c1 c2 m1 m2 fs gs t u o Q X _ V.heap.size (Lib.hid (P.out.on hb)) (Lib.hid P.out.b.size) (Lib.hid hr) _ (by kernel_rfl)
  refine AllReady.cons rfl (fun K hK => ?_) ?_
  · have hb : Below V.heap.size V (V.alloc (.cells (bools fun _ => false) 48)) := (Below.refl _ _).alloc (Nat.le_refl _) _
    have hr : Tab (V.alloc (.cells (bools fun _ => false) 48)) V.heap.size (fun _ => false) := tab_new _ _
    delta opsB
    go_simp
    refine hK _ _ ?_
    rw [← bools_zero]
    exact both_25 w3 h a1 a2 c1 c2 m1 m2 fs gs t u o Q X _ V.heap.size (Lib.hid (P.out.on hb)) (Lib.hid P.out.b.size) (Lib.hid hr) _ (by kernel_rfl)
  exact AllReady.nil
theorem both_45 (w3 : World) (h : Nat) (a1 a2 : Option Addr) (c1 c2 m1 m2 : Nat) (fs gs : List Int) (t u : Nat → Bool) (o : Bool) (Q : Exit → Act → World → Prop) (X : Ctx w3 h a1 a2 c1 c2 m1 m2 fs gs t u o Q) (V : World) (g1 : Nat) (g2 : Nat) (P : Hid (Two3 w3 h a1 a2 c1 c2 m1 m2 fs gs V)) (E1 : Hid (w3.heap.size ≤ g1)) (R1 : Hid (Tab V g1 (fun _ => false))) (E2 : Hid (w3.heap.size ≤ g2)) (R2 : Hid (Tab V g2 (fun _ => false))) (NE : Hid (g1 ≠ g2)) (L : Array Bool) (hL : L = #[false, false, false, false, true, true, false, false]) :
    wpAny Try.prog .any opsB Q 6 L { tmps := #[.agg #[.slice a1 m1 c1], .agg #[.slice a2 m2 c2], .bool o, .pointer (some ⟨h, 0, none⟩), .pointer (some ⟨h + 1, 0, none⟩), undef, .pointer (some ⟨h + 1 + 1, 0, none⟩), .bool false, .pointer (some ⟨g1, 0, none⟩), .pointer (some ⟨g2, 0, none⟩), undef, .agg #[.slice a1 m1 c1], .bool true, .bool false, .bool false, .agg #[.slice a2 m2 c2], .bool true, .bool false, .bool false, undef, undef, undef, undef, undef, undef, undef, undef, undef, undef, undef, undef, undef, undef, undef, undef, undef, undef, undef, undef, undef, undef, undef, undef, undef, undef, undef, undef, undef, undef, undef, undef], defers := [] } V := by
  subst hL
  refine wpAny_ready (rs := [0, 2]) (by kernel_rfl) (by simp) ?_
  refine AllReady.cons rfl (fun K hK => ?_) ?_
  · have hcx := P.out.f1.cell
    delta opsB
    go_simp
    refine hK _ _ ?_
    exact both_045 w3 h a1 a2 c1 c2 m1 m2 fs gs t u o Q X V g1 g2 P E1 R1 E2 R2 NE _ (by kernel_rfl)
  refine AllReady.cons rfl (fun K hK => ?_) ?_
  · have hcx := P.out.f2.cell
    delta opsB
    go_simp
    refine hK _ _ ?_
    exact both_245 w3 h a1 a2 c1 c2 m1 m2 fs gs t u o Q X V g1 g2 P E1 R1 E2 R2 NE _ (by kernel_rfl)
  exact AllReady.nil
theorem both_4 (w3 : World) (h : Nat) (a1 a2 : Option Addr) (c1 c2 m1 m2 : Nat) (fs gs : List Int) (t u : Nat → Bool) (o : Bool) (Q : Exit → Act → World → Prop) (X : Ctx w3 h a1 a2 c1 c2 m1 m2 fs gs t u o Q) (V : World) (g1 : Nat) (P : Hid (Two3 w3 h a1 a2 c1 c2 m1 m2 fs gs V)) (E1 : Hid (w3.heap.size ≤ g1)) (R1 : Hid (Tab V g1 (fun _ => false))) (L : Array Bool) (hL : L = #[false, false, false, false, true, false, false, false]) :
    wpAny Try.prog .any opsB Q 7 L { tmps := #[.agg #[.slice a1 m1 c1], .agg #[.slice a2 m2 c2], .bool o, .pointer (some ⟨h, 0, none⟩), .pointer (some ⟨h + 1, 0, none⟩), undef, .pointer (some ⟨h + 1 + 1, 0, none⟩), .bool false, .pointer (some ⟨g1, 0, none⟩), undef, undef, .agg #[.slice a1 m1 c1], .bool true, .bool false, .bool false, .agg #[.slice a2 m2 c2], .bool true, .bool false, .bool false, undef, undef, undef, undef, undef, undef, undef, undef, undef, undef, undef, undef, undef, undef, undef, undef, undef, undef, undef, undef, undef, undef, undef, undef, undef, undef, undef, undef, undef, undef, undef, undef], defers := [] } V := by
  subst hL
  refine wpAny_ready (rs := [0, 2, 5]) (by kernel_rfl) (by simp) ?_
  refine AllReady.cons rfl (fun K hK => ?_) ?_
  · have hcx := P.out.f1.cell
    delta opsB
    go_simp
    refine hK _ _ ?_
    exact both_04 w3 h a1 a2 c1 c2 m1 m2 fs gs t u o Q X V g1 P E1 R1 _ (by kernel_rfl)
  refine AllReady.cons rfl (fun K hK => ?_) ?_
  · have hcx := P.out.f2.cell
    delta opsB
    go_simp
    refine hK _ _ ?_
    exact both_24 w3 h a1 a2 c1 c2 m1 m2 fs gs t u o Q X V g1 P E1 R1 _ (by kernel_rfl)
  refine AllReady.cons rfl (fun K hK => ?_) ?_
  · have hb : Below V.heap.size V (V.alloc (.cells (bools fun _ => false) 48)) := (Below.refl _ _).alloc (Nat.le_refl _) _
    have hr : Tab (V.alloc (.cells (bools fun _ => false) 48)) V.heap.size (fun _ => false) := tab_new _ _
    delta opsB
    go_simp
    refine hK _ _ ?_
    rw [← bools_zero]
    exact both_45 w3 h a1 a2 c1 c2 m1 m2 fs gs t u o Q X _ g1 V.heap.size (Lib.hid (P.out.on hb)) E1 (Lib.hid (R1.out.on hb)) (Lib.hid P.out.b.size) (Lib.hid hr) (Lib.hid (Nat.ne_of_lt R1.out.lt)) _ (by kernel_rfl)
  exact AllReady.nil
theorem both_5 (w3 : World) (h : Nat) (a1 a2 : Option Addr) (c1 c2 m1 m2 : Nat) (fs gs : List Int) (t u : Nat → Bool) (o : Bool) (Q : Exit → Act → World → Prop) (X : Ctx w3 h a1 a2 c1 c2 m1 m2 fs gs t u o Q) (V : World) (g2 : Nat) (P : Hid (Two3 w3 h a1 a2 c1 c2 m1 m2 fs gs V)) (E2 : Hid (w3.heap.size ≤ g2)) (R2 : Hid (Tab V g2 (fun _ => false))) (L : Array Bool) (hL : L = #[false, false, false, false, false, true, false, false]) :
    wpAny Try.prog .any opsB Q 7 L { tmps := #[.agg #[.slice a1 m1 c1], .agg #[.slice a2 m2 c2], .bool o, .pointer (some ⟨h, 0, none⟩), .pointer (some ⟨h + 1, 0, none⟩), undef, .pointer (some ⟨h + 1 + 1, 0, none⟩), .bool false, undef, .pointer (some ⟨g2, 0, none⟩), undef, .agg #[.slice a1 m1 c1], .bool true, .bool false, .bool false, .agg #[.slice a2 m2 c2], .bool true, .bool false, .bool false, undef, undef, undef, undef, undef, undef, undef, undef, undef, undef, undef, undef, undef, undef, undef, undef, undef, undef, undef, undef, undef, undef, undef, undef, undef, undef, undef, undef, undef, undef, undef, undef], defers := [] } V := by
  subst hL
  refine wpAny_ready (rs := [0, 2, 4]) (by kernel_rfl) (by simp) ?_
  refine AllReady.cons rfl (fun K hK => ?_) ?_
  · have hcx := P.out.f1.cell
    delta opsB
    go_simp
    refine hK _ _ ?_
    exact both_05 w3 h a1 a2 c1 c2 m1 m2 fs gs t u o Q X V g2 P E2 R2 _ (by kernel_rfl)
  refine AllReady.cons rfl (fun K hK => ?_) ?_
  · have hcx := P.out.f2.cell
    delta opsB
    go_simp
    refine hK _ _ ?_
    exact both_25 w3 h a1 a2 c1 c2 m1 m2 fs gs t u o Q X V g2 P E2 R2 _ (by kernel_rfl)
  refine AllReady.cons rfl (fun K hK => ?_) ?_
  · have hb : Below V.heap.size V (V.alloc (.cells (bools fun _ => false) 48)) := (Below.refl _ _).alloc (Nat.le_refl _) _
    have hr : Tab (V.alloc (.cells (bools fun _ => false) 48)) V.heap.size (fun _ => false) := tab_new _ _
    delta opsB
    go_simp
    refine hK _ _ ?_
    rw [← bools_zero]
    exact both_45 w3 h a1 a2 c1 c2 m1 m2 fs gs t u o Q X _ V.heap.size g2 (Lib.hid (P.out.on hb)) (Lib.hid P.out.b.size) (Lib.hid hr) E2 (Lib.hid (R2.out.on hb)) (Lib.hid (Nat.ne_of_gt R2.out.lt)) _ (by kernel_rfl)
  exact AllReady.nil
theorem both_start (w3 : World) (h : Nat) (a1 a2 : Option Addr) (c1 c2 m1 m2 : Nat) (fs gs : List Int) (t u : Nat → Bool) (o : Bool) (Q : Exit → Act → World → Prop) (X : Ctx w3 h a1 a2 c1 c2 m1 m2 fs gs t u o Q) (V : World) (P : Hid (Two3 w3 h a1 a2 c1 c2 m1 m2 fs gs V)) (L : Array Bool) (hL : L = #[false, false, false, false, false, false, false, false]) :
    wpAny Try.prog .any opsB Q 8 L { tmps := #[.agg #[.slice a1 m1 c1], .agg #[.slice a2 m2 c2], .bool o, .pointer (some ⟨h, 0, none⟩), .pointer (some ⟨h + 1, 0, none⟩), undef, .pointer (some ⟨h + 1 + 1, 0, none⟩), .bool false, undef, undef, undef, .agg #[.slice a1 m1 c1], .bool true, .bool false, .bool false, .agg #[.slice a2 m2 c2], .bool true, .bool false, .bool false, undef, undef, undef, undef, undef, undef, undef, undef, undef, undef, undef, undef, undef, undef, undef, undef, undef, undef, undef, undef, undef, undef, undef, undef, undef, undef, undef, undef, undef, undef, undef, undef], defers := [] } V := by
  subst hL
  refine wpAny_ready (rs := [0, 2, 4, 5]) (by kernel_rfl) (by simp) ?_
  refine AllReady.cons rfl (fun K hK => ?_) ?_
  · have hcx := P.out.f1.cell
    delta opsB
    go_simp
    refine hK _ _ ?_
    exact both_0 w3 h a1 a2 c1 c2 m1 m2 fs gs t u o Q X V P _ (by kernel_rfl)
  refine AllReady.cons rfl (fun K hK => ?_) ?_
  · have hcx := P.out.f2.cell
    delta opsB
    go_simp
    refine hK _ _ ?_
    exact both_2 w3 h a1 a2 c1 c2 m1 m2 fs gs t u o Q X V P _ (by kernel_rfl)
  refine AllReady.cons rfl (fun K hK => ?_) ?_
  · have hb : Below V.heap.size V (V.alloc (.cells (bools fun _ => false) 48)) := (Below.refl _ _).alloc (Nat.le_refl _) _
    have hr : Tab (V.alloc (.cells (bools fun _ => false) 48)) V.heap.size (fun _ => false) := tab_new _ _
    delta opsB
    go_simp
    refine hK _ _ ?_
    rw [← bools_zero]
    exact both_4 w3 h a1 a2 c1 c2 m1 m2 fs gs t u o Q X _ V.heap.size (Lib.hid (P.out.on hb)) (Lib.hid P.out.b.size) (Lib.hid hr) _ (by kernel_rfl)
  refine AllReady.cons rfl (fun K hK => ?_) ?_
  · have hb : Below V.heap.size V (V.alloc (.cells (bools fun _ => false) 48)) := (Below.refl _ _).alloc (Nat.le_refl _) _
    have hr : Tab (V.alloc (.cells (bools fun _ => false) 48)) V.heap.size (fun _ => false) := tab_new _ _
    delta opsB
    go_simp
    refine hK _ _ ?_
    rw [← bools_zero]
    exact both_5 w3 h a1 a2 c1 c2 m1 m2 fs gs t u o Q X _ V.heap.size (Lib.hid (P.out.on hb)) (Lib.hid P.out.b.size) (Lib.hid hr) _ (by kernel_rfl)
  exact AllReady.nil

set_option maxRecDepth 100000 in
set_option maxHeartbeats 8000000 in
theorem l5Both_any (a1 a2 : Option Addr) (c1 c2 : Nat) (fs gs : List Int) (o : Bool) (w : World) (h1 : Hid (Ints w a1 fs)) (n1 : Hid (In64 fs)) (h2 : Hid (Ints w a2 gs)) (n2 : Hid (In64 gs)) (hf : fs.length ≤ 1048576) (hg : gs.length ≤ 1048576) :
    Calls Try.prog 22 #[.agg #[.slice a1 fs.length c1], .agg #[.slice a2 gs.length c2], .bool o] w (FB (andW o fs gs) (andB fs gs) w) := by
  obtain ⟨x1, x2, x3, x4, -⟩ := box2_result w (.slice a1 fs.length c1) (.slice a2 gs.length c2)
  have H0 := Lib.hid (And.intro x1 (And.intro x2 (And.intro x3 x4)))
  clear x1 x2 x3 x4
  have hcf := H0.out.1.cell
  cases hf1 : Plain.famB fs with
  | false =>
    have HE := Lib.hid (and_no (o := o) (gs := gs) (.inl hf1))
    have HF1 := Lib.hid hf1
    clear hf1
    go_enter Try.func22, Try.ntmps22
    go_wp2_with fail
    clear hcf
    obtain ⟨W, hW⟩ : ∃ W, W = (((w.alloc (.cells #[.slice a1 fs.length c1] 26)).alloc (.cells #[.slice a2 gs.length c2] 26)).alloc (.cells #[.slice none 0 0] 26)) := ⟨_, rfl⟩
    rw [← hW] at H0 ⊢
    clear hW
    refine (l5Family_any _ _ fs _ (Lib.hid (h1.out.on H0.out.2.2.2)) n1 hf).mono ?_
    rw [HF1.out]
    rintro e w2 ⟨rfl, hb⟩
    have H2 := Lib.hid (And.intro (H0.out.1.on hb) (And.intro (H0.out.2.1.on hb) (And.intro (H0.out.2.2.1.on hb) (H0.out.2.2.2.trans (hb.mono H0.out.2.2.2.size)))))
    clear hb
    have hB := ((H2.out.2.2.2).setCell (p := ⟨(w.heap.size + 1 + 1), 0, none⟩) (by simp <;> omega) (.slice none 0 0))
    have hF := (H2.out.2.2.1).set (.slice none 0 0)
    have hcr := (H2.out.2.2.1).cell
    have hfr := (H2.out.2.2.1).free
    have HB9 := Lib.hid (And.intro hB hF)
    clear hB hF
    go_wp2_with fail
    refine bodyPost_ret (results_fam2 rfl _ _ ((w.heap.size + 1 + 1)) _ (.bool false) rfl rfl HB9.out.2) rfl (fb_of HE.out.1.symm HE.out.2.symm (fb_nil HB9.out.1))
  | true =>
    cases hf2 : Plain.famB gs with
    | false =>
      have HE := Lib.hid (and_no (o := o) (fs := fs) (.inr hf2))
      have HF1 := Lib.hid hf1
      have HF2 := Lib.hid hf2
      clear hf1 hf2
      go_enter Try.func22, Try.ntmps22
      go_wp2_with fail
      clear hcf
      obtain ⟨W, hW⟩ : ∃ W, W = (((w.alloc (.cells #[.slice a1 fs.length c1] 26)).alloc (.cells #[.slice a2 gs.length c2] 26)).alloc (.cells #[.slice none 0 0] 26)) := ⟨_, rfl⟩
      rw [← hW] at H0 ⊢
      clear hW
      refine (l5Family_any _ _ fs _ (Lib.hid (h1.out.on H0.out.2.2.2)) n1 hf).mono ?_
      rw [HF1.out]
      rintro e w2 ⟨rfl, hb⟩
      have H2 := Lib.hid (And.intro (H0.out.1.on hb) (And.intro (H0.out.2.1.on hb) (And.intro (H0.out.2.2.1.on hb) (H0.out.2.2.2.trans (hb.mono H0.out.2.2.2.size)))))
      clear hb
      have hcg := H2.out.2.1.cell
      go_wp2_with fail
      clear hcg
      refine (l5Family_any _ _ gs _ (Lib.hid (h2.out.on H2.out.2.2.2)) n2 hg).mono ?_
      rw [HF2.out]
      rintro e w3 ⟨rfl, hb⟩
      have H3 := Lib.hid (And.intro (H2.out.1.on hb) (And.intro (H2.out.2.1.on hb) (And.intro (H2.out.2.2.1.on hb) (H2.out.2.2.2.trans (hb.mono H2.out.2.2.2.size)))))
      clear hb
      have hB := ((H3.out.2.2.2).setCell (p := ⟨(w.heap.size + 1 + 1), 0, none⟩) (by simp <;> omega) (.slice none 0 0))
      have hF := (H3.out.2.2.1).set (.slice none 0 0)
      have hcr := (H3.out.2.2.1).cell
      have hfr := (H3.out.2.2.1).free
      have HB9 := Lib.hid (And.intro hB hF)
      clear hB hF
      go_wp2_with fail
      refine bodyPost_ret (results_fam2 rfl _ _ ((w.heap.size + 1 + 1)) _ (.bool false) rfl rfl HB9.out.2) rfl (fb_of HE.out.1.symm HE.out.2.symm (fb_nil HB9.out.1))
    | true =>
      have hE := and_yes (o := o) hf1 hf2
      have HF1 := Lib.hid hf1
      have HF2 := Lib.hid hf2
      have HS1 := Lib.hid (Plain.fam_sets hf1)
      have HS2 := Lib.hid (Plain.fam_sets hf2)
      obtain ⟨t, ht⟩ : ∃ t, t = Plain.hasB fs := ⟨_, rfl⟩
      obtain ⟨u, hu⟩ : ∃ u, u = Plain.hasB gs := ⟨_, rfl⟩
      have HTT := Lib.hid (And.intro ht hu)
      obtain ⟨L, hL⟩ : ∃ L, L = Plain.edges (andT o fs gs) true := ⟨_, rfl⟩
      rw [← hL] at hE
      have HE := Lib.hid hE
      have HL := Lib.hid hL
      clear hf1 hf2 ht hu hE hL
      go_enter Try.func22, Try.ntmps22
      go_wp2_with fail
      clear hcf
      obtain ⟨W, hW⟩ : ∃ W, W = (((w.alloc (.cells #[.slice a1 fs.length c1] 26)).alloc (.cells #[.slice a2 gs.length c2] 26)).alloc (.cells #[.slice none 0 0] 26)) := ⟨_, rfl⟩
      rw [← hW] at H0 ⊢
      clear hW
      refine (l5Family_any _ _ fs _ (Lib.hid (h1.out.on H0.out.2.2.2)) n1 hf).mono ?_
      rw [HF1.out]
      rintro e w2 ⟨rfl, hb⟩
      have H2 := Lib.hid (And.intro (H0.out.1.on hb) (And.intro (H0.out.2.1.on hb) (And.intro (H0.out.2.2.1.on hb) (H0.out.2.2.2.trans (hb.mono H0.out.2.2.2.size)))))
      clear hb
      have hcg := H2.out.2.1.cell
      go_wp2_with fail
      clear hcg
      refine (l5Family_any _ _ gs _ (Lib.hid (h2.out.on H2.out.2.2.2)) n2 hg).mono ?_
      rw [HF2.out]
      rintro e w3 ⟨rfl, hb⟩
      have H3 := Lib.hid (And.intro (H2.out.1.on hb) (And.intro (H2.out.2.1.on hb) (And.intro (H2.out.2.2.1.on hb) (H2.out.2.2.2.trans (hb.mono H2.out.2.2.2.size)))))
      clear hb
      have C1 := Lib.hid (fun W hh => l5Members_any a1 c1 fs W hh HS1 (by omega))
      have C2 := Lib.hid (fun W hh => l5Members_any a2 c2 gs W hh HS2 (by omega))
      rw [← HTT.out.1] at C1
      rw [← HTT.out.2] at C2
      have J1 := Lib.hid (h1.out.on H3.out.2.2.2)
      have J2 := Lib.hid (h2.out.on H3.out.2.2.2)
      obtain ⟨m1, hm1⟩ : ∃ m, m = fs.length := ⟨_, rfl⟩
      obtain ⟨m2, hm2⟩ : ∃ m, m = gs.length := ⟨_, rfl⟩
      rw [← hm1] at C1 H3 ⊢
      rw [← hm2] at C2 H3 ⊢
      clear hm1 hm2
      go_upto_region 3 with fail
      go_cut [8, 9] from 8 to 23 (fun p q wx => TwoRows w3 t u p q wx)
      case first =>
        have P0 : Hid (Two3 w3 w.heap.size a1 a2 c1 c2 m1 m2 fs gs w3.drew) := Lib.hid ⟨J1.out, J2.out, H3.out.1, H3.out.2.1, (Below.refl _ _).drew⟩
        refine wp_region_any (by kernel_rfl) ?_
        change wpAny _ _ _ _ _ _ _ (World.drew _)
        refine both_start w3 w.heap.size a1 a2 c1 c2 m1 m2 fs gs t u o _ ⟨C1.out, C2.out, fun g1 g2 V hne hg1 hg2 r1 r2 hb => ?_⟩ w3.drew P0 _ (by kernel_rfl)
        go_wp2_with fail
        go_meet
        case rel => exact ⟨g1, g2, rfl, rfl, hne, hg1, hg2, r1, r2, hb⟩
      case rest =>
        obtain ⟨g1, g2, rfl, rfl, hne, hg1, hg2, hT1, hT2, hbx⟩ := hcut
        generalize wc = wx at hT1 hT2 hbx ⊢
        have H4 := Lib.hid (And.intro (H3.out.2.2.1.on hbx) (H3.out.2.2.2.trans (hbx.mono H3.out.2.2.2.size)))
        have HNE := Lib.hid hne
        have HG := Lib.hid (And.intro (Nat.le_trans H3.out.2.2.2.size hg1) hg1)
        have HGF := Lib.hid H3.out.2.2.1.lt
        have HT0 := Lib.hid (And.intro hT1 (And.intro hT2 H4.out))
        clear hT1 hT2 hbx hne hg1 hg2
        obtain ⟨av, hav⟩ : ∃ av, av = andT o fs gs := ⟨_, rfl⟩
        rw [← hav] at HL
        have HAV : Hid (∀ s, av s = if o = true then t s && u s else t s || u s) := Lib.hid (fun s => by rw [hav, HTT.out.1, HTT.out.2]; rfl)
        clear hav
        go_wp2_with fail
        go_loopw [10] (fun i wy => ∃ s : Nat, s ≤ 64 ∧ i = .int .i64 s ∧ Tab wy g1 (fun j => if j < s then av j else t j) ∧ Tab wy g2 u ∧ FamAt wy (w.heap.size + 1 + 1) (.slice none 0 0) ∧ Below w.heap.size w wy) (fun i _ => 64 - (intOf i).toNat)
        case atStart => exact ⟨0, Nat.zero_le _, rfl, by simpa using HT0.out⟩
        case round =>
          clear HT0
          obtain ⟨s, hs, rfl, hA, hB, hC, hD⟩ := hrel
          have HA := Lib.hid hA
          have HR := Lib.hid (And.intro hB (And.intro hC hD))
          clear hA hB hC hD
          by_cases hs64 : s < 64
          · have hj : (s : Int) < 64 := by omega
            have hj0 : (0 : Int) ≤ (s : Int) := by omega
            have q1 := HA.out.cell hs64
            simp only [Nat.lt_irrefl, if_false] at q1
            have q2 := HR.out.1.cell hs64
            have f1 := HA.out.free s
            have HX := HAV.out s
            have hput : Tab (wr.setCell ⟨g1, s, none⟩ (.bool (av s))) g1 (fun j => if j < s + 1 then av j else t j) := by
              have h0 := heap_setCell_same wr g1 s _ _ (.bool (av s)) HA.out
              rw [Tab, h0, bools, arr64_set _ _ hs64]
              congr 2
              refine arr64_cong fun j hj => ?_
              by_cases e : j = s
              · subst e; simp
              · by_cases e2 : j < s
                · simp [e, e2, show j < s + 1 by omega]
                · simp [e, e2, show ¬ j < s + 1 by omega]
            have hoth := And.intro (HR.out.1.off (H := g1) (i := s) (v := .bool (av s)) (fun e => HNE.out e.symm)) (And.intro (HR.out.2.1.off (H := g1) (i := s) (v := .bool (av s)) (by have := HG.out.2; have := HGF.out; omega)) (HR.out.2.2.setCell (p := ⟨g1, s, none⟩) (by simpa using HG.out.1) (.bool (av s))))
            obtain ⟨x, hx⟩ : ∃ x, x = av s := ⟨_, rfl⟩
            rw [← hx] at hput hoth HX
            have HP := Lib.hid (And.intro hput hoth)
            clear hput hoth hx
            cases ha : t s with
            | true =>
              cases hb : u s with
              | true =>
                cases o with
                | true =>
                  obtain rfl : x = true := by rw [HX, ha, hb]; rfl
                  rw [ha] at q1
                  rw [hb] at q2
                  clear HX ha hb
                  go_wp2_with fail
                  go_roundw
                  case rel => exact ⟨s + 1, by omega, by go_num, HP.out⟩
                  case measure => simp [intOf]; omega
                | false =>
                  obtain rfl : x = true := by rw [HX, ha, hb]; rfl
                  rw [ha] at q1
                  rw [hb] at q2
                  clear HX ha hb
                  go_wp2_with fail
                  go_roundw
                  case rel => exact ⟨s + 1, by omega, by go_num, HP.out⟩
                  case measure => simp [intOf]; omega
              | false =>
                cases o with
                | true =>
                  obtain rfl : x = false := by rw [HX, ha, hb]; rfl
                  rw [ha] at q1
                  rw [hb] at q2
                  clear HX ha hb
                  go_wp2_with fail
                  go_roundw
                  case rel => exact ⟨s + 1, by omega, by go_num, HP.out⟩
                  case measure => simp [intOf]; omega
                | false =>
                  obtain rfl : x = true := by rw [HX, ha, hb]; rfl
                  rw [ha] at q1
                  rw [hb] at q2
                  clear HX ha hb
                  go_wp2_with fail
                  go_roundw
                  case rel => exact ⟨s + 1, by omega, by go_num, HP.out⟩
                  case measure => simp [intOf]; omega
            | false =>
              cases hb : u s with
              | true =>
                cases o with
                | true =>
                  obtain rfl : x = false := by rw [HX, ha, hb]; rfl
                  rw [ha] at q1
                  rw [hb] at q2
                  clear HX ha hb
                  go_wp2_with fail
                  go_roundw
                  case rel => exact ⟨s + 1, by omega, by go_num, HP.out⟩
                  case measure => simp [intOf]; omega
                | false =>
                  obtain rfl : x = true := by rw [HX, ha, hb]; rfl
                  rw [ha] at q1
                  rw [hb] at q2
                  clear HX ha hb
                  go_wp2_with fail
                  go_roundw
                  case rel => exact ⟨s + 1, by omega, by go_num, HP.out⟩
                  case measure => simp [intOf]; omega
              | false =>
                cases o with
                | true =>
                  obtain rfl : x = false := by rw [HX, ha, hb]; rfl
                  rw [ha] at q1
                  rw [hb] at q2
                  clear HX ha hb
                  go_wp2_with fail
                  go_roundw
                  case rel => exact ⟨s + 1, by omega, by go_num, HP.out⟩
                  case measure => simp [intOf]; omega
                | false =>
                  obtain rfl : x = false := by rw [HX, ha, hb]; rfl
                  rw [ha] at q1
                  rw [hb] at q2
                  clear HX ha hb
                  go_wp2_with fail
                  go_roundw
                  case rel => exact ⟨s + 1, by omega, by go_num, HP.out⟩
                  case measure => simp [intOf]; omega
          · have hse : s = 64 := by omega
            have hj : ¬ ((s : Int) < 64) := by omega
            have hT : Tab wr g1 av := by
              have h0 := HA.out
              rw [Tab, hse, show bools (fun j => if j < 64 then av j else t j) = bools av from bools_cong (fun i hi => by simp [hi])] at h0
              exact h0
            have HT := Lib.hid hT
            clear hT hse HA
            go_wp2_with (refine wpList_load_row rfl 48 _ rfl g1 rfl 48 (bools av) (0, 0) _ HT.out Try.underlying48 rfl info64 ?_)
            refine (l5Made_any av _).mono ?_
            rw [← HL.out]
            rintro e w5 ⟨ma, mc, rfl, hi5, ho, hcp, hb⟩
            have HS := Lib.hid (fam_stored (W := wr) (B := wr.heap.size) (G := (w.heap.size + 1 + 1)) HR.out.2.2 (by omega) HR.out.2.1.lt (Nat.le_refl _) HR.out.2.1 hi5 ho hcp hb)
            have hcr := (HR.out.2.1.on hb).cell
            have hfr := (HR.out.2.1.on hb).free
            clear hi5 ho hcp hb
            go_wp2_with fail
            refine bodyPost_ret (results_fam2 rfl _ _ ((w.heap.size + 1 + 1)) _ (.bool true) rfl rfl HS.out.1) rfl (fb_of HE.out.1.symm HE.out.2.symm HS.out.2)

end Go.Proofs.Ytfikbjfgieiifaa
