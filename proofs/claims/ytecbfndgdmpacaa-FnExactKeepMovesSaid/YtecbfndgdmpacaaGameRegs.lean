/- Regions of the games' functions, at every order of their operations. No condition. -/
import Derived.Test.YtecbfndgdmpacaaNumber
namespace Go.Proofs.Ytecbfndgdmpacaa
open Go.ChangeShapes Go.WideShapes Go.ChangeAt Go.RowKit
set_option linter.unusedVariables false

theorem wstep_load_if {ops : Array Oper} {o : Oper} {a : Act} {w : World} {K : Act → World → Prop} {Q : Exit → Act → World → Prop} {E : Prop} (hw : Region.wanted o (yielded ops a.tmps) = true) (ty : TypeId) (x : Operand) (ho : o.op = .load ty x)
    (g : Nat) (hx : a.eval x = .pointer (some ⟨g, 0, none⟩)) (cs : Array Value) (hl : (loadVar ty ⟨g, 0, none⟩).run Try.prog w = .ok (.agg cs) w)
    (h : K (a.put o.dst (.agg cs)) w) : if Region.wanted o (yielded ops a.tmps) = true then Oper.wp Try.prog o a w K Q else E := by
  rw [if_pos hw]
  unfold Oper.wp execOp
  simp only [ho, hx, Instr.loadAt, Instr.sureAddr, Sem.run_bind, Sem.run_pure, Result.andThen_ok, hl]
  exact h
def ops_rgKeep : Array Oper := #[{ dst := some 19, op := Op.call { callee := Callee.value (Operand.func 54), args := #[Operand.const (Value.int IntKind.i64 1)], argTypes := #[3] }, type := 58, pos := "l9_games.go:164", after := #[], guard := none },
  { dst := some 20, op := Op.load 52 (Operand.tmp 8), type := 52, pos := "l9_games.go:164", after := #[], guard := none },
  { dst := some 21, op := Op.call { callee := Callee.value (Operand.func 55), args := #[Operand.tmp 19, Operand.tmp 20], argTypes := #[58, 52] }, type := 3, pos := "l9_games.go:164", after := #[{ on := 0, ground := Ground.data }, { on := 1, ground := Ground.data }, { on := 0, ground := Ground.chain }], guard := none },
  { dst := some 6, op := Op.assign (Operand.tmp 21), type := 3, pos := "l9_games.go:164", after := #[{ on := 2, ground := Ground.data }, { on := 2, ground := Ground.chain }, { on := 0, ground := Ground.phase }, { on := 1, ground := Ground.phase }, { on := 2, ground := Ground.phase }], guard := none },
  { dst := some 7, op := Op.assign (Operand.const (Value.bool true)), type := 4, pos := "l9_games.go:164", after := #[{ on := 3, ground := Ground.chain }, { on := 0, ground := Ground.phase }, { on := 1, ground := Ground.phase }, { on := 2, ground := Ground.phase }, { on := 3, ground := Ground.phase }], guard := none }]
structure Ctx_rgKeep (t : Nat → Bool) (m h s : Nat) (f : Value) (P0 : World → Prop) (P1 : Nat → World → Prop) (P2 : Value → World → Prop) (ds : List Deferred) (z0 z1 z2 z3 z4 z5 z6 z7 z9 z10 z11 z12 z13 z14 z15 z16 z17 z18 z19 z20 z21 : Value) (Q : Exit → Act → World → Prop) : Prop where
  ng : ∀ V, P0 V → Calls Try.prog 54 #[.int .i64 1] V fun e V2 => ∃ b, e = .returned (.agg (gameC f b)) ∧ P1 b V2
  fc : ∀ b V, P1 b V → Calls Try.prog 55 #[.agg (gameC f b), .agg (posC t m s)] V fun e V2 => ∃ r, e = .returned r ∧ P2 r V2
  pl0 : ∀ V, P0 V → (loadVar 52 ⟨h, 0, none⟩).run Try.prog V = .ok (.agg (posC t m s)) V
  pl1 : ∀ b V, P1 b V → (loadVar 52 ⟨h, 0, none⟩).run Try.prog V = .ok (.agg (posC t m s)) V
  q : ∀ (r : Value) (V : World) (b : Nat), P2 r V → Q .normal { tmps := #[z0, z1, z2, z3, z4, z5, r, .bool true, .pointer (some ⟨h, 0, none⟩), z9, z10, z11, z12, z13, z14, z15, z16, z17, z18, .agg (gameC f b), .agg (posC t m s), r], defers := ds } V
set_option maxRecDepth 100000
set_option maxHeartbeats 2000000
theorem rgKeep_01234 (t : Nat → Bool) (m h s : Nat) (f : Value) (P0 : World → Prop) (P1 : Nat → World → Prop) (P2 : Value → World → Prop) (ds : List Deferred) (z0 z1 z2 z3 z4 z5 z6 z7 z9 z10 z11 z12 z13 z14 z15 z16 z17 z18 z19 z20 z21 : Value) (Q : Exit → Act → World → Prop) (X : Ctx_rgKeep t m h s f P0 P1 P2 ds z0 z1 z2 z3 z4 z5 z6 z7 z9 z10 z11 z12 z13 z14 z15 z16 z17 z18 z19 z20 z21 Q) (V : World) (b : Nat) (r : Value) (I : Hid (P2 r V)) (B : Array Bool) (hB : B = #[true, true, true, true, true]) :
    wpAny Try.prog .any ops_rgKeep Q 0 B { tmps := #[z0, z1, z2, z3, z4, z5, r, .bool true, .pointer (some ⟨h, 0, none⟩), z9, z10, z11, z12, z13, z14, z15, z16, z17, z18, .agg (gameC f b), .agg (posC t m s), r], defers := ds } V := by
  subst hB
  exact wpAny_done (by kernel_rfl) (X.q r V b I.out) _
theorem rgKeep_0123 (t : Nat → Bool) (m h s : Nat) (f : Value) (P0 : World → Prop) (P1 : Nat → World → Prop) (P2 : Value → World → Prop) (ds : List Deferred) (z0 z1 z2 z3 z4 z5 z6 z7 z9 z10 z11 z12 z13 z14 z15 z16 z17 z18 z19 z20 z21 : Value) (Q : Exit → Act → World → Prop) (X : Ctx_rgKeep t m h s f P0 P1 P2 ds z0 z1 z2 z3 z4 z5 z6 z7 z9 z10 z11 z12 z13 z14 z15 z16 z17 z18 z19 z20 z21 Q) (V : World) (b : Nat) (r : Value) (I : Hid (P2 r V)) (B : Array Bool) (hB : B = #[true, true, true, true, false]) :
    wpAny Try.prog .any ops_rgKeep Q 1 B { tmps := #[z0, z1, z2, z3, z4, z5, r, z7, .pointer (some ⟨h, 0, none⟩), z9, z10, z11, z12, z13, z14, z15, z16, z17, z18, .agg (gameC f b), .agg (posC t m s), r], defers := ds } V := by
  subst hB
  refine wpAny_ready (rs := [4]) (by kernel_rfl) (by simp) ?_
  refine AllReady.cons rfl (fun K hK => ?_) ?_
  · delta ops_rgKeep
    go_simp
    refine hK _ _ ?_
    exact rgKeep_01234 t m h s f P0 P1 P2 ds z0 z1 z2 z3 z4 z5 z6 z7 z9 z10 z11 z12 z13 z14 z15 z16 z17 z18 z19 z20 z21 Q X V b r I _ (by kernel_rfl)
  exact AllReady.nil
theorem rgKeep_012 (t : Nat → Bool) (m h s : Nat) (f : Value) (P0 : World → Prop) (P1 : Nat → World → Prop) (P2 : Value → World → Prop) (ds : List Deferred) (z0 z1 z2 z3 z4 z5 z6 z7 z9 z10 z11 z12 z13 z14 z15 z16 z17 z18 z19 z20 z21 : Value) (Q : Exit → Act → World → Prop) (X : Ctx_rgKeep t m h s f P0 P1 P2 ds z0 z1 z2 z3 z4 z5 z6 z7 z9 z10 z11 z12 z13 z14 z15 z16 z17 z18 z19 z20 z21 Q) (V : World) (b : Nat) (r : Value) (I : Hid (P2 r V)) (B : Array Bool) (hB : B = #[true, true, true, false, false]) :
    wpAny Try.prog .any ops_rgKeep Q 2 B { tmps := #[z0, z1, z2, z3, z4, z5, z6, z7, .pointer (some ⟨h, 0, none⟩), z9, z10, z11, z12, z13, z14, z15, z16, z17, z18, .agg (gameC f b), .agg (posC t m s), r], defers := ds } V := by
  subst hB
  refine wpAny_ready (rs := [3]) (by kernel_rfl) (by simp) ?_
  refine AllReady.cons rfl (fun K hK => ?_) ?_
  · delta ops_rgKeep
    go_simp
    refine hK _ _ ?_
    exact rgKeep_0123 t m h s f P0 P1 P2 ds z0 z1 z2 z3 z4 z5 z6 z7 z9 z10 z11 z12 z13 z14 z15 z16 z17 z18 z19 z20 z21 Q X V b r I _ (by kernel_rfl)
  exact AllReady.nil
theorem rgKeep_01 (t : Nat → Bool) (m h s : Nat) (f : Value) (P0 : World → Prop) (P1 : Nat → World → Prop) (P2 : Value → World → Prop) (ds : List Deferred) (z0 z1 z2 z3 z4 z5 z6 z7 z9 z10 z11 z12 z13 z14 z15 z16 z17 z18 z19 z20 z21 : Value) (Q : Exit → Act → World → Prop) (X : Ctx_rgKeep t m h s f P0 P1 P2 ds z0 z1 z2 z3 z4 z5 z6 z7 z9 z10 z11 z12 z13 z14 z15 z16 z17 z18 z19 z20 z21 Q) (V : World) (b : Nat) (I : Hid (P1 b V)) (B : Array Bool) (hB : B = #[true, true, false, false, false]) :
    wpAny Try.prog .any ops_rgKeep Q 3 B { tmps := #[z0, z1, z2, z3, z4, z5, z6, z7, .pointer (some ⟨h, 0, none⟩), z9, z10, z11, z12, z13, z14, z15, z16, z17, z18, .agg (gameC f b), .agg (posC t m s), z21], defers := ds } V := by
  subst hB
  refine wpAny_ready (rs := [2]) (by kernel_rfl) (by simp) ?_
  refine AllReady.cons rfl (fun K hK => ?_) ?_
  · delta ops_rgKeep
    go_simp
    refine (X.fc b _ I.out).mono ?_
    rintro e V2 ⟨r, rfl, hp⟩
    try go_simp
    refine hK _ _ ?_
    exact rgKeep_012 t m h s f P0 P1 P2 ds z0 z1 z2 z3 z4 z5 z6 z7 z9 z10 z11 z12 z13 z14 z15 z16 z17 z18 z19 z20 z21 Q X V2 b r (Lib.hid hp) _ (by kernel_rfl)
  exact AllReady.nil
theorem rgKeep_0 (t : Nat → Bool) (m h s : Nat) (f : Value) (P0 : World → Prop) (P1 : Nat → World → Prop) (P2 : Value → World → Prop) (ds : List Deferred) (z0 z1 z2 z3 z4 z5 z6 z7 z9 z10 z11 z12 z13 z14 z15 z16 z17 z18 z19 z20 z21 : Value) (Q : Exit → Act → World → Prop) (X : Ctx_rgKeep t m h s f P0 P1 P2 ds z0 z1 z2 z3 z4 z5 z6 z7 z9 z10 z11 z12 z13 z14 z15 z16 z17 z18 z19 z20 z21 Q) (V : World) (b : Nat) (I : Hid (P1 b V)) (B : Array Bool) (hB : B = #[true, false, false, false, false]) :
    wpAny Try.prog .any ops_rgKeep Q 4 B { tmps := #[z0, z1, z2, z3, z4, z5, z6, z7, .pointer (some ⟨h, 0, none⟩), z9, z10, z11, z12, z13, z14, z15, z16, z17, z18, .agg (gameC f b), z20, z21], defers := ds } V := by
  subst hB
  refine wpAny_ready (rs := [1]) (by kernel_rfl) (by simp) ?_
  refine AllReady.cons rfl (fun K hK => ?_) ?_
  · refine wstep_load rfl 52 _ rfl h rfl (posC t m s) (X.pl1 b _ I.out) (hK _ _ ?_)
    exact rgKeep_01 t m h s f P0 P1 P2 ds z0 z1 z2 z3 z4 z5 z6 z7 z9 z10 z11 z12 z13 z14 z15 z16 z17 z18 z19 z20 z21 Q X V b I _ (by kernel_rfl)
  exact AllReady.nil
theorem rgKeep_1 (t : Nat → Bool) (m h s : Nat) (f : Value) (P0 : World → Prop) (P1 : Nat → World → Prop) (P2 : Value → World → Prop) (ds : List Deferred) (z0 z1 z2 z3 z4 z5 z6 z7 z9 z10 z11 z12 z13 z14 z15 z16 z17 z18 z19 z20 z21 : Value) (Q : Exit → Act → World → Prop) (X : Ctx_rgKeep t m h s f P0 P1 P2 ds z0 z1 z2 z3 z4 z5 z6 z7 z9 z10 z11 z12 z13 z14 z15 z16 z17 z18 z19 z20 z21 Q) (V : World) (I : Hid (P0 V)) (B : Array Bool) (hB : B = #[false, true, false, false, false]) :
    wpAny Try.prog .any ops_rgKeep Q 4 B { tmps := #[z0, z1, z2, z3, z4, z5, z6, z7, .pointer (some ⟨h, 0, none⟩), z9, z10, z11, z12, z13, z14, z15, z16, z17, z18, z19, .agg (posC t m s), z21], defers := ds } V := by
  subst hB
  refine wpAny_ready (rs := [0]) (by kernel_rfl) (by simp) ?_
  refine AllReady.cons rfl (fun K hK => ?_) ?_
  · delta ops_rgKeep
    go_simp
    refine (X.ng _ I.out).mono ?_
    rintro e V2 ⟨b, rfl, hp⟩
    try go_simp
    refine hK _ _ ?_
    exact rgKeep_01 t m h s f P0 P1 P2 ds z0 z1 z2 z3 z4 z5 z6 z7 z9 z10 z11 z12 z13 z14 z15 z16 z17 z18 z19 z20 z21 Q X V2 b (Lib.hid hp) _ (by kernel_rfl)
  exact AllReady.nil
theorem rgKeep (t : Nat → Bool) (m h s : Nat) (f : Value) (P0 : World → Prop) (P1 : Nat → World → Prop) (P2 : Value → World → Prop) (ds : List Deferred) (z0 z1 z2 z3 z4 z5 z6 z7 z9 z10 z11 z12 z13 z14 z15 z16 z17 z18 z19 z20 z21 : Value) (Q : Exit → Act → World → Prop) (X : Ctx_rgKeep t m h s f P0 P1 P2 ds z0 z1 z2 z3 z4 z5 z6 z7 z9 z10 z11 z12 z13 z14 z15 z16 z17 z18 z19 z20 z21 Q) (V : World) (I : Hid (P0 V)) (B : Array Bool) (hB : B = #[false, false, false, false, false]) :
    wpAny Try.prog .any ops_rgKeep Q 5 B { tmps := #[z0, z1, z2, z3, z4, z5, z6, z7, .pointer (some ⟨h, 0, none⟩), z9, z10, z11, z12, z13, z14, z15, z16, z17, z18, z19, z20, z21], defers := ds } V := by
  subst hB
  refine wpAny_ready (rs := [0, 1]) (by kernel_rfl) (by simp) ?_
  refine AllReady.cons rfl (fun K hK => ?_) ?_
  · delta ops_rgKeep
    go_simp
    refine (X.ng _ I.out).mono ?_
    rintro e V2 ⟨b, rfl, hp⟩
    try go_simp
    refine hK _ _ ?_
    exact rgKeep_0 t m h s f P0 P1 P2 ds z0 z1 z2 z3 z4 z5 z6 z7 z9 z10 z11 z12 z13 z14 z15 z16 z17 z18 z19 z20 z21 Q X V2 b (Lib.hid hp) _ (by kernel_rfl)
  refine AllReady.cons rfl (fun K hK => ?_) ?_
  · refine wstep_load rfl 52 _ rfl h rfl (posC t m s) (X.pl0 _ I.out) (hK _ _ ?_)
    exact rgKeep_1 t m h s f P0 P1 P2 ds z0 z1 z2 z3 z4 z5 z6 z7 z9 z10 z11 z12 z13 z14 z15 z16 z17 z18 z19 z20 z21 Q X V I _ (by kernel_rfl)
  exact AllReady.nil
def ops_rgMoves : Array Oper := #[{ dst := some 22, op := Op.move (Operand.tmp 3), type := 3, pos := "l9_games.go:130", after := #[], guard := none },
  { dst := some 23, op := Op.call { callee := Callee.value (Operand.func 54), args := #[Operand.tmp 22], argTypes := #[3] }, type := 58, pos := "l9_games.go:130", after := #[{ on := 0, ground := Ground.data }], guard := none },
  { dst := some 24, op := Op.load 52 (Operand.tmp 10), type := 52, pos := "l9_games.go:130", after := #[], guard := none },
  { dst := some 25, op := Op.call { callee := Callee.value (Operand.func 79), args := #[Operand.tmp 23, Operand.tmp 24], argTypes := #[58, 52] }, type := 22, pos := "l9_games.go:130", after := #[{ on := 1, ground := Ground.data }, { on := 2, ground := Ground.data }, { on := 1, ground := Ground.chain }], guard := none },
  { dst := some 8, op := Op.assign (Operand.tmp 25), type := 22, pos := "l9_games.go:130", after := #[{ on := 3, ground := Ground.data }, { on := 3, ground := Ground.chain }, { on := 0, ground := Ground.phase }, { on := 1, ground := Ground.phase }, { on := 2, ground := Ground.phase }, { on := 3, ground := Ground.phase }], guard := none },
  { dst := some 9, op := Op.assign (Operand.const (Value.bool true)), type := 4, pos := "l9_games.go:130", after := #[{ on := 4, ground := Ground.chain }, { on := 0, ground := Ground.phase }, { on := 1, ground := Ground.phase }, { on := 2, ground := Ground.phase }, { on := 3, ground := Ground.phase }, { on := 4, ground := Ground.phase }], guard := none }]
structure Ctx_rgMoves (t : Nat → Bool) (m h s : Nat) (kd : Int) (f : Value) (P0 : World → Prop) (P1 : Nat → World → Prop) (P2 : Value → World → Prop) (ds : List Deferred) (z0 z1 z2 z4 z5 z6 z7 z8 z9 z11 z12 z13 z14 z15 z16 z17 z18 z19 z20 z21 z22 z23 z24 z25 : Value) (Q : Exit → Act → World → Prop) : Prop where
  ng : ∀ V, P0 V → Calls Try.prog 54 #[.int .i64 kd] V fun e V2 => ∃ b, e = .returned (.agg (gameC f b)) ∧ P1 b V2
  fc : ∀ b V, P1 b V → Calls Try.prog 79 #[.agg (gameC f b), .agg (posC t m s)] V fun e V2 => ∃ r, e = .returned r ∧ P2 r V2
  pl0 : ∀ V, P0 V → (loadVar 52 ⟨h, 0, none⟩).run Try.prog V = .ok (.agg (posC t m s)) V
  pl1 : ∀ b V, P1 b V → (loadVar 52 ⟨h, 0, none⟩).run Try.prog V = .ok (.agg (posC t m s)) V
  q : ∀ (r : Value) (V : World) (b : Nat), P2 r V → Q .normal { tmps := #[z0, z1, z2, .int .i64 kd, z4, z5, z6, z7, r, .bool true, .pointer (some ⟨h, 0, none⟩), z11, z12, z13, z14, z15, z16, z17, z18, z19, z20, z21, .int .i64 kd, .agg (gameC f b), .agg (posC t m s), r], defers := ds } V
set_option maxRecDepth 100000
set_option maxHeartbeats 2000000
theorem rgMoves_012345 (t : Nat → Bool) (m h s : Nat) (kd : Int) (f : Value) (P0 : World → Prop) (P1 : Nat → World → Prop) (P2 : Value → World → Prop) (ds : List Deferred) (z0 z1 z2 z4 z5 z6 z7 z8 z9 z11 z12 z13 z14 z15 z16 z17 z18 z19 z20 z21 z22 z23 z24 z25 : Value) (Q : Exit → Act → World → Prop) (X : Ctx_rgMoves t m h s kd f P0 P1 P2 ds z0 z1 z2 z4 z5 z6 z7 z8 z9 z11 z12 z13 z14 z15 z16 z17 z18 z19 z20 z21 z22 z23 z24 z25 Q) (V : World) (b : Nat) (r : Value) (I : Hid (P2 r V)) (B : Array Bool) (hB : B = #[true, true, true, true, true, true]) :
    wpAny Try.prog .any ops_rgMoves Q 0 B { tmps := #[z0, z1, z2, .int .i64 kd, z4, z5, z6, z7, r, .bool true, .pointer (some ⟨h, 0, none⟩), z11, z12, z13, z14, z15, z16, z17, z18, z19, z20, z21, .int .i64 kd, .agg (gameC f b), .agg (posC t m s), r], defers := ds } V := by
  subst hB
  exact wpAny_done (by kernel_rfl) (X.q r V b I.out) _
theorem rgMoves_01234 (t : Nat → Bool) (m h s : Nat) (kd : Int) (f : Value) (P0 : World → Prop) (P1 : Nat → World → Prop) (P2 : Value → World → Prop) (ds : List Deferred) (z0 z1 z2 z4 z5 z6 z7 z8 z9 z11 z12 z13 z14 z15 z16 z17 z18 z19 z20 z21 z22 z23 z24 z25 : Value) (Q : Exit → Act → World → Prop) (X : Ctx_rgMoves t m h s kd f P0 P1 P2 ds z0 z1 z2 z4 z5 z6 z7 z8 z9 z11 z12 z13 z14 z15 z16 z17 z18 z19 z20 z21 z22 z23 z24 z25 Q) (V : World) (b : Nat) (r : Value) (I : Hid (P2 r V)) (B : Array Bool) (hB : B = #[true, true, true, true, true, false]) :
    wpAny Try.prog .any ops_rgMoves Q 1 B { tmps := #[z0, z1, z2, .int .i64 kd, z4, z5, z6, z7, r, z9, .pointer (some ⟨h, 0, none⟩), z11, z12, z13, z14, z15, z16, z17, z18, z19, z20, z21, .int .i64 kd, .agg (gameC f b), .agg (posC t m s), r], defers := ds } V := by
  subst hB
  refine wpAny_ready (rs := [5]) (by kernel_rfl) (by simp) ?_
  refine AllReady.cons rfl (fun K hK => ?_) ?_
  · delta ops_rgMoves
    go_simp
    refine hK _ _ ?_
    exact rgMoves_012345 t m h s kd f P0 P1 P2 ds z0 z1 z2 z4 z5 z6 z7 z8 z9 z11 z12 z13 z14 z15 z16 z17 z18 z19 z20 z21 z22 z23 z24 z25 Q X V b r I _ (by kernel_rfl)
  exact AllReady.nil
theorem rgMoves_0123 (t : Nat → Bool) (m h s : Nat) (kd : Int) (f : Value) (P0 : World → Prop) (P1 : Nat → World → Prop) (P2 : Value → World → Prop) (ds : List Deferred) (z0 z1 z2 z4 z5 z6 z7 z8 z9 z11 z12 z13 z14 z15 z16 z17 z18 z19 z20 z21 z22 z23 z24 z25 : Value) (Q : Exit → Act → World → Prop) (X : Ctx_rgMoves t m h s kd f P0 P1 P2 ds z0 z1 z2 z4 z5 z6 z7 z8 z9 z11 z12 z13 z14 z15 z16 z17 z18 z19 z20 z21 z22 z23 z24 z25 Q) (V : World) (b : Nat) (r : Value) (I : Hid (P2 r V)) (B : Array Bool) (hB : B = #[true, true, true, true, false, false]) :
    wpAny Try.prog .any ops_rgMoves Q 2 B { tmps := #[z0, z1, z2, .int .i64 kd, z4, z5, z6, z7, z8, z9, .pointer (some ⟨h, 0, none⟩), z11, z12, z13, z14, z15, z16, z17, z18, z19, z20, z21, .int .i64 kd, .agg (gameC f b), .agg (posC t m s), r], defers := ds } V := by
  subst hB
  refine wpAny_ready (rs := [4]) (by kernel_rfl) (by simp) ?_
  refine AllReady.cons rfl (fun K hK => ?_) ?_
  · delta ops_rgMoves
    go_simp
    refine hK _ _ ?_
    exact rgMoves_01234 t m h s kd f P0 P1 P2 ds z0 z1 z2 z4 z5 z6 z7 z8 z9 z11 z12 z13 z14 z15 z16 z17 z18 z19 z20 z21 z22 z23 z24 z25 Q X V b r I _ (by kernel_rfl)
  exact AllReady.nil
theorem rgMoves_012 (t : Nat → Bool) (m h s : Nat) (kd : Int) (f : Value) (P0 : World → Prop) (P1 : Nat → World → Prop) (P2 : Value → World → Prop) (ds : List Deferred) (z0 z1 z2 z4 z5 z6 z7 z8 z9 z11 z12 z13 z14 z15 z16 z17 z18 z19 z20 z21 z22 z23 z24 z25 : Value) (Q : Exit → Act → World → Prop) (X : Ctx_rgMoves t m h s kd f P0 P1 P2 ds z0 z1 z2 z4 z5 z6 z7 z8 z9 z11 z12 z13 z14 z15 z16 z17 z18 z19 z20 z21 z22 z23 z24 z25 Q) (V : World) (b : Nat) (I : Hid (P1 b V)) (B : Array Bool) (hB : B = #[true, true, true, false, false, false]) :
    wpAny Try.prog .any ops_rgMoves Q 3 B { tmps := #[z0, z1, z2, .int .i64 kd, z4, z5, z6, z7, z8, z9, .pointer (some ⟨h, 0, none⟩), z11, z12, z13, z14, z15, z16, z17, z18, z19, z20, z21, .int .i64 kd, .agg (gameC f b), .agg (posC t m s), z25], defers := ds } V := by
  subst hB
  refine wpAny_ready (rs := [3]) (by kernel_rfl) (by simp) ?_
  refine AllReady.cons rfl (fun K hK => ?_) ?_
  · delta ops_rgMoves
    go_simp
    refine (X.fc b _ I.out).mono ?_
    rintro e V2 ⟨r, rfl, hp⟩
    try go_simp
    refine hK _ _ ?_
    exact rgMoves_0123 t m h s kd f P0 P1 P2 ds z0 z1 z2 z4 z5 z6 z7 z8 z9 z11 z12 z13 z14 z15 z16 z17 z18 z19 z20 z21 z22 z23 z24 z25 Q X V2 b r (Lib.hid hp) _ (by kernel_rfl)
  exact AllReady.nil
theorem rgMoves_01 (t : Nat → Bool) (m h s : Nat) (kd : Int) (f : Value) (P0 : World → Prop) (P1 : Nat → World → Prop) (P2 : Value → World → Prop) (ds : List Deferred) (z0 z1 z2 z4 z5 z6 z7 z8 z9 z11 z12 z13 z14 z15 z16 z17 z18 z19 z20 z21 z22 z23 z24 z25 : Value) (Q : Exit → Act → World → Prop) (X : Ctx_rgMoves t m h s kd f P0 P1 P2 ds z0 z1 z2 z4 z5 z6 z7 z8 z9 z11 z12 z13 z14 z15 z16 z17 z18 z19 z20 z21 z22 z23 z24 z25 Q) (V : World) (b : Nat) (I : Hid (P1 b V)) (B : Array Bool) (hB : B = #[true, true, false, false, false, false]) :
    wpAny Try.prog .any ops_rgMoves Q 4 B { tmps := #[z0, z1, z2, .int .i64 kd, z4, z5, z6, z7, z8, z9, .pointer (some ⟨h, 0, none⟩), z11, z12, z13, z14, z15, z16, z17, z18, z19, z20, z21, .int .i64 kd, .agg (gameC f b), z24, z25], defers := ds } V := by
  subst hB
  refine wpAny_ready (rs := [2]) (by kernel_rfl) (by simp) ?_
  refine AllReady.cons rfl (fun K hK => ?_) ?_
  · refine wstep_load rfl 52 _ rfl h rfl (posC t m s) (X.pl1 b _ I.out) (hK _ _ ?_)
    exact rgMoves_012 t m h s kd f P0 P1 P2 ds z0 z1 z2 z4 z5 z6 z7 z8 z9 z11 z12 z13 z14 z15 z16 z17 z18 z19 z20 z21 z22 z23 z24 z25 Q X V b I _ (by kernel_rfl)
  exact AllReady.nil
theorem rgMoves_02 (t : Nat → Bool) (m h s : Nat) (kd : Int) (f : Value) (P0 : World → Prop) (P1 : Nat → World → Prop) (P2 : Value → World → Prop) (ds : List Deferred) (z0 z1 z2 z4 z5 z6 z7 z8 z9 z11 z12 z13 z14 z15 z16 z17 z18 z19 z20 z21 z22 z23 z24 z25 : Value) (Q : Exit → Act → World → Prop) (X : Ctx_rgMoves t m h s kd f P0 P1 P2 ds z0 z1 z2 z4 z5 z6 z7 z8 z9 z11 z12 z13 z14 z15 z16 z17 z18 z19 z20 z21 z22 z23 z24 z25 Q) (V : World) (I : Hid (P0 V)) (B : Array Bool) (hB : B = #[true, false, true, false, false, false]) :
    wpAny Try.prog .any ops_rgMoves Q 4 B { tmps := #[z0, z1, z2, .int .i64 kd, z4, z5, z6, z7, z8, z9, .pointer (some ⟨h, 0, none⟩), z11, z12, z13, z14, z15, z16, z17, z18, z19, z20, z21, .int .i64 kd, z23, .agg (posC t m s), z25], defers := ds } V := by
  subst hB
  refine wpAny_ready (rs := [1]) (by kernel_rfl) (by simp) ?_
  refine AllReady.cons rfl (fun K hK => ?_) ?_
  · delta ops_rgMoves
    go_simp
    refine (X.ng _ I.out).mono ?_
    rintro e V2 ⟨b, rfl, hp⟩
    try go_simp
    refine hK _ _ ?_
    exact rgMoves_012 t m h s kd f P0 P1 P2 ds z0 z1 z2 z4 z5 z6 z7 z8 z9 z11 z12 z13 z14 z15 z16 z17 z18 z19 z20 z21 z22 z23 z24 z25 Q X V2 b (Lib.hid hp) _ (by kernel_rfl)
  exact AllReady.nil
theorem rgMoves_0 (t : Nat → Bool) (m h s : Nat) (kd : Int) (f : Value) (P0 : World → Prop) (P1 : Nat → World → Prop) (P2 : Value → World → Prop) (ds : List Deferred) (z0 z1 z2 z4 z5 z6 z7 z8 z9 z11 z12 z13 z14 z15 z16 z17 z18 z19 z20 z21 z22 z23 z24 z25 : Value) (Q : Exit → Act → World → Prop) (X : Ctx_rgMoves t m h s kd f P0 P1 P2 ds z0 z1 z2 z4 z5 z6 z7 z8 z9 z11 z12 z13 z14 z15 z16 z17 z18 z19 z20 z21 z22 z23 z24 z25 Q) (V : World) (I : Hid (P0 V)) (B : Array Bool) (hB : B = #[true, false, false, false, false, false]) :
    wpAny Try.prog .any ops_rgMoves Q 5 B { tmps := #[z0, z1, z2, .int .i64 kd, z4, z5, z6, z7, z8, z9, .pointer (some ⟨h, 0, none⟩), z11, z12, z13, z14, z15, z16, z17, z18, z19, z20, z21, .int .i64 kd, z23, z24, z25], defers := ds } V := by
  subst hB
  refine wpAny_ready (rs := [1, 2]) (by kernel_rfl) (by simp) ?_
  refine AllReady.cons rfl (fun K hK => ?_) ?_
  · delta ops_rgMoves
    go_simp
    refine (X.ng _ I.out).mono ?_
    rintro e V2 ⟨b, rfl, hp⟩
    try go_simp
    refine hK _ _ ?_
    exact rgMoves_01 t m h s kd f P0 P1 P2 ds z0 z1 z2 z4 z5 z6 z7 z8 z9 z11 z12 z13 z14 z15 z16 z17 z18 z19 z20 z21 z22 z23 z24 z25 Q X V2 b (Lib.hid hp) _ (by kernel_rfl)
  refine AllReady.cons rfl (fun K hK => ?_) ?_
  · refine wstep_load rfl 52 _ rfl h rfl (posC t m s) (X.pl0 _ I.out) (hK _ _ ?_)
    exact rgMoves_02 t m h s kd f P0 P1 P2 ds z0 z1 z2 z4 z5 z6 z7 z8 z9 z11 z12 z13 z14 z15 z16 z17 z18 z19 z20 z21 z22 z23 z24 z25 Q X V I _ (by kernel_rfl)
  exact AllReady.nil
theorem rgMoves_2 (t : Nat → Bool) (m h s : Nat) (kd : Int) (f : Value) (P0 : World → Prop) (P1 : Nat → World → Prop) (P2 : Value → World → Prop) (ds : List Deferred) (z0 z1 z2 z4 z5 z6 z7 z8 z9 z11 z12 z13 z14 z15 z16 z17 z18 z19 z20 z21 z22 z23 z24 z25 : Value) (Q : Exit → Act → World → Prop) (X : Ctx_rgMoves t m h s kd f P0 P1 P2 ds z0 z1 z2 z4 z5 z6 z7 z8 z9 z11 z12 z13 z14 z15 z16 z17 z18 z19 z20 z21 z22 z23 z24 z25 Q) (V : World) (I : Hid (P0 V)) (B : Array Bool) (hB : B = #[false, false, true, false, false, false]) :
    wpAny Try.prog .any ops_rgMoves Q 5 B { tmps := #[z0, z1, z2, .int .i64 kd, z4, z5, z6, z7, z8, z9, .pointer (some ⟨h, 0, none⟩), z11, z12, z13, z14, z15, z16, z17, z18, z19, z20, z21, z22, z23, .agg (posC t m s), z25], defers := ds } V := by
  subst hB
  refine wpAny_ready (rs := [0]) (by kernel_rfl) (by simp) ?_
  refine AllReady.cons rfl (fun K hK => ?_) ?_
  · delta ops_rgMoves
    go_simp
    refine hK _ _ ?_
    exact rgMoves_02 t m h s kd f P0 P1 P2 ds z0 z1 z2 z4 z5 z6 z7 z8 z9 z11 z12 z13 z14 z15 z16 z17 z18 z19 z20 z21 z22 z23 z24 z25 Q X V I _ (by kernel_rfl)
  exact AllReady.nil
theorem rgMoves (t : Nat → Bool) (m h s : Nat) (kd : Int) (f : Value) (P0 : World → Prop) (P1 : Nat → World → Prop) (P2 : Value → World → Prop) (ds : List Deferred) (z0 z1 z2 z4 z5 z6 z7 z8 z9 z11 z12 z13 z14 z15 z16 z17 z18 z19 z20 z21 z22 z23 z24 z25 : Value) (Q : Exit → Act → World → Prop) (X : Ctx_rgMoves t m h s kd f P0 P1 P2 ds z0 z1 z2 z4 z5 z6 z7 z8 z9 z11 z12 z13 z14 z15 z16 z17 z18 z19 z20 z21 z22 z23 z24 z25 Q) (V : World) (I : Hid (P0 V)) (B : Array Bool) (hB : B = #[false, false, false, false, false, false]) :
    wpAny Try.prog .any ops_rgMoves Q 6 B { tmps := #[z0, z1, z2, .int .i64 kd, z4, z5, z6, z7, z8, z9, .pointer (some ⟨h, 0, none⟩), z11, z12, z13, z14, z15, z16, z17, z18, z19, z20, z21, z22, z23, z24, z25], defers := ds } V := by
  subst hB
  refine wpAny_ready (rs := [0, 2]) (by kernel_rfl) (by simp) ?_
  refine AllReady.cons rfl (fun K hK => ?_) ?_
  · delta ops_rgMoves
    go_simp
    refine hK _ _ ?_
    exact rgMoves_0 t m h s kd f P0 P1 P2 ds z0 z1 z2 z4 z5 z6 z7 z8 z9 z11 z12 z13 z14 z15 z16 z17 z18 z19 z20 z21 z22 z23 z24 z25 Q X V I _ (by kernel_rfl)
  refine AllReady.cons rfl (fun K hK => ?_) ?_
  · refine wstep_load rfl 52 _ rfl h rfl (posC t m s) (X.pl0 _ I.out) (hK _ _ ?_)
    exact rgMoves_2 t m h s kd f P0 P1 P2 ds z0 z1 z2 z4 z5 z6 z7 z8 z9 z11 z12 z13 z14 z15 z16 z17 z18 z19 z20 z21 z22 z23 z24 z25 Q X V I _ (by kernel_rfl)
  exact AllReady.nil
def ops_rgWin : Array Oper := #[{ dst := some 19, op := Op.move (Operand.tmp 11), type := 4, pos := "l9_games.go:120", after := #[], guard := none },
  { dst := some 20, op := Op.move (Operand.tmp 19), type := 4, pos := "l9_games.go:120", after := #[{ on := 0, ground := Ground.data }], guard := none },
  { dst := some 21, op := Op.move (Operand.tmp 3), type := 3, pos := "l9_games.go:120", after := #[{ on := 1, ground := Ground.guard }], guard := some (1, true) },
  { dst := some 22, op := Op.call { callee := Callee.value (Operand.func 54), args := #[Operand.tmp 21], argTypes := #[3] }, type := 58, pos := "l9_games.go:120", after := #[{ on := 2, ground := Ground.data }, { on := 1, ground := Ground.chain }, { on := 1, ground := Ground.guard }], guard := some (1, true) },
  { dst := some 23, op := Op.load 52 (Operand.tmp 10), type := 52, pos := "l9_games.go:120", after := #[{ on := 1, ground := Ground.guard }], guard := some (1, true) },
  { dst := some 24, op := Op.call { callee := Callee.value (Operand.func 77), args := #[Operand.tmp 22, Operand.tmp 23], argTypes := #[58, 52] }, type := 4, pos := "l9_games.go:120", after := #[{ on := 3, ground := Ground.data }, { on := 4, ground := Ground.data }, { on := 3, ground := Ground.chain }, { on := 1, ground := Ground.guard }], guard := some (1, true) },
  { dst := some 25, op := Op.pick (Operand.tmp 20) (Operand.tmp 24) (Operand.const (Value.bool false)), type := 4, pos := "l9_games.go:120", after := #[{ on := 1, ground := Ground.data }, { on := 5, ground := Ground.data }], guard := none },
  { dst := some 26, op := Op.move (Operand.tmp 11), type := 4, pos := "l9_games.go:120", after := #[{ on := 8, ground := Ground.gcOnly Departure.lateStores }], guard := none },
  { dst := some 8, op := Op.assign (Operand.tmp 25), type := 4, pos := "l9_games.go:120", after := #[{ on := 6, ground := Ground.data }, { on := 5, ground := Ground.chain }, { on := 0, ground := Ground.phase }, { on := 1, ground := Ground.phase }, { on := 2, ground := Ground.phase }, { on := 3, ground := Ground.phase }, { on := 4, ground := Ground.phase }, { on := 5, ground := Ground.phase }, { on := 6, ground := Ground.phase }, { on := 7, ground := Ground.textOnly Departure.lateStores }], guard := none },
  { dst := some 9, op := Op.assign (Operand.tmp 26), type := 4, pos := "l9_games.go:120", after := #[{ on := 7, ground := Ground.data }, { on := 8, ground := Ground.chain }, { on := 0, ground := Ground.phase }, { on := 1, ground := Ground.phase }, { on := 2, ground := Ground.phase }, { on := 3, ground := Ground.phase }, { on := 4, ground := Ground.phase }, { on := 5, ground := Ground.phase }, { on := 6, ground := Ground.phase }, { on := 7, ground := Ground.phase }, { on := 8, ground := Ground.phase }], guard := none }]
structure Ctx_rgWin (t : Nat → Bool) (m h s : Nat) (kd : Int) (f : Value) (P0 : World → Prop) (P1 : Nat → World → Prop) (P2 : Value → World → Prop) (ds : List Deferred) (z0 z1 z2 z4 z5 z6 z7 z8 z9 z12 z13 z14 z15 z16 z17 z18 z19 z20 z21 z22 z23 z24 z25 z26 : Value) (Q : Exit → Act → World → Prop) : Prop where
  ng : ∀ V, P0 V → Calls Try.prog 54 #[.int .i64 kd] V fun e V2 => ∃ b, e = .returned (.agg (gameC f b)) ∧ P1 b V2
  fc : ∀ b V, P1 b V → Calls Try.prog 77 #[.agg (gameC f b), .agg (posC t m s)] V fun e V2 => ∃ r, e = .returned r ∧ P2 r V2
  pl0 : ∀ V, P0 V → (loadVar 52 ⟨h, 0, none⟩).run Try.prog V = .ok (.agg (posC t m s)) V
  pl1 : ∀ b V, P1 b V → (loadVar 52 ⟨h, 0, none⟩).run Try.prog V = .ok (.agg (posC t m s)) V
  q : ∀ (r : Value) (V : World) (b : Nat), P2 r V → Q .normal { tmps := #[z0, z1, z2, .int .i64 kd, z4, z5, z6, z7, r, .bool true, .pointer (some ⟨h, 0, none⟩), .bool true, z12, z13, z14, z15, z16, z17, z18, .bool true, .bool true, .int .i64 kd, .agg (gameC f b), .agg (posC t m s), r, r, .bool true], defers := ds } V
set_option maxRecDepth 100000
set_option maxHeartbeats 2000000
theorem rgWin_0123456789 (t : Nat → Bool) (m h s : Nat) (kd : Int) (f : Value) (P0 : World → Prop) (P1 : Nat → World → Prop) (P2 : Value → World → Prop) (ds : List Deferred) (z0 z1 z2 z4 z5 z6 z7 z8 z9 z12 z13 z14 z15 z16 z17 z18 z19 z20 z21 z22 z23 z24 z25 z26 : Value) (Q : Exit → Act → World → Prop) (X : Ctx_rgWin t m h s kd f P0 P1 P2 ds z0 z1 z2 z4 z5 z6 z7 z8 z9 z12 z13 z14 z15 z16 z17 z18 z19 z20 z21 z22 z23 z24 z25 z26 Q) (V : World) (b : Nat) (r : Value) (I : Hid (P2 r V)) (B : Array Bool) (hB : B = #[true, true, true, true, true, true, true, true, true, true]) :
    wpAny Try.prog .any ops_rgWin Q 0 B { tmps := #[z0, z1, z2, .int .i64 kd, z4, z5, z6, z7, r, .bool true, .pointer (some ⟨h, 0, none⟩), .bool true, z12, z13, z14, z15, z16, z17, z18, .bool true, .bool true, .int .i64 kd, .agg (gameC f b), .agg (posC t m s), r, r, .bool true], defers := ds } V := by
  subst hB
  exact wpAny_done (by kernel_rfl) (X.q r V b I.out) _
theorem rgWin_012345678 (t : Nat → Bool) (m h s : Nat) (kd : Int) (f : Value) (P0 : World → Prop) (P1 : Nat → World → Prop) (P2 : Value → World → Prop) (ds : List Deferred) (z0 z1 z2 z4 z5 z6 z7 z8 z9 z12 z13 z14 z15 z16 z17 z18 z19 z20 z21 z22 z23 z24 z25 z26 : Value) (Q : Exit → Act → World → Prop) (X : Ctx_rgWin t m h s kd f P0 P1 P2 ds z0 z1 z2 z4 z5 z6 z7 z8 z9 z12 z13 z14 z15 z16 z17 z18 z19 z20 z21 z22 z23 z24 z25 z26 Q) (V : World) (b : Nat) (r : Value) (I : Hid (P2 r V)) (B : Array Bool) (hB : B = #[true, true, true, true, true, true, true, true, true, false]) :
    wpAny Try.prog .any ops_rgWin Q 1 B { tmps := #[z0, z1, z2, .int .i64 kd, z4, z5, z6, z7, r, z9, .pointer (some ⟨h, 0, none⟩), .bool true, z12, z13, z14, z15, z16, z17, z18, .bool true, .bool true, .int .i64 kd, .agg (gameC f b), .agg (posC t m s), r, r, .bool true], defers := ds } V := by
  subst hB
  refine wpAny_ready (rs := [9]) (by kernel_rfl) (by simp) ?_
  refine AllReady.cons rfl (fun K hK => ?_) ?_
  · delta ops_rgWin
    go_simp
    refine hK _ _ ?_
    exact rgWin_0123456789 t m h s kd f P0 P1 P2 ds z0 z1 z2 z4 z5 z6 z7 z8 z9 z12 z13 z14 z15 z16 z17 z18 z19 z20 z21 z22 z23 z24 z25 z26 Q X V b r I _ (by kernel_rfl)
  exact AllReady.nil
theorem rgWin_01234567 (t : Nat → Bool) (m h s : Nat) (kd : Int) (f : Value) (P0 : World → Prop) (P1 : Nat → World → Prop) (P2 : Value → World → Prop) (ds : List Deferred) (z0 z1 z2 z4 z5 z6 z7 z8 z9 z12 z13 z14 z15 z16 z17 z18 z19 z20 z21 z22 z23 z24 z25 z26 : Value) (Q : Exit → Act → World → Prop) (X : Ctx_rgWin t m h s kd f P0 P1 P2 ds z0 z1 z2 z4 z5 z6 z7 z8 z9 z12 z13 z14 z15 z16 z17 z18 z19 z20 z21 z22 z23 z24 z25 z26 Q) (V : World) (b : Nat) (r : Value) (I : Hid (P2 r V)) (B : Array Bool) (hB : B = #[true, true, true, true, true, true, true, true, false, false]) :
    wpAny Try.prog .any ops_rgWin Q 2 B { tmps := #[z0, z1, z2, .int .i64 kd, z4, z5, z6, z7, z8, z9, .pointer (some ⟨h, 0, none⟩), .bool true, z12, z13, z14, z15, z16, z17, z18, .bool true, .bool true, .int .i64 kd, .agg (gameC f b), .agg (posC t m s), r, r, .bool true], defers := ds } V := by
  subst hB
  refine wpAny_ready (rs := [8]) (by kernel_rfl) (by simp) ?_
  refine AllReady.cons rfl (fun K hK => ?_) ?_
  · delta ops_rgWin
    go_simp
    refine hK _ _ ?_
    exact rgWin_012345678 t m h s kd f P0 P1 P2 ds z0 z1 z2 z4 z5 z6 z7 z8 z9 z12 z13 z14 z15 z16 z17 z18 z19 z20 z21 z22 z23 z24 z25 z26 Q X V b r I _ (by kernel_rfl)
  exact AllReady.nil
theorem rgWin_01234568 (t : Nat → Bool) (m h s : Nat) (kd : Int) (f : Value) (P0 : World → Prop) (P1 : Nat → World → Prop) (P2 : Value → World → Prop) (ds : List Deferred) (z0 z1 z2 z4 z5 z6 z7 z8 z9 z12 z13 z14 z15 z16 z17 z18 z19 z20 z21 z22 z23 z24 z25 z26 : Value) (Q : Exit → Act → World → Prop) (X : Ctx_rgWin t m h s kd f P0 P1 P2 ds z0 z1 z2 z4 z5 z6 z7 z8 z9 z12 z13 z14 z15 z16 z17 z18 z19 z20 z21 z22 z23 z24 z25 z26 Q) (V : World) (b : Nat) (r : Value) (I : Hid (P2 r V)) (B : Array Bool) (hB : B = #[true, true, true, true, true, true, true, false, true, false]) :
    wpAny Try.prog .any ops_rgWin Q 2 B { tmps := #[z0, z1, z2, .int .i64 kd, z4, z5, z6, z7, r, z9, .pointer (some ⟨h, 0, none⟩), .bool true, z12, z13, z14, z15, z16, z17, z18, .bool true, .bool true, .int .i64 kd, .agg (gameC f b), .agg (posC t m s), r, r, z26], defers := ds } V := by
  subst hB
  refine wpAny_ready (rs := [7]) (by kernel_rfl) (by simp) ?_
  refine AllReady.cons rfl (fun K hK => ?_) ?_
  · delta ops_rgWin
    go_simp
    refine hK _ _ ?_
    exact rgWin_012345678 t m h s kd f P0 P1 P2 ds z0 z1 z2 z4 z5 z6 z7 z8 z9 z12 z13 z14 z15 z16 z17 z18 z19 z20 z21 z22 z23 z24 z25 z26 Q X V b r I _ (by kernel_rfl)
  exact AllReady.nil
theorem rgWin_0123456 (t : Nat → Bool) (m h s : Nat) (kd : Int) (f : Value) (P0 : World → Prop) (P1 : Nat → World → Prop) (P2 : Value → World → Prop) (ds : List Deferred) (z0 z1 z2 z4 z5 z6 z7 z8 z9 z12 z13 z14 z15 z16 z17 z18 z19 z20 z21 z22 z23 z24 z25 z26 : Value) (Q : Exit → Act → World → Prop) (X : Ctx_rgWin t m h s kd f P0 P1 P2 ds z0 z1 z2 z4 z5 z6 z7 z8 z9 z12 z13 z14 z15 z16 z17 z18 z19 z20 z21 z22 z23 z24 z25 z26 Q) (V : World) (b : Nat) (r : Value) (I : Hid (P2 r V)) (B : Array Bool) (hB : B = #[true, true, true, true, true, true, true, false, false, false]) :
    wpAny Try.prog .any ops_rgWin Q 3 B { tmps := #[z0, z1, z2, .int .i64 kd, z4, z5, z6, z7, z8, z9, .pointer (some ⟨h, 0, none⟩), .bool true, z12, z13, z14, z15, z16, z17, z18, .bool true, .bool true, .int .i64 kd, .agg (gameC f b), .agg (posC t m s), r, r, z26], defers := ds } V := by
  subst hB
  refine wpAny_ready (rs := [7, 8]) (by kernel_rfl) (by simp) ?_
  refine AllReady.cons rfl (fun K hK => ?_) ?_
  · delta ops_rgWin
    go_simp
    refine hK _ _ ?_
    exact rgWin_01234567 t m h s kd f P0 P1 P2 ds z0 z1 z2 z4 z5 z6 z7 z8 z9 z12 z13 z14 z15 z16 z17 z18 z19 z20 z21 z22 z23 z24 z25 z26 Q X V b r I _ (by kernel_rfl)
  refine AllReady.cons rfl (fun K hK => ?_) ?_
  · delta ops_rgWin
    go_simp
    refine hK _ _ ?_
    exact rgWin_01234568 t m h s kd f P0 P1 P2 ds z0 z1 z2 z4 z5 z6 z7 z8 z9 z12 z13 z14 z15 z16 z17 z18 z19 z20 z21 z22 z23 z24 z25 z26 Q X V b r I _ (by kernel_rfl)
  exact AllReady.nil
theorem rgWin_0123457 (t : Nat → Bool) (m h s : Nat) (kd : Int) (f : Value) (P0 : World → Prop) (P1 : Nat → World → Prop) (P2 : Value → World → Prop) (ds : List Deferred) (z0 z1 z2 z4 z5 z6 z7 z8 z9 z12 z13 z14 z15 z16 z17 z18 z19 z20 z21 z22 z23 z24 z25 z26 : Value) (Q : Exit → Act → World → Prop) (X : Ctx_rgWin t m h s kd f P0 P1 P2 ds z0 z1 z2 z4 z5 z6 z7 z8 z9 z12 z13 z14 z15 z16 z17 z18 z19 z20 z21 z22 z23 z24 z25 z26 Q) (V : World) (b : Nat) (r : Value) (I : Hid (P2 r V)) (B : Array Bool) (hB : B = #[true, true, true, true, true, true, false, true, false, false]) :
    wpAny Try.prog .any ops_rgWin Q 3 B { tmps := #[z0, z1, z2, .int .i64 kd, z4, z5, z6, z7, z8, z9, .pointer (some ⟨h, 0, none⟩), .bool true, z12, z13, z14, z15, z16, z17, z18, .bool true, .bool true, .int .i64 kd, .agg (gameC f b), .agg (posC t m s), r, z25, .bool true], defers := ds } V := by
  subst hB
  refine wpAny_ready (rs := [6]) (by kernel_rfl) (by simp) ?_
  refine AllReady.cons rfl (fun K hK => ?_) ?_
  · delta ops_rgWin
    go_simp
    refine hK _ _ ?_
    exact rgWin_01234567 t m h s kd f P0 P1 P2 ds z0 z1 z2 z4 z5 z6 z7 z8 z9 z12 z13 z14 z15 z16 z17 z18 z19 z20 z21 z22 z23 z24 z25 z26 Q X V b r I _ (by kernel_rfl)
  exact AllReady.nil
theorem rgWin_012345 (t : Nat → Bool) (m h s : Nat) (kd : Int) (f : Value) (P0 : World → Prop) (P1 : Nat → World → Prop) (P2 : Value → World → Prop) (ds : List Deferred) (z0 z1 z2 z4 z5 z6 z7 z8 z9 z12 z13 z14 z15 z16 z17 z18 z19 z20 z21 z22 z23 z24 z25 z26 : Value) (Q : Exit → Act → World → Prop) (X : Ctx_rgWin t m h s kd f P0 P1 P2 ds z0 z1 z2 z4 z5 z6 z7 z8 z9 z12 z13 z14 z15 z16 z17 z18 z19 z20 z21 z22 z23 z24 z25 z26 Q) (V : World) (b : Nat) (r : Value) (I : Hid (P2 r V)) (B : Array Bool) (hB : B = #[true, true, true, true, true, true, false, false, false, false]) :
    wpAny Try.prog .any ops_rgWin Q 4 B { tmps := #[z0, z1, z2, .int .i64 kd, z4, z5, z6, z7, z8, z9, .pointer (some ⟨h, 0, none⟩), .bool true, z12, z13, z14, z15, z16, z17, z18, .bool true, .bool true, .int .i64 kd, .agg (gameC f b), .agg (posC t m s), r, z25, z26], defers := ds } V := by
  subst hB
  refine wpAny_ready (rs := [6, 7]) (by kernel_rfl) (by simp) ?_
  refine AllReady.cons rfl (fun K hK => ?_) ?_
  · delta ops_rgWin
    go_simp
    refine hK _ _ ?_
    exact rgWin_0123456 t m h s kd f P0 P1 P2 ds z0 z1 z2 z4 z5 z6 z7 z8 z9 z12 z13 z14 z15 z16 z17 z18 z19 z20 z21 z22 z23 z24 z25 z26 Q X V b r I _ (by kernel_rfl)
  refine AllReady.cons rfl (fun K hK => ?_) ?_
  · delta ops_rgWin
    go_simp
    refine hK _ _ ?_
    exact rgWin_0123457 t m h s kd f P0 P1 P2 ds z0 z1 z2 z4 z5 z6 z7 z8 z9 z12 z13 z14 z15 z16 z17 z18 z19 z20 z21 z22 z23 z24 z25 z26 Q X V b r I _ (by kernel_rfl)
  exact AllReady.nil
theorem rgWin_012347 (t : Nat → Bool) (m h s : Nat) (kd : Int) (f : Value) (P0 : World → Prop) (P1 : Nat → World → Prop) (P2 : Value → World → Prop) (ds : List Deferred) (z0 z1 z2 z4 z5 z6 z7 z8 z9 z12 z13 z14 z15 z16 z17 z18 z19 z20 z21 z22 z23 z24 z25 z26 : Value) (Q : Exit → Act → World → Prop) (X : Ctx_rgWin t m h s kd f P0 P1 P2 ds z0 z1 z2 z4 z5 z6 z7 z8 z9 z12 z13 z14 z15 z16 z17 z18 z19 z20 z21 z22 z23 z24 z25 z26 Q) (V : World) (b : Nat) (I : Hid (P1 b V)) (B : Array Bool) (hB : B = #[true, true, true, true, true, false, false, true, false, false]) :
    wpAny Try.prog .any ops_rgWin Q 4 B { tmps := #[z0, z1, z2, .int .i64 kd, z4, z5, z6, z7, z8, z9, .pointer (some ⟨h, 0, none⟩), .bool true, z12, z13, z14, z15, z16, z17, z18, .bool true, .bool true, .int .i64 kd, .agg (gameC f b), .agg (posC t m s), z24, z25, .bool true], defers := ds } V := by
  subst hB
  refine wpAny_ready (rs := [5]) (by kernel_rfl) (by simp) ?_
  refine AllReady.cons rfl (fun K hK => ?_) ?_
  · delta ops_rgWin
    go_simp
    refine (X.fc b _ I.out).mono ?_
    rintro e V2 ⟨r, rfl, hp⟩
    try go_simp
    refine hK _ _ ?_
    exact rgWin_0123457 t m h s kd f P0 P1 P2 ds z0 z1 z2 z4 z5 z6 z7 z8 z9 z12 z13 z14 z15 z16 z17 z18 z19 z20 z21 z22 z23 z24 z25 z26 Q X V2 b r (Lib.hid hp) _ (by kernel_rfl)
  exact AllReady.nil
theorem rgWin_01234 (t : Nat → Bool) (m h s : Nat) (kd : Int) (f : Value) (P0 : World → Prop) (P1 : Nat → World → Prop) (P2 : Value → World → Prop) (ds : List Deferred) (z0 z1 z2 z4 z5 z6 z7 z8 z9 z12 z13 z14 z15 z16 z17 z18 z19 z20 z21 z22 z23 z24 z25 z26 : Value) (Q : Exit → Act → World → Prop) (X : Ctx_rgWin t m h s kd f P0 P1 P2 ds z0 z1 z2 z4 z5 z6 z7 z8 z9 z12 z13 z14 z15 z16 z17 z18 z19 z20 z21 z22 z23 z24 z25 z26 Q) (V : World) (b : Nat) (I : Hid (P1 b V)) (B : Array Bool) (hB : B = #[true, true, true, true, true, false, false, false, false, false]) :
    wpAny Try.prog .any ops_rgWin Q 5 B { tmps := #[z0, z1, z2, .int .i64 kd, z4, z5, z6, z7, z8, z9, .pointer (some ⟨h, 0, none⟩), .bool true, z12, z13, z14, z15, z16, z17, z18, .bool true, .bool true, .int .i64 kd, .agg (gameC f b), .agg (posC t m s), z24, z25, z26], defers := ds } V := by
  subst hB
  refine wpAny_ready (rs := [5, 7]) (by kernel_rfl) (by simp) ?_
  refine AllReady.cons rfl (fun K hK => ?_) ?_
  · delta ops_rgWin
    go_simp
    refine (X.fc b _ I.out).mono ?_
    rintro e V2 ⟨r, rfl, hp⟩
    try go_simp
    refine hK _ _ ?_
    exact rgWin_012345 t m h s kd f P0 P1 P2 ds z0 z1 z2 z4 z5 z6 z7 z8 z9 z12 z13 z14 z15 z16 z17 z18 z19 z20 z21 z22 z23 z24 z25 z26 Q X V2 b r (Lib.hid hp) _ (by kernel_rfl)
  refine AllReady.cons rfl (fun K hK => ?_) ?_
  · delta ops_rgWin
    go_simp
    refine hK _ _ ?_
    exact rgWin_012347 t m h s kd f P0 P1 P2 ds z0 z1 z2 z4 z5 z6 z7 z8 z9 z12 z13 z14 z15 z16 z17 z18 z19 z20 z21 z22 z23 z24 z25 z26 Q X V b I _ (by kernel_rfl)
  exact AllReady.nil
theorem rgWin_01237 (t : Nat → Bool) (m h s : Nat) (kd : Int) (f : Value) (P0 : World → Prop) (P1 : Nat → World → Prop) (P2 : Value → World → Prop) (ds : List Deferred) (z0 z1 z2 z4 z5 z6 z7 z8 z9 z12 z13 z14 z15 z16 z17 z18 z19 z20 z21 z22 z23 z24 z25 z26 : Value) (Q : Exit → Act → World → Prop) (X : Ctx_rgWin t m h s kd f P0 P1 P2 ds z0 z1 z2 z4 z5 z6 z7 z8 z9 z12 z13 z14 z15 z16 z17 z18 z19 z20 z21 z22 z23 z24 z25 z26 Q) (V : World) (b : Nat) (I : Hid (P1 b V)) (B : Array Bool) (hB : B = #[true, true, true, true, false, false, false, true, false, false]) :
    wpAny Try.prog .any ops_rgWin Q 5 B { tmps := #[z0, z1, z2, .int .i64 kd, z4, z5, z6, z7, z8, z9, .pointer (some ⟨h, 0, none⟩), .bool true, z12, z13, z14, z15, z16, z17, z18, .bool true, .bool true, .int .i64 kd, .agg (gameC f b), z23, z24, z25, .bool true], defers := ds } V := by
  subst hB
  refine wpAny_ready (rs := [4]) (by kernel_rfl) (by simp) ?_
  refine AllReady.cons rfl (fun K hK => ?_) ?_
  · refine wstep_load_if (by delta ops_rgWin; rfl) 52 _ rfl h rfl (posC t m s) (X.pl1 b _ I.out) (hK _ _ ?_)
    exact rgWin_012347 t m h s kd f P0 P1 P2 ds z0 z1 z2 z4 z5 z6 z7 z8 z9 z12 z13 z14 z15 z16 z17 z18 z19 z20 z21 z22 z23 z24 z25 z26 Q X V b I _ (by kernel_rfl)
  exact AllReady.nil
theorem rgWin_0123 (t : Nat → Bool) (m h s : Nat) (kd : Int) (f : Value) (P0 : World → Prop) (P1 : Nat → World → Prop) (P2 : Value → World → Prop) (ds : List Deferred) (z0 z1 z2 z4 z5 z6 z7 z8 z9 z12 z13 z14 z15 z16 z17 z18 z19 z20 z21 z22 z23 z24 z25 z26 : Value) (Q : Exit → Act → World → Prop) (X : Ctx_rgWin t m h s kd f P0 P1 P2 ds z0 z1 z2 z4 z5 z6 z7 z8 z9 z12 z13 z14 z15 z16 z17 z18 z19 z20 z21 z22 z23 z24 z25 z26 Q) (V : World) (b : Nat) (I : Hid (P1 b V)) (B : Array Bool) (hB : B = #[true, true, true, true, false, false, false, false, false, false]) :
    wpAny Try.prog .any ops_rgWin Q 6 B { tmps := #[z0, z1, z2, .int .i64 kd, z4, z5, z6, z7, z8, z9, .pointer (some ⟨h, 0, none⟩), .bool true, z12, z13, z14, z15, z16, z17, z18, .bool true, .bool true, .int .i64 kd, .agg (gameC f b), z23, z24, z25, z26], defers := ds } V := by
  subst hB
  refine wpAny_ready (rs := [4, 7]) (by kernel_rfl) (by simp) ?_
  refine AllReady.cons rfl (fun K hK => ?_) ?_
  · refine wstep_load_if (by delta ops_rgWin; rfl) 52 _ rfl h rfl (posC t m s) (X.pl1 b _ I.out) (hK _ _ ?_)
    exact rgWin_01234 t m h s kd f P0 P1 P2 ds z0 z1 z2 z4 z5 z6 z7 z8 z9 z12 z13 z14 z15 z16 z17 z18 z19 z20 z21 z22 z23 z24 z25 z26 Q X V b I _ (by kernel_rfl)
  refine AllReady.cons rfl (fun K hK => ?_) ?_
  · delta ops_rgWin
    go_simp
    refine hK _ _ ?_
    exact rgWin_01237 t m h s kd f P0 P1 P2 ds z0 z1 z2 z4 z5 z6 z7 z8 z9 z12 z13 z14 z15 z16 z17 z18 z19 z20 z21 z22 z23 z24 z25 z26 Q X V b I _ (by kernel_rfl)
  exact AllReady.nil
theorem rgWin_01247 (t : Nat → Bool) (m h s : Nat) (kd : Int) (f : Value) (P0 : World → Prop) (P1 : Nat → World → Prop) (P2 : Value → World → Prop) (ds : List Deferred) (z0 z1 z2 z4 z5 z6 z7 z8 z9 z12 z13 z14 z15 z16 z17 z18 z19 z20 z21 z22 z23 z24 z25 z26 : Value) (Q : Exit → Act → World → Prop) (X : Ctx_rgWin t m h s kd f P0 P1 P2 ds z0 z1 z2 z4 z5 z6 z7 z8 z9 z12 z13 z14 z15 z16 z17 z18 z19 z20 z21 z22 z23 z24 z25 z26 Q) (V : World) (I : Hid (P0 V)) (B : Array Bool) (hB : B = #[true, true, true, false, true, false, false, true, false, false]) :
    wpAny Try.prog .any ops_rgWin Q 5 B { tmps := #[z0, z1, z2, .int .i64 kd, z4, z5, z6, z7, z8, z9, .pointer (some ⟨h, 0, none⟩), .bool true, z12, z13, z14, z15, z16, z17, z18, .bool true, .bool true, .int .i64 kd, z22, .agg (posC t m s), z24, z25, .bool true], defers := ds } V := by
  subst hB
  refine wpAny_ready (rs := [3]) (by kernel_rfl) (by simp) ?_
  refine AllReady.cons rfl (fun K hK => ?_) ?_
  · delta ops_rgWin
    go_simp
    refine (X.ng _ I.out).mono ?_
    rintro e V2 ⟨b, rfl, hp⟩
    try go_simp
    refine hK _ _ ?_
    exact rgWin_012347 t m h s kd f P0 P1 P2 ds z0 z1 z2 z4 z5 z6 z7 z8 z9 z12 z13 z14 z15 z16 z17 z18 z19 z20 z21 z22 z23 z24 z25 z26 Q X V2 b (Lib.hid hp) _ (by kernel_rfl)
  exact AllReady.nil
theorem rgWin_0124 (t : Nat → Bool) (m h s : Nat) (kd : Int) (f : Value) (P0 : World → Prop) (P1 : Nat → World → Prop) (P2 : Value → World → Prop) (ds : List Deferred) (z0 z1 z2 z4 z5 z6 z7 z8 z9 z12 z13 z14 z15 z16 z17 z18 z19 z20 z21 z22 z23 z24 z25 z26 : Value) (Q : Exit → Act → World → Prop) (X : Ctx_rgWin t m h s kd f P0 P1 P2 ds z0 z1 z2 z4 z5 z6 z7 z8 z9 z12 z13 z14 z15 z16 z17 z18 z19 z20 z21 z22 z23 z24 z25 z26 Q) (V : World) (I : Hid (P0 V)) (B : Array Bool) (hB : B = #[true, true, true, false, true, false, false, false, false, false]) :
    wpAny Try.prog .any ops_rgWin Q 6 B { tmps := #[z0, z1, z2, .int .i64 kd, z4, z5, z6, z7, z8, z9, .pointer (some ⟨h, 0, none⟩), .bool true, z12, z13, z14, z15, z16, z17, z18, .bool true, .bool true, .int .i64 kd, z22, .agg (posC t m s), z24, z25, z26], defers := ds } V := by
  subst hB
  refine wpAny_ready (rs := [3, 7]) (by kernel_rfl) (by simp) ?_
  refine AllReady.cons rfl (fun K hK => ?_) ?_
  · delta ops_rgWin
    go_simp
    refine (X.ng _ I.out).mono ?_
    rintro e V2 ⟨b, rfl, hp⟩
    try go_simp
    refine hK _ _ ?_
    exact rgWin_01234 t m h s kd f P0 P1 P2 ds z0 z1 z2 z4 z5 z6 z7 z8 z9 z12 z13 z14 z15 z16 z17 z18 z19 z20 z21 z22 z23 z24 z25 z26 Q X V2 b (Lib.hid hp) _ (by kernel_rfl)
  refine AllReady.cons rfl (fun K hK => ?_) ?_
  · delta ops_rgWin
    go_simp
    refine hK _ _ ?_
    exact rgWin_01247 t m h s kd f P0 P1 P2 ds z0 z1 z2 z4 z5 z6 z7 z8 z9 z12 z13 z14 z15 z16 z17 z18 z19 z20 z21 z22 z23 z24 z25 z26 Q X V I _ (by kernel_rfl)
  exact AllReady.nil
theorem rgWin_0127 (t : Nat → Bool) (m h s : Nat) (kd : Int) (f : Value) (P0 : World → Prop) (P1 : Nat → World → Prop) (P2 : Value → World → Prop) (ds : List Deferred) (z0 z1 z2 z4 z5 z6 z7 z8 z9 z12 z13 z14 z15 z16 z17 z18 z19 z20 z21 z22 z23 z24 z25 z26 : Value) (Q : Exit → Act → World → Prop) (X : Ctx_rgWin t m h s kd f P0 P1 P2 ds z0 z1 z2 z4 z5 z6 z7 z8 z9 z12 z13 z14 z15 z16 z17 z18 z19 z20 z21 z22 z23 z24 z25 z26 Q) (V : World) (I : Hid (P0 V)) (B : Array Bool) (hB : B = #[true, true, true, false, false, false, false, true, false, false]) :
    wpAny Try.prog .any ops_rgWin Q 6 B { tmps := #[z0, z1, z2, .int .i64 kd, z4, z5, z6, z7, z8, z9, .pointer (some ⟨h, 0, none⟩), .bool true, z12, z13, z14, z15, z16, z17, z18, .bool true, .bool true, .int .i64 kd, z22, z23, z24, z25, .bool true], defers := ds } V := by
  subst hB
  refine wpAny_ready (rs := [3, 4]) (by kernel_rfl) (by simp) ?_
  refine AllReady.cons rfl (fun K hK => ?_) ?_
  · delta ops_rgWin
    go_simp
    refine (X.ng _ I.out).mono ?_
    rintro e V2 ⟨b, rfl, hp⟩
    try go_simp
    refine hK _ _ ?_
    exact rgWin_01237 t m h s kd f P0 P1 P2 ds z0 z1 z2 z4 z5 z6 z7 z8 z9 z12 z13 z14 z15 z16 z17 z18 z19 z20 z21 z22 z23 z24 z25 z26 Q X V2 b (Lib.hid hp) _ (by kernel_rfl)
  refine AllReady.cons rfl (fun K hK => ?_) ?_
  · refine wstep_load_if (by delta ops_rgWin; rfl) 52 _ rfl h rfl (posC t m s) (X.pl0 _ I.out) (hK _ _ ?_)
    exact rgWin_01247 t m h s kd f P0 P1 P2 ds z0 z1 z2 z4 z5 z6 z7 z8 z9 z12 z13 z14 z15 z16 z17 z18 z19 z20 z21 z22 z23 z24 z25 z26 Q X V I _ (by kernel_rfl)
  exact AllReady.nil
theorem rgWin_012 (t : Nat → Bool) (m h s : Nat) (kd : Int) (f : Value) (P0 : World → Prop) (P1 : Nat → World → Prop) (P2 : Value → World → Prop) (ds : List Deferred) (z0 z1 z2 z4 z5 z6 z7 z8 z9 z12 z13 z14 z15 z16 z17 z18 z19 z20 z21 z22 z23 z24 z25 z26 : Value) (Q : Exit → Act → World → Prop) (X : Ctx_rgWin t m h s kd f P0 P1 P2 ds z0 z1 z2 z4 z5 z6 z7 z8 z9 z12 z13 z14 z15 z16 z17 z18 z19 z20 z21 z22 z23 z24 z25 z26 Q) (V : World) (I : Hid (P0 V)) (B : Array Bool) (hB : B = #[true, true, true, false, false, false, false, false, false, false]) :
    wpAny Try.prog .any ops_rgWin Q 7 B { tmps := #[z0, z1, z2, .int .i64 kd, z4, z5, z6, z7, z8, z9, .pointer (some ⟨h, 0, none⟩), .bool true, z12, z13, z14, z15, z16, z17, z18, .bool true, .bool true, .int .i64 kd, z22, z23, z24, z25, z26], defers := ds } V := by
  subst hB
  refine wpAny_ready (rs := [3, 4, 7]) (by kernel_rfl) (by simp) ?_
  refine AllReady.cons rfl (fun K hK => ?_) ?_
  · delta ops_rgWin
    go_simp
    refine (X.ng _ I.out).mono ?_
    rintro e V2 ⟨b, rfl, hp⟩
    try go_simp
    refine hK _ _ ?_
    exact rgWin_0123 t m h s kd f P0 P1 P2 ds z0 z1 z2 z4 z5 z6 z7 z8 z9 z12 z13 z14 z15 z16 z17 z18 z19 z20 z21 z22 z23 z24 z25 z26 Q X V2 b (Lib.hid hp) _ (by kernel_rfl)
  refine AllReady.cons rfl (fun K hK => ?_) ?_
  · refine wstep_load_if (by delta ops_rgWin; rfl) 52 _ rfl h rfl (posC t m s) (X.pl0 _ I.out) (hK _ _ ?_)
    exact rgWin_0124 t m h s kd f P0 P1 P2 ds z0 z1 z2 z4 z5 z6 z7 z8 z9 z12 z13 z14 z15 z16 z17 z18 z19 z20 z21 z22 z23 z24 z25 z26 Q X V I _ (by kernel_rfl)
  refine AllReady.cons rfl (fun K hK => ?_) ?_
  · delta ops_rgWin
    go_simp
    refine hK _ _ ?_
    exact rgWin_0127 t m h s kd f P0 P1 P2 ds z0 z1 z2 z4 z5 z6 z7 z8 z9 z12 z13 z14 z15 z16 z17 z18 z19 z20 z21 z22 z23 z24 z25 z26 Q X V I _ (by kernel_rfl)
  exact AllReady.nil
theorem rgWin_0147 (t : Nat → Bool) (m h s : Nat) (kd : Int) (f : Value) (P0 : World → Prop) (P1 : Nat → World → Prop) (P2 : Value → World → Prop) (ds : List Deferred) (z0 z1 z2 z4 z5 z6 z7 z8 z9 z12 z13 z14 z15 z16 z17 z18 z19 z20 z21 z22 z23 z24 z25 z26 : Value) (Q : Exit → Act → World → Prop) (X : Ctx_rgWin t m h s kd f P0 P1 P2 ds z0 z1 z2 z4 z5 z6 z7 z8 z9 z12 z13 z14 z15 z16 z17 z18 z19 z20 z21 z22 z23 z24 z25 z26 Q) (V : World) (I : Hid (P0 V)) (B : Array Bool) (hB : B = #[true, true, false, false, true, false, false, true, false, false]) :
    wpAny Try.prog .any ops_rgWin Q 6 B { tmps := #[z0, z1, z2, .int .i64 kd, z4, z5, z6, z7, z8, z9, .pointer (some ⟨h, 0, none⟩), .bool true, z12, z13, z14, z15, z16, z17, z18, .bool true, .bool true, z21, z22, .agg (posC t m s), z24, z25, .bool true], defers := ds } V := by
  subst hB
  refine wpAny_ready (rs := [2]) (by kernel_rfl) (by simp) ?_
  refine AllReady.cons rfl (fun K hK => ?_) ?_
  · delta ops_rgWin
    go_simp
    refine hK _ _ ?_
    exact rgWin_01247 t m h s kd f P0 P1 P2 ds z0 z1 z2 z4 z5 z6 z7 z8 z9 z12 z13 z14 z15 z16 z17 z18 z19 z20 z21 z22 z23 z24 z25 z26 Q X V I _ (by kernel_rfl)
  exact AllReady.nil
theorem rgWin_014 (t : Nat → Bool) (m h s : Nat) (kd : Int) (f : Value) (P0 : World → Prop) (P1 : Nat → World → Prop) (P2 : Value → World → Prop) (ds : List Deferred) (z0 z1 z2 z4 z5 z6 z7 z8 z9 z12 z13 z14 z15 z16 z17 z18 z19 z20 z21 z22 z23 z24 z25 z26 : Value) (Q : Exit → Act → World → Prop) (X : Ctx_rgWin t m h s kd f P0 P1 P2 ds z0 z1 z2 z4 z5 z6 z7 z8 z9 z12 z13 z14 z15 z16 z17 z18 z19 z20 z21 z22 z23 z24 z25 z26 Q) (V : World) (I : Hid (P0 V)) (B : Array Bool) (hB : B = #[true, true, false, false, true, false, false, false, false, false]) :
    wpAny Try.prog .any ops_rgWin Q 7 B { tmps := #[z0, z1, z2, .int .i64 kd, z4, z5, z6, z7, z8, z9, .pointer (some ⟨h, 0, none⟩), .bool true, z12, z13, z14, z15, z16, z17, z18, .bool true, .bool true, z21, z22, .agg (posC t m s), z24, z25, z26], defers := ds } V := by
  subst hB
  refine wpAny_ready (rs := [2, 7]) (by kernel_rfl) (by simp) ?_
  refine AllReady.cons rfl (fun K hK => ?_) ?_
  · delta ops_rgWin
    go_simp
    refine hK _ _ ?_
    exact rgWin_0124 t m h s kd f P0 P1 P2 ds z0 z1 z2 z4 z5 z6 z7 z8 z9 z12 z13 z14 z15 z16 z17 z18 z19 z20 z21 z22 z23 z24 z25 z26 Q X V I _ (by kernel_rfl)
  refine AllReady.cons rfl (fun K hK => ?_) ?_
  · delta ops_rgWin
    go_simp
    refine hK _ _ ?_
    exact rgWin_0147 t m h s kd f P0 P1 P2 ds z0 z1 z2 z4 z5 z6 z7 z8 z9 z12 z13 z14 z15 z16 z17 z18 z19 z20 z21 z22 z23 z24 z25 z26 Q X V I _ (by kernel_rfl)
  exact AllReady.nil
theorem rgWin_017 (t : Nat → Bool) (m h s : Nat) (kd : Int) (f : Value) (P0 : World → Prop) (P1 : Nat → World → Prop) (P2 : Value → World → Prop) (ds : List Deferred) (z0 z1 z2 z4 z5 z6 z7 z8 z9 z12 z13 z14 z15 z16 z17 z18 z19 z20 z21 z22 z23 z24 z25 z26 : Value) (Q : Exit → Act → World → Prop) (X : Ctx_rgWin t m h s kd f P0 P1 P2 ds z0 z1 z2 z4 z5 z6 z7 z8 z9 z12 z13 z14 z15 z16 z17 z18 z19 z20 z21 z22 z23 z24 z25 z26 Q) (V : World) (I : Hid (P0 V)) (B : Array Bool) (hB : B = #[true, true, false, false, false, false, false, true, false, false]) :
    wpAny Try.prog .any ops_rgWin Q 7 B { tmps := #[z0, z1, z2, .int .i64 kd, z4, z5, z6, z7, z8, z9, .pointer (some ⟨h, 0, none⟩), .bool true, z12, z13, z14, z15, z16, z17, z18, .bool true, .bool true, z21, z22, z23, z24, z25, .bool true], defers := ds } V := by
  subst hB
  refine wpAny_ready (rs := [2, 4]) (by kernel_rfl) (by simp) ?_
  refine AllReady.cons rfl (fun K hK => ?_) ?_
  · delta ops_rgWin
    go_simp
    refine hK _ _ ?_
    exact rgWin_0127 t m h s kd f P0 P1 P2 ds z0 z1 z2 z4 z5 z6 z7 z8 z9 z12 z13 z14 z15 z16 z17 z18 z19 z20 z21 z22 z23 z24 z25 z26 Q X V I _ (by kernel_rfl)
  refine AllReady.cons rfl (fun K hK => ?_) ?_
  · refine wstep_load_if (by delta ops_rgWin; rfl) 52 _ rfl h rfl (posC t m s) (X.pl0 _ I.out) (hK _ _ ?_)
    exact rgWin_0147 t m h s kd f P0 P1 P2 ds z0 z1 z2 z4 z5 z6 z7 z8 z9 z12 z13 z14 z15 z16 z17 z18 z19 z20 z21 z22 z23 z24 z25 z26 Q X V I _ (by kernel_rfl)
  exact AllReady.nil
theorem rgWin_01 (t : Nat → Bool) (m h s : Nat) (kd : Int) (f : Value) (P0 : World → Prop) (P1 : Nat → World → Prop) (P2 : Value → World → Prop) (ds : List Deferred) (z0 z1 z2 z4 z5 z6 z7 z8 z9 z12 z13 z14 z15 z16 z17 z18 z19 z20 z21 z22 z23 z24 z25 z26 : Value) (Q : Exit → Act → World → Prop) (X : Ctx_rgWin t m h s kd f P0 P1 P2 ds z0 z1 z2 z4 z5 z6 z7 z8 z9 z12 z13 z14 z15 z16 z17 z18 z19 z20 z21 z22 z23 z24 z25 z26 Q) (V : World) (I : Hid (P0 V)) (B : Array Bool) (hB : B = #[true, true, false, false, false, false, false, false, false, false]) :
    wpAny Try.prog .any ops_rgWin Q 8 B { tmps := #[z0, z1, z2, .int .i64 kd, z4, z5, z6, z7, z8, z9, .pointer (some ⟨h, 0, none⟩), .bool true, z12, z13, z14, z15, z16, z17, z18, .bool true, .bool true, z21, z22, z23, z24, z25, z26], defers := ds } V := by
  subst hB
  refine wpAny_ready (rs := [2, 4, 7]) (by kernel_rfl) (by simp) ?_
  refine AllReady.cons rfl (fun K hK => ?_) ?_
  · delta ops_rgWin
    go_simp
    refine hK _ _ ?_
    exact rgWin_012 t m h s kd f P0 P1 P2 ds z0 z1 z2 z4 z5 z6 z7 z8 z9 z12 z13 z14 z15 z16 z17 z18 z19 z20 z21 z22 z23 z24 z25 z26 Q X V I _ (by kernel_rfl)
  refine AllReady.cons rfl (fun K hK => ?_) ?_
  · refine wstep_load_if (by delta ops_rgWin; rfl) 52 _ rfl h rfl (posC t m s) (X.pl0 _ I.out) (hK _ _ ?_)
    exact rgWin_014 t m h s kd f P0 P1 P2 ds z0 z1 z2 z4 z5 z6 z7 z8 z9 z12 z13 z14 z15 z16 z17 z18 z19 z20 z21 z22 z23 z24 z25 z26 Q X V I _ (by kernel_rfl)
  refine AllReady.cons rfl (fun K hK => ?_) ?_
  · delta ops_rgWin
    go_simp
    refine hK _ _ ?_
    exact rgWin_017 t m h s kd f P0 P1 P2 ds z0 z1 z2 z4 z5 z6 z7 z8 z9 z12 z13 z14 z15 z16 z17 z18 z19 z20 z21 z22 z23 z24 z25 z26 Q X V I _ (by kernel_rfl)
  exact AllReady.nil
theorem rgWin_07 (t : Nat → Bool) (m h s : Nat) (kd : Int) (f : Value) (P0 : World → Prop) (P1 : Nat → World → Prop) (P2 : Value → World → Prop) (ds : List Deferred) (z0 z1 z2 z4 z5 z6 z7 z8 z9 z12 z13 z14 z15 z16 z17 z18 z19 z20 z21 z22 z23 z24 z25 z26 : Value) (Q : Exit → Act → World → Prop) (X : Ctx_rgWin t m h s kd f P0 P1 P2 ds z0 z1 z2 z4 z5 z6 z7 z8 z9 z12 z13 z14 z15 z16 z17 z18 z19 z20 z21 z22 z23 z24 z25 z26 Q) (V : World) (I : Hid (P0 V)) (B : Array Bool) (hB : B = #[true, false, false, false, false, false, false, true, false, false]) :
    wpAny Try.prog .any ops_rgWin Q 8 B { tmps := #[z0, z1, z2, .int .i64 kd, z4, z5, z6, z7, z8, z9, .pointer (some ⟨h, 0, none⟩), .bool true, z12, z13, z14, z15, z16, z17, z18, .bool true, z20, z21, z22, z23, z24, z25, .bool true], defers := ds } V := by
  subst hB
  refine wpAny_ready (rs := [1]) (by kernel_rfl) (by simp) ?_
  refine AllReady.cons rfl (fun K hK => ?_) ?_
  · delta ops_rgWin
    go_simp
    refine hK _ _ ?_
    exact rgWin_017 t m h s kd f P0 P1 P2 ds z0 z1 z2 z4 z5 z6 z7 z8 z9 z12 z13 z14 z15 z16 z17 z18 z19 z20 z21 z22 z23 z24 z25 z26 Q X V I _ (by kernel_rfl)
  exact AllReady.nil
theorem rgWin_0 (t : Nat → Bool) (m h s : Nat) (kd : Int) (f : Value) (P0 : World → Prop) (P1 : Nat → World → Prop) (P2 : Value → World → Prop) (ds : List Deferred) (z0 z1 z2 z4 z5 z6 z7 z8 z9 z12 z13 z14 z15 z16 z17 z18 z19 z20 z21 z22 z23 z24 z25 z26 : Value) (Q : Exit → Act → World → Prop) (X : Ctx_rgWin t m h s kd f P0 P1 P2 ds z0 z1 z2 z4 z5 z6 z7 z8 z9 z12 z13 z14 z15 z16 z17 z18 z19 z20 z21 z22 z23 z24 z25 z26 Q) (V : World) (I : Hid (P0 V)) (B : Array Bool) (hB : B = #[true, false, false, false, false, false, false, false, false, false]) :
    wpAny Try.prog .any ops_rgWin Q 9 B { tmps := #[z0, z1, z2, .int .i64 kd, z4, z5, z6, z7, z8, z9, .pointer (some ⟨h, 0, none⟩), .bool true, z12, z13, z14, z15, z16, z17, z18, .bool true, z20, z21, z22, z23, z24, z25, z26], defers := ds } V := by
  subst hB
  refine wpAny_ready (rs := [1, 7]) (by kernel_rfl) (by simp) ?_
  refine AllReady.cons rfl (fun K hK => ?_) ?_
  · delta ops_rgWin
    go_simp
    refine hK _ _ ?_
    exact rgWin_01 t m h s kd f P0 P1 P2 ds z0 z1 z2 z4 z5 z6 z7 z8 z9 z12 z13 z14 z15 z16 z17 z18 z19 z20 z21 z22 z23 z24 z25 z26 Q X V I _ (by kernel_rfl)
  refine AllReady.cons rfl (fun K hK => ?_) ?_
  · delta ops_rgWin
    go_simp
    refine hK _ _ ?_
    exact rgWin_07 t m h s kd f P0 P1 P2 ds z0 z1 z2 z4 z5 z6 z7 z8 z9 z12 z13 z14 z15 z16 z17 z18 z19 z20 z21 z22 z23 z24 z25 z26 Q X V I _ (by kernel_rfl)
  exact AllReady.nil
theorem rgWin_7 (t : Nat → Bool) (m h s : Nat) (kd : Int) (f : Value) (P0 : World → Prop) (P1 : Nat → World → Prop) (P2 : Value → World → Prop) (ds : List Deferred) (z0 z1 z2 z4 z5 z6 z7 z8 z9 z12 z13 z14 z15 z16 z17 z18 z19 z20 z21 z22 z23 z24 z25 z26 : Value) (Q : Exit → Act → World → Prop) (X : Ctx_rgWin t m h s kd f P0 P1 P2 ds z0 z1 z2 z4 z5 z6 z7 z8 z9 z12 z13 z14 z15 z16 z17 z18 z19 z20 z21 z22 z23 z24 z25 z26 Q) (V : World) (I : Hid (P0 V)) (B : Array Bool) (hB : B = #[false, false, false, false, false, false, false, true, false, false]) :
    wpAny Try.prog .any ops_rgWin Q 9 B { tmps := #[z0, z1, z2, .int .i64 kd, z4, z5, z6, z7, z8, z9, .pointer (some ⟨h, 0, none⟩), .bool true, z12, z13, z14, z15, z16, z17, z18, z19, z20, z21, z22, z23, z24, z25, .bool true], defers := ds } V := by
  subst hB
  refine wpAny_ready (rs := [0]) (by kernel_rfl) (by simp) ?_
  refine AllReady.cons rfl (fun K hK => ?_) ?_
  · delta ops_rgWin
    go_simp
    refine hK _ _ ?_
    exact rgWin_07 t m h s kd f P0 P1 P2 ds z0 z1 z2 z4 z5 z6 z7 z8 z9 z12 z13 z14 z15 z16 z17 z18 z19 z20 z21 z22 z23 z24 z25 z26 Q X V I _ (by kernel_rfl)
  exact AllReady.nil
theorem rgWin (t : Nat → Bool) (m h s : Nat) (kd : Int) (f : Value) (P0 : World → Prop) (P1 : Nat → World → Prop) (P2 : Value → World → Prop) (ds : List Deferred) (z0 z1 z2 z4 z5 z6 z7 z8 z9 z12 z13 z14 z15 z16 z17 z18 z19 z20 z21 z22 z23 z24 z25 z26 : Value) (Q : Exit → Act → World → Prop) (X : Ctx_rgWin t m h s kd f P0 P1 P2 ds z0 z1 z2 z4 z5 z6 z7 z8 z9 z12 z13 z14 z15 z16 z17 z18 z19 z20 z21 z22 z23 z24 z25 z26 Q) (V : World) (I : Hid (P0 V)) (B : Array Bool) (hB : B = #[false, false, false, false, false, false, false, false, false, false]) :
    wpAny Try.prog .any ops_rgWin Q 10 B { tmps := #[z0, z1, z2, .int .i64 kd, z4, z5, z6, z7, z8, z9, .pointer (some ⟨h, 0, none⟩), .bool true, z12, z13, z14, z15, z16, z17, z18, z19, z20, z21, z22, z23, z24, z25, z26], defers := ds } V := by
  subst hB
  refine wpAny_ready (rs := [0, 7]) (by kernel_rfl) (by simp) ?_
  refine AllReady.cons rfl (fun K hK => ?_) ?_
  · delta ops_rgWin
    go_simp
    refine hK _ _ ?_
    exact rgWin_0 t m h s kd f P0 P1 P2 ds z0 z1 z2 z4 z5 z6 z7 z8 z9 z12 z13 z14 z15 z16 z17 z18 z19 z20 z21 z22 z23 z24 z25 z26 Q X V I _ (by kernel_rfl)
  refine AllReady.cons rfl (fun K hK => ?_) ?_
  · delta ops_rgWin
    go_simp
    refine hK _ _ ?_
    exact rgWin_7 t m h s kd f P0 P1 P2 ds z0 z1 z2 z4 z5 z6 z7 z8 z9 z12 z13 z14 z15 z16 z17 z18 z19 z20 z21 z22 z23 z24 z25 z26 Q X V I _ (by kernel_rfl)
  exact AllReady.nil
def ops_rgWm : Array Oper := #[{ dst := some 5, op := Op.load 58 (Operand.tmp 1), type := 58, pos := "l9_games.go:112", after := #[], guard := none },
  { dst := some 6, op := Op.load 52 (Operand.tmp 2), type := 52, pos := "l9_games.go:112", after := #[], guard := none },
  { dst := some 7, op := Op.move (Operand.tmp 0), type := 3, pos := "l9_games.go:112", after := #[], guard := none },
  { dst := some 8, op := Op.call { callee := Callee.value (Operand.func 71), args := #[Operand.tmp 6, Operand.tmp 7], argTypes := #[52, 3] }, type := 52, pos := "l9_games.go:112", after := #[{ on := 1, ground := Ground.data }, { on := 2, ground := Ground.data }], guard := none },
  { dst := some 9, op := Op.call { callee := Callee.value (Operand.func 77), args := #[Operand.tmp 5, Operand.tmp 8], argTypes := #[58, 52] }, type := 4, pos := "l9_games.go:112", after := #[{ on := 0, ground := Ground.data }, { on := 3, ground := Ground.data }, { on := 3, ground := Ground.chain }], guard := none },
  { dst := some 4, op := Op.assign (Operand.tmp 9), type := 4, pos := "l9_games.go:112", after := #[{ on := 4, ground := Ground.data }, { on := 4, ground := Ground.chain }, { on := 0, ground := Ground.phase }, { on := 1, ground := Ground.phase }, { on := 2, ground := Ground.phase }, { on := 3, ground := Ground.phase }, { on := 4, ground := Ground.phase }], guard := none }]
structure Ctx_rgWm (t : Nat → Bool) (m b h h2 s s2 p : Nat) (f : Value) (P0 : World → Prop) (P2 : Value → World → Prop) (ds : List Deferred) (z3 z4 z5 z6 z7 z8 z9 : Value) (Q : Exit → Act → World → Prop) : Prop where
  beh : ∀ V, P0 V → Calls Try.prog 71 #[.agg (posC t m s), .int .i64 ((p : Int) + 1)] V fun e V2 => e = .returned (.agg (posC t m s2)) ∧ P0 V2
  fc : ∀ V, P0 V → Calls Try.prog 77 #[.agg (gameC f b), .agg (posC t m s2)] V fun e V2 => ∃ r, e = .returned r ∧ P2 r V2
  gl0 : ∀ V, P0 V → (loadVar 58 ⟨h, 0, none⟩).run Try.prog V = .ok (.agg (gameC f b)) V
  pl0 : ∀ V, P0 V → (loadVar 52 ⟨h2, 0, none⟩).run Try.prog V = .ok (.agg (posC t m s)) V
  q : ∀ (r : Value) (V : World), P2 r V → Q .normal { tmps := #[.int .i64 ((p : Int) + 1), .pointer (some ⟨h, 0, none⟩), .pointer (some ⟨h2, 0, none⟩), z3, r, .agg (gameC f b), .agg (posC t m s), .int .i64 ((p : Int) + 1), .agg (posC t m s2), r], defers := ds } V
set_option maxRecDepth 100000
set_option maxHeartbeats 2000000
theorem rgWm_012345 (t : Nat → Bool) (m b h h2 s s2 p : Nat) (f : Value) (P0 : World → Prop) (P2 : Value → World → Prop) (ds : List Deferred) (z3 z4 z5 z6 z7 z8 z9 : Value) (Q : Exit → Act → World → Prop) (X : Ctx_rgWm t m b h h2 s s2 p f P0 P2 ds z3 z4 z5 z6 z7 z8 z9 Q) (V : World) (r : Value) (I : Hid (P2 r V)) (B : Array Bool) (hB : B = #[true, true, true, true, true, true]) :
    wpAny Try.prog .any ops_rgWm Q 0 B { tmps := #[.int .i64 ((p : Int) + 1), .pointer (some ⟨h, 0, none⟩), .pointer (some ⟨h2, 0, none⟩), z3, r, .agg (gameC f b), .agg (posC t m s), .int .i64 ((p : Int) + 1), .agg (posC t m s2), r], defers := ds } V := by
  subst hB
  exact wpAny_done (by kernel_rfl) (X.q r V I.out) _
theorem rgWm_01234 (t : Nat → Bool) (m b h h2 s s2 p : Nat) (f : Value) (P0 : World → Prop) (P2 : Value → World → Prop) (ds : List Deferred) (z3 z4 z5 z6 z7 z8 z9 : Value) (Q : Exit → Act → World → Prop) (X : Ctx_rgWm t m b h h2 s s2 p f P0 P2 ds z3 z4 z5 z6 z7 z8 z9 Q) (V : World) (r : Value) (I : Hid (P2 r V)) (B : Array Bool) (hB : B = #[true, true, true, true, true, false]) :
    wpAny Try.prog .any ops_rgWm Q 1 B { tmps := #[.int .i64 ((p : Int) + 1), .pointer (some ⟨h, 0, none⟩), .pointer (some ⟨h2, 0, none⟩), z3, z4, .agg (gameC f b), .agg (posC t m s), .int .i64 ((p : Int) + 1), .agg (posC t m s2), r], defers := ds } V := by
  subst hB
  refine wpAny_ready (rs := [5]) (by kernel_rfl) (by simp) ?_
  refine AllReady.cons rfl (fun K hK => ?_) ?_
  · delta ops_rgWm
    go_simp
    refine hK _ _ ?_
    exact rgWm_012345 t m b h h2 s s2 p f P0 P2 ds z3 z4 z5 z6 z7 z8 z9 Q X V r I _ (by kernel_rfl)
  exact AllReady.nil
theorem rgWm_0123 (t : Nat → Bool) (m b h h2 s s2 p : Nat) (f : Value) (P0 : World → Prop) (P2 : Value → World → Prop) (ds : List Deferred) (z3 z4 z5 z6 z7 z8 z9 : Value) (Q : Exit → Act → World → Prop) (X : Ctx_rgWm t m b h h2 s s2 p f P0 P2 ds z3 z4 z5 z6 z7 z8 z9 Q) (V : World) (I : Hid (P0 V)) (B : Array Bool) (hB : B = #[true, true, true, true, false, false]) :
    wpAny Try.prog .any ops_rgWm Q 2 B { tmps := #[.int .i64 ((p : Int) + 1), .pointer (some ⟨h, 0, none⟩), .pointer (some ⟨h2, 0, none⟩), z3, z4, .agg (gameC f b), .agg (posC t m s), .int .i64 ((p : Int) + 1), .agg (posC t m s2), z9], defers := ds } V := by
  subst hB
  refine wpAny_ready (rs := [4]) (by kernel_rfl) (by simp) ?_
  refine AllReady.cons rfl (fun K hK => ?_) ?_
  · delta ops_rgWm
    go_simp
    refine (X.fc _ I.out).mono ?_
    rintro e V2 ⟨r, rfl, hp⟩
    try go_simp
    refine hK _ _ ?_
    exact rgWm_01234 t m b h h2 s s2 p f P0 P2 ds z3 z4 z5 z6 z7 z8 z9 Q X V2 r (Lib.hid hp) _ (by kernel_rfl)
  exact AllReady.nil
theorem rgWm_012 (t : Nat → Bool) (m b h h2 s s2 p : Nat) (f : Value) (P0 : World → Prop) (P2 : Value → World → Prop) (ds : List Deferred) (z3 z4 z5 z6 z7 z8 z9 : Value) (Q : Exit → Act → World → Prop) (X : Ctx_rgWm t m b h h2 s s2 p f P0 P2 ds z3 z4 z5 z6 z7 z8 z9 Q) (V : World) (I : Hid (P0 V)) (B : Array Bool) (hB : B = #[true, true, true, false, false, false]) :
    wpAny Try.prog .any ops_rgWm Q 3 B { tmps := #[.int .i64 ((p : Int) + 1), .pointer (some ⟨h, 0, none⟩), .pointer (some ⟨h2, 0, none⟩), z3, z4, .agg (gameC f b), .agg (posC t m s), .int .i64 ((p : Int) + 1), z8, z9], defers := ds } V := by
  subst hB
  refine wpAny_ready (rs := [3]) (by kernel_rfl) (by simp) ?_
  refine AllReady.cons rfl (fun K hK => ?_) ?_
  · delta ops_rgWm
    go_simp
    refine (X.beh _ I.out).mono ?_
    rintro e V2 ⟨rfl, hp⟩
    try go_simp
    refine hK _ _ ?_
    exact rgWm_0123 t m b h h2 s s2 p f P0 P2 ds z3 z4 z5 z6 z7 z8 z9 Q X V2 (Lib.hid hp) _ (by kernel_rfl)
  exact AllReady.nil
theorem rgWm_01 (t : Nat → Bool) (m b h h2 s s2 p : Nat) (f : Value) (P0 : World → Prop) (P2 : Value → World → Prop) (ds : List Deferred) (z3 z4 z5 z6 z7 z8 z9 : Value) (Q : Exit → Act → World → Prop) (X : Ctx_rgWm t m b h h2 s s2 p f P0 P2 ds z3 z4 z5 z6 z7 z8 z9 Q) (V : World) (I : Hid (P0 V)) (B : Array Bool) (hB : B = #[true, true, false, false, false, false]) :
    wpAny Try.prog .any ops_rgWm Q 4 B { tmps := #[.int .i64 ((p : Int) + 1), .pointer (some ⟨h, 0, none⟩), .pointer (some ⟨h2, 0, none⟩), z3, z4, .agg (gameC f b), .agg (posC t m s), z7, z8, z9], defers := ds } V := by
  subst hB
  refine wpAny_ready (rs := [2]) (by kernel_rfl) (by simp) ?_
  refine AllReady.cons rfl (fun K hK => ?_) ?_
  · delta ops_rgWm
    go_simp
    refine hK _ _ ?_
    exact rgWm_012 t m b h h2 s s2 p f P0 P2 ds z3 z4 z5 z6 z7 z8 z9 Q X V I _ (by kernel_rfl)
  exact AllReady.nil
theorem rgWm_02 (t : Nat → Bool) (m b h h2 s s2 p : Nat) (f : Value) (P0 : World → Prop) (P2 : Value → World → Prop) (ds : List Deferred) (z3 z4 z5 z6 z7 z8 z9 : Value) (Q : Exit → Act → World → Prop) (X : Ctx_rgWm t m b h h2 s s2 p f P0 P2 ds z3 z4 z5 z6 z7 z8 z9 Q) (V : World) (I : Hid (P0 V)) (B : Array Bool) (hB : B = #[true, false, true, false, false, false]) :
    wpAny Try.prog .any ops_rgWm Q 4 B { tmps := #[.int .i64 ((p : Int) + 1), .pointer (some ⟨h, 0, none⟩), .pointer (some ⟨h2, 0, none⟩), z3, z4, .agg (gameC f b), z6, .int .i64 ((p : Int) + 1), z8, z9], defers := ds } V := by
  subst hB
  refine wpAny_ready (rs := [1]) (by kernel_rfl) (by simp) ?_
  refine AllReady.cons rfl (fun K hK => ?_) ?_
  · refine wstep_load rfl 52 _ rfl h2 rfl (posC t m s) (X.pl0 _ I.out) (hK _ _ ?_)
    exact rgWm_012 t m b h h2 s s2 p f P0 P2 ds z3 z4 z5 z6 z7 z8 z9 Q X V I _ (by kernel_rfl)
  exact AllReady.nil
theorem rgWm_0 (t : Nat → Bool) (m b h h2 s s2 p : Nat) (f : Value) (P0 : World → Prop) (P2 : Value → World → Prop) (ds : List Deferred) (z3 z4 z5 z6 z7 z8 z9 : Value) (Q : Exit → Act → World → Prop) (X : Ctx_rgWm t m b h h2 s s2 p f P0 P2 ds z3 z4 z5 z6 z7 z8 z9 Q) (V : World) (I : Hid (P0 V)) (B : Array Bool) (hB : B = #[true, false, false, false, false, false]) :
    wpAny Try.prog .any ops_rgWm Q 5 B { tmps := #[.int .i64 ((p : Int) + 1), .pointer (some ⟨h, 0, none⟩), .pointer (some ⟨h2, 0, none⟩), z3, z4, .agg (gameC f b), z6, z7, z8, z9], defers := ds } V := by
  subst hB
  refine wpAny_ready (rs := [1, 2]) (by kernel_rfl) (by simp) ?_
  refine AllReady.cons rfl (fun K hK => ?_) ?_
  · refine wstep_load rfl 52 _ rfl h2 rfl (posC t m s) (X.pl0 _ I.out) (hK _ _ ?_)
    exact rgWm_01 t m b h h2 s s2 p f P0 P2 ds z3 z4 z5 z6 z7 z8 z9 Q X V I _ (by kernel_rfl)
  refine AllReady.cons rfl (fun K hK => ?_) ?_
  · delta ops_rgWm
    go_simp
    refine hK _ _ ?_
    exact rgWm_02 t m b h h2 s s2 p f P0 P2 ds z3 z4 z5 z6 z7 z8 z9 Q X V I _ (by kernel_rfl)
  exact AllReady.nil
theorem rgWm_123 (t : Nat → Bool) (m b h h2 s s2 p : Nat) (f : Value) (P0 : World → Prop) (P2 : Value → World → Prop) (ds : List Deferred) (z3 z4 z5 z6 z7 z8 z9 : Value) (Q : Exit → Act → World → Prop) (X : Ctx_rgWm t m b h h2 s s2 p f P0 P2 ds z3 z4 z5 z6 z7 z8 z9 Q) (V : World) (I : Hid (P0 V)) (B : Array Bool) (hB : B = #[false, true, true, true, false, false]) :
    wpAny Try.prog .any ops_rgWm Q 3 B { tmps := #[.int .i64 ((p : Int) + 1), .pointer (some ⟨h, 0, none⟩), .pointer (some ⟨h2, 0, none⟩), z3, z4, z5, .agg (posC t m s), .int .i64 ((p : Int) + 1), .agg (posC t m s2), z9], defers := ds } V := by
  subst hB
  refine wpAny_ready (rs := [0]) (by kernel_rfl) (by simp) ?_
  refine AllReady.cons rfl (fun K hK => ?_) ?_
  · refine wstep_load rfl 58 _ rfl h rfl (gameC f b) (X.gl0 _ I.out) (hK _ _ ?_)
    exact rgWm_0123 t m b h h2 s s2 p f P0 P2 ds z3 z4 z5 z6 z7 z8 z9 Q X V I _ (by kernel_rfl)
  exact AllReady.nil
theorem rgWm_12 (t : Nat → Bool) (m b h h2 s s2 p : Nat) (f : Value) (P0 : World → Prop) (P2 : Value → World → Prop) (ds : List Deferred) (z3 z4 z5 z6 z7 z8 z9 : Value) (Q : Exit → Act → World → Prop) (X : Ctx_rgWm t m b h h2 s s2 p f P0 P2 ds z3 z4 z5 z6 z7 z8 z9 Q) (V : World) (I : Hid (P0 V)) (B : Array Bool) (hB : B = #[false, true, true, false, false, false]) :
    wpAny Try.prog .any ops_rgWm Q 4 B { tmps := #[.int .i64 ((p : Int) + 1), .pointer (some ⟨h, 0, none⟩), .pointer (some ⟨h2, 0, none⟩), z3, z4, z5, .agg (posC t m s), .int .i64 ((p : Int) + 1), z8, z9], defers := ds } V := by
  subst hB
  refine wpAny_ready (rs := [0, 3]) (by kernel_rfl) (by simp) ?_
  refine AllReady.cons rfl (fun K hK => ?_) ?_
  · refine wstep_load rfl 58 _ rfl h rfl (gameC f b) (X.gl0 _ I.out) (hK _ _ ?_)
    exact rgWm_012 t m b h h2 s s2 p f P0 P2 ds z3 z4 z5 z6 z7 z8 z9 Q X V I _ (by kernel_rfl)
  refine AllReady.cons rfl (fun K hK => ?_) ?_
  · delta ops_rgWm
    go_simp
    refine (X.beh _ I.out).mono ?_
    rintro e V2 ⟨rfl, hp⟩
    try go_simp
    refine hK _ _ ?_
    exact rgWm_123 t m b h h2 s s2 p f P0 P2 ds z3 z4 z5 z6 z7 z8 z9 Q X V2 (Lib.hid hp) _ (by kernel_rfl)
  exact AllReady.nil
theorem rgWm_1 (t : Nat → Bool) (m b h h2 s s2 p : Nat) (f : Value) (P0 : World → Prop) (P2 : Value → World → Prop) (ds : List Deferred) (z3 z4 z5 z6 z7 z8 z9 : Value) (Q : Exit → Act → World → Prop) (X : Ctx_rgWm t m b h h2 s s2 p f P0 P2 ds z3 z4 z5 z6 z7 z8 z9 Q) (V : World) (I : Hid (P0 V)) (B : Array Bool) (hB : B = #[false, true, false, false, false, false]) :
    wpAny Try.prog .any ops_rgWm Q 5 B { tmps := #[.int .i64 ((p : Int) + 1), .pointer (some ⟨h, 0, none⟩), .pointer (some ⟨h2, 0, none⟩), z3, z4, z5, .agg (posC t m s), z7, z8, z9], defers := ds } V := by
  subst hB
  refine wpAny_ready (rs := [0, 2]) (by kernel_rfl) (by simp) ?_
  refine AllReady.cons rfl (fun K hK => ?_) ?_
  · refine wstep_load rfl 58 _ rfl h rfl (gameC f b) (X.gl0 _ I.out) (hK _ _ ?_)
    exact rgWm_01 t m b h h2 s s2 p f P0 P2 ds z3 z4 z5 z6 z7 z8 z9 Q X V I _ (by kernel_rfl)
  refine AllReady.cons rfl (fun K hK => ?_) ?_
  · delta ops_rgWm
    go_simp
    refine hK _ _ ?_
    exact rgWm_12 t m b h h2 s s2 p f P0 P2 ds z3 z4 z5 z6 z7 z8 z9 Q X V I _ (by kernel_rfl)
  exact AllReady.nil
theorem rgWm_2 (t : Nat → Bool) (m b h h2 s s2 p : Nat) (f : Value) (P0 : World → Prop) (P2 : Value → World → Prop) (ds : List Deferred) (z3 z4 z5 z6 z7 z8 z9 : Value) (Q : Exit → Act → World → Prop) (X : Ctx_rgWm t m b h h2 s s2 p f P0 P2 ds z3 z4 z5 z6 z7 z8 z9 Q) (V : World) (I : Hid (P0 V)) (B : Array Bool) (hB : B = #[false, false, true, false, false, false]) :
    wpAny Try.prog .any ops_rgWm Q 5 B { tmps := #[.int .i64 ((p : Int) + 1), .pointer (some ⟨h, 0, none⟩), .pointer (some ⟨h2, 0, none⟩), z3, z4, z5, z6, .int .i64 ((p : Int) + 1), z8, z9], defers := ds } V := by
  subst hB
  refine wpAny_ready (rs := [0, 1]) (by kernel_rfl) (by simp) ?_
  refine AllReady.cons rfl (fun K hK => ?_) ?_
  · refine wstep_load rfl 58 _ rfl h rfl (gameC f b) (X.gl0 _ I.out) (hK _ _ ?_)
    exact rgWm_02 t m b h h2 s s2 p f P0 P2 ds z3 z4 z5 z6 z7 z8 z9 Q X V I _ (by kernel_rfl)
  refine AllReady.cons rfl (fun K hK => ?_) ?_
  · refine wstep_load rfl 52 _ rfl h2 rfl (posC t m s) (X.pl0 _ I.out) (hK _ _ ?_)
    exact rgWm_12 t m b h h2 s s2 p f P0 P2 ds z3 z4 z5 z6 z7 z8 z9 Q X V I _ (by kernel_rfl)
  exact AllReady.nil
theorem rgWm (t : Nat → Bool) (m b h h2 s s2 p : Nat) (f : Value) (P0 : World → Prop) (P2 : Value → World → Prop) (ds : List Deferred) (z3 z4 z5 z6 z7 z8 z9 : Value) (Q : Exit → Act → World → Prop) (X : Ctx_rgWm t m b h h2 s s2 p f P0 P2 ds z3 z4 z5 z6 z7 z8 z9 Q) (V : World) (I : Hid (P0 V)) (B : Array Bool) (hB : B = #[false, false, false, false, false, false]) :
    wpAny Try.prog .any ops_rgWm Q 6 B { tmps := #[.int .i64 ((p : Int) + 1), .pointer (some ⟨h, 0, none⟩), .pointer (some ⟨h2, 0, none⟩), z3, z4, z5, z6, z7, z8, z9], defers := ds } V := by
  subst hB
  refine wpAny_ready (rs := [0, 1, 2]) (by kernel_rfl) (by simp) ?_
  refine AllReady.cons rfl (fun K hK => ?_) ?_
  · refine wstep_load rfl 58 _ rfl h rfl (gameC f b) (X.gl0 _ I.out) (hK _ _ ?_)
    exact rgWm_0 t m b h h2 s s2 p f P0 P2 ds z3 z4 z5 z6 z7 z8 z9 Q X V I _ (by kernel_rfl)
  refine AllReady.cons rfl (fun K hK => ?_) ?_
  · refine wstep_load rfl 52 _ rfl h2 rfl (posC t m s) (X.pl0 _ I.out) (hK _ _ ?_)
    exact rgWm_1 t m b h h2 s s2 p f P0 P2 ds z3 z4 z5 z6 z7 z8 z9 Q X V I _ (by kernel_rfl)
  refine AllReady.cons rfl (fun K hK => ?_) ?_
  · delta ops_rgWm
    go_simp
    refine hK _ _ ?_
    exact rgWm_2 t m b h h2 s s2 p f P0 P2 ds z3 z4 z5 z6 z7 z8 z9 Q X V I _ (by kernel_rfl)
  exact AllReady.nil

end Go.Proofs.Ytecbfndgdmpacaa
