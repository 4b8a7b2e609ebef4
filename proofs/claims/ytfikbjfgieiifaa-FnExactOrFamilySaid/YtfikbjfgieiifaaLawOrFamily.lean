/- Proved: for all arguments, laws.FnExactOrFamily returns true and leaves its arguments as they were. No condition. -/
import Derived.Test.YtfikbjfgieiifaaRows
import Derived.WalkKit
import Derived.ProofKit
import Derived.OpenShut
import Derived.ShutString
import Derived.Test.YtfikbjfgieiifaaBoth5J
import Derived.Test.YtfikbjfgieiifaaFamLaw
import Derived.ChangeOld
import Derived.Below
namespace Go.Proofs.Ytfikbjfgieiifaa.fnExactOrFamily
open Go.ChangeShapes Go.WideShapes Go.ChangeAt Go.RowKit
open Go.ChangeMaps (open_string shut_string)
set_option linter.unusedVariables false

theorem own : ownKnob Try.prog.godebug = none := by kernel_rfl
theorem laidOut : laidOutB Try.prog = true := by kernel_rfl

def IsRow (k : IntKind) (w : World) (a : Option Addr) (len cap : Nat) (zs : List Int) : Prop :=
  (a = none ∧ len = 0 ∧ cap = 0 ∧ zs = []) ∨
  ∃ x, a = some x ∧ len ≤ cap ∧ cap ≤ maxLen ∧ zs.length = cap ∧ (∀ i, i < zs.length → w.cell? (x.add i) = some (.int k (zs.getD i 0))) ∧ ∀ n ∈ zs, (Lit.int k n).wf = true

def bxops8 : Array Oper := #[{ dst := some 28, op := Op.load 24 (Operand.tmp 2), type := 24, pos := "exact.go:3337", after := #[], guard := none },
  { dst := some 29, op := Op.call { callee := Callee.value (Operand.func 9), args := #[Operand.tmp 28], argTypes := #[24] }, type := 26, pos := "exact.go:3337", after := #[{ on := 0, ground := Ground.data }], guard := none },
  { dst := some 30, op := Op.load 24 (Operand.tmp 3), type := 24, pos := "exact.go:3337", after := #[], guard := none },
  { dst := some 31, op := Op.call { callee := Callee.value (Operand.func 9), args := #[Operand.tmp 30], argTypes := #[24] }, type := 26, pos := "exact.go:3337", after := #[{ on := 2, ground := Ground.data }, { on := 1, ground := Ground.chain }], guard := none },
  { dst := some 32, op := Op.call { callee := Callee.value (Operand.func 14), args := #[Operand.tmp 29, Operand.tmp 31], argTypes := #[26, 26] }, type := 27, pos := "exact.go:3337", after := #[{ on := 1, ground := Ground.data }, { on := 3, ground := Ground.data }, { on := 3, ground := Ground.chain }], guard := none },
  { dst := some 27, op := Op.move (Operand.tmp 32), type := 27, pos := "exact.go:3337", after := #[{ on := 4, ground := Ground.data }], guard := none },
  { dst := some 33, op := Op.extract (Operand.tmp 27) 0, type := 26, pos := "exact.go:3337", after := #[{ on := 5, ground := Ground.data }], guard := none },
  { dst := some 34, op := Op.extract (Operand.tmp 27) 1, type := 4, pos := "exact.go:3337", after := #[{ on := 5, ground := Ground.data }, { on := 9, ground := Ground.gcOnly Departure.lateStores }], guard := none },
  { dst := some 6, op := Op.alloc 26, type := 0, pos := "exact.go:3337", after := #[], guard := none },
  { dst := none, op := Op.store 26 (Operand.tmp 6) (Operand.tmp 33), type := 0, pos := "exact.go:3337", after := #[{ on := 8, ground := Ground.data }, { on := 6, ground := Ground.data }, { on := 4, ground := Ground.chain }, { on := 0, ground := Ground.phase }, { on := 1, ground := Ground.phase }, { on := 2, ground := Ground.phase }, { on := 3, ground := Ground.phase }, { on := 4, ground := Ground.phase }, { on := 5, ground := Ground.phase }, { on := 6, ground := Ground.phase }, { on := 7, ground := Ground.textOnly Departure.lateStores }, { on := 8, ground := Ground.phase }], guard := none },
  { dst := some 7, op := Op.assign (Operand.tmp 34), type := 4, pos := "exact.go:3337", after := #[{ on := 7, ground := Ground.data }, { on := 9, ground := Ground.chain }, { on := 0, ground := Ground.phase }, { on := 1, ground := Ground.phase }, { on := 2, ground := Ground.phase }, { on := 3, ground := Ground.phase }, { on := 4, ground := Ground.phase }, { on := 5, ground := Ground.phase }, { on := 6, ground := Ground.phase }, { on := 7, ground := Ground.phase }, { on := 8, ground := Ground.phase }, { on := 9, ground := Ground.phase }], guard := none }]
structure Bx8 (W : World) (g0 g1 : Nat) (a0 a1 : Option Addr) (c0 c1 : Nat) (xs0 xs1 out : List Int) (r1 : Bool) (Q : Exit → Act → World → Prop) (x0 x1 x4 x5 x8 x9 x10 x11 x12 x13 x14 x15 x16 x17 x18 x19 x20 x21 x22 x23 x24 x25 x26 x35 x36 x37 x38 x39 x40 x41 x42 x43 x44 x45 x46 x47 x48 x49 x50 x51 x52 x53 x54 x55 x56 x57 x58 x59 x60 x61 x62 x63 x64 x65 x66 x67 x68 x69 x70 x71 x72 x73 x74 x75 x76 x77 x78 x79 x80 x81 x82 x83 x84 x85 x86 x87 x88 x89 x90 x91 x92 x93 x94 x95 x96 x97 x98 x99 x100 x101 x102 x103 x104 x105 x106 x107 x108 x109 x110 x111 x112 x113 x114 x115 x116 x117 x118 : Value) : Prop where
  i0 : Ints W a0 xs0
  i1 : Ints W a1 xs1
  l0 : xs0.length ≤ 1048576
  l1 : xs1.length ≤ 1048576
  v0 : At1 24 W g0 (.slice a0 xs0.length c0)
  v1 : At1 24 W g1 (.slice a1 xs1.length c1)
  p : ∀ a1 c1 a2 c2 w, Hid (Ints w a1 xs0) → Hid (Ints w a2 xs1) → Calls Try.prog 14 #[.agg #[.slice a1 xs0.length c1], .agg #[.slice a2 xs1.length c2]] w (FB out r1 w)
  q : ∀ (b0 : Option Addr) (d0 : Nat) (b1 : Option Addr) (d1 : Nat) (a : Option Addr) (c n : Nat) (V : World), Boxed W out n a c V → Q .normal { tmps := #[x0, x1, .pointer (some ⟨g0, 0, none⟩), .pointer (some ⟨g1, 0, none⟩), x4, x5, .pointer (some ⟨n, 0, none⟩), .bool r1, x8, x9, x10, x11, x12, x13, x14, x15, x16, x17, x18, x19, x20, x21, x22, x23, x24, x25, x26, .tuple #[.agg #[.slice a out.length c], .bool r1], .agg #[.slice a0 xs0.length c0], .agg #[.slice b0 xs0.length d0], .agg #[.slice a1 xs1.length c1], .agg #[.slice b1 xs1.length d1], .tuple #[.agg #[.slice a out.length c], .bool r1], .agg #[.slice a out.length c], .bool r1, x35, x36, x37, x38, x39, x40, x41, x42, x43, x44, x45, x46, x47, x48, x49, x50, x51, x52, x53, x54, x55, x56, x57, x58, x59, x60, x61, x62, x63, x64, x65, x66, x67, x68, x69, x70, x71, x72, x73, x74, x75, x76, x77, x78, x79, x80, x81, x82, x83, x84, x85, x86, x87, x88, x89, x90, x91, x92, x93, x94, x95, x96, x97, x98, x99, x100, x101, x102, x103, x104, x105, x106, x107, x108, x109, x110, x111, x112, x113, x114, x115, x116, x117, x118], defers := [] } V
set_option maxRecDepth 100000 in
set_option maxHeartbeats 2000000 in
theorem bx8_0_1_2_3_4_5_6_7_8_9_10 {W : World} {g0 g1 : Nat} {a0 a1 : Option Addr} {c0 c1 : Nat} {xs0 xs1 out : List Int} {r1 : Bool} {Q : Exit → Act → World → Prop} {x0 x1 x4 x5 x8 x9 x10 x11 x12 x13 x14 x15 x16 x17 x18 x19 x20 x21 x22 x23 x24 x25 x26 x35 x36 x37 x38 x39 x40 x41 x42 x43 x44 x45 x46 x47 x48 x49 x50 x51 x52 x53 x54 x55 x56 x57 x58 x59 x60 x61 x62 x63 x64 x65 x66 x67 x68 x69 x70 x71 x72 x73 x74 x75 x76 x77 x78 x79 x80 x81 x82 x83 x84 x85 x86 x87 x88 x89 x90 x91 x92 x93 x94 x95 x96 x97 x98 x99 x100 x101 x102 x103 x104 x105 x106 x107 x108 x109 x110 x111 x112 x113 x114 x115 x116 x117 x118 : Value} (X : Bx8 W g0 g1 a0 a1 c0 c1 xs0 xs1 out r1 Q x0 x1 x4 x5 x8 x9 x10 x11 x12 x13 x14 x15 x16 x17 x18 x19 x20 x21 x22 x23 x24 x25 x26 x35 x36 x37 x38 x39 x40 x41 x42 x43 x44 x45 x46 x47 x48 x49 x50 x51 x52 x53 x54 x55 x56 x57 x58 x59 x60 x61 x62 x63 x64 x65 x66 x67 x68 x69 x70 x71 x72 x73 x74 x75 x76 x77 x78 x79 x80 x81 x82 x83 x84 x85 x86 x87 x88 x89 x90 x91 x92 x93 x94 x95 x96 x97 x98 x99 x100 x101 x102 x103 x104 x105 x106 x107 x108 x109 x110 x111 x112 x113 x114 x115 x116 x117 x118) (V : World) (b0 : Option Addr) (d0 : Nat) (b1 : Option Addr) (d1 : Nat) (a : Option Addr) (c : Nat) (n : Nat) (R : Hid (Boxed W out n a c V)) (L : Array Bool) (hL : L = #[true, true, true, true, true, true, true, true, true, true, true]) :
    wpAny Try.prog .any bxops8 Q 0 L { tmps := #[x0, x1, .pointer (some ⟨g0, 0, none⟩), .pointer (some ⟨g1, 0, none⟩), x4, x5, .pointer (some ⟨n, 0, none⟩), .bool r1, x8, x9, x10, x11, x12, x13, x14, x15, x16, x17, x18, x19, x20, x21, x22, x23, x24, x25, x26, .tuple #[.agg #[.slice a out.length c], .bool r1], .agg #[.slice a0 xs0.length c0], .agg #[.slice b0 xs0.length d0], .agg #[.slice a1 xs1.length c1], .agg #[.slice b1 xs1.length d1], .tuple #[.agg #[.slice a out.length c], .bool r1], .agg #[.slice a out.length c], .bool r1, x35, x36, x37, x38, x39, x40, x41, x42, x43, x44, x45, x46, x47, x48, x49, x50, x51, x52, x53, x54, x55, x56, x57, x58, x59, x60, x61, x62, x63, x64, x65, x66, x67, x68, x69, x70, x71, x72, x73, x74, x75, x76, x77, x78, x79, x80, x81, x82, x83, x84, x85, x86, x87, x88, x89, x90, x91, x92, x93, x94, x95, x96, x97, x98, x99, x100, x101, x102, x103, x104, x105, x106, x107, x108, x109, x110, x111, x112, x113, x114, x115, x116, x117, x118], defers := [] } V := by
  subst hL
  exact wpAny_done (by kernel_rfl) (X.q b0 d0 b1 d1 a c n V R.out) _
set_option maxRecDepth 100000 in
set_option maxHeartbeats 2000000 in
theorem bx8_0_1_2_3_4_5_6_7_8_9 {W : World} {g0 g1 : Nat} {a0 a1 : Option Addr} {c0 c1 : Nat} {xs0 xs1 out : List Int} {r1 : Bool} {Q : Exit → Act → World → Prop} {x0 x1 x4 x5 x8 x9 x10 x11 x12 x13 x14 x15 x16 x17 x18 x19 x20 x21 x22 x23 x24 x25 x26 x35 x36 x37 x38 x39 x40 x41 x42 x43 x44 x45 x46 x47 x48 x49 x50 x51 x52 x53 x54 x55 x56 x57 x58 x59 x60 x61 x62 x63 x64 x65 x66 x67 x68 x69 x70 x71 x72 x73 x74 x75 x76 x77 x78 x79 x80 x81 x82 x83 x84 x85 x86 x87 x88 x89 x90 x91 x92 x93 x94 x95 x96 x97 x98 x99 x100 x101 x102 x103 x104 x105 x106 x107 x108 x109 x110 x111 x112 x113 x114 x115 x116 x117 x118 : Value} (X : Bx8 W g0 g1 a0 a1 c0 c1 xs0 xs1 out r1 Q x0 x1 x4 x5 x8 x9 x10 x11 x12 x13 x14 x15 x16 x17 x18 x19 x20 x21 x22 x23 x24 x25 x26 x35 x36 x37 x38 x39 x40 x41 x42 x43 x44 x45 x46 x47 x48 x49 x50 x51 x52 x53 x54 x55 x56 x57 x58 x59 x60 x61 x62 x63 x64 x65 x66 x67 x68 x69 x70 x71 x72 x73 x74 x75 x76 x77 x78 x79 x80 x81 x82 x83 x84 x85 x86 x87 x88 x89 x90 x91 x92 x93 x94 x95 x96 x97 x98 x99 x100 x101 x102 x103 x104 x105 x106 x107 x108 x109 x110 x111 x112 x113 x114 x115 x116 x117 x118) (V : World) (b0 : Option Addr) (d0 : Nat) (b1 : Option Addr) (d1 : Nat) (a : Option Addr) (c : Nat) (n : Nat) (R : Hid (Boxed W out n a c V)) (L : Array Bool) (hL : L = #[true, true, true, true, true, true, true, true, true, true, false]) :
    wpAny Try.prog .any bxops8 Q 1 L { tmps := #[x0, x1, .pointer (some ⟨g0, 0, none⟩), .pointer (some ⟨g1, 0, none⟩), x4, x5, .pointer (some ⟨n, 0, none⟩), undef, x8, x9, x10, x11, x12, x13, x14, x15, x16, x17, x18, x19, x20, x21, x22, x23, x24, x25, x26, .tuple #[.agg #[.slice a out.length c], .bool r1], .agg #[.slice a0 xs0.length c0], .agg #[.slice b0 xs0.length d0], .agg #[.slice a1 xs1.length c1], .agg #[.slice b1 xs1.length d1], .tuple #[.agg #[.slice a out.length c], .bool r1], .agg #[.slice a out.length c], .bool r1, x35, x36, x37, x38, x39, x40, x41, x42, x43, x44, x45, x46, x47, x48, x49, x50, x51, x52, x53, x54, x55, x56, x57, x58, x59, x60, x61, x62, x63, x64, x65, x66, x67, x68, x69, x70, x71, x72, x73, x74, x75, x76, x77, x78, x79, x80, x81, x82, x83, x84, x85, x86, x87, x88, x89, x90, x91, x92, x93, x94, x95, x96, x97, x98, x99, x100, x101, x102, x103, x104, x105, x106, x107, x108, x109, x110, x111, x112, x113, x114, x115, x116, x117, x118], defers := [] } V := by
  subst hL
  refine wpAny_ready (rs := [10]) (by kernel_rfl) (by simp) ?_
  refine AllReady.cons rfl (fun K hK => ?_) ?_
  · delta bxops8
    go_simp
    refine hK _ _ ?_
    exact bx8_0_1_2_3_4_5_6_7_8_9_10 X V b0 d0 b1 d1 a c n R _ (by kernel_rfl)
  exact AllReady.nil
set_option maxRecDepth 100000 in
set_option maxHeartbeats 2000000 in
theorem bx8_0_1_2_3_4_5_6_7_8 {W : World} {g0 g1 : Nat} {a0 a1 : Option Addr} {c0 c1 : Nat} {xs0 xs1 out : List Int} {r1 : Bool} {Q : Exit → Act → World → Prop} {x0 x1 x4 x5 x8 x9 x10 x11 x12 x13 x14 x15 x16 x17 x18 x19 x20 x21 x22 x23 x24 x25 x26 x35 x36 x37 x38 x39 x40 x41 x42 x43 x44 x45 x46 x47 x48 x49 x50 x51 x52 x53 x54 x55 x56 x57 x58 x59 x60 x61 x62 x63 x64 x65 x66 x67 x68 x69 x70 x71 x72 x73 x74 x75 x76 x77 x78 x79 x80 x81 x82 x83 x84 x85 x86 x87 x88 x89 x90 x91 x92 x93 x94 x95 x96 x97 x98 x99 x100 x101 x102 x103 x104 x105 x106 x107 x108 x109 x110 x111 x112 x113 x114 x115 x116 x117 x118 : Value} (X : Bx8 W g0 g1 a0 a1 c0 c1 xs0 xs1 out r1 Q x0 x1 x4 x5 x8 x9 x10 x11 x12 x13 x14 x15 x16 x17 x18 x19 x20 x21 x22 x23 x24 x25 x26 x35 x36 x37 x38 x39 x40 x41 x42 x43 x44 x45 x46 x47 x48 x49 x50 x51 x52 x53 x54 x55 x56 x57 x58 x59 x60 x61 x62 x63 x64 x65 x66 x67 x68 x69 x70 x71 x72 x73 x74 x75 x76 x77 x78 x79 x80 x81 x82 x83 x84 x85 x86 x87 x88 x89 x90 x91 x92 x93 x94 x95 x96 x97 x98 x99 x100 x101 x102 x103 x104 x105 x106 x107 x108 x109 x110 x111 x112 x113 x114 x115 x116 x117 x118) (V : World) (b0 : Option Addr) (d0 : Nat) (b1 : Option Addr) (d1 : Nat) (a : Option Addr) (c : Nat) (n : Nat) (P : Hid (PreBox W out n a c V)) (L : Array Bool) (hL : L = #[true, true, true, true, true, true, true, true, true, false, false]) :
    wpAny Try.prog .any bxops8 Q 2 L { tmps := #[x0, x1, .pointer (some ⟨g0, 0, none⟩), .pointer (some ⟨g1, 0, none⟩), x4, x5, .pointer (some ⟨n, 0, none⟩), undef, x8, x9, x10, x11, x12, x13, x14, x15, x16, x17, x18, x19, x20, x21, x22, x23, x24, x25, x26, .tuple #[.agg #[.slice a out.length c], .bool r1], .agg #[.slice a0 xs0.length c0], .agg #[.slice b0 xs0.length d0], .agg #[.slice a1 xs1.length c1], .agg #[.slice b1 xs1.length d1], .tuple #[.agg #[.slice a out.length c], .bool r1], .agg #[.slice a out.length c], .bool r1, x35, x36, x37, x38, x39, x40, x41, x42, x43, x44, x45, x46, x47, x48, x49, x50, x51, x52, x53, x54, x55, x56, x57, x58, x59, x60, x61, x62, x63, x64, x65, x66, x67, x68, x69, x70, x71, x72, x73, x74, x75, x76, x77, x78, x79, x80, x81, x82, x83, x84, x85, x86, x87, x88, x89, x90, x91, x92, x93, x94, x95, x96, x97, x98, x99, x100, x101, x102, x103, x104, x105, x106, x107, x108, x109, x110, x111, x112, x113, x114, x115, x116, x117, x118], defers := [] } V := by
  subst hL
  refine wpAny_ready (rs := [9]) (by kernel_rfl) (by simp) ?_
  refine AllReady.cons rfl (fun K hK => ?_) ?_
  · have hcr := P.out.1.cell
    have hfr := P.out.1.free
    delta bxops8
    go_simp
    refine hK _ _ ?_
    exact bx8_0_1_2_3_4_5_6_7_8_9 X _ b0 d0 b1 d1 a c n (Lib.hid P.out.2) _ (by kernel_rfl)
  exact AllReady.nil
set_option maxRecDepth 100000 in
set_option maxHeartbeats 2000000 in
theorem bx8_0_1_2_3_4_5_6_7 {W : World} {g0 g1 : Nat} {a0 a1 : Option Addr} {c0 c1 : Nat} {xs0 xs1 out : List Int} {r1 : Bool} {Q : Exit → Act → World → Prop} {x0 x1 x4 x5 x8 x9 x10 x11 x12 x13 x14 x15 x16 x17 x18 x19 x20 x21 x22 x23 x24 x25 x26 x35 x36 x37 x38 x39 x40 x41 x42 x43 x44 x45 x46 x47 x48 x49 x50 x51 x52 x53 x54 x55 x56 x57 x58 x59 x60 x61 x62 x63 x64 x65 x66 x67 x68 x69 x70 x71 x72 x73 x74 x75 x76 x77 x78 x79 x80 x81 x82 x83 x84 x85 x86 x87 x88 x89 x90 x91 x92 x93 x94 x95 x96 x97 x98 x99 x100 x101 x102 x103 x104 x105 x106 x107 x108 x109 x110 x111 x112 x113 x114 x115 x116 x117 x118 : Value} (X : Bx8 W g0 g1 a0 a1 c0 c1 xs0 xs1 out r1 Q x0 x1 x4 x5 x8 x9 x10 x11 x12 x13 x14 x15 x16 x17 x18 x19 x20 x21 x22 x23 x24 x25 x26 x35 x36 x37 x38 x39 x40 x41 x42 x43 x44 x45 x46 x47 x48 x49 x50 x51 x52 x53 x54 x55 x56 x57 x58 x59 x60 x61 x62 x63 x64 x65 x66 x67 x68 x69 x70 x71 x72 x73 x74 x75 x76 x77 x78 x79 x80 x81 x82 x83 x84 x85 x86 x87 x88 x89 x90 x91 x92 x93 x94 x95 x96 x97 x98 x99 x100 x101 x102 x103 x104 x105 x106 x107 x108 x109 x110 x111 x112 x113 x114 x115 x116 x117 x118) (V : World) (b0 : Option Addr) (d0 : Nat) (b1 : Option Addr) (d1 : Nat) (a : Option Addr) (c : Nat) (O : Hid (OutAt W out a c V)) (L : Array Bool) (hL : L = #[true, true, true, true, true, true, true, true, false, false, false]) :
    wpAny Try.prog .any bxops8 Q 3 L { tmps := #[x0, x1, .pointer (some ⟨g0, 0, none⟩), .pointer (some ⟨g1, 0, none⟩), x4, x5, undef, undef, x8, x9, x10, x11, x12, x13, x14, x15, x16, x17, x18, x19, x20, x21, x22, x23, x24, x25, x26, .tuple #[.agg #[.slice a out.length c], .bool r1], .agg #[.slice a0 xs0.length c0], .agg #[.slice b0 xs0.length d0], .agg #[.slice a1 xs1.length c1], .agg #[.slice b1 xs1.length d1], .tuple #[.agg #[.slice a out.length c], .bool r1], .agg #[.slice a out.length c], .bool r1, x35, x36, x37, x38, x39, x40, x41, x42, x43, x44, x45, x46, x47, x48, x49, x50, x51, x52, x53, x54, x55, x56, x57, x58, x59, x60, x61, x62, x63, x64, x65, x66, x67, x68, x69, x70, x71, x72, x73, x74, x75, x76, x77, x78, x79, x80, x81, x82, x83, x84, x85, x86, x87, x88, x89, x90, x91, x92, x93, x94, x95, x96, x97, x98, x99, x100, x101, x102, x103, x104, x105, x106, x107, x108, x109, x110, x111, x112, x113, x114, x115, x116, x117, x118], defers := [] } V := by
  subst hL
  refine wpAny_ready (rs := [8]) (by kernel_rfl) (by simp) ?_
  refine AllReady.cons rfl (fun K hK => ?_) ?_
  · have hb : Below V.heap.size V (V.alloc (.cells #[.slice none 0 0] 26)) := (Below.refl _ _).alloc (Nat.le_refl _) _
    delta bxops8
    go_simp
    refine hK _ _ ?_
    exact bx8_0_1_2_3_4_5_6_7_8 X _ b0 d0 b1 d1 a c V.heap.size (Lib.hid (pre_after O.out)) _ (by kernel_rfl)
  exact AllReady.nil
set_option maxRecDepth 100000 in
set_option maxHeartbeats 2000000 in
theorem bx8_0_1_2_3_4_5_6_8_9 {W : World} {g0 g1 : Nat} {a0 a1 : Option Addr} {c0 c1 : Nat} {xs0 xs1 out : List Int} {r1 : Bool} {Q : Exit → Act → World → Prop} {x0 x1 x4 x5 x8 x9 x10 x11 x12 x13 x14 x15 x16 x17 x18 x19 x20 x21 x22 x23 x24 x25 x26 x35 x36 x37 x38 x39 x40 x41 x42 x43 x44 x45 x46 x47 x48 x49 x50 x51 x52 x53 x54 x55 x56 x57 x58 x59 x60 x61 x62 x63 x64 x65 x66 x67 x68 x69 x70 x71 x72 x73 x74 x75 x76 x77 x78 x79 x80 x81 x82 x83 x84 x85 x86 x87 x88 x89 x90 x91 x92 x93 x94 x95 x96 x97 x98 x99 x100 x101 x102 x103 x104 x105 x106 x107 x108 x109 x110 x111 x112 x113 x114 x115 x116 x117 x118 : Value} (X : Bx8 W g0 g1 a0 a1 c0 c1 xs0 xs1 out r1 Q x0 x1 x4 x5 x8 x9 x10 x11 x12 x13 x14 x15 x16 x17 x18 x19 x20 x21 x22 x23 x24 x25 x26 x35 x36 x37 x38 x39 x40 x41 x42 x43 x44 x45 x46 x47 x48 x49 x50 x51 x52 x53 x54 x55 x56 x57 x58 x59 x60 x61 x62 x63 x64 x65 x66 x67 x68 x69 x70 x71 x72 x73 x74 x75 x76 x77 x78 x79 x80 x81 x82 x83 x84 x85 x86 x87 x88 x89 x90 x91 x92 x93 x94 x95 x96 x97 x98 x99 x100 x101 x102 x103 x104 x105 x106 x107 x108 x109 x110 x111 x112 x113 x114 x115 x116 x117 x118) (V : World) (b0 : Option Addr) (d0 : Nat) (b1 : Option Addr) (d1 : Nat) (a : Option Addr) (c : Nat) (n : Nat) (R : Hid (Boxed W out n a c V)) (L : Array Bool) (hL : L = #[true, true, true, true, true, true, true, false, true, true, false]) :
    wpAny Try.prog .any bxops8 Q 2 L { tmps := #[x0, x1, .pointer (some ⟨g0, 0, none⟩), .pointer (some ⟨g1, 0, none⟩), x4, x5, .pointer (some ⟨n, 0, none⟩), undef, x8, x9, x10, x11, x12, x13, x14, x15, x16, x17, x18, x19, x20, x21, x22, x23, x24, x25, x26, .tuple #[.agg #[.slice a out.length c], .bool r1], .agg #[.slice a0 xs0.length c0], .agg #[.slice b0 xs0.length d0], .agg #[.slice a1 xs1.length c1], .agg #[.slice b1 xs1.length d1], .tuple #[.agg #[.slice a out.length c], .bool r1], .agg #[.slice a out.length c], undef, x35, x36, x37, x38, x39, x40, x41, x42, x43, x44, x45, x46, x47, x48, x49, x50, x51, x52, x53, x54, x55, x56, x57, x58, x59, x60, x61, x62, x63, x64, x65, x66, x67, x68, x69, x70, x71, x72, x73, x74, x75, x76, x77, x78, x79, x80, x81, x82, x83, x84, x85, x86, x87, x88, x89, x90, x91, x92, x93, x94, x95, x96, x97, x98, x99, x100, x101, x102, x103, x104, x105, x106, x107, x108, x109, x110, x111, x112, x113, x114, x115, x116, x117, x118], defers := [] } V := by
  subst hL
  refine wpAny_ready (rs := [7]) (by kernel_rfl) (by simp) ?_
  refine AllReady.cons rfl (fun K hK => ?_) ?_
  · delta bxops8
    go_simp
    refine hK _ _ ?_
    exact bx8_0_1_2_3_4_5_6_7_8_9 X V b0 d0 b1 d1 a c n R _ (by kernel_rfl)
  exact AllReady.nil
set_option maxRecDepth 100000 in
set_option maxHeartbeats 2000000 in
theorem bx8_0_1_2_3_4_5_6_8 {W : World} {g0 g1 : Nat} {a0 a1 : Option Addr} {c0 c1 : Nat} {xs0 xs1 out : List Int} {r1 : Bool} {Q : Exit → Act → World → Prop} {x0 x1 x4 x5 x8 x9 x10 x11 x12 x13 x14 x15 x16 x17 x18 x19 x20 x21 x22 x23 x24 x25 x26 x35 x36 x37 x38 x39 x40 x41 x42 x43 x44 x45 x46 x47 x48 x49 x50 x51 x52 x53 x54 x55 x56 x57 x58 x59 x60 x61 x62 x63 x64 x65 x66 x67 x68 x69 x70 x71 x72 x73 x74 x75 x76 x77 x78 x79 x80 x81 x82 x83 x84 x85 x86 x87 x88 x89 x90 x91 x92 x93 x94 x95 x96 x97 x98 x99 x100 x101 x102 x103 x104 x105 x106 x107 x108 x109 x110 x111 x112 x113 x114 x115 x116 x117 x118 : Value} (X : Bx8 W g0 g1 a0 a1 c0 c1 xs0 xs1 out r1 Q x0 x1 x4 x5 x8 x9 x10 x11 x12 x13 x14 x15 x16 x17 x18 x19 x20 x21 x22 x23 x24 x25 x26 x35 x36 x37 x38 x39 x40 x41 x42 x43 x44 x45 x46 x47 x48 x49 x50 x51 x52 x53 x54 x55 x56 x57 x58 x59 x60 x61 x62 x63 x64 x65 x66 x67 x68 x69 x70 x71 x72 x73 x74 x75 x76 x77 x78 x79 x80 x81 x82 x83 x84 x85 x86 x87 x88 x89 x90 x91 x92 x93 x94 x95 x96 x97 x98 x99 x100 x101 x102 x103 x104 x105 x106 x107 x108 x109 x110 x111 x112 x113 x114 x115 x116 x117 x118) (V : World) (b0 : Option Addr) (d0 : Nat) (b1 : Option Addr) (d1 : Nat) (a : Option Addr) (c : Nat) (n : Nat) (P : Hid (PreBox W out n a c V)) (L : Array Bool) (hL : L = #[true, true, true, true, true, true, true, false, true, false, false]) :
    wpAny Try.prog .any bxops8 Q 3 L { tmps := #[x0, x1, .pointer (some ⟨g0, 0, none⟩), .pointer (some ⟨g1, 0, none⟩), x4, x5, .pointer (some ⟨n, 0, none⟩), undef, x8, x9, x10, x11, x12, x13, x14, x15, x16, x17, x18, x19, x20, x21, x22, x23, x24, x25, x26, .tuple #[.agg #[.slice a out.length c], .bool r1], .agg #[.slice a0 xs0.length c0], .agg #[.slice b0 xs0.length d0], .agg #[.slice a1 xs1.length c1], .agg #[.slice b1 xs1.length d1], .tuple #[.agg #[.slice a out.length c], .bool r1], .agg #[.slice a out.length c], undef, x35, x36, x37, x38, x39, x40, x41, x42, x43, x44, x45, x46, x47, x48, x49, x50, x51, x52, x53, x54, x55, x56, x57, x58, x59, x60, x61, x62, x63, x64, x65, x66, x67, x68, x69, x70, x71, x72, x73, x74, x75, x76, x77, x78, x79, x80, x81, x82, x83, x84, x85, x86, x87, x88, x89, x90, x91, x92, x93, x94, x95, x96, x97, x98, x99, x100, x101, x102, x103, x104, x105, x106, x107, x108, x109, x110, x111, x112, x113, x114, x115, x116, x117, x118], defers := [] } V := by
  subst hL
  refine wpAny_ready (rs := [7, 9]) (by kernel_rfl) (by simp) ?_
  refine AllReady.cons rfl (fun K hK => ?_) ?_
  · delta bxops8
    go_simp
    refine hK _ _ ?_
    exact bx8_0_1_2_3_4_5_6_7_8 X V b0 d0 b1 d1 a c n P _ (by kernel_rfl)
  refine AllReady.cons rfl (fun K hK => ?_) ?_
  · have hcr := P.out.1.cell
    have hfr := P.out.1.free
    delta bxops8
    go_simp
    refine hK _ _ ?_
    exact bx8_0_1_2_3_4_5_6_8_9 X _ b0 d0 b1 d1 a c n (Lib.hid P.out.2) _ (by kernel_rfl)
  exact AllReady.nil
set_option maxRecDepth 100000 in
set_option maxHeartbeats 2000000 in
theorem bx8_0_1_2_3_4_5_6 {W : World} {g0 g1 : Nat} {a0 a1 : Option Addr} {c0 c1 : Nat} {xs0 xs1 out : List Int} {r1 : Bool} {Q : Exit → Act → World → Prop} {x0 x1 x4 x5 x8 x9 x10 x11 x12 x13 x14 x15 x16 x17 x18 x19 x20 x21 x22 x23 x24 x25 x26 x35 x36 x37 x38 x39 x40 x41 x42 x43 x44 x45 x46 x47 x48 x49 x50 x51 x52 x53 x54 x55 x56 x57 x58 x59 x60 x61 x62 x63 x64 x65 x66 x67 x68 x69 x70 x71 x72 x73 x74 x75 x76 x77 x78 x79 x80 x81 x82 x83 x84 x85 x86 x87 x88 x89 x90 x91 x92 x93 x94 x95 x96 x97 x98 x99 x100 x101 x102 x103 x104 x105 x106 x107 x108 x109 x110 x111 x112 x113 x114 x115 x116 x117 x118 : Value} (X : Bx8 W g0 g1 a0 a1 c0 c1 xs0 xs1 out r1 Q x0 x1 x4 x5 x8 x9 x10 x11 x12 x13 x14 x15 x16 x17 x18 x19 x20 x21 x22 x23 x24 x25 x26 x35 x36 x37 x38 x39 x40 x41 x42 x43 x44 x45 x46 x47 x48 x49 x50 x51 x52 x53 x54 x55 x56 x57 x58 x59 x60 x61 x62 x63 x64 x65 x66 x67 x68 x69 x70 x71 x72 x73 x74 x75 x76 x77 x78 x79 x80 x81 x82 x83 x84 x85 x86 x87 x88 x89 x90 x91 x92 x93 x94 x95 x96 x97 x98 x99 x100 x101 x102 x103 x104 x105 x106 x107 x108 x109 x110 x111 x112 x113 x114 x115 x116 x117 x118) (V : World) (b0 : Option Addr) (d0 : Nat) (b1 : Option Addr) (d1 : Nat) (a : Option Addr) (c : Nat) (O : Hid (OutAt W out a c V)) (L : Array Bool) (hL : L = #[true, true, true, true, true, true, true, false, false, false, false]) :
    wpAny Try.prog .any bxops8 Q 4 L { tmps := #[x0, x1, .pointer (some ⟨g0, 0, none⟩), .pointer (some ⟨g1, 0, none⟩), x4, x5, undef, undef, x8, x9, x10, x11, x12, x13, x14, x15, x16, x17, x18, x19, x20, x21, x22, x23, x24, x25, x26, .tuple #[.agg #[.slice a out.length c], .bool r1], .agg #[.slice a0 xs0.length c0], .agg #[.slice b0 xs0.length d0], .agg #[.slice a1 xs1.length c1], .agg #[.slice b1 xs1.length d1], .tuple #[.agg #[.slice a out.length c], .bool r1], .agg #[.slice a out.length c], undef, x35, x36, x37, x38, x39, x40, x41, x42, x43, x44, x45, x46, x47, x48, x49, x50, x51, x52, x53, x54, x55, x56, x57, x58, x59, x60, x61, x62, x63, x64, x65, x66, x67, x68, x69, x70, x71, x72, x73, x74, x75, x76, x77, x78, x79, x80, x81, x82, x83, x84, x85, x86, x87, x88, x89, x90, x91, x92, x93, x94, x95, x96, x97, x98, x99, x100, x101, x102, x103, x104, x105, x106, x107, x108, x109, x110, x111, x112, x113, x114, x115, x116, x117, x118], defers := [] } V := by
  subst hL
  refine wpAny_ready (rs := [7, 8]) (by kernel_rfl) (by simp) ?_
  refine AllReady.cons rfl (fun K hK => ?_) ?_
  · delta bxops8
    go_simp
    refine hK _ _ ?_
    exact bx8_0_1_2_3_4_5_6_7 X V b0 d0 b1 d1 a c O _ (by kernel_rfl)
  refine AllReady.cons rfl (fun K hK => ?_) ?_
  · have hb : Below V.heap.size V (V.alloc (.cells #[.slice none 0 0] 26)) := (Below.refl _ _).alloc (Nat.le_refl _) _
    delta bxops8
    go_simp
    refine hK _ _ ?_
    exact bx8_0_1_2_3_4_5_6_8 X _ b0 d0 b1 d1 a c V.heap.size (Lib.hid (pre_after O.out)) _ (by kernel_rfl)
  exact AllReady.nil
set_option maxRecDepth 100000 in
set_option maxHeartbeats 2000000 in
theorem bx8_0_1_2_3_4_5_7_8 {W : World} {g0 g1 : Nat} {a0 a1 : Option Addr} {c0 c1 : Nat} {xs0 xs1 out : List Int} {r1 : Bool} {Q : Exit → Act → World → Prop} {x0 x1 x4 x5 x8 x9 x10 x11 x12 x13 x14 x15 x16 x17 x18 x19 x20 x21 x22 x23 x24 x25 x26 x35 x36 x37 x38 x39 x40 x41 x42 x43 x44 x45 x46 x47 x48 x49 x50 x51 x52 x53 x54 x55 x56 x57 x58 x59 x60 x61 x62 x63 x64 x65 x66 x67 x68 x69 x70 x71 x72 x73 x74 x75 x76 x77 x78 x79 x80 x81 x82 x83 x84 x85 x86 x87 x88 x89 x90 x91 x92 x93 x94 x95 x96 x97 x98 x99 x100 x101 x102 x103 x104 x105 x106 x107 x108 x109 x110 x111 x112 x113 x114 x115 x116 x117 x118 : Value} (X : Bx8 W g0 g1 a0 a1 c0 c1 xs0 xs1 out r1 Q x0 x1 x4 x5 x8 x9 x10 x11 x12 x13 x14 x15 x16 x17 x18 x19 x20 x21 x22 x23 x24 x25 x26 x35 x36 x37 x38 x39 x40 x41 x42 x43 x44 x45 x46 x47 x48 x49 x50 x51 x52 x53 x54 x55 x56 x57 x58 x59 x60 x61 x62 x63 x64 x65 x66 x67 x68 x69 x70 x71 x72 x73 x74 x75 x76 x77 x78 x79 x80 x81 x82 x83 x84 x85 x86 x87 x88 x89 x90 x91 x92 x93 x94 x95 x96 x97 x98 x99 x100 x101 x102 x103 x104 x105 x106 x107 x108 x109 x110 x111 x112 x113 x114 x115 x116 x117 x118) (V : World) (b0 : Option Addr) (d0 : Nat) (b1 : Option Addr) (d1 : Nat) (a : Option Addr) (c : Nat) (n : Nat) (P : Hid (PreBox W out n a c V)) (L : Array Bool) (hL : L = #[true, true, true, true, true, true, false, true, true, false, false]) :
    wpAny Try.prog .any bxops8 Q 3 L { tmps := #[x0, x1, .pointer (some ⟨g0, 0, none⟩), .pointer (some ⟨g1, 0, none⟩), x4, x5, .pointer (some ⟨n, 0, none⟩), undef, x8, x9, x10, x11, x12, x13, x14, x15, x16, x17, x18, x19, x20, x21, x22, x23, x24, x25, x26, .tuple #[.agg #[.slice a out.length c], .bool r1], .agg #[.slice a0 xs0.length c0], .agg #[.slice b0 xs0.length d0], .agg #[.slice a1 xs1.length c1], .agg #[.slice b1 xs1.length d1], .tuple #[.agg #[.slice a out.length c], .bool r1], undef, .bool r1, x35, x36, x37, x38, x39, x40, x41, x42, x43, x44, x45, x46, x47, x48, x49, x50, x51, x52, x53, x54, x55, x56, x57, x58, x59, x60, x61, x62, x63, x64, x65, x66, x67, x68, x69, x70, x71, x72, x73, x74, x75, x76, x77, x78, x79, x80, x81, x82, x83, x84, x85, x86, x87, x88, x89, x90, x91, x92, x93, x94, x95, x96, x97, x98, x99, x100, x101, x102, x103, x104, x105, x106, x107, x108, x109, x110, x111, x112, x113, x114, x115, x116, x117, x118], defers := [] } V := by
  subst hL
  refine wpAny_ready (rs := [6]) (by kernel_rfl) (by simp) ?_
  refine AllReady.cons rfl (fun K hK => ?_) ?_
  · delta bxops8
    go_simp
    refine hK _ _ ?_
    exact bx8_0_1_2_3_4_5_6_7_8 X V b0 d0 b1 d1 a c n P _ (by kernel_rfl)
  exact AllReady.nil
set_option maxRecDepth 100000 in
set_option maxHeartbeats 2000000 in
theorem bx8_0_1_2_3_4_5_7 {W : World} {g0 g1 : Nat} {a0 a1 : Option Addr} {c0 c1 : Nat} {xs0 xs1 out : List Int} {r1 : Bool} {Q : Exit → Act → World → Prop} {x0 x1 x4 x5 x8 x9 x10 x11 x12 x13 x14 x15 x16 x17 x18 x19 x20 x21 x22 x23 x24 x25 x26 x35 x36 x37 x38 x39 x40 x41 x42 x43 x44 x45 x46 x47 x48 x49 x50 x51 x52 x53 x54 x55 x56 x57 x58 x59 x60 x61 x62 x63 x64 x65 x66 x67 x68 x69 x70 x71 x72 x73 x74 x75 x76 x77 x78 x79 x80 x81 x82 x83 x84 x85 x86 x87 x88 x89 x90 x91 x92 x93 x94 x95 x96 x97 x98 x99 x100 x101 x102 x103 x104 x105 x106 x107 x108 x109 x110 x111 x112 x113 x114 x115 x116 x117 x118 : Value} (X : Bx8 W g0 g1 a0 a1 c0 c1 xs0 xs1 out r1 Q x0 x1 x4 x5 x8 x9 x10 x11 x12 x13 x14 x15 x16 x17 x18 x19 x20 x21 x22 x23 x24 x25 x26 x35 x36 x37 x38 x39 x40 x41 x42 x43 x44 x45 x46 x47 x48 x49 x50 x51 x52 x53 x54 x55 x56 x57 x58 x59 x60 x61 x62 x63 x64 x65 x66 x67 x68 x69 x70 x71 x72 x73 x74 x75 x76 x77 x78 x79 x80 x81 x82 x83 x84 x85 x86 x87 x88 x89 x90 x91 x92 x93 x94 x95 x96 x97 x98 x99 x100 x101 x102 x103 x104 x105 x106 x107 x108 x109 x110 x111 x112 x113 x114 x115 x116 x117 x118) (V : World) (b0 : Option Addr) (d0 : Nat) (b1 : Option Addr) (d1 : Nat) (a : Option Addr) (c : Nat) (O : Hid (OutAt W out a c V)) (L : Array Bool) (hL : L = #[true, true, true, true, true, true, false, true, false, false, false]) :
    wpAny Try.prog .any bxops8 Q 4 L { tmps := #[x0, x1, .pointer (some ⟨g0, 0, none⟩), .pointer (some ⟨g1, 0, none⟩), x4, x5, undef, undef, x8, x9, x10, x11, x12, x13, x14, x15, x16, x17, x18, x19, x20, x21, x22, x23, x24, x25, x26, .tuple #[.agg #[.slice a out.length c], .bool r1], .agg #[.slice a0 xs0.length c0], .agg #[.slice b0 xs0.length d0], .agg #[.slice a1 xs1.length c1], .agg #[.slice b1 xs1.length d1], .tuple #[.agg #[.slice a out.length c], .bool r1], undef, .bool r1, x35, x36, x37, x38, x39, x40, x41, x42, x43, x44, x45, x46, x47, x48, x49, x50, x51, x52, x53, x54, x55, x56, x57, x58, x59, x60, x61, x62, x63, x64, x65, x66, x67, x68, x69, x70, x71, x72, x73, x74, x75, x76, x77, x78, x79, x80, x81, x82, x83, x84, x85, x86, x87, x88, x89, x90, x91, x92, x93, x94, x95, x96, x97, x98, x99, x100, x101, x102, x103, x104, x105, x106, x107, x108, x109, x110, x111, x112, x113, x114, x115, x116, x117, x118], defers := [] } V := by
  subst hL
  refine wpAny_ready (rs := [6, 8]) (by kernel_rfl) (by simp) ?_
  refine AllReady.cons rfl (fun K hK => ?_) ?_
  · delta bxops8
    go_simp
    refine hK _ _ ?_
    exact bx8_0_1_2_3_4_5_6_7 X V b0 d0 b1 d1 a c O _ (by kernel_rfl)
  refine AllReady.cons rfl (fun K hK => ?_) ?_
  · have hb : Below V.heap.size V (V.alloc (.cells #[.slice none 0 0] 26)) := (Below.refl _ _).alloc (Nat.le_refl _) _
    delta bxops8
    go_simp
    refine hK _ _ ?_
    exact bx8_0_1_2_3_4_5_7_8 X _ b0 d0 b1 d1 a c V.heap.size (Lib.hid (pre_after O.out)) _ (by kernel_rfl)
  exact AllReady.nil
set_option maxRecDepth 100000 in
set_option maxHeartbeats 2000000 in
theorem bx8_0_1_2_3_4_5_8 {W : World} {g0 g1 : Nat} {a0 a1 : Option Addr} {c0 c1 : Nat} {xs0 xs1 out : List Int} {r1 : Bool} {Q : Exit → Act → World → Prop} {x0 x1 x4 x5 x8 x9 x10 x11 x12 x13 x14 x15 x16 x17 x18 x19 x20 x21 x22 x23 x24 x25 x26 x35 x36 x37 x38 x39 x40 x41 x42 x43 x44 x45 x46 x47 x48 x49 x50 x51 x52 x53 x54 x55 x56 x57 x58 x59 x60 x61 x62 x63 x64 x65 x66 x67 x68 x69 x70 x71 x72 x73 x74 x75 x76 x77 x78 x79 x80 x81 x82 x83 x84 x85 x86 x87 x88 x89 x90 x91 x92 x93 x94 x95 x96 x97 x98 x99 x100 x101 x102 x103 x104 x105 x106 x107 x108 x109 x110 x111 x112 x113 x114 x115 x116 x117 x118 : Value} (X : Bx8 W g0 g1 a0 a1 c0 c1 xs0 xs1 out r1 Q x0 x1 x4 x5 x8 x9 x10 x11 x12 x13 x14 x15 x16 x17 x18 x19 x20 x21 x22 x23 x24 x25 x26 x35 x36 x37 x38 x39 x40 x41 x42 x43 x44 x45 x46 x47 x48 x49 x50 x51 x52 x53 x54 x55 x56 x57 x58 x59 x60 x61 x62 x63 x64 x65 x66 x67 x68 x69 x70 x71 x72 x73 x74 x75 x76 x77 x78 x79 x80 x81 x82 x83 x84 x85 x86 x87 x88 x89 x90 x91 x92 x93 x94 x95 x96 x97 x98 x99 x100 x101 x102 x103 x104 x105 x106 x107 x108 x109 x110 x111 x112 x113 x114 x115 x116 x117 x118) (V : World) (b0 : Option Addr) (d0 : Nat) (b1 : Option Addr) (d1 : Nat) (a : Option Addr) (c : Nat) (n : Nat) (P : Hid (PreBox W out n a c V)) (L : Array Bool) (hL : L = #[true, true, true, true, true, true, false, false, true, false, false]) :
    wpAny Try.prog .any bxops8 Q 4 L { tmps := #[x0, x1, .pointer (some ⟨g0, 0, none⟩), .pointer (some ⟨g1, 0, none⟩), x4, x5, .pointer (some ⟨n, 0, none⟩), undef, x8, x9, x10, x11, x12, x13, x14, x15, x16, x17, x18, x19, x20, x21, x22, x23, x24, x25, x26, .tuple #[.agg #[.slice a out.length c], .bool r1], .agg #[.slice a0 xs0.length c0], .agg #[.slice b0 xs0.length d0], .agg #[.slice a1 xs1.length c1], .agg #[.slice b1 xs1.length d1], .tuple #[.agg #[.slice a out.length c], .bool r1], undef, undef, x35, x36, x37, x38, x39, x40, x41, x42, x43, x44, x45, x46, x47, x48, x49, x50, x51, x52, x53, x54, x55, x56, x57, x58, x59, x60, x61, x62, x63, x64, x65, x66, x67, x68, x69, x70, x71, x72, x73, x74, x75, x76, x77, x78, x79, x80, x81, x82, x83, x84, x85, x86, x87, x88, x89, x90, x91, x92, x93, x94, x95, x96, x97, x98, x99, x100, x101, x102, x103, x104, x105, x106, x107, x108, x109, x110, x111, x112, x113, x114, x115, x116, x117, x118], defers := [] } V := by
  subst hL
  refine wpAny_ready (rs := [6, 7]) (by kernel_rfl) (by simp) ?_
  refine AllReady.cons rfl (fun K hK => ?_) ?_
  · delta bxops8
    go_simp
    refine hK _ _ ?_
    exact bx8_0_1_2_3_4_5_6_8 X V b0 d0 b1 d1 a c n P _ (by kernel_rfl)
  refine AllReady.cons rfl (fun K hK => ?_) ?_
  · delta bxops8
    go_simp
    refine hK _ _ ?_
    exact bx8_0_1_2_3_4_5_7_8 X V b0 d0 b1 d1 a c n P _ (by kernel_rfl)
  exact AllReady.nil
set_option maxRecDepth 100000 in
set_option maxHeartbeats 2000000 in
theorem bx8_0_1_2_3_4_5 {W : World} {g0 g1 : Nat} {a0 a1 : Option Addr} {c0 c1 : Nat} {xs0 xs1 out : List Int} {r1 : Bool} {Q : Exit → Act → World → Prop} {x0 x1 x4 x5 x8 x9 x10 x11 x12 x13 x14 x15 x16 x17 x18 x19 x20 x21 x22 x23 x24 x25 x26 x35 x36 x37 x38 x39 x40 x41 x42 x43 x44 x45 x46 x47 x48 x49 x50 x51 x52 x53 x54 x55 x56 x57 x58 x59 x60 x61 x62 x63 x64 x65 x66 x67 x68 x69 x70 x71 x72 x73 x74 x75 x76 x77 x78 x79 x80 x81 x82 x83 x84 x85 x86 x87 x88 x89 x90 x91 x92 x93 x94 x95 x96 x97 x98 x99 x100 x101 x102 x103 x104 x105 x106 x107 x108 x109 x110 x111 x112 x113 x114 x115 x116 x117 x118 : Value} (X : Bx8 W g0 g1 a0 a1 c0 c1 xs0 xs1 out r1 Q x0 x1 x4 x5 x8 x9 x10 x11 x12 x13 x14 x15 x16 x17 x18 x19 x20 x21 x22 x23 x24 x25 x26 x35 x36 x37 x38 x39 x40 x41 x42 x43 x44 x45 x46 x47 x48 x49 x50 x51 x52 x53 x54 x55 x56 x57 x58 x59 x60 x61 x62 x63 x64 x65 x66 x67 x68 x69 x70 x71 x72 x73 x74 x75 x76 x77 x78 x79 x80 x81 x82 x83 x84 x85 x86 x87 x88 x89 x90 x91 x92 x93 x94 x95 x96 x97 x98 x99 x100 x101 x102 x103 x104 x105 x106 x107 x108 x109 x110 x111 x112 x113 x114 x115 x116 x117 x118) (V : World) (b0 : Option Addr) (d0 : Nat) (b1 : Option Addr) (d1 : Nat) (a : Option Addr) (c : Nat) (O : Hid (OutAt W out a c V)) (L : Array Bool) (hL : L = #[true, true, true, true, true, true, false, false, false, false, false]) :
    wpAny Try.prog .any bxops8 Q 5 L { tmps := #[x0, x1, .pointer (some ⟨g0, 0, none⟩), .pointer (some ⟨g1, 0, none⟩), x4, x5, undef, undef, x8, x9, x10, x11, x12, x13, x14, x15, x16, x17, x18, x19, x20, x21, x22, x23, x24, x25, x26, .tuple #[.agg #[.slice a out.length c], .bool r1], .agg #[.slice a0 xs0.length c0], .agg #[.slice b0 xs0.length d0], .agg #[.slice a1 xs1.length c1], .agg #[.slice b1 xs1.length d1], .tuple #[.agg #[.slice a out.length c], .bool r1], undef, undef, x35, x36, x37, x38, x39, x40, x41, x42, x43, x44, x45, x46, x47, x48, x49, x50, x51, x52, x53, x54, x55, x56, x57, x58, x59, x60, x61, x62, x63, x64, x65, x66, x67, x68, x69, x70, x71, x72, x73, x74, x75, x76, x77, x78, x79, x80, x81, x82, x83, x84, x85, x86, x87, x88, x89, x90, x91, x92, x93, x94, x95, x96, x97, x98, x99, x100, x101, x102, x103, x104, x105, x106, x107, x108, x109, x110, x111, x112, x113, x114, x115, x116, x117, x118], defers := [] } V := by
  subst hL
  refine wpAny_ready (rs := [6, 7, 8]) (by kernel_rfl) (by simp) ?_
  refine AllReady.cons rfl (fun K hK => ?_) ?_
  · delta bxops8
    go_simp
    refine hK _ _ ?_
    exact bx8_0_1_2_3_4_5_6 X V b0 d0 b1 d1 a c O _ (by kernel_rfl)
  refine AllReady.cons rfl (fun K hK => ?_) ?_
  · delta bxops8
    go_simp
    refine hK _ _ ?_
    exact bx8_0_1_2_3_4_5_7 X V b0 d0 b1 d1 a c O _ (by kernel_rfl)
  refine AllReady.cons rfl (fun K hK => ?_) ?_
  · have hb : Below V.heap.size V (V.alloc (.cells #[.slice none 0 0] 26)) := (Below.refl _ _).alloc (Nat.le_refl _) _
    delta bxops8
    go_simp
    refine hK _ _ ?_
    exact bx8_0_1_2_3_4_5_8 X _ b0 d0 b1 d1 a c V.heap.size (Lib.hid (pre_after O.out)) _ (by kernel_rfl)
  exact AllReady.nil
set_option maxRecDepth 100000 in
set_option maxHeartbeats 2000000 in
theorem bx8_0_1_2_3_4_8 {W : World} {g0 g1 : Nat} {a0 a1 : Option Addr} {c0 c1 : Nat} {xs0 xs1 out : List Int} {r1 : Bool} {Q : Exit → Act → World → Prop} {x0 x1 x4 x5 x8 x9 x10 x11 x12 x13 x14 x15 x16 x17 x18 x19 x20 x21 x22 x23 x24 x25 x26 x35 x36 x37 x38 x39 x40 x41 x42 x43 x44 x45 x46 x47 x48 x49 x50 x51 x52 x53 x54 x55 x56 x57 x58 x59 x60 x61 x62 x63 x64 x65 x66 x67 x68 x69 x70 x71 x72 x73 x74 x75 x76 x77 x78 x79 x80 x81 x82 x83 x84 x85 x86 x87 x88 x89 x90 x91 x92 x93 x94 x95 x96 x97 x98 x99 x100 x101 x102 x103 x104 x105 x106 x107 x108 x109 x110 x111 x112 x113 x114 x115 x116 x117 x118 : Value} (X : Bx8 W g0 g1 a0 a1 c0 c1 xs0 xs1 out r1 Q x0 x1 x4 x5 x8 x9 x10 x11 x12 x13 x14 x15 x16 x17 x18 x19 x20 x21 x22 x23 x24 x25 x26 x35 x36 x37 x38 x39 x40 x41 x42 x43 x44 x45 x46 x47 x48 x49 x50 x51 x52 x53 x54 x55 x56 x57 x58 x59 x60 x61 x62 x63 x64 x65 x66 x67 x68 x69 x70 x71 x72 x73 x74 x75 x76 x77 x78 x79 x80 x81 x82 x83 x84 x85 x86 x87 x88 x89 x90 x91 x92 x93 x94 x95 x96 x97 x98 x99 x100 x101 x102 x103 x104 x105 x106 x107 x108 x109 x110 x111 x112 x113 x114 x115 x116 x117 x118) (V : World) (b0 : Option Addr) (d0 : Nat) (b1 : Option Addr) (d1 : Nat) (a : Option Addr) (c : Nat) (n : Nat) (P : Hid (PreBox W out n a c V)) (L : Array Bool) (hL : L = #[true, true, true, true, true, false, false, false, true, false, false]) :
    wpAny Try.prog .any bxops8 Q 5 L { tmps := #[x0, x1, .pointer (some ⟨g0, 0, none⟩), .pointer (some ⟨g1, 0, none⟩), x4, x5, .pointer (some ⟨n, 0, none⟩), undef, x8, x9, x10, x11, x12, x13, x14, x15, x16, x17, x18, x19, x20, x21, x22, x23, x24, x25, x26, undef, .agg #[.slice a0 xs0.length c0], .agg #[.slice b0 xs0.length d0], .agg #[.slice a1 xs1.length c1], .agg #[.slice b1 xs1.length d1], .tuple #[.agg #[.slice a out.length c], .bool r1], undef, undef, x35, x36, x37, x38, x39, x40, x41, x42, x43, x44, x45, x46, x47, x48, x49, x50, x51, x52, x53, x54, x55, x56, x57, x58, x59, x60, x61, x62, x63, x64, x65, x66, x67, x68, x69, x70, x71, x72, x73, x74, x75, x76, x77, x78, x79, x80, x81, x82, x83, x84, x85, x86, x87, x88, x89, x90, x91, x92, x93, x94, x95, x96, x97, x98, x99, x100, x101, x102, x103, x104, x105, x106, x107, x108, x109, x110, x111, x112, x113, x114, x115, x116, x117, x118], defers := [] } V := by
  subst hL
  refine wpAny_ready (rs := [5]) (by kernel_rfl) (by simp) ?_
  refine AllReady.cons rfl (fun K hK => ?_) ?_
  · delta bxops8
    go_simp
    refine hK _ _ ?_
    exact bx8_0_1_2_3_4_5_8 X V b0 d0 b1 d1 a c n P _ (by kernel_rfl)
  exact AllReady.nil
set_option maxRecDepth 100000 in
set_option maxHeartbeats 2000000 in
theorem bx8_0_1_2_3_4 {W : World} {g0 g1 : Nat} {a0 a1 : Option Addr} {c0 c1 : Nat} {xs0 xs1 out : List Int} {r1 : Bool} {Q : Exit → Act → World → Prop} {x0 x1 x4 x5 x8 x9 x10 x11 x12 x13 x14 x15 x16 x17 x18 x19 x20 x21 x22 x23 x24 x25 x26 x35 x36 x37 x38 x39 x40 x41 x42 x43 x44 x45 x46 x47 x48 x49 x50 x51 x52 x53 x54 x55 x56 x57 x58 x59 x60 x61 x62 x63 x64 x65 x66 x67 x68 x69 x70 x71 x72 x73 x74 x75 x76 x77 x78 x79 x80 x81 x82 x83 x84 x85 x86 x87 x88 x89 x90 x91 x92 x93 x94 x95 x96 x97 x98 x99 x100 x101 x102 x103 x104 x105 x106 x107 x108 x109 x110 x111 x112 x113 x114 x115 x116 x117 x118 : Value} (X : Bx8 W g0 g1 a0 a1 c0 c1 xs0 xs1 out r1 Q x0 x1 x4 x5 x8 x9 x10 x11 x12 x13 x14 x15 x16 x17 x18 x19 x20 x21 x22 x23 x24 x25 x26 x35 x36 x37 x38 x39 x40 x41 x42 x43 x44 x45 x46 x47 x48 x49 x50 x51 x52 x53 x54 x55 x56 x57 x58 x59 x60 x61 x62 x63 x64 x65 x66 x67 x68 x69 x70 x71 x72 x73 x74 x75 x76 x77 x78 x79 x80 x81 x82 x83 x84 x85 x86 x87 x88 x89 x90 x91 x92 x93 x94 x95 x96 x97 x98 x99 x100 x101 x102 x103 x104 x105 x106 x107 x108 x109 x110 x111 x112 x113 x114 x115 x116 x117 x118) (V : World) (b0 : Option Addr) (d0 : Nat) (b1 : Option Addr) (d1 : Nat) (a : Option Addr) (c : Nat) (O : Hid (OutAt W out a c V)) (L : Array Bool) (hL : L = #[true, true, true, true, true, false, false, false, false, false, false]) :
    wpAny Try.prog .any bxops8 Q 6 L { tmps := #[x0, x1, .pointer (some ⟨g0, 0, none⟩), .pointer (some ⟨g1, 0, none⟩), x4, x5, undef, undef, x8, x9, x10, x11, x12, x13, x14, x15, x16, x17, x18, x19, x20, x21, x22, x23, x24, x25, x26, undef, .agg #[.slice a0 xs0.length c0], .agg #[.slice b0 xs0.length d0], .agg #[.slice a1 xs1.length c1], .agg #[.slice b1 xs1.length d1], .tuple #[.agg #[.slice a out.length c], .bool r1], undef, undef, x35, x36, x37, x38, x39, x40, x41, x42, x43, x44, x45, x46, x47, x48, x49, x50, x51, x52, x53, x54, x55, x56, x57, x58, x59, x60, x61, x62, x63, x64, x65, x66, x67, x68, x69, x70, x71, x72, x73, x74, x75, x76, x77, x78, x79, x80, x81, x82, x83, x84, x85, x86, x87, x88, x89, x90, x91, x92, x93, x94, x95, x96, x97, x98, x99, x100, x101, x102, x103, x104, x105, x106, x107, x108, x109, x110, x111, x112, x113, x114, x115, x116, x117, x118], defers := [] } V := by
  subst hL
  refine wpAny_ready (rs := [5, 8]) (by kernel_rfl) (by simp) ?_
  refine AllReady.cons rfl (fun K hK => ?_) ?_
  · delta bxops8
    go_simp
    refine hK _ _ ?_
    exact bx8_0_1_2_3_4_5 X V b0 d0 b1 d1 a c O _ (by kernel_rfl)
  refine AllReady.cons rfl (fun K hK => ?_) ?_
  · have hb : Below V.heap.size V (V.alloc (.cells #[.slice none 0 0] 26)) := (Below.refl _ _).alloc (Nat.le_refl _) _
    delta bxops8
    go_simp
    refine hK _ _ ?_
    exact bx8_0_1_2_3_4_8 X _ b0 d0 b1 d1 a c V.heap.size (Lib.hid (pre_after O.out)) _ (by kernel_rfl)
  exact AllReady.nil
set_option maxRecDepth 100000 in
set_option maxHeartbeats 2000000 in
theorem bx8_0_1_2_3_8 {W : World} {g0 g1 : Nat} {a0 a1 : Option Addr} {c0 c1 : Nat} {xs0 xs1 out : List Int} {r1 : Bool} {Q : Exit → Act → World → Prop} {x0 x1 x4 x5 x8 x9 x10 x11 x12 x13 x14 x15 x16 x17 x18 x19 x20 x21 x22 x23 x24 x25 x26 x35 x36 x37 x38 x39 x40 x41 x42 x43 x44 x45 x46 x47 x48 x49 x50 x51 x52 x53 x54 x55 x56 x57 x58 x59 x60 x61 x62 x63 x64 x65 x66 x67 x68 x69 x70 x71 x72 x73 x74 x75 x76 x77 x78 x79 x80 x81 x82 x83 x84 x85 x86 x87 x88 x89 x90 x91 x92 x93 x94 x95 x96 x97 x98 x99 x100 x101 x102 x103 x104 x105 x106 x107 x108 x109 x110 x111 x112 x113 x114 x115 x116 x117 x118 : Value} (X : Bx8 W g0 g1 a0 a1 c0 c1 xs0 xs1 out r1 Q x0 x1 x4 x5 x8 x9 x10 x11 x12 x13 x14 x15 x16 x17 x18 x19 x20 x21 x22 x23 x24 x25 x26 x35 x36 x37 x38 x39 x40 x41 x42 x43 x44 x45 x46 x47 x48 x49 x50 x51 x52 x53 x54 x55 x56 x57 x58 x59 x60 x61 x62 x63 x64 x65 x66 x67 x68 x69 x70 x71 x72 x73 x74 x75 x76 x77 x78 x79 x80 x81 x82 x83 x84 x85 x86 x87 x88 x89 x90 x91 x92 x93 x94 x95 x96 x97 x98 x99 x100 x101 x102 x103 x104 x105 x106 x107 x108 x109 x110 x111 x112 x113 x114 x115 x116 x117 x118) (V : World) (b0 : Option Addr) (d0 : Nat) (b1 : Option Addr) (d1 : Nat) (n : Nat) (B : Hid (Below W.heap.size W V)) (F0 : Hid (Ints V b0 xs0)) (F1 : Hid (Ints V b1 xs1)) (N : Hid (W.heap.size ≤ n ∧ FamAt V n (.slice none 0 0))) (L : Array Bool) (hL : L = #[true, true, true, true, false, false, false, false, true, false, false]) :
    wpAny Try.prog .any bxops8 Q 6 L { tmps := #[x0, x1, .pointer (some ⟨g0, 0, none⟩), .pointer (some ⟨g1, 0, none⟩), x4, x5, .pointer (some ⟨n, 0, none⟩), undef, x8, x9, x10, x11, x12, x13, x14, x15, x16, x17, x18, x19, x20, x21, x22, x23, x24, x25, x26, undef, .agg #[.slice a0 xs0.length c0], .agg #[.slice b0 xs0.length d0], .agg #[.slice a1 xs1.length c1], .agg #[.slice b1 xs1.length d1], undef, undef, undef, x35, x36, x37, x38, x39, x40, x41, x42, x43, x44, x45, x46, x47, x48, x49, x50, x51, x52, x53, x54, x55, x56, x57, x58, x59, x60, x61, x62, x63, x64, x65, x66, x67, x68, x69, x70, x71, x72, x73, x74, x75, x76, x77, x78, x79, x80, x81, x82, x83, x84, x85, x86, x87, x88, x89, x90, x91, x92, x93, x94, x95, x96, x97, x98, x99, x100, x101, x102, x103, x104, x105, x106, x107, x108, x109, x110, x111, x112, x113, x114, x115, x116, x117, x118], defers := [] } V := by
  subst hL
  refine wpAny_ready (rs := [4]) (by kernel_rfl) (by simp) ?_
  refine AllReady.cons rfl (fun K hK => ?_) ?_
  · delta bxops8
    go_simp
    refine (X.p _ _ _ _ _ F0 F1).mono ?_
    rintro e V2 ⟨a, c, rfl, hi, ho, hcp, hb⟩
    try go_simp
    refine hK _ _ ?_
    exact bx8_0_1_2_3_4_8 X V2 b0 d0 b1 d1 a c n (Lib.hid (pre_before B.out N.out.1 N.out.2 hi ho hcp hb)) _ (by kernel_rfl)
  exact AllReady.nil
set_option maxRecDepth 100000 in
set_option maxHeartbeats 2000000 in
theorem bx8_0_1_2_3 {W : World} {g0 g1 : Nat} {a0 a1 : Option Addr} {c0 c1 : Nat} {xs0 xs1 out : List Int} {r1 : Bool} {Q : Exit → Act → World → Prop} {x0 x1 x4 x5 x8 x9 x10 x11 x12 x13 x14 x15 x16 x17 x18 x19 x20 x21 x22 x23 x24 x25 x26 x35 x36 x37 x38 x39 x40 x41 x42 x43 x44 x45 x46 x47 x48 x49 x50 x51 x52 x53 x54 x55 x56 x57 x58 x59 x60 x61 x62 x63 x64 x65 x66 x67 x68 x69 x70 x71 x72 x73 x74 x75 x76 x77 x78 x79 x80 x81 x82 x83 x84 x85 x86 x87 x88 x89 x90 x91 x92 x93 x94 x95 x96 x97 x98 x99 x100 x101 x102 x103 x104 x105 x106 x107 x108 x109 x110 x111 x112 x113 x114 x115 x116 x117 x118 : Value} (X : Bx8 W g0 g1 a0 a1 c0 c1 xs0 xs1 out r1 Q x0 x1 x4 x5 x8 x9 x10 x11 x12 x13 x14 x15 x16 x17 x18 x19 x20 x21 x22 x23 x24 x25 x26 x35 x36 x37 x38 x39 x40 x41 x42 x43 x44 x45 x46 x47 x48 x49 x50 x51 x52 x53 x54 x55 x56 x57 x58 x59 x60 x61 x62 x63 x64 x65 x66 x67 x68 x69 x70 x71 x72 x73 x74 x75 x76 x77 x78 x79 x80 x81 x82 x83 x84 x85 x86 x87 x88 x89 x90 x91 x92 x93 x94 x95 x96 x97 x98 x99 x100 x101 x102 x103 x104 x105 x106 x107 x108 x109 x110 x111 x112 x113 x114 x115 x116 x117 x118) (V : World) (b0 : Option Addr) (d0 : Nat) (b1 : Option Addr) (d1 : Nat) (B : Hid (Below W.heap.size W V)) (F0 : Hid (Ints V b0 xs0)) (F1 : Hid (Ints V b1 xs1)) (L : Array Bool) (hL : L = #[true, true, true, true, false, false, false, false, false, false, false]) :
    wpAny Try.prog .any bxops8 Q 7 L { tmps := #[x0, x1, .pointer (some ⟨g0, 0, none⟩), .pointer (some ⟨g1, 0, none⟩), x4, x5, undef, undef, x8, x9, x10, x11, x12, x13, x14, x15, x16, x17, x18, x19, x20, x21, x22, x23, x24, x25, x26, undef, .agg #[.slice a0 xs0.length c0], .agg #[.slice b0 xs0.length d0], .agg #[.slice a1 xs1.length c1], .agg #[.slice b1 xs1.length d1], undef, undef, undef, x35, x36, x37, x38, x39, x40, x41, x42, x43, x44, x45, x46, x47, x48, x49, x50, x51, x52, x53, x54, x55, x56, x57, x58, x59, x60, x61, x62, x63, x64, x65, x66, x67, x68, x69, x70, x71, x72, x73, x74, x75, x76, x77, x78, x79, x80, x81, x82, x83, x84, x85, x86, x87, x88, x89, x90, x91, x92, x93, x94, x95, x96, x97, x98, x99, x100, x101, x102, x103, x104, x105, x106, x107, x108, x109, x110, x111, x112, x113, x114, x115, x116, x117, x118], defers := [] } V := by
  subst hL
  refine wpAny_ready (rs := [4, 8]) (by kernel_rfl) (by simp) ?_
  refine AllReady.cons rfl (fun K hK => ?_) ?_
  · delta bxops8
    go_simp
    refine (X.p _ _ _ _ _ F0 F1).mono ?_
    rintro e V2 ⟨a, c, rfl, hi, ho, hcp, hb⟩
    try go_simp
    refine hK _ _ ?_
    exact bx8_0_1_2_3_4 X V2 b0 d0 b1 d1 a c (Lib.hid ⟨hi, ho.mono B.out.size, hcp, B.out.trans (hb.mono B.out.size)⟩) _ (by kernel_rfl)
  refine AllReady.cons rfl (fun K hK => ?_) ?_
  · have hb : Below V.heap.size V (V.alloc (.cells #[.slice none 0 0] 26)) := (Below.refl _ _).alloc (Nat.le_refl _) _
    delta bxops8
    go_simp
    refine hK _ _ ?_
    exact bx8_0_1_2_3_8 X _ b0 d0 b1 d1 V.heap.size (Lib.hid (B.out.trans (hb.mono B.out.size))) (Lib.hid (F0.out.on hb)) (Lib.hid (F1.out.on hb)) (Lib.hid (And.intro B.out.size (famAt_new _ _))) _ (by kernel_rfl)
  exact AllReady.nil
set_option maxRecDepth 100000 in
set_option maxHeartbeats 2000000 in
theorem bx8_0_1_2_8 {W : World} {g0 g1 : Nat} {a0 a1 : Option Addr} {c0 c1 : Nat} {xs0 xs1 out : List Int} {r1 : Bool} {Q : Exit → Act → World → Prop} {x0 x1 x4 x5 x8 x9 x10 x11 x12 x13 x14 x15 x16 x17 x18 x19 x20 x21 x22 x23 x24 x25 x26 x35 x36 x37 x38 x39 x40 x41 x42 x43 x44 x45 x46 x47 x48 x49 x50 x51 x52 x53 x54 x55 x56 x57 x58 x59 x60 x61 x62 x63 x64 x65 x66 x67 x68 x69 x70 x71 x72 x73 x74 x75 x76 x77 x78 x79 x80 x81 x82 x83 x84 x85 x86 x87 x88 x89 x90 x91 x92 x93 x94 x95 x96 x97 x98 x99 x100 x101 x102 x103 x104 x105 x106 x107 x108 x109 x110 x111 x112 x113 x114 x115 x116 x117 x118 : Value} (X : Bx8 W g0 g1 a0 a1 c0 c1 xs0 xs1 out r1 Q x0 x1 x4 x5 x8 x9 x10 x11 x12 x13 x14 x15 x16 x17 x18 x19 x20 x21 x22 x23 x24 x25 x26 x35 x36 x37 x38 x39 x40 x41 x42 x43 x44 x45 x46 x47 x48 x49 x50 x51 x52 x53 x54 x55 x56 x57 x58 x59 x60 x61 x62 x63 x64 x65 x66 x67 x68 x69 x70 x71 x72 x73 x74 x75 x76 x77 x78 x79 x80 x81 x82 x83 x84 x85 x86 x87 x88 x89 x90 x91 x92 x93 x94 x95 x96 x97 x98 x99 x100 x101 x102 x103 x104 x105 x106 x107 x108 x109 x110 x111 x112 x113 x114 x115 x116 x117 x118) (V : World) (b0 : Option Addr) (d0 : Nat) (n : Nat) (B : Hid (Below W.heap.size W V)) (F0 : Hid (Ints V b0 xs0)) (N : Hid (W.heap.size ≤ n ∧ FamAt V n (.slice none 0 0))) (L : Array Bool) (hL : L = #[true, true, true, false, false, false, false, false, true, false, false]) :
    wpAny Try.prog .any bxops8 Q 7 L { tmps := #[x0, x1, .pointer (some ⟨g0, 0, none⟩), .pointer (some ⟨g1, 0, none⟩), x4, x5, .pointer (some ⟨n, 0, none⟩), undef, x8, x9, x10, x11, x12, x13, x14, x15, x16, x17, x18, x19, x20, x21, x22, x23, x24, x25, x26, undef, .agg #[.slice a0 xs0.length c0], .agg #[.slice b0 xs0.length d0], .agg #[.slice a1 xs1.length c1], undef, undef, undef, undef, x35, x36, x37, x38, x39, x40, x41, x42, x43, x44, x45, x46, x47, x48, x49, x50, x51, x52, x53, x54, x55, x56, x57, x58, x59, x60, x61, x62, x63, x64, x65, x66, x67, x68, x69, x70, x71, x72, x73, x74, x75, x76, x77, x78, x79, x80, x81, x82, x83, x84, x85, x86, x87, x88, x89, x90, x91, x92, x93, x94, x95, x96, x97, x98, x99, x100, x101, x102, x103, x104, x105, x106, x107, x108, x109, x110, x111, x112, x113, x114, x115, x116, x117, x118], defers := [] } V := by
  subst hL
  refine wpAny_ready (rs := [3]) (by kernel_rfl) (by simp) ?_
  refine AllReady.cons rfl (fun K hK => ?_) ?_
  · delta bxops8
    go_simp
    refine (toFam_any _ _ xs1 _ (Lib.hid (X.i1.on B.out)) X.l1).mono ?_
    rintro e V2 ⟨b1, d1, rfl, hi, ho, hcp, hb⟩
    try go_simp
    refine hK _ _ ?_
    exact bx8_0_1_2_3_8 X V2 b0 d0 b1 d1 n (Lib.hid (B.out.trans (hb.mono B.out.size))) (Lib.hid (F0.out.on hb)) (Lib.hid hi) (Lib.hid (And.intro N.out.1 (N.out.2.on hb))) _ (by kernel_rfl)
  exact AllReady.nil
set_option maxRecDepth 100000 in
set_option maxHeartbeats 2000000 in
theorem bx8_0_1_2 {W : World} {g0 g1 : Nat} {a0 a1 : Option Addr} {c0 c1 : Nat} {xs0 xs1 out : List Int} {r1 : Bool} {Q : Exit → Act → World → Prop} {x0 x1 x4 x5 x8 x9 x10 x11 x12 x13 x14 x15 x16 x17 x18 x19 x20 x21 x22 x23 x24 x25 x26 x35 x36 x37 x38 x39 x40 x41 x42 x43 x44 x45 x46 x47 x48 x49 x50 x51 x52 x53 x54 x55 x56 x57 x58 x59 x60 x61 x62 x63 x64 x65 x66 x67 x68 x69 x70 x71 x72 x73 x74 x75 x76 x77 x78 x79 x80 x81 x82 x83 x84 x85 x86 x87 x88 x89 x90 x91 x92 x93 x94 x95 x96 x97 x98 x99 x100 x101 x102 x103 x104 x105 x106 x107 x108 x109 x110 x111 x112 x113 x114 x115 x116 x117 x118 : Value} (X : Bx8 W g0 g1 a0 a1 c0 c1 xs0 xs1 out r1 Q x0 x1 x4 x5 x8 x9 x10 x11 x12 x13 x14 x15 x16 x17 x18 x19 x20 x21 x22 x23 x24 x25 x26 x35 x36 x37 x38 x39 x40 x41 x42 x43 x44 x45 x46 x47 x48 x49 x50 x51 x52 x53 x54 x55 x56 x57 x58 x59 x60 x61 x62 x63 x64 x65 x66 x67 x68 x69 x70 x71 x72 x73 x74 x75 x76 x77 x78 x79 x80 x81 x82 x83 x84 x85 x86 x87 x88 x89 x90 x91 x92 x93 x94 x95 x96 x97 x98 x99 x100 x101 x102 x103 x104 x105 x106 x107 x108 x109 x110 x111 x112 x113 x114 x115 x116 x117 x118) (V : World) (b0 : Option Addr) (d0 : Nat) (B : Hid (Below W.heap.size W V)) (F0 : Hid (Ints V b0 xs0)) (L : Array Bool) (hL : L = #[true, true, true, false, false, false, false, false, false, false, false]) :
    wpAny Try.prog .any bxops8 Q 8 L { tmps := #[x0, x1, .pointer (some ⟨g0, 0, none⟩), .pointer (some ⟨g1, 0, none⟩), x4, x5, undef, undef, x8, x9, x10, x11, x12, x13, x14, x15, x16, x17, x18, x19, x20, x21, x22, x23, x24, x25, x26, undef, .agg #[.slice a0 xs0.length c0], .agg #[.slice b0 xs0.length d0], .agg #[.slice a1 xs1.length c1], undef, undef, undef, undef, x35, x36, x37, x38, x39, x40, x41, x42, x43, x44, x45, x46, x47, x48, x49, x50, x51, x52, x53, x54, x55, x56, x57, x58, x59, x60, x61, x62, x63, x64, x65, x66, x67, x68, x69, x70, x71, x72, x73, x74, x75, x76, x77, x78, x79, x80, x81, x82, x83, x84, x85, x86, x87, x88, x89, x90, x91, x92, x93, x94, x95, x96, x97, x98, x99, x100, x101, x102, x103, x104, x105, x106, x107, x108, x109, x110, x111, x112, x113, x114, x115, x116, x117, x118], defers := [] } V := by
  subst hL
  refine wpAny_ready (rs := [3, 8]) (by kernel_rfl) (by simp) ?_
  refine AllReady.cons rfl (fun K hK => ?_) ?_
  · delta bxops8
    go_simp
    refine (toFam_any _ _ xs1 _ (Lib.hid (X.i1.on B.out)) X.l1).mono ?_
    rintro e V2 ⟨b1, d1, rfl, hi, ho, hcp, hb⟩
    try go_simp
    refine hK _ _ ?_
    exact bx8_0_1_2_3 X V2 b0 d0 b1 d1 (Lib.hid (B.out.trans (hb.mono B.out.size))) (Lib.hid (F0.out.on hb)) (Lib.hid hi) _ (by kernel_rfl)
  refine AllReady.cons rfl (fun K hK => ?_) ?_
  · have hb : Below V.heap.size V (V.alloc (.cells #[.slice none 0 0] 26)) := (Below.refl _ _).alloc (Nat.le_refl _) _
    delta bxops8
    go_simp
    refine hK _ _ ?_
    exact bx8_0_1_2_8 X _ b0 d0 V.heap.size (Lib.hid (B.out.trans (hb.mono B.out.size))) (Lib.hid (F0.out.on hb)) (Lib.hid (And.intro B.out.size (famAt_new _ _))) _ (by kernel_rfl)
  exact AllReady.nil
set_option maxRecDepth 100000 in
set_option maxHeartbeats 2000000 in
theorem bx8_0_1_8 {W : World} {g0 g1 : Nat} {a0 a1 : Option Addr} {c0 c1 : Nat} {xs0 xs1 out : List Int} {r1 : Bool} {Q : Exit → Act → World → Prop} {x0 x1 x4 x5 x8 x9 x10 x11 x12 x13 x14 x15 x16 x17 x18 x19 x20 x21 x22 x23 x24 x25 x26 x35 x36 x37 x38 x39 x40 x41 x42 x43 x44 x45 x46 x47 x48 x49 x50 x51 x52 x53 x54 x55 x56 x57 x58 x59 x60 x61 x62 x63 x64 x65 x66 x67 x68 x69 x70 x71 x72 x73 x74 x75 x76 x77 x78 x79 x80 x81 x82 x83 x84 x85 x86 x87 x88 x89 x90 x91 x92 x93 x94 x95 x96 x97 x98 x99 x100 x101 x102 x103 x104 x105 x106 x107 x108 x109 x110 x111 x112 x113 x114 x115 x116 x117 x118 : Value} (X : Bx8 W g0 g1 a0 a1 c0 c1 xs0 xs1 out r1 Q x0 x1 x4 x5 x8 x9 x10 x11 x12 x13 x14 x15 x16 x17 x18 x19 x20 x21 x22 x23 x24 x25 x26 x35 x36 x37 x38 x39 x40 x41 x42 x43 x44 x45 x46 x47 x48 x49 x50 x51 x52 x53 x54 x55 x56 x57 x58 x59 x60 x61 x62 x63 x64 x65 x66 x67 x68 x69 x70 x71 x72 x73 x74 x75 x76 x77 x78 x79 x80 x81 x82 x83 x84 x85 x86 x87 x88 x89 x90 x91 x92 x93 x94 x95 x96 x97 x98 x99 x100 x101 x102 x103 x104 x105 x106 x107 x108 x109 x110 x111 x112 x113 x114 x115 x116 x117 x118) (V : World) (b0 : Option Addr) (d0 : Nat) (n : Nat) (B : Hid (Below W.heap.size W V)) (F0 : Hid (Ints V b0 xs0)) (N : Hid (W.heap.size ≤ n ∧ FamAt V n (.slice none 0 0))) (L : Array Bool) (hL : L = #[true, true, false, false, false, false, false, false, true, false, false]) :
    wpAny Try.prog .any bxops8 Q 8 L { tmps := #[x0, x1, .pointer (some ⟨g0, 0, none⟩), .pointer (some ⟨g1, 0, none⟩), x4, x5, .pointer (some ⟨n, 0, none⟩), undef, x8, x9, x10, x11, x12, x13, x14, x15, x16, x17, x18, x19, x20, x21, x22, x23, x24, x25, x26, undef, .agg #[.slice a0 xs0.length c0], .agg #[.slice b0 xs0.length d0], undef, undef, undef, undef, undef, x35, x36, x37, x38, x39, x40, x41, x42, x43, x44, x45, x46, x47, x48, x49, x50, x51, x52, x53, x54, x55, x56, x57, x58, x59, x60, x61, x62, x63, x64, x65, x66, x67, x68, x69, x70, x71, x72, x73, x74, x75, x76, x77, x78, x79, x80, x81, x82, x83, x84, x85, x86, x87, x88, x89, x90, x91, x92, x93, x94, x95, x96, x97, x98, x99, x100, x101, x102, x103, x104, x105, x106, x107, x108, x109, x110, x111, x112, x113, x114, x115, x116, x117, x118], defers := [] } V := by
  subst hL
  refine wpAny_ready (rs := [2]) (by kernel_rfl) (by simp) ?_
  refine AllReady.cons rfl (fun K hK => ?_) ?_
  · have hcx := (X.v1.on B.out).cell
    delta bxops8
    go_simp
    refine hK _ _ ?_
    exact bx8_0_1_2_8 X V b0 d0 n B F0 N _ (by kernel_rfl)
  exact AllReady.nil
set_option maxRecDepth 100000 in
set_option maxHeartbeats 2000000 in
theorem bx8_0_1 {W : World} {g0 g1 : Nat} {a0 a1 : Option Addr} {c0 c1 : Nat} {xs0 xs1 out : List Int} {r1 : Bool} {Q : Exit → Act → World → Prop} {x0 x1 x4 x5 x8 x9 x10 x11 x12 x13 x14 x15 x16 x17 x18 x19 x20 x21 x22 x23 x24 x25 x26 x35 x36 x37 x38 x39 x40 x41 x42 x43 x44 x45 x46 x47 x48 x49 x50 x51 x52 x53 x54 x55 x56 x57 x58 x59 x60 x61 x62 x63 x64 x65 x66 x67 x68 x69 x70 x71 x72 x73 x74 x75 x76 x77 x78 x79 x80 x81 x82 x83 x84 x85 x86 x87 x88 x89 x90 x91 x92 x93 x94 x95 x96 x97 x98 x99 x100 x101 x102 x103 x104 x105 x106 x107 x108 x109 x110 x111 x112 x113 x114 x115 x116 x117 x118 : Value} (X : Bx8 W g0 g1 a0 a1 c0 c1 xs0 xs1 out r1 Q x0 x1 x4 x5 x8 x9 x10 x11 x12 x13 x14 x15 x16 x17 x18 x19 x20 x21 x22 x23 x24 x25 x26 x35 x36 x37 x38 x39 x40 x41 x42 x43 x44 x45 x46 x47 x48 x49 x50 x51 x52 x53 x54 x55 x56 x57 x58 x59 x60 x61 x62 x63 x64 x65 x66 x67 x68 x69 x70 x71 x72 x73 x74 x75 x76 x77 x78 x79 x80 x81 x82 x83 x84 x85 x86 x87 x88 x89 x90 x91 x92 x93 x94 x95 x96 x97 x98 x99 x100 x101 x102 x103 x104 x105 x106 x107 x108 x109 x110 x111 x112 x113 x114 x115 x116 x117 x118) (V : World) (b0 : Option Addr) (d0 : Nat) (B : Hid (Below W.heap.size W V)) (F0 : Hid (Ints V b0 xs0)) (L : Array Bool) (hL : L = #[true, true, false, false, false, false, false, false, false, false, false]) :
    wpAny Try.prog .any bxops8 Q 9 L { tmps := #[x0, x1, .pointer (some ⟨g0, 0, none⟩), .pointer (some ⟨g1, 0, none⟩), x4, x5, undef, undef, x8, x9, x10, x11, x12, x13, x14, x15, x16, x17, x18, x19, x20, x21, x22, x23, x24, x25, x26, undef, .agg #[.slice a0 xs0.length c0], .agg #[.slice b0 xs0.length d0], undef, undef, undef, undef, undef, x35, x36, x37, x38, x39, x40, x41, x42, x43, x44, x45, x46, x47, x48, x49, x50, x51, x52, x53, x54, x55, x56, x57, x58, x59, x60, x61, x62, x63, x64, x65, x66, x67, x68, x69, x70, x71, x72, x73, x74, x75, x76, x77, x78, x79, x80, x81, x82, x83, x84, x85, x86, x87, x88, x89, x90, x91, x92, x93, x94, x95, x96, x97, x98, x99, x100, x101, x102, x103, x104, x105, x106, x107, x108, x109, x110, x111, x112, x113, x114, x115, x116, x117, x118], defers := [] } V := by
  subst hL
  refine wpAny_ready (rs := [2, 8]) (by kernel_rfl) (by simp) ?_
  refine AllReady.cons rfl (fun K hK => ?_) ?_
  · have hcx := (X.v1.on B.out).cell
    delta bxops8
    go_simp
    refine hK _ _ ?_
    exact bx8_0_1_2 X V b0 d0 B F0 _ (by kernel_rfl)
  refine AllReady.cons rfl (fun K hK => ?_) ?_
  · have hb : Below V.heap.size V (V.alloc (.cells #[.slice none 0 0] 26)) := (Below.refl _ _).alloc (Nat.le_refl _) _
    delta bxops8
    go_simp
    refine hK _ _ ?_
    exact bx8_0_1_8 X _ b0 d0 V.heap.size (Lib.hid (B.out.trans (hb.mono B.out.size))) (Lib.hid (F0.out.on hb)) (Lib.hid (And.intro B.out.size (famAt_new _ _))) _ (by kernel_rfl)
  exact AllReady.nil
set_option maxRecDepth 100000 in
set_option maxHeartbeats 2000000 in
theorem bx8_0_2_8 {W : World} {g0 g1 : Nat} {a0 a1 : Option Addr} {c0 c1 : Nat} {xs0 xs1 out : List Int} {r1 : Bool} {Q : Exit → Act → World → Prop} {x0 x1 x4 x5 x8 x9 x10 x11 x12 x13 x14 x15 x16 x17 x18 x19 x20 x21 x22 x23 x24 x25 x26 x35 x36 x37 x38 x39 x40 x41 x42 x43 x44 x45 x46 x47 x48 x49 x50 x51 x52 x53 x54 x55 x56 x57 x58 x59 x60 x61 x62 x63 x64 x65 x66 x67 x68 x69 x70 x71 x72 x73 x74 x75 x76 x77 x78 x79 x80 x81 x82 x83 x84 x85 x86 x87 x88 x89 x90 x91 x92 x93 x94 x95 x96 x97 x98 x99 x100 x101 x102 x103 x104 x105 x106 x107 x108 x109 x110 x111 x112 x113 x114 x115 x116 x117 x118 : Value} (X : Bx8 W g0 g1 a0 a1 c0 c1 xs0 xs1 out r1 Q x0 x1 x4 x5 x8 x9 x10 x11 x12 x13 x14 x15 x16 x17 x18 x19 x20 x21 x22 x23 x24 x25 x26 x35 x36 x37 x38 x39 x40 x41 x42 x43 x44 x45 x46 x47 x48 x49 x50 x51 x52 x53 x54 x55 x56 x57 x58 x59 x60 x61 x62 x63 x64 x65 x66 x67 x68 x69 x70 x71 x72 x73 x74 x75 x76 x77 x78 x79 x80 x81 x82 x83 x84 x85 x86 x87 x88 x89 x90 x91 x92 x93 x94 x95 x96 x97 x98 x99 x100 x101 x102 x103 x104 x105 x106 x107 x108 x109 x110 x111 x112 x113 x114 x115 x116 x117 x118) (V : World) (n : Nat) (B : Hid (Below W.heap.size W V)) (N : Hid (W.heap.size ≤ n ∧ FamAt V n (.slice none 0 0))) (L : Array Bool) (hL : L = #[true, false, true, false, false, false, false, false, true, false, false]) :
    wpAny Try.prog .any bxops8 Q 8 L { tmps := #[x0, x1, .pointer (some ⟨g0, 0, none⟩), .pointer (some ⟨g1, 0, none⟩), x4, x5, .pointer (some ⟨n, 0, none⟩), undef, x8, x9, x10, x11, x12, x13, x14, x15, x16, x17, x18, x19, x20, x21, x22, x23, x24, x25, x26, undef, .agg #[.slice a0 xs0.length c0], undef, .agg #[.slice a1 xs1.length c1], undef, undef, undef, undef, x35, x36, x37, x38, x39, x40, x41, x42, x43, x44, x45, x46, x47, x48, x49, x50, x51, x52, x53, x54, x55, x56, x57, x58, x59, x60, x61, x62, x63, x64, x65, x66, x67, x68, x69, x70, x71, x72, x73, x74, x75, x76, x77, x78, x79, x80, x81, x82, x83, x84, x85, x86, x87, x88, x89, x90, x91, x92, x93, x94, x95, x96, x97, x98, x99, x100, x101, x102, x103, x104, x105, x106, x107, x108, x109, x110, x111, x112, x113, x114, x115, x116, x117, x118], defers := [] } V := by
  subst hL
  refine wpAny_ready (rs := [1]) (by kernel_rfl) (by simp) ?_
  refine AllReady.cons rfl (fun K hK => ?_) ?_
  · delta bxops8
    go_simp
    refine (toFam_any _ _ xs0 _ (Lib.hid (X.i0.on B.out)) X.l0).mono ?_
    rintro e V2 ⟨b0, d0, rfl, hi, ho, hcp, hb⟩
    try go_simp
    refine hK _ _ ?_
    exact bx8_0_1_2_8 X V2 b0 d0 n (Lib.hid (B.out.trans (hb.mono B.out.size))) (Lib.hid hi) (Lib.hid (And.intro N.out.1 (N.out.2.on hb))) _ (by kernel_rfl)
  exact AllReady.nil
set_option maxRecDepth 100000 in
set_option maxHeartbeats 2000000 in
theorem bx8_0_2 {W : World} {g0 g1 : Nat} {a0 a1 : Option Addr} {c0 c1 : Nat} {xs0 xs1 out : List Int} {r1 : Bool} {Q : Exit → Act → World → Prop} {x0 x1 x4 x5 x8 x9 x10 x11 x12 x13 x14 x15 x16 x17 x18 x19 x20 x21 x22 x23 x24 x25 x26 x35 x36 x37 x38 x39 x40 x41 x42 x43 x44 x45 x46 x47 x48 x49 x50 x51 x52 x53 x54 x55 x56 x57 x58 x59 x60 x61 x62 x63 x64 x65 x66 x67 x68 x69 x70 x71 x72 x73 x74 x75 x76 x77 x78 x79 x80 x81 x82 x83 x84 x85 x86 x87 x88 x89 x90 x91 x92 x93 x94 x95 x96 x97 x98 x99 x100 x101 x102 x103 x104 x105 x106 x107 x108 x109 x110 x111 x112 x113 x114 x115 x116 x117 x118 : Value} (X : Bx8 W g0 g1 a0 a1 c0 c1 xs0 xs1 out r1 Q x0 x1 x4 x5 x8 x9 x10 x11 x12 x13 x14 x15 x16 x17 x18 x19 x20 x21 x22 x23 x24 x25 x26 x35 x36 x37 x38 x39 x40 x41 x42 x43 x44 x45 x46 x47 x48 x49 x50 x51 x52 x53 x54 x55 x56 x57 x58 x59 x60 x61 x62 x63 x64 x65 x66 x67 x68 x69 x70 x71 x72 x73 x74 x75 x76 x77 x78 x79 x80 x81 x82 x83 x84 x85 x86 x87 x88 x89 x90 x91 x92 x93 x94 x95 x96 x97 x98 x99 x100 x101 x102 x103 x104 x105 x106 x107 x108 x109 x110 x111 x112 x113 x114 x115 x116 x117 x118) (V : World)  (B : Hid (Below W.heap.size W V)) (L : Array Bool) (hL : L = #[true, false, true, false, false, false, false, false, false, false, false]) :
    wpAny Try.prog .any bxops8 Q 9 L { tmps := #[x0, x1, .pointer (some ⟨g0, 0, none⟩), .pointer (some ⟨g1, 0, none⟩), x4, x5, undef, undef, x8, x9, x10, x11, x12, x13, x14, x15, x16, x17, x18, x19, x20, x21, x22, x23, x24, x25, x26, undef, .agg #[.slice a0 xs0.length c0], undef, .agg #[.slice a1 xs1.length c1], undef, undef, undef, undef, x35, x36, x37, x38, x39, x40, x41, x42, x43, x44, x45, x46, x47, x48, x49, x50, x51, x52, x53, x54, x55, x56, x57, x58, x59, x60, x61, x62, x63, x64, x65, x66, x67, x68, x69, x70, x71, x72, x73, x74, x75, x76, x77, x78, x79, x80, x81, x82, x83, x84, x85, x86, x87, x88, x89, x90, x91, x92, x93, x94, x95, x96, x97, x98, x99, x100, x101, x102, x103, x104, x105, x106, x107, x108, x109, x110, x111, x112, x113, x114, x115, x116, x117, x118], defers := [] } V := by
  subst hL
  refine wpAny_ready (rs := [1, 8]) (by kernel_rfl) (by simp) ?_
  refine AllReady.cons rfl (fun K hK => ?_) ?_
  · delta bxops8
    go_simp
    refine (toFam_any _ _ xs0 _ (Lib.hid (X.i0.on B.out)) X.l0).mono ?_
    rintro e V2 ⟨b0, d0, rfl, hi, ho, hcp, hb⟩
    try go_simp
    refine hK _ _ ?_
    exact bx8_0_1_2 X V2 b0 d0 (Lib.hid (B.out.trans (hb.mono B.out.size))) (Lib.hid hi) _ (by kernel_rfl)
  refine AllReady.cons rfl (fun K hK => ?_) ?_
  · have hb : Below V.heap.size V (V.alloc (.cells #[.slice none 0 0] 26)) := (Below.refl _ _).alloc (Nat.le_refl _) _
    delta bxops8
    go_simp
    refine hK _ _ ?_
    exact bx8_0_2_8 X _ V.heap.size (Lib.hid (B.out.trans (hb.mono B.out.size))) (Lib.hid (And.intro B.out.size (famAt_new _ _))) _ (by kernel_rfl)
  exact AllReady.nil
set_option maxRecDepth 100000 in
set_option maxHeartbeats 2000000 in
theorem bx8_0_8 {W : World} {g0 g1 : Nat} {a0 a1 : Option Addr} {c0 c1 : Nat} {xs0 xs1 out : List Int} {r1 : Bool} {Q : Exit → Act → World → Prop} {x0 x1 x4 x5 x8 x9 x10 x11 x12 x13 x14 x15 x16 x17 x18 x19 x20 x21 x22 x23 x24 x25 x26 x35 x36 x37 x38 x39 x40 x41 x42 x43 x44 x45 x46 x47 x48 x49 x50 x51 x52 x53 x54 x55 x56 x57 x58 x59 x60 x61 x62 x63 x64 x65 x66 x67 x68 x69 x70 x71 x72 x73 x74 x75 x76 x77 x78 x79 x80 x81 x82 x83 x84 x85 x86 x87 x88 x89 x90 x91 x92 x93 x94 x95 x96 x97 x98 x99 x100 x101 x102 x103 x104 x105 x106 x107 x108 x109 x110 x111 x112 x113 x114 x115 x116 x117 x118 : Value} (X : Bx8 W g0 g1 a0 a1 c0 c1 xs0 xs1 out r1 Q x0 x1 x4 x5 x8 x9 x10 x11 x12 x13 x14 x15 x16 x17 x18 x19 x20 x21 x22 x23 x24 x25 x26 x35 x36 x37 x38 x39 x40 x41 x42 x43 x44 x45 x46 x47 x48 x49 x50 x51 x52 x53 x54 x55 x56 x57 x58 x59 x60 x61 x62 x63 x64 x65 x66 x67 x68 x69 x70 x71 x72 x73 x74 x75 x76 x77 x78 x79 x80 x81 x82 x83 x84 x85 x86 x87 x88 x89 x90 x91 x92 x93 x94 x95 x96 x97 x98 x99 x100 x101 x102 x103 x104 x105 x106 x107 x108 x109 x110 x111 x112 x113 x114 x115 x116 x117 x118) (V : World) (n : Nat) (B : Hid (Below W.heap.size W V)) (N : Hid (W.heap.size ≤ n ∧ FamAt V n (.slice none 0 0))) (L : Array Bool) (hL : L = #[true, false, false, false, false, false, false, false, true, false, false]) :
    wpAny Try.prog .any bxops8 Q 9 L { tmps := #[x0, x1, .pointer (some ⟨g0, 0, none⟩), .pointer (some ⟨g1, 0, none⟩), x4, x5, .pointer (some ⟨n, 0, none⟩), undef, x8, x9, x10, x11, x12, x13, x14, x15, x16, x17, x18, x19, x20, x21, x22, x23, x24, x25, x26, undef, .agg #[.slice a0 xs0.length c0], undef, undef, undef, undef, undef, undef, x35, x36, x37, x38, x39, x40, x41, x42, x43, x44, x45, x46, x47, x48, x49, x50, x51, x52, x53, x54, x55, x56, x57, x58, x59, x60, x61, x62, x63, x64, x65, x66, x67, x68, x69, x70, x71, x72, x73, x74, x75, x76, x77, x78, x79, x80, x81, x82, x83, x84, x85, x86, x87, x88, x89, x90, x91, x92, x93, x94, x95, x96, x97, x98, x99, x100, x101, x102, x103, x104, x105, x106, x107, x108, x109, x110, x111, x112, x113, x114, x115, x116, x117, x118], defers := [] } V := by
  subst hL
  refine wpAny_ready (rs := [1, 2]) (by kernel_rfl) (by simp) ?_
  refine AllReady.cons rfl (fun K hK => ?_) ?_
  · delta bxops8
    go_simp
    refine (toFam_any _ _ xs0 _ (Lib.hid (X.i0.on B.out)) X.l0).mono ?_
    rintro e V2 ⟨b0, d0, rfl, hi, ho, hcp, hb⟩
    try go_simp
    refine hK _ _ ?_
    exact bx8_0_1_8 X V2 b0 d0 n (Lib.hid (B.out.trans (hb.mono B.out.size))) (Lib.hid hi) (Lib.hid (And.intro N.out.1 (N.out.2.on hb))) _ (by kernel_rfl)
  refine AllReady.cons rfl (fun K hK => ?_) ?_
  · have hcx := (X.v1.on B.out).cell
    delta bxops8
    go_simp
    refine hK _ _ ?_
    exact bx8_0_2_8 X V n B N _ (by kernel_rfl)
  exact AllReady.nil
set_option maxRecDepth 100000 in
set_option maxHeartbeats 2000000 in
theorem bx8_0 {W : World} {g0 g1 : Nat} {a0 a1 : Option Addr} {c0 c1 : Nat} {xs0 xs1 out : List Int} {r1 : Bool} {Q : Exit → Act → World → Prop} {x0 x1 x4 x5 x8 x9 x10 x11 x12 x13 x14 x15 x16 x17 x18 x19 x20 x21 x22 x23 x24 x25 x26 x35 x36 x37 x38 x39 x40 x41 x42 x43 x44 x45 x46 x47 x48 x49 x50 x51 x52 x53 x54 x55 x56 x57 x58 x59 x60 x61 x62 x63 x64 x65 x66 x67 x68 x69 x70 x71 x72 x73 x74 x75 x76 x77 x78 x79 x80 x81 x82 x83 x84 x85 x86 x87 x88 x89 x90 x91 x92 x93 x94 x95 x96 x97 x98 x99 x100 x101 x102 x103 x104 x105 x106 x107 x108 x109 x110 x111 x112 x113 x114 x115 x116 x117 x118 : Value} (X : Bx8 W g0 g1 a0 a1 c0 c1 xs0 xs1 out r1 Q x0 x1 x4 x5 x8 x9 x10 x11 x12 x13 x14 x15 x16 x17 x18 x19 x20 x21 x22 x23 x24 x25 x26 x35 x36 x37 x38 x39 x40 x41 x42 x43 x44 x45 x46 x47 x48 x49 x50 x51 x52 x53 x54 x55 x56 x57 x58 x59 x60 x61 x62 x63 x64 x65 x66 x67 x68 x69 x70 x71 x72 x73 x74 x75 x76 x77 x78 x79 x80 x81 x82 x83 x84 x85 x86 x87 x88 x89 x90 x91 x92 x93 x94 x95 x96 x97 x98 x99 x100 x101 x102 x103 x104 x105 x106 x107 x108 x109 x110 x111 x112 x113 x114 x115 x116 x117 x118) (V : World)  (B : Hid (Below W.heap.size W V)) (L : Array Bool) (hL : L = #[true, false, false, false, false, false, false, false, false, false, false]) :
    wpAny Try.prog .any bxops8 Q 10 L { tmps := #[x0, x1, .pointer (some ⟨g0, 0, none⟩), .pointer (some ⟨g1, 0, none⟩), x4, x5, undef, undef, x8, x9, x10, x11, x12, x13, x14, x15, x16, x17, x18, x19, x20, x21, x22, x23, x24, x25, x26, undef, .agg #[.slice a0 xs0.length c0], undef, undef, undef, undef, undef, undef, x35, x36, x37, x38, x39, x40, x41, x42, x43, x44, x45, x46, x47, x48, x49, x50, x51, x52, x53, x54, x55, x56, x57, x58, x59, x60, x61, x62, x63, x64, x65, x66, x67, x68, x69, x70, x71, x72, x73, x74, x75, x76, x77, x78, x79, x80, x81, x82, x83, x84, x85, x86, x87, x88, x89, x90, x91, x92, x93, x94, x95, x96, x97, x98, x99, x100, x101, x102, x103, x104, x105, x106, x107, x108, x109, x110, x111, x112, x113, x114, x115, x116, x117, x118], defers := [] } V := by
  subst hL
  refine wpAny_ready (rs := [1, 2, 8]) (by kernel_rfl) (by simp) ?_
  refine AllReady.cons rfl (fun K hK => ?_) ?_
  · delta bxops8
    go_simp
    refine (toFam_any _ _ xs0 _ (Lib.hid (X.i0.on B.out)) X.l0).mono ?_
    rintro e V2 ⟨b0, d0, rfl, hi, ho, hcp, hb⟩
    try go_simp
    refine hK _ _ ?_
    exact bx8_0_1 X V2 b0 d0 (Lib.hid (B.out.trans (hb.mono B.out.size))) (Lib.hid hi) _ (by kernel_rfl)
  refine AllReady.cons rfl (fun K hK => ?_) ?_
  · have hcx := (X.v1.on B.out).cell
    delta bxops8
    go_simp
    refine hK _ _ ?_
    exact bx8_0_2 X V  B _ (by kernel_rfl)
  refine AllReady.cons rfl (fun K hK => ?_) ?_
  · have hb : Below V.heap.size V (V.alloc (.cells #[.slice none 0 0] 26)) := (Below.refl _ _).alloc (Nat.le_refl _) _
    delta bxops8
    go_simp
    refine hK _ _ ?_
    exact bx8_0_8 X _ V.heap.size (Lib.hid (B.out.trans (hb.mono B.out.size))) (Lib.hid (And.intro B.out.size (famAt_new _ _))) _ (by kernel_rfl)
  exact AllReady.nil
set_option maxRecDepth 100000 in
set_option maxHeartbeats 2000000 in
theorem bx8_2_8 {W : World} {g0 g1 : Nat} {a0 a1 : Option Addr} {c0 c1 : Nat} {xs0 xs1 out : List Int} {r1 : Bool} {Q : Exit → Act → World → Prop} {x0 x1 x4 x5 x8 x9 x10 x11 x12 x13 x14 x15 x16 x17 x18 x19 x20 x21 x22 x23 x24 x25 x26 x35 x36 x37 x38 x39 x40 x41 x42 x43 x44 x45 x46 x47 x48 x49 x50 x51 x52 x53 x54 x55 x56 x57 x58 x59 x60 x61 x62 x63 x64 x65 x66 x67 x68 x69 x70 x71 x72 x73 x74 x75 x76 x77 x78 x79 x80 x81 x82 x83 x84 x85 x86 x87 x88 x89 x90 x91 x92 x93 x94 x95 x96 x97 x98 x99 x100 x101 x102 x103 x104 x105 x106 x107 x108 x109 x110 x111 x112 x113 x114 x115 x116 x117 x118 : Value} (X : Bx8 W g0 g1 a0 a1 c0 c1 xs0 xs1 out r1 Q x0 x1 x4 x5 x8 x9 x10 x11 x12 x13 x14 x15 x16 x17 x18 x19 x20 x21 x22 x23 x24 x25 x26 x35 x36 x37 x38 x39 x40 x41 x42 x43 x44 x45 x46 x47 x48 x49 x50 x51 x52 x53 x54 x55 x56 x57 x58 x59 x60 x61 x62 x63 x64 x65 x66 x67 x68 x69 x70 x71 x72 x73 x74 x75 x76 x77 x78 x79 x80 x81 x82 x83 x84 x85 x86 x87 x88 x89 x90 x91 x92 x93 x94 x95 x96 x97 x98 x99 x100 x101 x102 x103 x104 x105 x106 x107 x108 x109 x110 x111 x112 x113 x114 x115 x116 x117 x118) (V : World) (n : Nat) (B : Hid (Below W.heap.size W V)) (N : Hid (W.heap.size ≤ n ∧ FamAt V n (.slice none 0 0))) (L : Array Bool) (hL : L = #[false, false, true, false, false, false, false, false, true, false, false]) :
    wpAny Try.prog .any bxops8 Q 9 L { tmps := #[x0, x1, .pointer (some ⟨g0, 0, none⟩), .pointer (some ⟨g1, 0, none⟩), x4, x5, .pointer (some ⟨n, 0, none⟩), undef, x8, x9, x10, x11, x12, x13, x14, x15, x16, x17, x18, x19, x20, x21, x22, x23, x24, x25, x26, undef, undef, undef, .agg #[.slice a1 xs1.length c1], undef, undef, undef, undef, x35, x36, x37, x38, x39, x40, x41, x42, x43, x44, x45, x46, x47, x48, x49, x50, x51, x52, x53, x54, x55, x56, x57, x58, x59, x60, x61, x62, x63, x64, x65, x66, x67, x68, x69, x70, x71, x72, x73, x74, x75, x76, x77, x78, x79, x80, x81, x82, x83, x84, x85, x86, x87, x88, x89, x90, x91, x92, x93, x94, x95, x96, x97, x98, x99, x100, x101, x102, x103, x104, x105, x106, x107, x108, x109, x110, x111, x112, x113, x114, x115, x116, x117, x118], defers := [] } V := by
  subst hL
  refine wpAny_ready (rs := [0]) (by kernel_rfl) (by simp) ?_
  refine AllReady.cons rfl (fun K hK => ?_) ?_
  · have hcx := (X.v0.on B.out).cell
    delta bxops8
    go_simp
    refine hK _ _ ?_
    exact bx8_0_2_8 X V n B N _ (by kernel_rfl)
  exact AllReady.nil
set_option maxRecDepth 100000 in
set_option maxHeartbeats 2000000 in
theorem bx8_2 {W : World} {g0 g1 : Nat} {a0 a1 : Option Addr} {c0 c1 : Nat} {xs0 xs1 out : List Int} {r1 : Bool} {Q : Exit → Act → World → Prop} {x0 x1 x4 x5 x8 x9 x10 x11 x12 x13 x14 x15 x16 x17 x18 x19 x20 x21 x22 x23 x24 x25 x26 x35 x36 x37 x38 x39 x40 x41 x42 x43 x44 x45 x46 x47 x48 x49 x50 x51 x52 x53 x54 x55 x56 x57 x58 x59 x60 x61 x62 x63 x64 x65 x66 x67 x68 x69 x70 x71 x72 x73 x74 x75 x76 x77 x78 x79 x80 x81 x82 x83 x84 x85 x86 x87 x88 x89 x90 x91 x92 x93 x94 x95 x96 x97 x98 x99 x100 x101 x102 x103 x104 x105 x106 x107 x108 x109 x110 x111 x112 x113 x114 x115 x116 x117 x118 : Value} (X : Bx8 W g0 g1 a0 a1 c0 c1 xs0 xs1 out r1 Q x0 x1 x4 x5 x8 x9 x10 x11 x12 x13 x14 x15 x16 x17 x18 x19 x20 x21 x22 x23 x24 x25 x26 x35 x36 x37 x38 x39 x40 x41 x42 x43 x44 x45 x46 x47 x48 x49 x50 x51 x52 x53 x54 x55 x56 x57 x58 x59 x60 x61 x62 x63 x64 x65 x66 x67 x68 x69 x70 x71 x72 x73 x74 x75 x76 x77 x78 x79 x80 x81 x82 x83 x84 x85 x86 x87 x88 x89 x90 x91 x92 x93 x94 x95 x96 x97 x98 x99 x100 x101 x102 x103 x104 x105 x106 x107 x108 x109 x110 x111 x112 x113 x114 x115 x116 x117 x118) (V : World)  (B : Hid (Below W.heap.size W V)) (L : Array Bool) (hL : L = #[false, false, true, false, false, false, false, false, false, false, false]) :
    wpAny Try.prog .any bxops8 Q 10 L { tmps := #[x0, x1, .pointer (some ⟨g0, 0, none⟩), .pointer (some ⟨g1, 0, none⟩), x4, x5, undef, undef, x8, x9, x10, x11, x12, x13, x14, x15, x16, x17, x18, x19, x20, x21, x22, x23, x24, x25, x26, undef, undef, undef, .agg #[.slice a1 xs1.length c1], undef, undef, undef, undef, x35, x36, x37, x38, x39, x40, x41, x42, x43, x44, x45, x46, x47, x48, x49, x50, x51, x52, x53, x54, x55, x56, x57, x58, x59, x60, x61, x62, x63, x64, x65, x66, x67, x68, x69, x70, x71, x72, x73, x74, x75, x76, x77, x78, x79, x80, x81, x82, x83, x84, x85, x86, x87, x88, x89, x90, x91, x92, x93, x94, x95, x96, x97, x98, x99, x100, x101, x102, x103, x104, x105, x106, x107, x108, x109, x110, x111, x112, x113, x114, x115, x116, x117, x118], defers := [] } V := by
  subst hL
  refine wpAny_ready (rs := [0, 8]) (by kernel_rfl) (by simp) ?_
  refine AllReady.cons rfl (fun K hK => ?_) ?_
  · have hcx := (X.v0.on B.out).cell
    delta bxops8
    go_simp
    refine hK _ _ ?_
    exact bx8_0_2 X V  B _ (by kernel_rfl)
  refine AllReady.cons rfl (fun K hK => ?_) ?_
  · have hb : Below V.heap.size V (V.alloc (.cells #[.slice none 0 0] 26)) := (Below.refl _ _).alloc (Nat.le_refl _) _
    delta bxops8
    go_simp
    refine hK _ _ ?_
    exact bx8_2_8 X _ V.heap.size (Lib.hid (B.out.trans (hb.mono B.out.size))) (Lib.hid (And.intro B.out.size (famAt_new _ _))) _ (by kernel_rfl)
  exact AllReady.nil
set_option maxRecDepth 100000 in
set_option maxHeartbeats 2000000 in
theorem bx8_8 {W : World} {g0 g1 : Nat} {a0 a1 : Option Addr} {c0 c1 : Nat} {xs0 xs1 out : List Int} {r1 : Bool} {Q : Exit → Act → World → Prop} {x0 x1 x4 x5 x8 x9 x10 x11 x12 x13 x14 x15 x16 x17 x18 x19 x20 x21 x22 x23 x24 x25 x26 x35 x36 x37 x38 x39 x40 x41 x42 x43 x44 x45 x46 x47 x48 x49 x50 x51 x52 x53 x54 x55 x56 x57 x58 x59 x60 x61 x62 x63 x64 x65 x66 x67 x68 x69 x70 x71 x72 x73 x74 x75 x76 x77 x78 x79 x80 x81 x82 x83 x84 x85 x86 x87 x88 x89 x90 x91 x92 x93 x94 x95 x96 x97 x98 x99 x100 x101 x102 x103 x104 x105 x106 x107 x108 x109 x110 x111 x112 x113 x114 x115 x116 x117 x118 : Value} (X : Bx8 W g0 g1 a0 a1 c0 c1 xs0 xs1 out r1 Q x0 x1 x4 x5 x8 x9 x10 x11 x12 x13 x14 x15 x16 x17 x18 x19 x20 x21 x22 x23 x24 x25 x26 x35 x36 x37 x38 x39 x40 x41 x42 x43 x44 x45 x46 x47 x48 x49 x50 x51 x52 x53 x54 x55 x56 x57 x58 x59 x60 x61 x62 x63 x64 x65 x66 x67 x68 x69 x70 x71 x72 x73 x74 x75 x76 x77 x78 x79 x80 x81 x82 x83 x84 x85 x86 x87 x88 x89 x90 x91 x92 x93 x94 x95 x96 x97 x98 x99 x100 x101 x102 x103 x104 x105 x106 x107 x108 x109 x110 x111 x112 x113 x114 x115 x116 x117 x118) (V : World) (n : Nat) (B : Hid (Below W.heap.size W V)) (N : Hid (W.heap.size ≤ n ∧ FamAt V n (.slice none 0 0))) (L : Array Bool) (hL : L = #[false, false, false, false, false, false, false, false, true, false, false]) :
    wpAny Try.prog .any bxops8 Q 10 L { tmps := #[x0, x1, .pointer (some ⟨g0, 0, none⟩), .pointer (some ⟨g1, 0, none⟩), x4, x5, .pointer (some ⟨n, 0, none⟩), undef, x8, x9, x10, x11, x12, x13, x14, x15, x16, x17, x18, x19, x20, x21, x22, x23, x24, x25, x26, undef, undef, undef, undef, undef, undef, undef, undef, x35, x36, x37, x38, x39, x40, x41, x42, x43, x44, x45, x46, x47, x48, x49, x50, x51, x52, x53, x54, x55, x56, x57, x58, x59, x60, x61, x62, x63, x64, x65, x66, x67, x68, x69, x70, x71, x72, x73, x74, x75, x76, x77, x78, x79, x80, x81, x82, x83, x84, x85, x86, x87, x88, x89, x90, x91, x92, x93, x94, x95, x96, x97, x98, x99, x100, x101, x102, x103, x104, x105, x106, x107, x108, x109, x110, x111, x112, x113, x114, x115, x116, x117, x118], defers := [] } V := by
  subst hL
  refine wpAny_ready (rs := [0, 2]) (by kernel_rfl) (by simp) ?_
  refine AllReady.cons rfl (fun K hK => ?_) ?_
  · have hcx := (X.v0.on B.out).cell
    delta bxops8
    go_simp
    refine hK _ _ ?_
    exact bx8_0_8 X V n B N _ (by kernel_rfl)
  refine AllReady.cons rfl (fun K hK => ?_) ?_
  · have hcx := (X.v1.on B.out).cell
    delta bxops8
    go_simp
    refine hK _ _ ?_
    exact bx8_2_8 X V n B N _ (by kernel_rfl)
  exact AllReady.nil
set_option maxRecDepth 100000 in
set_option maxHeartbeats 2000000 in
theorem bx8_start {W : World} {g0 g1 : Nat} {a0 a1 : Option Addr} {c0 c1 : Nat} {xs0 xs1 out : List Int} {r1 : Bool} {Q : Exit → Act → World → Prop} {x0 x1 x4 x5 x8 x9 x10 x11 x12 x13 x14 x15 x16 x17 x18 x19 x20 x21 x22 x23 x24 x25 x26 x35 x36 x37 x38 x39 x40 x41 x42 x43 x44 x45 x46 x47 x48 x49 x50 x51 x52 x53 x54 x55 x56 x57 x58 x59 x60 x61 x62 x63 x64 x65 x66 x67 x68 x69 x70 x71 x72 x73 x74 x75 x76 x77 x78 x79 x80 x81 x82 x83 x84 x85 x86 x87 x88 x89 x90 x91 x92 x93 x94 x95 x96 x97 x98 x99 x100 x101 x102 x103 x104 x105 x106 x107 x108 x109 x110 x111 x112 x113 x114 x115 x116 x117 x118 : Value} (X : Bx8 W g0 g1 a0 a1 c0 c1 xs0 xs1 out r1 Q x0 x1 x4 x5 x8 x9 x10 x11 x12 x13 x14 x15 x16 x17 x18 x19 x20 x21 x22 x23 x24 x25 x26 x35 x36 x37 x38 x39 x40 x41 x42 x43 x44 x45 x46 x47 x48 x49 x50 x51 x52 x53 x54 x55 x56 x57 x58 x59 x60 x61 x62 x63 x64 x65 x66 x67 x68 x69 x70 x71 x72 x73 x74 x75 x76 x77 x78 x79 x80 x81 x82 x83 x84 x85 x86 x87 x88 x89 x90 x91 x92 x93 x94 x95 x96 x97 x98 x99 x100 x101 x102 x103 x104 x105 x106 x107 x108 x109 x110 x111 x112 x113 x114 x115 x116 x117 x118) (V : World)  (B : Hid (Below W.heap.size W V)) (L : Array Bool) (hL : L = #[false, false, false, false, false, false, false, false, false, false, false]) :
    wpAny Try.prog .any bxops8 Q 11 L { tmps := #[x0, x1, .pointer (some ⟨g0, 0, none⟩), .pointer (some ⟨g1, 0, none⟩), x4, x5, undef, undef, x8, x9, x10, x11, x12, x13, x14, x15, x16, x17, x18, x19, x20, x21, x22, x23, x24, x25, x26, undef, undef, undef, undef, undef, undef, undef, undef, x35, x36, x37, x38, x39, x40, x41, x42, x43, x44, x45, x46, x47, x48, x49, x50, x51, x52, x53, x54, x55, x56, x57, x58, x59, x60, x61, x62, x63, x64, x65, x66, x67, x68, x69, x70, x71, x72, x73, x74, x75, x76, x77, x78, x79, x80, x81, x82, x83, x84, x85, x86, x87, x88, x89, x90, x91, x92, x93, x94, x95, x96, x97, x98, x99, x100, x101, x102, x103, x104, x105, x106, x107, x108, x109, x110, x111, x112, x113, x114, x115, x116, x117, x118], defers := [] } V := by
  subst hL
  refine wpAny_ready (rs := [0, 2, 8]) (by kernel_rfl) (by simp) ?_
  refine AllReady.cons rfl (fun K hK => ?_) ?_
  · have hcx := (X.v0.on B.out).cell
    delta bxops8
    go_simp
    refine hK _ _ ?_
    exact bx8_0 X V  B _ (by kernel_rfl)
  refine AllReady.cons rfl (fun K hK => ?_) ?_
  · have hcx := (X.v1.on B.out).cell
    delta bxops8
    go_simp
    refine hK _ _ ?_
    exact bx8_2 X V  B _ (by kernel_rfl)
  refine AllReady.cons rfl (fun K hK => ?_) ?_
  · have hb : Below V.heap.size V (V.alloc (.cells #[.slice none 0 0] 26)) := (Below.refl _ _).alloc (Nat.le_refl _) _
    delta bxops8
    go_simp
    refine hK _ _ ?_
    exact bx8_8 X _ V.heap.size (Lib.hid (B.out.trans (hb.mono B.out.size))) (Lib.hid (And.intro B.out.size (famAt_new _ _))) _ (by kernel_rfl)
  exact AllReady.nil

def bxops31 : Array Oper := #[{ dst := some 95, op := Op.load 24 (Operand.tmp 2), type := 24, pos := "exact.go:3366", after := #[], guard := none },
  { dst := some 96, op := Op.call { callee := Callee.value (Operand.func 9), args := #[Operand.tmp 95], argTypes := #[24] }, type := 26, pos := "exact.go:3366", after := #[{ on := 0, ground := Ground.data }], guard := none },
  { dst := some 97, op := Op.load 24 (Operand.tmp 3), type := 24, pos := "exact.go:3366", after := #[], guard := none },
  { dst := some 98, op := Op.call { callee := Callee.value (Operand.func 9), args := #[Operand.tmp 97], argTypes := #[24] }, type := 26, pos := "exact.go:3366", after := #[{ on := 2, ground := Ground.data }, { on := 1, ground := Ground.chain }], guard := none },
  { dst := some 99, op := Op.call { callee := Callee.value (Operand.func 15), args := #[Operand.tmp 96, Operand.tmp 98], argTypes := #[26, 26] }, type := 27, pos := "exact.go:3366", after := #[{ on := 1, ground := Ground.data }, { on := 3, ground := Ground.data }, { on := 3, ground := Ground.chain }], guard := none },
  { dst := some 94, op := Op.move (Operand.tmp 99), type := 27, pos := "exact.go:3366", after := #[{ on := 4, ground := Ground.data }], guard := none },
  { dst := some 100, op := Op.extract (Operand.tmp 94) 0, type := 26, pos := "exact.go:3366", after := #[{ on := 5, ground := Ground.data }], guard := none },
  { dst := some 101, op := Op.extract (Operand.tmp 94) 1, type := 4, pos := "exact.go:3366", after := #[{ on := 5, ground := Ground.data }, { on := 9, ground := Ground.gcOnly Departure.lateStores }], guard := none },
  { dst := some 15, op := Op.alloc 26, type := 0, pos := "exact.go:3366", after := #[], guard := none },
  { dst := none, op := Op.store 26 (Operand.tmp 15) (Operand.tmp 100), type := 0, pos := "exact.go:3366", after := #[{ on := 8, ground := Ground.data }, { on := 6, ground := Ground.data }, { on := 4, ground := Ground.chain }, { on := 0, ground := Ground.phase }, { on := 1, ground := Ground.phase }, { on := 2, ground := Ground.phase }, { on := 3, ground := Ground.phase }, { on := 4, ground := Ground.phase }, { on := 5, ground := Ground.phase }, { on := 6, ground := Ground.phase }, { on := 7, ground := Ground.textOnly Departure.lateStores }, { on := 8, ground := Ground.phase }], guard := none },
  { dst := some 16, op := Op.assign (Operand.tmp 101), type := 4, pos := "exact.go:3366", after := #[{ on := 7, ground := Ground.data }, { on := 9, ground := Ground.chain }, { on := 0, ground := Ground.phase }, { on := 1, ground := Ground.phase }, { on := 2, ground := Ground.phase }, { on := 3, ground := Ground.phase }, { on := 4, ground := Ground.phase }, { on := 5, ground := Ground.phase }, { on := 6, ground := Ground.phase }, { on := 7, ground := Ground.phase }, { on := 8, ground := Ground.phase }, { on := 9, ground := Ground.phase }], guard := none }]
structure Bx31 (W : World) (g0 g1 : Nat) (a0 a1 : Option Addr) (c0 c1 : Nat) (xs0 xs1 out : List Int) (r1 : Bool) (Q : Exit → Act → World → Prop) (x0 x1 x4 x5 x6 x7 x8 x9 x10 x11 x12 x13 x14 x17 x18 x19 x20 x21 x22 x23 x24 x25 x26 x27 x28 x29 x30 x31 x32 x33 x34 x35 x36 x37 x38 x39 x40 x41 x42 x43 x44 x45 x46 x47 x48 x49 x50 x51 x52 x53 x54 x55 x56 x57 x58 x59 x60 x61 x62 x63 x64 x65 x66 x67 x68 x69 x70 x71 x72 x73 x74 x75 x76 x77 x78 x79 x80 x81 x82 x83 x84 x85 x86 x87 x88 x89 x90 x91 x92 x93 x102 x103 x104 x105 x106 x107 x108 x109 x110 x111 x112 x113 x114 x115 x116 x117 x118 : Value) : Prop where
  i0 : Ints W a0 xs0
  i1 : Ints W a1 xs1
  l0 : xs0.length ≤ 1048576
  l1 : xs1.length ≤ 1048576
  v0 : At1 24 W g0 (.slice a0 xs0.length c0)
  v1 : At1 24 W g1 (.slice a1 xs1.length c1)
  p : ∀ a1 c1 a2 c2 w, Hid (Ints w a1 xs0) → Hid (Ints w a2 xs1) → Calls Try.prog 15 #[.agg #[.slice a1 xs0.length c1], .agg #[.slice a2 xs1.length c2]] w (FB out r1 w)
  q : ∀ (b0 : Option Addr) (d0 : Nat) (b1 : Option Addr) (d1 : Nat) (a : Option Addr) (c n : Nat) (V : World), Boxed W out n a c V → Q .normal { tmps := #[x0, x1, .pointer (some ⟨g0, 0, none⟩), .pointer (some ⟨g1, 0, none⟩), x4, x5, x6, x7, x8, x9, x10, x11, x12, x13, x14, .pointer (some ⟨n, 0, none⟩), .bool r1, x17, x18, x19, x20, x21, x22, x23, x24, x25, x26, x27, x28, x29, x30, x31, x32, x33, x34, x35, x36, x37, x38, x39, x40, x41, x42, x43, x44, x45, x46, x47, x48, x49, x50, x51, x52, x53, x54, x55, x56, x57, x58, x59, x60, x61, x62, x63, x64, x65, x66, x67, x68, x69, x70, x71, x72, x73, x74, x75, x76, x77, x78, x79, x80, x81, x82, x83, x84, x85, x86, x87, x88, x89, x90, x91, x92, x93, .tuple #[.agg #[.slice a out.length c], .bool r1], .agg #[.slice a0 xs0.length c0], .agg #[.slice b0 xs0.length d0], .agg #[.slice a1 xs1.length c1], .agg #[.slice b1 xs1.length d1], .tuple #[.agg #[.slice a out.length c], .bool r1], .agg #[.slice a out.length c], .bool r1, x102, x103, x104, x105, x106, x107, x108, x109, x110, x111, x112, x113, x114, x115, x116, x117, x118], defers := [] } V
set_option maxRecDepth 100000 in
set_option maxHeartbeats 2000000 in
theorem bx31_0_1_2_3_4_5_6_7_8_9_10 {W : World} {g0 g1 : Nat} {a0 a1 : Option Addr} {c0 c1 : Nat} {xs0 xs1 out : List Int} {r1 : Bool} {Q : Exit → Act → World → Prop} {x0 x1 x4 x5 x6 x7 x8 x9 x10 x11 x12 x13 x14 x17 x18 x19 x20 x21 x22 x23 x24 x25 x26 x27 x28 x29 x30 x31 x32 x33 x34 x35 x36 x37 x38 x39 x40 x41 x42 x43 x44 x45 x46 x47 x48 x49 x50 x51 x52 x53 x54 x55 x56 x57 x58 x59 x60 x61 x62 x63 x64 x65 x66 x67 x68 x69 x70 x71 x72 x73 x74 x75 x76 x77 x78 x79 x80 x81 x82 x83 x84 x85 x86 x87 x88 x89 x90 x91 x92 x93 x102 x103 x104 x105 x106 x107 x108 x109 x110 x111 x112 x113 x114 x115 x116 x117 x118 : Value} (X : Bx31 W g0 g1 a0 a1 c0 c1 xs0 xs1 out r1 Q x0 x1 x4 x5 x6 x7 x8 x9 x10 x11 x12 x13 x14 x17 x18 x19 x20 x21 x22 x23 x24 x25 x26 x27 x28 x29 x30 x31 x32 x33 x34 x35 x36 x37 x38 x39 x40 x41 x42 x43 x44 x45 x46 x47 x48 x49 x50 x51 x52 x53 x54 x55 x56 x57 x58 x59 x60 x61 x62 x63 x64 x65 x66 x67 x68 x69 x70 x71 x72 x73 x74 x75 x76 x77 x78 x79 x80 x81 x82 x83 x84 x85 x86 x87 x88 x89 x90 x91 x92 x93 x102 x103 x104 x105 x106 x107 x108 x109 x110 x111 x112 x113 x114 x115 x116 x117 x118) (V : World) (b0 : Option Addr) (d0 : Nat) (b1 : Option Addr) (d1 : Nat) (a : Option Addr) (c : Nat) (n : Nat) (R : Hid (Boxed W out n a c V)) (L : Array Bool) (hL : L = #[true, true, true, true, true, true, true, true, true, true, true]) :
    wpAny Try.prog .any bxops31 Q 0 L { tmps := #[x0, x1, .pointer (some ⟨g0, 0, none⟩), .pointer (some ⟨g1, 0, none⟩), x4, x5, x6, x7, x8, x9, x10, x11, x12, x13, x14, .pointer (some ⟨n, 0, none⟩), .bool r1, x17, x18, x19, x20, x21, x22, x23, x24, x25, x26, x27, x28, x29, x30, x31, x32, x33, x34, x35, x36, x37, x38, x39, x40, x41, x42, x43, x44, x45, x46, x47, x48, x49, x50, x51, x52, x53, x54, x55, x56, x57, x58, x59, x60, x61, x62, x63, x64, x65, x66, x67, x68, x69, x70, x71, x72, x73, x74, x75, x76, x77, x78, x79, x80, x81, x82, x83, x84, x85, x86, x87, x88, x89, x90, x91, x92, x93, .tuple #[.agg #[.slice a out.length c], .bool r1], .agg #[.slice a0 xs0.length c0], .agg #[.slice b0 xs0.length d0], .agg #[.slice a1 xs1.length c1], .agg #[.slice b1 xs1.length d1], .tuple #[.agg #[.slice a out.length c], .bool r1], .agg #[.slice a out.length c], .bool r1, x102, x103, x104, x105, x106, x107, x108, x109, x110, x111, x112, x113, x114, x115, x116, x117, x118], defers := [] } V := by
  subst hL
  exact wpAny_done (by kernel_rfl) (X.q b0 d0 b1 d1 a c n V R.out) _
set_option maxRecDepth 100000 in
set_option maxHeartbeats 2000000 in
theorem bx31_0_1_2_3_4_5_6_7_8_9 {W : World} {g0 g1 : Nat} {a0 a1 : Option Addr} {c0 c1 : Nat} {xs0 xs1 out : List Int} {r1 : Bool} {Q : Exit → Act → World → Prop} {x0 x1 x4 x5 x6 x7 x8 x9 x10 x11 x12 x13 x14 x17 x18 x19 x20 x21 x22 x23 x24 x25 x26 x27 x28 x29 x30 x31 x32 x33 x34 x35 x36 x37 x38 x39 x40 x41 x42 x43 x44 x45 x46 x47 x48 x49 x50 x51 x52 x53 x54 x55 x56 x57 x58 x59 x60 x61 x62 x63 x64 x65 x66 x67 x68 x69 x70 x71 x72 x73 x74 x75 x76 x77 x78 x79 x80 x81 x82 x83 x84 x85 x86 x87 x88 x89 x90 x91 x92 x93 x102 x103 x104 x105 x106 x107 x108 x109 x110 x111 x112 x113 x114 x115 x116 x117 x118 : Value} (X : Bx31 W g0 g1 a0 a1 c0 c1 xs0 xs1 out r1 Q x0 x1 x4 x5 x6 x7 x8 x9 x10 x11 x12 x13 x14 x17 x18 x19 x20 x21 x22 x23 x24 x25 x26 x27 x28 x29 x30 x31 x32 x33 x34 x35 x36 x37 x38 x39 x40 x41 x42 x43 x44 x45 x46 x47 x48 x49 x50 x51 x52 x53 x54 x55 x56 x57 x58 x59 x60 x61 x62 x63 x64 x65 x66 x67 x68 x69 x70 x71 x72 x73 x74 x75 x76 x77 x78 x79 x80 x81 x82 x83 x84 x85 x86 x87 x88 x89 x90 x91 x92 x93 x102 x103 x104 x105 x106 x107 x108 x109 x110 x111 x112 x113 x114 x115 x116 x117 x118) (V : World) (b0 : Option Addr) (d0 : Nat) (b1 : Option Addr) (d1 : Nat) (a : Option Addr) (c : Nat) (n : Nat) (R : Hid (Boxed W out n a c V)) (L : Array Bool) (hL : L = #[true, true, true, true, true, true, true, true, true, true, false]) :
    wpAny Try.prog .any bxops31 Q 1 L { tmps := #[x0, x1, .pointer (some ⟨g0, 0, none⟩), .pointer (some ⟨g1, 0, none⟩), x4, x5, x6, x7, x8, x9, x10, x11, x12, x13, x14, .pointer (some ⟨n, 0, none⟩), undef, x17, x18, x19, x20, x21, x22, x23, x24, x25, x26, x27, x28, x29, x30, x31, x32, x33, x34, x35, x36, x37, x38, x39, x40, x41, x42, x43, x44, x45, x46, x47, x48, x49, x50, x51, x52, x53, x54, x55, x56, x57, x58, x59, x60, x61, x62, x63, x64, x65, x66, x67, x68, x69, x70, x71, x72, x73, x74, x75, x76, x77, x78, x79, x80, x81, x82, x83, x84, x85, x86, x87, x88, x89, x90, x91, x92, x93, .tuple #[.agg #[.slice a out.length c], .bool r1], .agg #[.slice a0 xs0.length c0], .agg #[.slice b0 xs0.length d0], .agg #[.slice a1 xs1.length c1], .agg #[.slice b1 xs1.length d1], .tuple #[.agg #[.slice a out.length c], .bool r1], .agg #[.slice a out.length c], .bool r1, x102, x103, x104, x105, x106, x107, x108, x109, x110, x111, x112, x113, x114, x115, x116, x117, x118], defers := [] } V := by
  subst hL
  refine wpAny_ready (rs := [10]) (by kernel_rfl) (by simp) ?_
  refine AllReady.cons rfl (fun K hK => ?_) ?_
  · delta bxops31
    go_simp
    refine hK _ _ ?_
    exact bx31_0_1_2_3_4_5_6_7_8_9_10 X V b0 d0 b1 d1 a c n R _ (by kernel_rfl)
  exact AllReady.nil
set_option maxRecDepth 100000 in
set_option maxHeartbeats 2000000 in
theorem bx31_0_1_2_3_4_5_6_7_8 {W : World} {g0 g1 : Nat} {a0 a1 : Option Addr} {c0 c1 : Nat} {xs0 xs1 out : List Int} {r1 : Bool} {Q : Exit → Act → World → Prop} {x0 x1 x4 x5 x6 x7 x8 x9 x10 x11 x12 x13 x14 x17 x18 x19 x20 x21 x22 x23 x24 x25 x26 x27 x28 x29 x30 x31 x32 x33 x34 x35 x36 x37 x38 x39 x40 x41 x42 x43 x44 x45 x46 x47 x48 x49 x50 x51 x52 x53 x54 x55 x56 x57 x58 x59 x60 x61 x62 x63 x64 x65 x66 x67 x68 x69 x70 x71 x72 x73 x74 x75 x76 x77 x78 x79 x80 x81 x82 x83 x84 x85 x86 x87 x88 x89 x90 x91 x92 x93 x102 x103 x104 x105 x106 x107 x108 x109 x110 x111 x112 x113 x114 x115 x116 x117 x118 : Value} (X : Bx31 W g0 g1 a0 a1 c0 c1 xs0 xs1 out r1 Q x0 x1 x4 x5 x6 x7 x8 x9 x10 x11 x12 x13 x14 x17 x18 x19 x20 x21 x22 x23 x24 x25 x26 x27 x28 x29 x30 x31 x32 x33 x34 x35 x36 x37 x38 x39 x40 x41 x42 x43 x44 x45 x46 x47 x48 x49 x50 x51 x52 x53 x54 x55 x56 x57 x58 x59 x60 x61 x62 x63 x64 x65 x66 x67 x68 x69 x70 x71 x72 x73 x74 x75 x76 x77 x78 x79 x80 x81 x82 x83 x84 x85 x86 x87 x88 x89 x90 x91 x92 x93 x102 x103 x104 x105 x106 x107 x108 x109 x110 x111 x112 x113 x114 x115 x116 x117 x118) (V : World) (b0 : Option Addr) (d0 : Nat) (b1 : Option Addr) (d1 : Nat) (a : Option Addr) (c : Nat) (n : Nat) (P : Hid (PreBox W out n a c V)) (L : Array Bool) (hL : L = #[true, true, true, true, true, true, true, true, true, false, false]) :
    wpAny Try.prog .any bxops31 Q 2 L { tmps := #[x0, x1, .pointer (some ⟨g0, 0, none⟩), .pointer (some ⟨g1, 0, none⟩), x4, x5, x6, x7, x8, x9, x10, x11, x12, x13, x14, .pointer (some ⟨n, 0, none⟩), undef, x17, x18, x19, x20, x21, x22, x23, x24, x25, x26, x27, x28, x29, x30, x31, x32, x33, x34, x35, x36, x37, x38, x39, x40, x41, x42, x43, x44, x45, x46, x47, x48, x49, x50, x51, x52, x53, x54, x55, x56, x57, x58, x59, x60, x61, x62, x63, x64, x65, x66, x67, x68, x69, x70, x71, x72, x73, x74, x75, x76, x77, x78, x79, x80, x81, x82, x83, x84, x85, x86, x87, x88, x89, x90, x91, x92, x93, .tuple #[.agg #[.slice a out.length c], .bool r1], .agg #[.slice a0 xs0.length c0], .agg #[.slice b0 xs0.length d0], .agg #[.slice a1 xs1.length c1], .agg #[.slice b1 xs1.length d1], .tuple #[.agg #[.slice a out.length c], .bool r1], .agg #[.slice a out.length c], .bool r1, x102, x103, x104, x105, x106, x107, x108, x109, x110, x111, x112, x113, x114, x115, x116, x117, x118], defers := [] } V := by
  subst hL
  refine wpAny_ready (rs := [9]) (by kernel_rfl) (by simp) ?_
  refine AllReady.cons rfl (fun K hK => ?_) ?_
  · have hcr := P.out.1.cell
    have hfr := P.out.1.free
    delta bxops31
    go_simp
    refine hK _ _ ?_
    exact bx31_0_1_2_3_4_5_6_7_8_9 X _ b0 d0 b1 d1 a c n (Lib.hid P.out.2) _ (by kernel_rfl)
  exact AllReady.nil
set_option maxRecDepth 100000 in
set_option maxHeartbeats 2000000 in
theorem bx31_0_1_2_3_4_5_6_7 {W : World} {g0 g1 : Nat} {a0 a1 : Option Addr} {c0 c1 : Nat} {xs0 xs1 out : List Int} {r1 : Bool} {Q : Exit → Act → World → Prop} {x0 x1 x4 x5 x6 x7 x8 x9 x10 x11 x12 x13 x14 x17 x18 x19 x20 x21 x22 x23 x24 x25 x26 x27 x28 x29 x30 x31 x32 x33 x34 x35 x36 x37 x38 x39 x40 x41 x42 x43 x44 x45 x46 x47 x48 x49 x50 x51 x52 x53 x54 x55 x56 x57 x58 x59 x60 x61 x62 x63 x64 x65 x66 x67 x68 x69 x70 x71 x72 x73 x74 x75 x76 x77 x78 x79 x80 x81 x82 x83 x84 x85 x86 x87 x88 x89 x90 x91 x92 x93 x102 x103 x104 x105 x106 x107 x108 x109 x110 x111 x112 x113 x114 x115 x116 x117 x118 : Value} (X : Bx31 W g0 g1 a0 a1 c0 c1 xs0 xs1 out r1 Q x0 x1 x4 x5 x6 x7 x8 x9 x10 x11 x12 x13 x14 x17 x18 x19 x20 x21 x22 x23 x24 x25 x26 x27 x28 x29 x30 x31 x32 x33 x34 x35 x36 x37 x38 x39 x40 x41 x42 x43 x44 x45 x46 x47 x48 x49 x50 x51 x52 x53 x54 x55 x56 x57 x58 x59 x60 x61 x62 x63 x64 x65 x66 x67 x68 x69 x70 x71 x72 x73 x74 x75 x76 x77 x78 x79 x80 x81 x82 x83 x84 x85 x86 x87 x88 x89 x90 x91 x92 x93 x102 x103 x104 x105 x106 x107 x108 x109 x110 x111 x112 x113 x114 x115 x116 x117 x118) (V : World) (b0 : Option Addr) (d0 : Nat) (b1 : Option Addr) (d1 : Nat) (a : Option Addr) (c : Nat) (O : Hid (OutAt W out a c V)) (L : Array Bool) (hL : L = #[true, true, true, true, true, true, true, true, false, false, false]) :
    wpAny Try.prog .any bxops31 Q 3 L { tmps := #[x0, x1, .pointer (some ⟨g0, 0, none⟩), .pointer (some ⟨g1, 0, none⟩), x4, x5, x6, x7, x8, x9, x10, x11, x12, x13, x14, undef, undef, x17, x18, x19, x20, x21, x22, x23, x24, x25, x26, x27, x28, x29, x30, x31, x32, x33, x34, x35, x36, x37, x38, x39, x40, x41, x42, x43, x44, x45, x46, x47, x48, x49, x50, x51, x52, x53, x54, x55, x56, x57, x58, x59, x60, x61, x62, x63, x64, x65, x66, x67, x68, x69, x70, x71, x72, x73, x74, x75, x76, x77, x78, x79, x80, x81, x82, x83, x84, x85, x86, x87, x88, x89, x90, x91, x92, x93, .tuple #[.agg #[.slice a out.length c], .bool r1], .agg #[.slice a0 xs0.length c0], .agg #[.slice b0 xs0.length d0], .agg #[.slice a1 xs1.length c1], .agg #[.slice b1 xs1.length d1], .tuple #[.agg #[.slice a out.length c], .bool r1], .agg #[.slice a out.length c], .bool r1, x102, x103, x104, x105, x106, x107, x108, x109, x110, x111, x112, x113, x114, x115, x116, x117, x118], defers := [] } V := by
  subst hL
  refine wpAny_ready (rs := [8]) (by kernel_rfl) (by simp) ?_
  refine AllReady.cons rfl (fun K hK => ?_) ?_
  · have hb : Below V.heap.size V (V.alloc (.cells #[.slice none 0 0] 26)) := (Below.refl _ _).alloc (Nat.le_refl _) _
    delta bxops31
    go_simp
    refine hK _ _ ?_
    exact bx31_0_1_2_3_4_5_6_7_8 X _ b0 d0 b1 d1 a c V.heap.size (Lib.hid (pre_after O.out)) _ (by kernel_rfl)
  exact AllReady.nil
set_option maxRecDepth 100000 in
set_option maxHeartbeats 2000000 in
theorem bx31_0_1_2_3_4_5_6_8_9 {W : World} {g0 g1 : Nat} {a0 a1 : Option Addr} {c0 c1 : Nat} {xs0 xs1 out : List Int} {r1 : Bool} {Q : Exit → Act → World → Prop} {x0 x1 x4 x5 x6 x7 x8 x9 x10 x11 x12 x13 x14 x17 x18 x19 x20 x21 x22 x23 x24 x25 x26 x27 x28 x29 x30 x31 x32 x33 x34 x35 x36 x37 x38 x39 x40 x41 x42 x43 x44 x45 x46 x47 x48 x49 x50 x51 x52 x53 x54 x55 x56 x57 x58 x59 x60 x61 x62 x63 x64 x65 x66 x67 x68 x69 x70 x71 x72 x73 x74 x75 x76 x77 x78 x79 x80 x81 x82 x83 x84 x85 x86 x87 x88 x89 x90 x91 x92 x93 x102 x103 x104 x105 x106 x107 x108 x109 x110 x111 x112 x113 x114 x115 x116 x117 x118 : Value} (X : Bx31 W g0 g1 a0 a1 c0 c1 xs0 xs1 out r1 Q x0 x1 x4 x5 x6 x7 x8 x9 x10 x11 x12 x13 x14 x17 x18 x19 x20 x21 x22 x23 x24 x25 x26 x27 x28 x29 x30 x31 x32 x33 x34 x35 x36 x37 x38 x39 x40 x41 x42 x43 x44 x45 x46 x47 x48 x49 x50 x51 x52 x53 x54 x55 x56 x57 x58 x59 x60 x61 x62 x63 x64 x65 x66 x67 x68 x69 x70 x71 x72 x73 x74 x75 x76 x77 x78 x79 x80 x81 x82 x83 x84 x85 x86 x87 x88 x89 x90 x91 x92 x93 x102 x103 x104 x105 x106 x107 x108 x109 x110 x111 x112 x113 x114 x115 x116 x117 x118) (V : World) (b0 : Option Addr) (d0 : Nat) (b1 : Option Addr) (d1 : Nat) (a : Option Addr) (c : Nat) (n : Nat) (R : Hid (Boxed W out n a c V)) (L : Array Bool) (hL : L = #[true, true, true, true, true, true, true, false, true, true, false]) :
    wpAny Try.prog .any bxops31 Q 2 L { tmps := #[x0, x1, .pointer (some ⟨g0, 0, none⟩), .pointer (some ⟨g1, 0, none⟩), x4, x5, x6, x7, x8, x9, x10, x11, x12, x13, x14, .pointer (some ⟨n, 0, none⟩), undef, x17, x18, x19, x20, x21, x22, x23, x24, x25, x26, x27, x28, x29, x30, x31, x32, x33, x34, x35, x36, x37, x38, x39, x40, x41, x42, x43, x44, x45, x46, x47, x48, x49, x50, x51, x52, x53, x54, x55, x56, x57, x58, x59, x60, x61, x62, x63, x64, x65, x66, x67, x68, x69, x70, x71, x72, x73, x74, x75, x76, x77, x78, x79, x80, x81, x82, x83, x84, x85, x86, x87, x88, x89, x90, x91, x92, x93, .tuple #[.agg #[.slice a out.length c], .bool r1], .agg #[.slice a0 xs0.length c0], .agg #[.slice b0 xs0.length d0], .agg #[.slice a1 xs1.length c1], .agg #[.slice b1 xs1.length d1], .tuple #[.agg #[.slice a out.length c], .bool r1], .agg #[.slice a out.length c], undef, x102, x103, x104, x105, x106, x107, x108, x109, x110, x111, x112, x113, x114, x115, x116, x117, x118], defers := [] } V := by
  subst hL
  refine wpAny_ready (rs := [7]) (by kernel_rfl) (by simp) ?_
  refine AllReady.cons rfl (fun K hK => ?_) ?_
  · delta bxops31
    go_simp
    refine hK _ _ ?_
    exact bx31_0_1_2_3_4_5_6_7_8_9 X V b0 d0 b1 d1 a c n R _ (by kernel_rfl)
  exact AllReady.nil
set_option maxRecDepth 100000 in
set_option maxHeartbeats 2000000 in
theorem bx31_0_1_2_3_4_5_6_8 {W : World} {g0 g1 : Nat} {a0 a1 : Option Addr} {c0 c1 : Nat} {xs0 xs1 out : List Int} {r1 : Bool} {Q : Exit → Act → World → Prop} {x0 x1 x4 x5 x6 x7 x8 x9 x10 x11 x12 x13 x14 x17 x18 x19 x20 x21 x22 x23 x24 x25 x26 x27 x28 x29 x30 x31 x32 x33 x34 x35 x36 x37 x38 x39 x40 x41 x42 x43 x44 x45 x46 x47 x48 x49 x50 x51 x52 x53 x54 x55 x56 x57 x58 x59 x60 x61 x62 x63 x64 x65 x66 x67 x68 x69 x70 x71 x72 x73 x74 x75 x76 x77 x78 x79 x80 x81 x82 x83 x84 x85 x86 x87 x88 x89 x90 x91 x92 x93 x102 x103 x104 x105 x106 x107 x108 x109 x110 x111 x112 x113 x114 x115 x116 x117 x118 : Value} (X : Bx31 W g0 g1 a0 a1 c0 c1 xs0 xs1 out r1 Q x0 x1 x4 x5 x6 x7 x8 x9 x10 x11 x12 x13 x14 x17 x18 x19 x20 x21 x22 x23 x24 x25 x26 x27 x28 x29 x30 x31 x32 x33 x34 x35 x36 x37 x38 x39 x40 x41 x42 x43 x44 x45 x46 x47 x48 x49 x50 x51 x52 x53 x54 x55 x56 x57 x58 x59 x60 x61 x62 x63 x64 x65 x66 x67 x68 x69 x70 x71 x72 x73 x74 x75 x76 x77 x78 x79 x80 x81 x82 x83 x84 x85 x86 x87 x88 x89 x90 x91 x92 x93 x102 x103 x104 x105 x106 x107 x108 x109 x110 x111 x112 x113 x114 x115 x116 x117 x118) (V : World) (b0 : Option Addr) (d0 : Nat) (b1 : Option Addr) (d1 : Nat) (a : Option Addr) (c : Nat) (n : Nat) (P : Hid (PreBox W out n a c V)) (L : Array Bool) (hL : L = #[true, true, true, true, true, true, true, false, true, false, false]) :
    wpAny Try.prog .any bxops31 Q 3 L { tmps := #[x0, x1, .pointer (some ⟨g0, 0, none⟩), .pointer (some ⟨g1, 0, none⟩), x4, x5, x6, x7, x8, x9, x10, x11, x12, x13, x14, .pointer (some ⟨n, 0, none⟩), undef, x17, x18, x19, x20, x21, x22, x23, x24, x25, x26, x27, x28, x29, x30, x31, x32, x33, x34, x35, x36, x37, x38, x39, x40, x41, x42, x43, x44, x45, x46, x47, x48, x49, x50, x51, x52, x53, x54, x55, x56, x57, x58, x59, x60, x61, x62, x63, x64, x65, x66, x67, x68, x69, x70, x71, x72, x73, x74, x75, x76, x77, x78, x79, x80, x81, x82, x83, x84, x85, x86, x87, x88, x89, x90, x91, x92, x93, .tuple #[.agg #[.slice a out.length c], .bool r1], .agg #[.slice a0 xs0.length c0], .agg #[.slice b0 xs0.length d0], .agg #[.slice a1 xs1.length c1], .agg #[.slice b1 xs1.length d1], .tuple #[.agg #[.slice a out.length c], .bool r1], .agg #[.slice a out.length c], undef, x102, x103, x104, x105, x106, x107, x108, x109, x110, x111, x112, x113, x114, x115, x116, x117, x118], defers := [] } V := by
  subst hL
  refine wpAny_ready (rs := [7, 9]) (by kernel_rfl) (by simp) ?_
  refine AllReady.cons rfl (fun K hK => ?_) ?_
  · delta bxops31
    go_simp
    refine hK _ _ ?_
    exact bx31_0_1_2_3_4_5_6_7_8 X V b0 d0 b1 d1 a c n P _ (by kernel_rfl)
  refine AllReady.cons rfl (fun K hK => ?_) ?_
  · have hcr := P.out.1.cell
    have hfr := P.out.1.free
    delta bxops31
    go_simp
    refine hK _ _ ?_
    exact bx31_0_1_2_3_4_5_6_8_9 X _ b0 d0 b1 d1 a c n (Lib.hid P.out.2) _ (by kernel_rfl)
  exact AllReady.nil
set_option maxRecDepth 100000 in
set_option maxHeartbeats 2000000 in
theorem bx31_0_1_2_3_4_5_6 {W : World} {g0 g1 : Nat} {a0 a1 : Option Addr} {c0 c1 : Nat} {xs0 xs1 out : List Int} {r1 : Bool} {Q : Exit → Act → World → Prop} {x0 x1 x4 x5 x6 x7 x8 x9 x10 x11 x12 x13 x14 x17 x18 x19 x20 x21 x22 x23 x24 x25 x26 x27 x28 x29 x30 x31 x32 x33 x34 x35 x36 x37 x38 x39 x40 x41 x42 x43 x44 x45 x46 x47 x48 x49 x50 x51 x52 x53 x54 x55 x56 x57 x58 x59 x60 x61 x62 x63 x64 x65 x66 x67 x68 x69 x70 x71 x72 x73 x74 x75 x76 x77 x78 x79 x80 x81 x82 x83 x84 x85 x86 x87 x88 x89 x90 x91 x92 x93 x102 x103 x104 x105 x106 x107 x108 x109 x110 x111 x112 x113 x114 x115 x116 x117 x118 : Value} (X : Bx31 W g0 g1 a0 a1 c0 c1 xs0 xs1 out r1 Q x0 x1 x4 x5 x6 x7 x8 x9 x10 x11 x12 x13 x14 x17 x18 x19 x20 x21 x22 x23 x24 x25 x26 x27 x28 x29 x30 x31 x32 x33 x34 x35 x36 x37 x38 x39 x40 x41 x42 x43 x44 x45 x46 x47 x48 x49 x50 x51 x52 x53 x54 x55 x56 x57 x58 x59 x60 x61 x62 x63 x64 x65 x66 x67 x68 x69 x70 x71 x72 x73 x74 x75 x76 x77 x78 x79 x80 x81 x82 x83 x84 x85 x86 x87 x88 x89 x90 x91 x92 x93 x102 x103 x104 x105 x106 x107 x108 x109 x110 x111 x112 x113 x114 x115 x116 x117 x118) (V : World) (b0 : Option Addr) (d0 : Nat) (b1 : Option Addr) (d1 : Nat) (a : Option Addr) (c : Nat) (O : Hid (OutAt W out a c V)) (L : Array Bool) (hL : L = #[true, true, true, true, true, true, true, false, false, false, false]) :
    wpAny Try.prog .any bxops31 Q 4 L { tmps := #[x0, x1, .pointer (some ⟨g0, 0, none⟩), .pointer (some ⟨g1, 0, none⟩), x4, x5, x6, x7, x8, x9, x10, x11, x12, x13, x14, undef, undef, x17, x18, x19, x20, x21, x22, x23, x24, x25, x26, x27, x28, x29, x30, x31, x32, x33, x34, x35, x36, x37, x38, x39, x40, x41, x42, x43, x44, x45, x46, x47, x48, x49, x50, x51, x52, x53, x54, x55, x56, x57, x58, x59, x60, x61, x62, x63, x64, x65, x66, x67, x68, x69, x70, x71, x72, x73, x74, x75, x76, x77, x78, x79, x80, x81, x82, x83, x84, x85, x86, x87, x88, x89, x90, x91, x92, x93, .tuple #[.agg #[.slice a out.length c], .bool r1], .agg #[.slice a0 xs0.length c0], .agg #[.slice b0 xs0.length d0], .agg #[.slice a1 xs1.length c1], .agg #[.slice b1 xs1.length d1], .tuple #[.agg #[.slice a out.length c], .bool r1], .agg #[.slice a out.length c], undef, x102, x103, x104, x105, x106, x107, x108, x109, x110, x111, x112, x113, x114, x115, x116, x117, x118], defers := [] } V := by
  subst hL
  refine wpAny_ready (rs := [7, 8]) (by kernel_rfl) (by simp) ?_
  refine AllReady.cons rfl (fun K hK => ?_) ?_
  · delta bxops31
    go_simp
    refine hK _ _ ?_
    exact bx31_0_1_2_3_4_5_6_7 X V b0 d0 b1 d1 a c O _ (by kernel_rfl)
  refine AllReady.cons rfl (fun K hK => ?_) ?_
  · have hb : Below V.heap.size V (V.alloc (.cells #[.slice none 0 0] 26)) := (Below.refl _ _).alloc (Nat.le_refl _) _
    delta bxops31
    go_simp
    refine hK _ _ ?_
    exact bx31_0_1_2_3_4_5_6_8 X _ b0 d0 b1 d1 a c V.heap.size (Lib.hid (pre_after O.out)) _ (by kernel_rfl)
  exact AllReady.nil
set_option maxRecDepth 100000 in
set_option maxHeartbeats 2000000 in
theorem bx31_0_1_2_3_4_5_7_8 {W : World} {g0 g1 : Nat} {a0 a1 : Option Addr} {c0 c1 : Nat} {xs0 xs1 out : List Int} {r1 : Bool} {Q : Exit → Act → World → Prop} {x0 x1 x4 x5 x6 x7 x8 x9 x10 x11 x12 x13 x14 x17 x18 x19 x20 x21 x22 x23 x24 x25 x26 x27 x28 x29 x30 x31 x32 x33 x34 x35 x36 x37 x38 x39 x40 x41 x42 x43 x44 x45 x46 x47 x48 x49 x50 x51 x52 x53 x54 x55 x56 x57 x58 x59 x60 x61 x62 x63 x64 x65 x66 x67 x68 x69 x70 x71 x72 x73 x74 x75 x76 x77 x78 x79 x80 x81 x82 x83 x84 x85 x86 x87 x88 x89 x90 x91 x92 x93 x102 x103 x104 x105 x106 x107 x108 x109 x110 x111 x112 x113 x114 x115 x116 x117 x118 : Value} (X : Bx31 W g0 g1 a0 a1 c0 c1 xs0 xs1 out r1 Q x0 x1 x4 x5 x6 x7 x8 x9 x10 x11 x12 x13 x14 x17 x18 x19 x20 x21 x22 x23 x24 x25 x26 x27 x28 x29 x30 x31 x32 x33 x34 x35 x36 x37 x38 x39 x40 x41 x42 x43 x44 x45 x46 x47 x48 x49 x50 x51 x52 x53 x54 x55 x56 x57 x58 x59 x60 x61 x62 x63 x64 x65 x66 x67 x68 x69 x70 x71 x72 x73 x74 x75 x76 x77 x78 x79 x80 x81 x82 x83 x84 x85 x86 x87 x88 x89 x90 x91 x92 x93 x102 x103 x104 x105 x106 x107 x108 x109 x110 x111 x112 x113 x114 x115 x116 x117 x118) (V : World) (b0 : Option Addr) (d0 : Nat) (b1 : Option Addr) (d1 : Nat) (a : Option Addr) (c : Nat) (n : Nat) (P : Hid (PreBox W out n a c V)) (L : Array Bool) (hL : L = #[true, true, true, true, true, true, false, true, true, false, false]) :
    wpAny Try.prog .any bxops31 Q 3 L { tmps := #[x0, x1, .pointer (some ⟨g0, 0, none⟩), .pointer (some ⟨g1, 0, none⟩), x4, x5, x6, x7, x8, x9, x10, x11, x12, x13, x14, .pointer (some ⟨n, 0, none⟩), undef, x17, x18, x19, x20, x21, x22, x23, x24, x25, x26, x27, x28, x29, x30, x31, x32, x33, x34, x35, x36, x37, x38, x39, x40, x41, x42, x43, x44, x45, x46, x47, x48, x49, x50, x51, x52, x53, x54, x55, x56, x57, x58, x59, x60, x61, x62, x63, x64, x65, x66, x67, x68, x69, x70, x71, x72, x73, x74, x75, x76, x77, x78, x79, x80, x81, x82, x83, x84, x85, x86, x87, x88, x89, x90, x91, x92, x93, .tuple #[.agg #[.slice a out.length c], .bool r1], .agg #[.slice a0 xs0.length c0], .agg #[.slice b0 xs0.length d0], .agg #[.slice a1 xs1.length c1], .agg #[.slice b1 xs1.length d1], .tuple #[.agg #[.slice a out.length c], .bool r1], undef, .bool r1, x102, x103, x104, x105, x106, x107, x108, x109, x110, x111, x112, x113, x114, x115, x116, x117, x118], defers := [] } V := by
  subst hL
  refine wpAny_ready (rs := [6]) (by kernel_rfl) (by simp) ?_
  refine AllReady.cons rfl (fun K hK => ?_) ?_
  · delta bxops31
    go_simp
    refine hK _ _ ?_
    exact bx31_0_1_2_3_4_5_6_7_8 X V b0 d0 b1 d1 a c n P _ (by kernel_rfl)
  exact AllReady.nil
set_option maxRecDepth 100000 in
set_option maxHeartbeats 2000000 in
theorem bx31_0_1_2_3_4_5_7 {W : World} {g0 g1 : Nat} {a0 a1 : Option Addr} {c0 c1 : Nat} {xs0 xs1 out : List Int} {r1 : Bool} {Q : Exit → Act → World → Prop} {x0 x1 x4 x5 x6 x7 x8 x9 x10 x11 x12 x13 x14 x17 x18 x19 x20 x21 x22 x23 x24 x25 x26 x27 x28 x29 x30 x31 x32 x33 x34 x35 x36 x37 x38 x39 x40 x41 x42 x43 x44 x45 x46 x47 x48 x49 x50 x51 x52 x53 x54 x55 x56 x57 x58 x59 x60 x61 x62 x63 x64 x65 x66 x67 x68 x69 x70 x71 x72 x73 x74 x75 x76 x77 x78 x79 x80 x81 x82 x83 x84 x85 x86 x87 x88 x89 x90 x91 x92 x93 x102 x103 x104 x105 x106 x107 x108 x109 x110 x111 x112 x113 x114 x115 x116 x117 x118 : Value} (X : Bx31 W g0 g1 a0 a1 c0 c1 xs0 xs1 out r1 Q x0 x1 x4 x5 x6 x7 x8 x9 x10 x11 x12 x13 x14 x17 x18 x19 x20 x21 x22 x23 x24 x25 x26 x27 x28 x29 x30 x31 x32 x33 x34 x35 x36 x37 x38 x39 x40 x41 x42 x43 x44 x45 x46 x47 x48 x49 x50 x51 x52 x53 x54 x55 x56 x57 x58 x59 x60 x61 x62 x63 x64 x65 x66 x67 x68 x69 x70 x71 x72 x73 x74 x75 x76 x77 x78 x79 x80 x81 x82 x83 x84 x85 x86 x87 x88 x89 x90 x91 x92 x93 x102 x103 x104 x105 x106 x107 x108 x109 x110 x111 x112 x113 x114 x115 x116 x117 x118) (V : World) (b0 : Option Addr) (d0 : Nat) (b1 : Option Addr) (d1 : Nat) (a : Option Addr) (c : Nat) (O : Hid (OutAt W out a c V)) (L : Array Bool) (hL : L = #[true, true, true, true, true, true, false, true, false, false, false]) :
    wpAny Try.prog .any bxops31 Q 4 L { tmps := #[x0, x1, .pointer (some ⟨g0, 0, none⟩), .pointer (some ⟨g1, 0, none⟩), x4, x5, x6, x7, x8, x9, x10, x11, x12, x13, x14, undef, undef, x17, x18, x19, x20, x21, x22, x23, x24, x25, x26, x27, x28, x29, x30, x31, x32, x33, x34, x35, x36, x37, x38, x39, x40, x41, x42, x43, x44, x45, x46, x47, x48, x49, x50, x51, x52, x53, x54, x55, x56, x57, x58, x59, x60, x61, x62, x63, x64, x65, x66, x67, x68, x69, x70, x71, x72, x73, x74, x75, x76, x77, x78, x79, x80, x81, x82, x83, x84, x85, x86, x87, x88, x89, x90, x91, x92, x93, .tuple #[.agg #[.slice a out.length c], .bool r1], .agg #[.slice a0 xs0.length c0], .agg #[.slice b0 xs0.length d0], .agg #[.slice a1 xs1.length c1], .agg #[.slice b1 xs1.length d1], .tuple #[.agg #[.slice a out.length c], .bool r1], undef, .bool r1, x102, x103, x104, x105, x106, x107, x108, x109, x110, x111, x112, x113, x114, x115, x116, x117, x118], defers := [] } V := by
  subst hL
  refine wpAny_ready (rs := [6, 8]) (by kernel_rfl) (by simp) ?_
  refine AllReady.cons rfl (fun K hK => ?_) ?_
  · delta bxops31
    go_simp
    refine hK _ _ ?_
    exact bx31_0_1_2_3_4_5_6_7 X V b0 d0 b1 d1 a c O _ (by kernel_rfl)
  refine AllReady.cons rfl (fun K hK => ?_) ?_
  · have hb : Below V.heap.size V (V.alloc (.cells #[.slice none 0 0] 26)) := (Below.refl _ _).alloc (Nat.le_refl _) _
    delta bxops31
    go_simp
    refine hK _ _ ?_
    exact bx31_0_1_2_3_4_5_7_8 X _ b0 d0 b1 d1 a c V.heap.size (Lib.hid (pre_after O.out)) _ (by kernel_rfl)
  exact AllReady.nil
set_option maxRecDepth 100000 in
set_option maxHeartbeats 2000000 in
theorem bx31_0_1_2_3_4_5_8 {W : World} {g0 g1 : Nat} {a0 a1 : Option Addr} {c0 c1 : Nat} {xs0 xs1 out : List Int} {r1 : Bool} {Q : Exit → Act → World → Prop} {x0 x1 x4 x5 x6 x7 x8 x9 x10 x11 x12 x13 x14 x17 x18 x19 x20 x21 x22 x23 x24 x25 x26 x27 x28 x29 x30 x31 x32 x33 x34 x35 x36 x37 x38 x39 x40 x41 x42 x43 x44 x45 x46 x47 x48 x49 x50 x51 x52 x53 x54 x55 x56 x57 x58 x59 x60 x61 x62 x63 x64 x65 x66 x67 x68 x69 x70 x71 x72 x73 x74 x75 x76 x77 x78 x79 x80 x81 x82 x83 x84 x85 x86 x87 x88 x89 x90 x91 x92 x93 x102 x103 x104 x105 x106 x107 x108 x109 x110 x111 x112 x113 x114 x115 x116 x117 x118 : Value} (X : Bx31 W g0 g1 a0 a1 c0 c1 xs0 xs1 out r1 Q x0 x1 x4 x5 x6 x7 x8 x9 x10 x11 x12 x13 x14 x17 x18 x19 x20 x21 x22 x23 x24 x25 x26 x27 x28 x29 x30 x31 x32 x33 x34 x35 x36 x37 x38 x39 x40 x41 x42 x43 x44 x45 x46 x47 x48 x49 x50 x51 x52 x53 x54 x55 x56 x57 x58 x59 x60 x61 x62 x63 x64 x65 x66 x67 x68 x69 x70 x71 x72 x73 x74 x75 x76 x77 x78 x79 x80 x81 x82 x83 x84 x85 x86 x87 x88 x89 x90 x91 x92 x93 x102 x103 x104 x105 x106 x107 x108 x109 x110 x111 x112 x113 x114 x115 x116 x117 x118) (V : World) (b0 : Option Addr) (d0 : Nat) (b1 : Option Addr) (d1 : Nat) (a : Option Addr) (c : Nat) (n : Nat) (P : Hid (PreBox W out n a c V)) (L : Array Bool) (hL : L = #[true, true, true, true, true, true, false, false, true, false, false]) :
    wpAny Try.prog .any bxops31 Q 4 L { tmps := #[x0, x1, .pointer (some ⟨g0, 0, none⟩), .pointer (some ⟨g1, 0, none⟩), x4, x5, x6, x7, x8, x9, x10, x11, x12, x13, x14, .pointer (some ⟨n, 0, none⟩), undef, x17, x18, x19, x20, x21, x22, x23, x24, x25, x26, x27, x28, x29, x30, x31, x32, x33, x34, x35, x36, x37, x38, x39, x40, x41, x42, x43, x44, x45, x46, x47, x48, x49, x50, x51, x52, x53, x54, x55, x56, x57, x58, x59, x60, x61, x62, x63, x64, x65, x66, x67, x68, x69, x70, x71, x72, x73, x74, x75, x76, x77, x78, x79, x80, x81, x82, x83, x84, x85, x86, x87, x88, x89, x90, x91, x92, x93, .tuple #[.agg #[.slice a out.length c], .bool r1], .agg #[.slice a0 xs0.length c0], .agg #[.slice b0 xs0.length d0], .agg #[.slice a1 xs1.length c1], .agg #[.slice b1 xs1.length d1], .tuple #[.agg #[.slice a out.length c], .bool r1], undef, undef, x102, x103, x104, x105, x106, x107, x108, x109, x110, x111, x112, x113, x114, x115, x116, x117, x118], defers := [] } V := by
  subst hL
  refine wpAny_ready (rs := [6, 7]) (by kernel_rfl) (by simp) ?_
  refine AllReady.cons rfl (fun K hK => ?_) ?_
  · delta bxops31
    go_simp
    refine hK _ _ ?_
    exact bx31_0_1_2_3_4_5_6_8 X V b0 d0 b1 d1 a c n P _ (by kernel_rfl)
  refine AllReady.cons rfl (fun K hK => ?_) ?_
  · delta bxops31
    go_simp
    refine hK _ _ ?_
    exact bx31_0_1_2_3_4_5_7_8 X V b0 d0 b1 d1 a c n P _ (by kernel_rfl)
  exact AllReady.nil
set_option maxRecDepth 100000 in
set_option maxHeartbeats 2000000 in
theorem bx31_0_1_2_3_4_5 {W : World} {g0 g1 : Nat} {a0 a1 : Option Addr} {c0 c1 : Nat} {xs0 xs1 out : List Int} {r1 : Bool} {Q : Exit → Act → World → Prop} {x0 x1 x4 x5 x6 x7 x8 x9 x10 x11 x12 x13 x14 x17 x18 x19 x20 x21 x22 x23 x24 x25 x26 x27 x28 x29 x30 x31 x32 x33 x34 x35 x36 x37 x38 x39 x40 x41 x42 x43 x44 x45 x46 x47 x48 x49 x50 x51 x52 x53 x54 x55 x56 x57 x58 x59 x60 x61 x62 x63 x64 x65 x66 x67 x68 x69 x70 x71 x72 x73 x74 x75 x76 x77 x78 x79 x80 x81 x82 x83 x84 x85 x86 x87 x88 x89 x90 x91 x92 x93 x102 x103 x104 x105 x106 x107 x108 x109 x110 x111 x112 x113 x114 x115 x116 x117 x118 : Value} (X : Bx31 W g0 g1 a0 a1 c0 c1 xs0 xs1 out r1 Q x0 x1 x4 x5 x6 x7 x8 x9 x10 x11 x12 x13 x14 x17 x18 x19 x20 x21 x22 x23 x24 x25 x26 x27 x28 x29 x30 x31 x32 x33 x34 x35 x36 x37 x38 x39 x40 x41 x42 x43 x44 x45 x46 x47 x48 x49 x50 x51 x52 x53 x54 x55 x56 x57 x58 x59 x60 x61 x62 x63 x64 x65 x66 x67 x68 x69 x70 x71 x72 x73 x74 x75 x76 x77 x78 x79 x80 x81 x82 x83 x84 x85 x86 x87 x88 x89 x90 x91 x92 x93 x102 x103 x104 x105 x106 x107 x108 x109 x110 x111 x112 x113 x114 x115 x116 x117 x118) (V : World) (b0 : Option Addr) (d0 : Nat) (b1 : Option Addr) (d1 : Nat) (a : Option Addr) (c : Nat) (O : Hid (OutAt W out a c V)) (L : Array Bool) (hL : L = #[true, true, true, true, true, true, false, false, false, false, false]) :
    wpAny Try.prog .any bxops31 Q 5 L { tmps := #[x0, x1, .pointer (some ⟨g0, 0, none⟩), .pointer (some ⟨g1, 0, none⟩), x4, x5, x6, x7, x8, x9, x10, x11, x12, x13, x14, undef, undef, x17, x18, x19, x20, x21, x22, x23, x24, x25, x26, x27, x28, x29, x30, x31, x32, x33, x34, x35, x36, x37, x38, x39, x40, x41, x42, x43, x44, x45, x46, x47, x48, x49, x50, x51, x52, x53, x54, x55, x56, x57, x58, x59, x60, x61, x62, x63, x64, x65, x66, x67, x68, x69, x70, x71, x72, x73, x74, x75, x76, x77, x78, x79, x80, x81, x82, x83, x84, x85, x86, x87, x88, x89, x90, x91, x92, x93, .tuple #[.agg #[.slice a out.length c], .bool r1], .agg #[.slice a0 xs0.length c0], .agg #[.slice b0 xs0.length d0], .agg #[.slice a1 xs1.length c1], .agg #[.slice b1 xs1.length d1], .tuple #[.agg #[.slice a out.length c], .bool r1], undef, undef, x102, x103, x104, x105, x106, x107, x108, x109, x110, x111, x112, x113, x114, x115, x116, x117, x118], defers := [] } V := by
  subst hL
  refine wpAny_ready (rs := [6, 7, 8]) (by kernel_rfl) (by simp) ?_
  refine AllReady.cons rfl (fun K hK => ?_) ?_
  · delta bxops31
    go_simp
    refine hK _ _ ?_
    exact bx31_0_1_2_3_4_5_6 X V b0 d0 b1 d1 a c O _ (by kernel_rfl)
  refine AllReady.cons rfl (fun K hK => ?_) ?_
  · delta bxops31
    go_simp
    refine hK _ _ ?_
    exact bx31_0_1_2_3_4_5_7 X V b0 d0 b1 d1 a c O _ (by kernel_rfl)
  refine AllReady.cons rfl (fun K hK => ?_) ?_
  · have hb : Below V.heap.size V (V.alloc (.cells #[.slice none 0 0] 26)) := (Below.refl _ _).alloc (Nat.le_refl _) _
    delta bxops31
    go_simp
    refine hK _ _ ?_
    exact bx31_0_1_2_3_4_5_8 X _ b0 d0 b1 d1 a c V.heap.size (Lib.hid (pre_after O.out)) _ (by kernel_rfl)
  exact AllReady.nil
set_option maxRecDepth 100000 in
set_option maxHeartbeats 2000000 in
theorem bx31_0_1_2_3_4_8 {W : World} {g0 g1 : Nat} {a0 a1 : Option Addr} {c0 c1 : Nat} {xs0 xs1 out : List Int} {r1 : Bool} {Q : Exit → Act → World → Prop} {x0 x1 x4 x5 x6 x7 x8 x9 x10 x11 x12 x13 x14 x17 x18 x19 x20 x21 x22 x23 x24 x25 x26 x27 x28 x29 x30 x31 x32 x33 x34 x35 x36 x37 x38 x39 x40 x41 x42 x43 x44 x45 x46 x47 x48 x49 x50 x51 x52 x53 x54 x55 x56 x57 x58 x59 x60 x61 x62 x63 x64 x65 x66 x67 x68 x69 x70 x71 x72 x73 x74 x75 x76 x77 x78 x79 x80 x81 x82 x83 x84 x85 x86 x87 x88 x89 x90 x91 x92 x93 x102 x103 x104 x105 x106 x107 x108 x109 x110 x111 x112 x113 x114 x115 x116 x117 x118 : Value} (X : Bx31 W g0 g1 a0 a1 c0 c1 xs0 xs1 out r1 Q x0 x1 x4 x5 x6 x7 x8 x9 x10 x11 x12 x13 x14 x17 x18 x19 x20 x21 x22 x23 x24 x25 x26 x27 x28 x29 x30 x31 x32 x33 x34 x35 x36 x37 x38 x39 x40 x41 x42 x43 x44 x45 x46 x47 x48 x49 x50 x51 x52 x53 x54 x55 x56 x57 x58 x59 x60 x61 x62 x63 x64 x65 x66 x67 x68 x69 x70 x71 x72 x73 x74 x75 x76 x77 x78 x79 x80 x81 x82 x83 x84 x85 x86 x87 x88 x89 x90 x91 x92 x93 x102 x103 x104 x105 x106 x107 x108 x109 x110 x111 x112 x113 x114 x115 x116 x117 x118) (V : World) (b0 : Option Addr) (d0 : Nat) (b1 : Option Addr) (d1 : Nat) (a : Option Addr) (c : Nat) (n : Nat) (P : Hid (PreBox W out n a c V)) (L : Array Bool) (hL : L = #[true, true, true, true, true, false, false, false, true, false, false]) :
    wpAny Try.prog .any bxops31 Q 5 L { tmps := #[x0, x1, .pointer (some ⟨g0, 0, none⟩), .pointer (some ⟨g1, 0, none⟩), x4, x5, x6, x7, x8, x9, x10, x11, x12, x13, x14, .pointer (some ⟨n, 0, none⟩), undef, x17, x18, x19, x20, x21, x22, x23, x24, x25, x26, x27, x28, x29, x30, x31, x32, x33, x34, x35, x36, x37, x38, x39, x40, x41, x42, x43, x44, x45, x46, x47, x48, x49, x50, x51, x52, x53, x54, x55, x56, x57, x58, x59, x60, x61, x62, x63, x64, x65, x66, x67, x68, x69, x70, x71, x72, x73, x74, x75, x76, x77, x78, x79, x80, x81, x82, x83, x84, x85, x86, x87, x88, x89, x90, x91, x92, x93, undef, .agg #[.slice a0 xs0.length c0], .agg #[.slice b0 xs0.length d0], .agg #[.slice a1 xs1.length c1], .agg #[.slice b1 xs1.length d1], .tuple #[.agg #[.slice a out.length c], .bool r1], undef, undef, x102, x103, x104, x105, x106, x107, x108, x109, x110, x111, x112, x113, x114, x115, x116, x117, x118], defers := [] } V := by
  subst hL
  refine wpAny_ready (rs := [5]) (by kernel_rfl) (by simp) ?_
  refine AllReady.cons rfl (fun K hK => ?_) ?_
  · delta bxops31
    go_simp
    refine hK _ _ ?_
    exact bx31_0_1_2_3_4_5_8 X V b0 d0 b1 d1 a c n P _ (by kernel_rfl)
  exact AllReady.nil
set_option maxRecDepth 100000 in
set_option maxHeartbeats 2000000 in
theorem bx31_0_1_2_3_4 {W : World} {g0 g1 : Nat} {a0 a1 : Option Addr} {c0 c1 : Nat} {xs0 xs1 out : List Int} {r1 : Bool} {Q : Exit → Act → World → Prop} {x0 x1 x4 x5 x6 x7 x8 x9 x10 x11 x12 x13 x14 x17 x18 x19 x20 x21 x22 x23 x24 x25 x26 x27 x28 x29 x30 x31 x32 x33 x34 x35 x36 x37 x38 x39 x40 x41 x42 x43 x44 x45 x46 x47 x48 x49 x50 x51 x52 x53 x54 x55 x56 x57 x58 x59 x60 x61 x62 x63 x64 x65 x66 x67 x68 x69 x70 x71 x72 x73 x74 x75 x76 x77 x78 x79 x80 x81 x82 x83 x84 x85 x86 x87 x88 x89 x90 x91 x92 x93 x102 x103 x104 x105 x106 x107 x108 x109 x110 x111 x112 x113 x114 x115 x116 x117 x118 : Value} (X : Bx31 W g0 g1 a0 a1 c0 c1 xs0 xs1 out r1 Q x0 x1 x4 x5 x6 x7 x8 x9 x10 x11 x12 x13 x14 x17 x18 x19 x20 x21 x22 x23 x24 x25 x26 x27 x28 x29 x30 x31 x32 x33 x34 x35 x36 x37 x38 x39 x40 x41 x42 x43 x44 x45 x46 x47 x48 x49 x50 x51 x52 x53 x54 x55 x56 x57 x58 x59 x60 x61 x62 x63 x64 x65 x66 x67 x68 x69 x70 x71 x72 x73 x74 x75 x76 x77 x78 x79 x80 x81 x82 x83 x84 x85 x86 x87 x88 x89 x90 x91 x92 x93 x102 x103 x104 x105 x106 x107 x108 x109 x110 x111 x112 x113 x114 x115 x116 x117 x118) (V : World) (b0 : Option Addr) (d0 : Nat) (b1 : Option Addr) (d1 : Nat) (a : Option Addr) (c : Nat) (O : Hid (OutAt W out a c V)) (L : Array Bool) (hL : L = #[true, true, true, true, true, false, false, false, false, false, false]) :
    wpAny Try.prog .any bxops31 Q 6 L { tmps := #[x0, x1, .pointer (some ⟨g0, 0, none⟩), .pointer (some ⟨g1, 0, none⟩), x4, x5, x6, x7, x8, x9, x10, x11, x12, x13, x14, undef, undef, x17, x18, x19, x20, x21, x22, x23, x24, x25, x26, x27, x28, x29, x30, x31, x32, x33, x34, x35, x36, x37, x38, x39, x40, x41, x42, x43, x44, x45, x46, x47, x48, x49, x50, x51, x52, x53, x54, x55, x56, x57, x58, x59, x60, x61, x62, x63, x64, x65, x66, x67, x68, x69, x70, x71, x72, x73, x74, x75, x76, x77, x78, x79, x80, x81, x82, x83, x84, x85, x86, x87, x88, x89, x90, x91, x92, x93, undef, .agg #[.slice a0 xs0.length c0], .agg #[.slice b0 xs0.length d0], .agg #[.slice a1 xs1.length c1], .agg #[.slice b1 xs1.length d1], .tuple #[.agg #[.slice a out.length c], .bool r1], undef, undef, x102, x103, x104, x105, x106, x107, x108, x109, x110, x111, x112, x113, x114, x115, x116, x117, x118], defers := [] } V := by
  subst hL
  refine wpAny_ready (rs := [5, 8]) (by kernel_rfl) (by simp) ?_
  refine AllReady.cons rfl (fun K hK => ?_) ?_
  · delta bxops31
    go_simp
    refine hK _ _ ?_
    exact bx31_0_1_2_3_4_5 X V b0 d0 b1 d1 a c O _ (by kernel_rfl)
  refine AllReady.cons rfl (fun K hK => ?_) ?_
  · have hb : Below V.heap.size V (V.alloc (.cells #[.slice none 0 0] 26)) := (Below.refl _ _).alloc (Nat.le_refl _) _
    delta bxops31
    go_simp
    refine hK _ _ ?_
    exact bx31_0_1_2_3_4_8 X _ b0 d0 b1 d1 a c V.heap.size (Lib.hid (pre_after O.out)) _ (by kernel_rfl)
  exact AllReady.nil
set_option maxRecDepth 100000 in
set_option maxHeartbeats 2000000 in
theorem bx31_0_1_2_3_8 {W : World} {g0 g1 : Nat} {a0 a1 : Option Addr} {c0 c1 : Nat} {xs0 xs1 out : List Int} {r1 : Bool} {Q : Exit → Act → World → Prop} {x0 x1 x4 x5 x6 x7 x8 x9 x10 x11 x12 x13 x14 x17 x18 x19 x20 x21 x22 x23 x24 x25 x26 x27 x28 x29 x30 x31 x32 x33 x34 x35 x36 x37 x38 x39 x40 x41 x42 x43 x44 x45 x46 x47 x48 x49 x50 x51 x52 x53 x54 x55 x56 x57 x58 x59 x60 x61 x62 x63 x64 x65 x66 x67 x68 x69 x70 x71 x72 x73 x74 x75 x76 x77 x78 x79 x80 x81 x82 x83 x84 x85 x86 x87 x88 x89 x90 x91 x92 x93 x102 x103 x104 x105 x106 x107 x108 x109 x110 x111 x112 x113 x114 x115 x116 x117 x118 : Value} (X : Bx31 W g0 g1 a0 a1 c0 c1 xs0 xs1 out r1 Q x0 x1 x4 x5 x6 x7 x8 x9 x10 x11 x12 x13 x14 x17 x18 x19 x20 x21 x22 x23 x24 x25 x26 x27 x28 x29 x30 x31 x32 x33 x34 x35 x36 x37 x38 x39 x40 x41 x42 x43 x44 x45 x46 x47 x48 x49 x50 x51 x52 x53 x54 x55 x56 x57 x58 x59 x60 x61 x62 x63 x64 x65 x66 x67 x68 x69 x70 x71 x72 x73 x74 x75 x76 x77 x78 x79 x80 x81 x82 x83 x84 x85 x86 x87 x88 x89 x90 x91 x92 x93 x102 x103 x104 x105 x106 x107 x108 x109 x110 x111 x112 x113 x114 x115 x116 x117 x118) (V : World) (b0 : Option Addr) (d0 : Nat) (b1 : Option Addr) (d1 : Nat) (n : Nat) (B : Hid (Below W.heap.size W V)) (F0 : Hid (Ints V b0 xs0)) (F1 : Hid (Ints V b1 xs1)) (N : Hid (W.heap.size ≤ n ∧ FamAt V n (.slice none 0 0))) (L : Array Bool) (hL : L = #[true, true, true, true, false, false, false, false, true, false, false]) :
    wpAny Try.prog .any bxops31 Q 6 L { tmps := #[x0, x1, .pointer (some ⟨g0, 0, none⟩), .pointer (some ⟨g1, 0, none⟩), x4, x5, x6, x7, x8, x9, x10, x11, x12, x13, x14, .pointer (some ⟨n, 0, none⟩), undef, x17, x18, x19, x20, x21, x22, x23, x24, x25, x26, x27, x28, x29, x30, x31, x32, x33, x34, x35, x36, x37, x38, x39, x40, x41, x42, x43, x44, x45, x46, x47, x48, x49, x50, x51, x52, x53, x54, x55, x56, x57, x58, x59, x60, x61, x62, x63, x64, x65, x66, x67, x68, x69, x70, x71, x72, x73, x74, x75, x76, x77, x78, x79, x80, x81, x82, x83, x84, x85, x86, x87, x88, x89, x90, x91, x92, x93, undef, .agg #[.slice a0 xs0.length c0], .agg #[.slice b0 xs0.length d0], .agg #[.slice a1 xs1.length c1], .agg #[.slice b1 xs1.length d1], undef, undef, undef, x102, x103, x104, x105, x106, x107, x108, x109, x110, x111, x112, x113, x114, x115, x116, x117, x118], defers := [] } V := by
  subst hL
  refine wpAny_ready (rs := [4]) (by kernel_rfl) (by simp) ?_
  refine AllReady.cons rfl (fun K hK => ?_) ?_
  · delta bxops31
    go_simp
    refine (X.p _ _ _ _ _ F0 F1).mono ?_
    rintro e V2 ⟨a, c, rfl, hi, ho, hcp, hb⟩
    try go_simp
    refine hK _ _ ?_
    exact bx31_0_1_2_3_4_8 X V2 b0 d0 b1 d1 a c n (Lib.hid (pre_before B.out N.out.1 N.out.2 hi ho hcp hb)) _ (by kernel_rfl)
  exact AllReady.nil
set_option maxRecDepth 100000 in
set_option maxHeartbeats 2000000 in
theorem bx31_0_1_2_3 {W : World} {g0 g1 : Nat} {a0 a1 : Option Addr} {c0 c1 : Nat} {xs0 xs1 out : List Int} {r1 : Bool} {Q : Exit → Act → World → Prop} {x0 x1 x4 x5 x6 x7 x8 x9 x10 x11 x12 x13 x14 x17 x18 x19 x20 x21 x22 x23 x24 x25 x26 x27 x28 x29 x30 x31 x32 x33 x34 x35 x36 x37 x38 x39 x40 x41 x42 x43 x44 x45 x46 x47 x48 x49 x50 x51 x52 x53 x54 x55 x56 x57 x58 x59 x60 x61 x62 x63 x64 x65 x66 x67 x68 x69 x70 x71 x72 x73 x74 x75 x76 x77 x78 x79 x80 x81 x82 x83 x84 x85 x86 x87 x88 x89 x90 x91 x92 x93 x102 x103 x104 x105 x106 x107 x108 x109 x110 x111 x112 x113 x114 x115 x116 x117 x118 : Value} (X : Bx31 W g0 g1 a0 a1 c0 c1 xs0 xs1 out r1 Q x0 x1 x4 x5 x6 x7 x8 x9 x10 x11 x12 x13 x14 x17 x18 x19 x20 x21 x22 x23 x24 x25 x26 x27 x28 x29 x30 x31 x32 x33 x34 x35 x36 x37 x38 x39 x40 x41 x42 x43 x44 x45 x46 x47 x48 x49 x50 x51 x52 x53 x54 x55 x56 x57 x58 x59 x60 x61 x62 x63 x64 x65 x66 x67 x68 x69 x70 x71 x72 x73 x74 x75 x76 x77 x78 x79 x80 x81 x82 x83 x84 x85 x86 x87 x88 x89 x90 x91 x92 x93 x102 x103 x104 x105 x106 x107 x108 x109 x110 x111 x112 x113 x114 x115 x116 x117 x118) (V : World) (b0 : Option Addr) (d0 : Nat) (b1 : Option Addr) (d1 : Nat) (B : Hid (Below W.heap.size W V)) (F0 : Hid (Ints V b0 xs0)) (F1 : Hid (Ints V b1 xs1)) (L : Array Bool) (hL : L = #[true, true, true, true, false, false, false, false, false, false, false]) :
    wpAny Try.prog .any bxops31 Q 7 L { tmps := #[x0, x1, .pointer (some ⟨g0, 0, none⟩), .pointer (some ⟨g1, 0, none⟩), x4, x5, x6, x7, x8, x9, x10, x11, x12, x13, x14, undef, undef, x17, x18, x19, x20, x21, x22, x23, x24, x25, x26, x27, x28, x29, x30, x31, x32, x33, x34, x35, x36, x37, x38, x39, x40, x41, x42, x43, x44, x45, x46, x47, x48, x49, x50, x51, x52, x53, x54, x55, x56, x57, x58, x59, x60, x61, x62, x63, x64, x65, x66, x67, x68, x69, x70, x71, x72, x73, x74, x75, x76, x77, x78, x79, x80, x81, x82, x83, x84, x85, x86, x87, x88, x89, x90, x91, x92, x93, undef, .agg #[.slice a0 xs0.length c0], .agg #[.slice b0 xs0.length d0], .agg #[.slice a1 xs1.length c1], .agg #[.slice b1 xs1.length d1], undef, undef, undef, x102, x103, x104, x105, x106, x107, x108, x109, x110, x111, x112, x113, x114, x115, x116, x117, x118], defers := [] } V := by
  subst hL
  refine wpAny_ready (rs := [4, 8]) (by kernel_rfl) (by simp) ?_
  refine AllReady.cons rfl (fun K hK => ?_) ?_
  · delta bxops31
    go_simp
    refine (X.p _ _ _ _ _ F0 F1).mono ?_
    rintro e V2 ⟨a, c, rfl, hi, ho, hcp, hb⟩
    try go_simp
    refine hK _ _ ?_
    exact bx31_0_1_2_3_4 X V2 b0 d0 b1 d1 a c (Lib.hid ⟨hi, ho.mono B.out.size, hcp, B.out.trans (hb.mono B.out.size)⟩) _ (by kernel_rfl)
  refine AllReady.cons rfl (fun K hK => ?_) ?_
  · have hb : Below V.heap.size V (V.alloc (.cells #[.slice none 0 0] 26)) := (Below.refl _ _).alloc (Nat.le_refl _) _
    delta bxops31
    go_simp
    refine hK _ _ ?_
    exact bx31_0_1_2_3_8 X _ b0 d0 b1 d1 V.heap.size (Lib.hid (B.out.trans (hb.mono B.out.size))) (Lib.hid (F0.out.on hb)) (Lib.hid (F1.out.on hb)) (Lib.hid (And.intro B.out.size (famAt_new _ _))) _ (by kernel_rfl)
  exact AllReady.nil
set_option maxRecDepth 100000 in
set_option maxHeartbeats 2000000 in
theorem bx31_0_1_2_8 {W : World} {g0 g1 : Nat} {a0 a1 : Option Addr} {c0 c1 : Nat} {xs0 xs1 out : List Int} {r1 : Bool} {Q : Exit → Act → World → Prop} {x0 x1 x4 x5 x6 x7 x8 x9 x10 x11 x12 x13 x14 x17 x18 x19 x20 x21 x22 x23 x24 x25 x26 x27 x28 x29 x30 x31 x32 x33 x34 x35 x36 x37 x38 x39 x40 x41 x42 x43 x44 x45 x46 x47 x48 x49 x50 x51 x52 x53 x54 x55 x56 x57 x58 x59 x60 x61 x62 x63 x64 x65 x66 x67 x68 x69 x70 x71 x72 x73 x74 x75 x76 x77 x78 x79 x80 x81 x82 x83 x84 x85 x86 x87 x88 x89 x90 x91 x92 x93 x102 x103 x104 x105 x106 x107 x108 x109 x110 x111 x112 x113 x114 x115 x116 x117 x118 : Value} (X : Bx31 W g0 g1 a0 a1 c0 c1 xs0 xs1 out r1 Q x0 x1 x4 x5 x6 x7 x8 x9 x10 x11 x12 x13 x14 x17 x18 x19 x20 x21 x22 x23 x24 x25 x26 x27 x28 x29 x30 x31 x32 x33 x34 x35 x36 x37 x38 x39 x40 x41 x42 x43 x44 x45 x46 x47 x48 x49 x50 x51 x52 x53 x54 x55 x56 x57 x58 x59 x60 x61 x62 x63 x64 x65 x66 x67 x68 x69 x70 x71 x72 x73 x74 x75 x76 x77 x78 x79 x80 x81 x82 x83 x84 x85 x86 x87 x88 x89 x90 x91 x92 x93 x102 x103 x104 x105 x106 x107 x108 x109 x110 x111 x112 x113 x114 x115 x116 x117 x118) (V : World) (b0 : Option Addr) (d0 : Nat) (n : Nat) (B : Hid (Below W.heap.size W V)) (F0 : Hid (Ints V b0 xs0)) (N : Hid (W.heap.size ≤ n ∧ FamAt V n (.slice none 0 0))) (L : Array Bool) (hL : L = #[true, true, true, false, false, false, false, false, true, false, false]) :
    wpAny Try.prog .any bxops31 Q 7 L { tmps := #[x0, x1, .pointer (some ⟨g0, 0, none⟩), .pointer (some ⟨g1, 0, none⟩), x4, x5, x6, x7, x8, x9, x10, x11, x12, x13, x14, .pointer (some ⟨n, 0, none⟩), undef, x17, x18, x19, x20, x21, x22, x23, x24, x25, x26, x27, x28, x29, x30, x31, x32, x33, x34, x35, x36, x37, x38, x39, x40, x41, x42, x43, x44, x45, x46, x47, x48, x49, x50, x51, x52, x53, x54, x55, x56, x57, x58, x59, x60, x61, x62, x63, x64, x65, x66, x67, x68, x69, x70, x71, x72, x73, x74, x75, x76, x77, x78, x79, x80, x81, x82, x83, x84, x85, x86, x87, x88, x89, x90, x91, x92, x93, undef, .agg #[.slice a0 xs0.length c0], .agg #[.slice b0 xs0.length d0], .agg #[.slice a1 xs1.length c1], undef, undef, undef, undef, x102, x103, x104, x105, x106, x107, x108, x109, x110, x111, x112, x113, x114, x115, x116, x117, x118], defers := [] } V := by
  subst hL
  refine wpAny_ready (rs := [3]) (by kernel_rfl) (by simp) ?_
  refine AllReady.cons rfl (fun K hK => ?_) ?_
  · delta bxops31
    go_simp
    refine (toFam_any _ _ xs1 _ (Lib.hid (X.i1.on B.out)) X.l1).mono ?_
    rintro e V2 ⟨b1, d1, rfl, hi, ho, hcp, hb⟩
    try go_simp
    refine hK _ _ ?_
    exact bx31_0_1_2_3_8 X V2 b0 d0 b1 d1 n (Lib.hid (B.out.trans (hb.mono B.out.size))) (Lib.hid (F0.out.on hb)) (Lib.hid hi) (Lib.hid (And.intro N.out.1 (N.out.2.on hb))) _ (by kernel_rfl)
  exact AllReady.nil
set_option maxRecDepth 100000 in
set_option maxHeartbeats 2000000 in
theorem bx31_0_1_2 {W : World} {g0 g1 : Nat} {a0 a1 : Option Addr} {c0 c1 : Nat} {xs0 xs1 out : List Int} {r1 : Bool} {Q : Exit → Act → World → Prop} {x0 x1 x4 x5 x6 x7 x8 x9 x10 x11 x12 x13 x14 x17 x18 x19 x20 x21 x22 x23 x24 x25 x26 x27 x28 x29 x30 x31 x32 x33 x34 x35 x36 x37 x38 x39 x40 x41 x42 x43 x44 x45 x46 x47 x48 x49 x50 x51 x52 x53 x54 x55 x56 x57 x58 x59 x60 x61 x62 x63 x64 x65 x66 x67 x68 x69 x70 x71 x72 x73 x74 x75 x76 x77 x78 x79 x80 x81 x82 x83 x84 x85 x86 x87 x88 x89 x90 x91 x92 x93 x102 x103 x104 x105 x106 x107 x108 x109 x110 x111 x112 x113 x114 x115 x116 x117 x118 : Value} (X : Bx31 W g0 g1 a0 a1 c0 c1 xs0 xs1 out r1 Q x0 x1 x4 x5 x6 x7 x8 x9 x10 x11 x12 x13 x14 x17 x18 x19 x20 x21 x22 x23 x24 x25 x26 x27 x28 x29 x30 x31 x32 x33 x34 x35 x36 x37 x38 x39 x40 x41 x42 x43 x44 x45 x46 x47 x48 x49 x50 x51 x52 x53 x54 x55 x56 x57 x58 x59 x60 x61 x62 x63 x64 x65 x66 x67 x68 x69 x70 x71 x72 x73 x74 x75 x76 x77 x78 x79 x80 x81 x82 x83 x84 x85 x86 x87 x88 x89 x90 x91 x92 x93 x102 x103 x104 x105 x106 x107 x108 x109 x110 x111 x112 x113 x114 x115 x116 x117 x118) (V : World) (b0 : Option Addr) (d0 : Nat) (B : Hid (Below W.heap.size W V)) (F0 : Hid (Ints V b0 xs0)) (L : Array Bool) (hL : L = #[true, true, true, false, false, false, false, false, false, false, false]) :
    wpAny Try.prog .any bxops31 Q 8 L { tmps := #[x0, x1, .pointer (some ⟨g0, 0, none⟩), .pointer (some ⟨g1, 0, none⟩), x4, x5, x6, x7, x8, x9, x10, x11, x12, x13, x14, undef, undef, x17, x18, x19, x20, x21, x22, x23, x24, x25, x26, x27, x28, x29, x30, x31, x32, x33, x34, x35, x36, x37, x38, x39, x40, x41, x42, x43, x44, x45, x46, x47, x48, x49, x50, x51, x52, x53, x54, x55, x56, x57, x58, x59, x60, x61, x62, x63, x64, x65, x66, x67, x68, x69, x70, x71, x72, x73, x74, x75, x76, x77, x78, x79, x80, x81, x82, x83, x84, x85, x86, x87, x88, x89, x90, x91, x92, x93, undef, .agg #[.slice a0 xs0.length c0], .agg #[.slice b0 xs0.length d0], .agg #[.slice a1 xs1.length c1], undef, undef, undef, undef, x102, x103, x104, x105, x106, x107, x108, x109, x110, x111, x112, x113, x114, x115, x116, x117, x118], defers := [] } V := by
  subst hL
  refine wpAny_ready (rs := [3, 8]) (by kernel_rfl) (by simp) ?_
  refine AllReady.cons rfl (fun K hK => ?_) ?_
  · delta bxops31
    go_simp
    refine (toFam_any _ _ xs1 _ (Lib.hid (X.i1.on B.out)) X.l1).mono ?_
    rintro e V2 ⟨b1, d1, rfl, hi, ho, hcp, hb⟩
    try go_simp
    refine hK _ _ ?_
    exact bx31_0_1_2_3 X V2 b0 d0 b1 d1 (Lib.hid (B.out.trans (hb.mono B.out.size))) (Lib.hid (F0.out.on hb)) (Lib.hid hi) _ (by kernel_rfl)
  refine AllReady.cons rfl (fun K hK => ?_) ?_
  · have hb : Below V.heap.size V (V.alloc (.cells #[.slice none 0 0] 26)) := (Below.refl _ _).alloc (Nat.le_refl _) _
    delta bxops31
    go_simp
    refine hK _ _ ?_
    exact bx31_0_1_2_8 X _ b0 d0 V.heap.size (Lib.hid (B.out.trans (hb.mono B.out.size))) (Lib.hid (F0.out.on hb)) (Lib.hid (And.intro B.out.size (famAt_new _ _))) _ (by kernel_rfl)
  exact AllReady.nil
set_option maxRecDepth 100000 in
set_option maxHeartbeats 2000000 in
theorem bx31_0_1_8 {W : World} {g0 g1 : Nat} {a0 a1 : Option Addr} {c0 c1 : Nat} {xs0 xs1 out : List Int} {r1 : Bool} {Q : Exit → Act → World → Prop} {x0 x1 x4 x5 x6 x7 x8 x9 x10 x11 x12 x13 x14 x17 x18 x19 x20 x21 x22 x23 x24 x25 x26 x27 x28 x29 x30 x31 x32 x33 x34 x35 x36 x37 x38 x39 x40 x41 x42 x43 x44 x45 x46 x47 x48 x49 x50 x51 x52 x53 x54 x55 x56 x57 x58 x59 x60 x61 x62 x63 x64 x65 x66 x67 x68 x69 x70 x71 x72 x73 x74 x75 x76 x77 x78 x79 x80 x81 x82 x83 x84 x85 x86 x87 x88 x89 x90 x91 x92 x93 x102 x103 x104 x105 x106 x107 x108 x109 x110 x111 x112 x113 x114 x115 x116 x117 x118 : Value} (X : Bx31 W g0 g1 a0 a1 c0 c1 xs0 xs1 out r1 Q x0 x1 x4 x5 x6 x7 x8 x9 x10 x11 x12 x13 x14 x17 x18 x19 x20 x21 x22 x23 x24 x25 x26 x27 x28 x29 x30 x31 x32 x33 x34 x35 x36 x37 x38 x39 x40 x41 x42 x43 x44 x45 x46 x47 x48 x49 x50 x51 x52 x53 x54 x55 x56 x57 x58 x59 x60 x61 x62 x63 x64 x65 x66 x67 x68 x69 x70 x71 x72 x73 x74 x75 x76 x77 x78 x79 x80 x81 x82 x83 x84 x85 x86 x87 x88 x89 x90 x91 x92 x93 x102 x103 x104 x105 x106 x107 x108 x109 x110 x111 x112 x113 x114 x115 x116 x117 x118) (V : World) (b0 : Option Addr) (d0 : Nat) (n : Nat) (B : Hid (Below W.heap.size W V)) (F0 : Hid (Ints V b0 xs0)) (N : Hid (W.heap.size ≤ n ∧ FamAt V n (.slice none 0 0))) (L : Array Bool) (hL : L = #[true, true, false, false, false, false, false, false, true, false, false]) :
    wpAny Try.prog .any bxops31 Q 8 L { tmps := #[x0, x1, .pointer (some ⟨g0, 0, none⟩), .pointer (some ⟨g1, 0, none⟩), x4, x5, x6, x7, x8, x9, x10, x11, x12, x13, x14, .pointer (some ⟨n, 0, none⟩), undef, x17, x18, x19, x20, x21, x22, x23, x24, x25, x26, x27, x28, x29, x30, x31, x32, x33, x34, x35, x36, x37, x38, x39, x40, x41, x42, x43, x44, x45, x46, x47, x48, x49, x50, x51, x52, x53, x54, x55, x56, x57, x58, x59, x60, x61, x62, x63, x64, x65, x66, x67, x68, x69, x70, x71, x72, x73, x74, x75, x76, x77, x78, x79, x80, x81, x82, x83, x84, x85, x86, x87, x88, x89, x90, x91, x92, x93, undef, .agg #[.slice a0 xs0.length c0], .agg #[.slice b0 xs0.length d0], undef, undef, undef, undef, undef, x102, x103, x104, x105, x106, x107, x108, x109, x110, x111, x112, x113, x114, x115, x116, x117, x118], defers := [] } V := by
  subst hL
  refine wpAny_ready (rs := [2]) (by kernel_rfl) (by simp) ?_
  refine AllReady.cons rfl (fun K hK => ?_) ?_
  · have hcx := (X.v1.on B.out).cell
    delta bxops31
    go_simp
    refine hK _ _ ?_
    exact bx31_0_1_2_8 X V b0 d0 n B F0 N _ (by kernel_rfl)
  exact AllReady.nil
set_option maxRecDepth 100000 in
set_option maxHeartbeats 2000000 in
theorem bx31_0_1 {W : World} {g0 g1 : Nat} {a0 a1 : Option Addr} {c0 c1 : Nat} {xs0 xs1 out : List Int} {r1 : Bool} {Q : Exit → Act → World → Prop} {x0 x1 x4 x5 x6 x7 x8 x9 x10 x11 x12 x13 x14 x17 x18 x19 x20 x21 x22 x23 x24 x25 x26 x27 x28 x29 x30 x31 x32 x33 x34 x35 x36 x37 x38 x39 x40 x41 x42 x43 x44 x45 x46 x47 x48 x49 x50 x51 x52 x53 x54 x55 x56 x57 x58 x59 x60 x61 x62 x63 x64 x65 x66 x67 x68 x69 x70 x71 x72 x73 x74 x75 x76 x77 x78 x79 x80 x81 x82 x83 x84 x85 x86 x87 x88 x89 x90 x91 x92 x93 x102 x103 x104 x105 x106 x107 x108 x109 x110 x111 x112 x113 x114 x115 x116 x117 x118 : Value} (X : Bx31 W g0 g1 a0 a1 c0 c1 xs0 xs1 out r1 Q x0 x1 x4 x5 x6 x7 x8 x9 x10 x11 x12 x13 x14 x17 x18 x19 x20 x21 x22 x23 x24 x25 x26 x27 x28 x29 x30 x31 x32 x33 x34 x35 x36 x37 x38 x39 x40 x41 x42 x43 x44 x45 x46 x47 x48 x49 x50 x51 x52 x53 x54 x55 x56 x57 x58 x59 x60 x61 x62 x63 x64 x65 x66 x67 x68 x69 x70 x71 x72 x73 x74 x75 x76 x77 x78 x79 x80 x81 x82 x83 x84 x85 x86 x87 x88 x89 x90 x91 x92 x93 x102 x103 x104 x105 x106 x107 x108 x109 x110 x111 x112 x113 x114 x115 x116 x117 x118) (V : World) (b0 : Option Addr) (d0 : Nat) (B : Hid (Below W.heap.size W V)) (F0 : Hid (Ints V b0 xs0)) (L : Array Bool) (hL : L = #[true, true, false, false, false, false, false, false, false, false, false]) :
    wpAny Try.prog .any bxops31 Q 9 L { tmps := #[x0, x1, .pointer (some ⟨g0, 0, none⟩), .pointer (some ⟨g1, 0, none⟩), x4, x5, x6, x7, x8, x9, x10, x11, x12, x13, x14, undef, undef, x17, x18, x19, x20, x21, x22, x23, x24, x25, x26, x27, x28, x29, x30, x31, x32, x33, x34, x35, x36, x37, x38, x39, x40, x41, x42, x43, x44, x45, x46, x47, x48, x49, x50, x51, x52, x53, x54, x55, x56, x57, x58, x59, x60, x61, x62, x63, x64, x65, x66, x67, x68, x69, x70, x71, x72, x73, x74, x75, x76, x77, x78, x79, x80, x81, x82, x83, x84, x85, x86, x87, x88, x89, x90, x91, x92, x93, undef, .agg #[.slice a0 xs0.length c0], .agg #[.slice b0 xs0.length d0], undef, undef, undef, undef, undef, x102, x103, x104, x105, x106, x107, x108, x109, x110, x111, x112, x113, x114, x115, x116, x117, x118], defers := [] } V := by
  subst hL
  refine wpAny_ready (rs := [2, 8]) (by kernel_rfl) (by simp) ?_
  refine AllReady.cons rfl (fun K hK => ?_) ?_
  · have hcx := (X.v1.on B.out).cell
    delta bxops31
    go_simp
    refine hK _ _ ?_
    exact bx31_0_1_2 X V b0 d0 B F0 _ (by kernel_rfl)
  refine AllReady.cons rfl (fun K hK => ?_) ?_
  · have hb : Below V.heap.size V (V.alloc (.cells #[.slice none 0 0] 26)) := (Below.refl _ _).alloc (Nat.le_refl _) _
    delta bxops31
    go_simp
    refine hK _ _ ?_
    exact bx31_0_1_8 X _ b0 d0 V.heap.size (Lib.hid (B.out.trans (hb.mono B.out.size))) (Lib.hid (F0.out.on hb)) (Lib.hid (And.intro B.out.size (famAt_new _ _))) _ (by kernel_rfl)
  exact AllReady.nil
set_option maxRecDepth 100000 in
set_option maxHeartbeats 2000000 in
theorem bx31_0_2_8 {W : World} {g0 g1 : Nat} {a0 a1 : Option Addr} {c0 c1 : Nat} {xs0 xs1 out : List Int} {r1 : Bool} {Q : Exit → Act → World → Prop} {x0 x1 x4 x5 x6 x7 x8 x9 x10 x11 x12 x13 x14 x17 x18 x19 x20 x21 x22 x23 x24 x25 x26 x27 x28 x29 x30 x31 x32 x33 x34 x35 x36 x37 x38 x39 x40 x41 x42 x43 x44 x45 x46 x47 x48 x49 x50 x51 x52 x53 x54 x55 x56 x57 x58 x59 x60 x61 x62 x63 x64 x65 x66 x67 x68 x69 x70 x71 x72 x73 x74 x75 x76 x77 x78 x79 x80 x81 x82 x83 x84 x85 x86 x87 x88 x89 x90 x91 x92 x93 x102 x103 x104 x105 x106 x107 x108 x109 x110 x111 x112 x113 x114 x115 x116 x117 x118 : Value} (X : Bx31 W g0 g1 a0 a1 c0 c1 xs0 xs1 out r1 Q x0 x1 x4 x5 x6 x7 x8 x9 x10 x11 x12 x13 x14 x17 x18 x19 x20 x21 x22 x23 x24 x25 x26 x27 x28 x29 x30 x31 x32 x33 x34 x35 x36 x37 x38 x39 x40 x41 x42 x43 x44 x45 x46 x47 x48 x49 x50 x51 x52 x53 x54 x55 x56 x57 x58 x59 x60 x61 x62 x63 x64 x65 x66 x67 x68 x69 x70 x71 x72 x73 x74 x75 x76 x77 x78 x79 x80 x81 x82 x83 x84 x85 x86 x87 x88 x89 x90 x91 x92 x93 x102 x103 x104 x105 x106 x107 x108 x109 x110 x111 x112 x113 x114 x115 x116 x117 x118) (V : World) (n : Nat) (B : Hid (Below W.heap.size W V)) (N : Hid (W.heap.size ≤ n ∧ FamAt V n (.slice none 0 0))) (L : Array Bool) (hL : L = #[true, false, true, false, false, false, false, false, true, false, false]) :
    wpAny Try.prog .any bxops31 Q 8 L { tmps := #[x0, x1, .pointer (some ⟨g0, 0, none⟩), .pointer (some ⟨g1, 0, none⟩), x4, x5, x6, x7, x8, x9, x10, x11, x12, x13, x14, .pointer (some ⟨n, 0, none⟩), undef, x17, x18, x19, x20, x21, x22, x23, x24, x25, x26, x27, x28, x29, x30, x31, x32, x33, x34, x35, x36, x37, x38, x39, x40, x41, x42, x43, x44, x45, x46, x47, x48, x49, x50, x51, x52, x53, x54, x55, x56, x57, x58, x59, x60, x61, x62, x63, x64, x65, x66, x67, x68, x69, x70, x71, x72, x73, x74, x75, x76, x77, x78, x79, x80, x81, x82, x83, x84, x85, x86, x87, x88, x89, x90, x91, x92, x93, undef, .agg #[.slice a0 xs0.length c0], undef, .agg #[.slice a1 xs1.length c1], undef, undef, undef, undef, x102, x103, x104, x105, x106, x107, x108, x109, x110, x111, x112, x113, x114, x115, x116, x117, x118], defers := [] } V := by
  subst hL
  refine wpAny_ready (rs := [1]) (by kernel_rfl) (by simp) ?_
  refine AllReady.cons rfl (fun K hK => ?_) ?_
  · delta bxops31
    go_simp
    refine (toFam_any _ _ xs0 _ (Lib.hid (X.i0.on B.out)) X.l0).mono ?_
    rintro e V2 ⟨b0, d0, rfl, hi, ho, hcp, hb⟩
    try go_simp
    refine hK _ _ ?_
    exact bx31_0_1_2_8 X V2 b0 d0 n (Lib.hid (B.out.trans (hb.mono B.out.size))) (Lib.hid hi) (Lib.hid (And.intro N.out.1 (N.out.2.on hb))) _ (by kernel_rfl)
  exact AllReady.nil
set_option maxRecDepth 100000 in
set_option maxHeartbeats 2000000 in
theorem bx31_0_2 {W : World} {g0 g1 : Nat} {a0 a1 : Option Addr} {c0 c1 : Nat} {xs0 xs1 out : List Int} {r1 : Bool} {Q : Exit → Act → World → Prop} {x0 x1 x4 x5 x6 x7 x8 x9 x10 x11 x12 x13 x14 x17 x18 x19 x20 x21 x22 x23 x24 x25 x26 x27 x28 x29 x30 x31 x32 x33 x34 x35 x36 x37 x38 x39 x40 x41 x42 x43 x44 x45 x46 x47 x48 x49 x50 x51 x52 x53 x54 x55 x56 x57 x58 x59 x60 x61 x62 x63 x64 x65 x66 x67 x68 x69 x70 x71 x72 x73 x74 x75 x76 x77 x78 x79 x80 x81 x82 x83 x84 x85 x86 x87 x88 x89 x90 x91 x92 x93 x102 x103 x104 x105 x106 x107 x108 x109 x110 x111 x112 x113 x114 x115 x116 x117 x118 : Value} (X : Bx31 W g0 g1 a0 a1 c0 c1 xs0 xs1 out r1 Q x0 x1 x4 x5 x6 x7 x8 x9 x10 x11 x12 x13 x14 x17 x18 x19 x20 x21 x22 x23 x24 x25 x26 x27 x28 x29 x30 x31 x32 x33 x34 x35 x36 x37 x38 x39 x40 x41 x42 x43 x44 x45 x46 x47 x48 x49 x50 x51 x52 x53 x54 x55 x56 x57 x58 x59 x60 x61 x62 x63 x64 x65 x66 x67 x68 x69 x70 x71 x72 x73 x74 x75 x76 x77 x78 x79 x80 x81 x82 x83 x84 x85 x86 x87 x88 x89 x90 x91 x92 x93 x102 x103 x104 x105 x106 x107 x108 x109 x110 x111 x112 x113 x114 x115 x116 x117 x118) (V : World)  (B : Hid (Below W.heap.size W V)) (L : Array Bool) (hL : L = #[true, false, true, false, false, false, false, false, false, false, false]) :
    wpAny Try.prog .any bxops31 Q 9 L { tmps := #[x0, x1, .pointer (some ⟨g0, 0, none⟩), .pointer (some ⟨g1, 0, none⟩), x4, x5, x6, x7, x8, x9, x10, x11, x12, x13, x14, undef, undef, x17, x18, x19, x20, x21, x22, x23, x24, x25, x26, x27, x28, x29, x30, x31, x32, x33, x34, x35, x36, x37, x38, x39, x40, x41, x42, x43, x44, x45, x46, x47, x48, x49, x50, x51, x52, x53, x54, x55, x56, x57, x58, x59, x60, x61, x62, x63, x64, x65, x66, x67, x68, x69, x70, x71, x72, x73, x74, x75, x76, x77, x78, x79, x80, x81, x82, x83, x84, x85, x86, x87, x88, x89, x90, x91, x92, x93, undef, .agg #[.slice a0 xs0.length c0], undef, .agg #[.slice a1 xs1.length c1], undef, undef, undef, undef, x102, x103, x104, x105, x106, x107, x108, x109, x110, x111, x112, x113, x114, x115, x116, x117, x118], defers := [] } V := by
  subst hL
  refine wpAny_ready (rs := [1, 8]) (by kernel_rfl) (by simp) ?_
  refine AllReady.cons rfl (fun K hK => ?_) ?_
  · delta bxops31
    go_simp
    refine (toFam_any _ _ xs0 _ (Lib.hid (X.i0.on B.out)) X.l0).mono ?_
    rintro e V2 ⟨b0, d0, rfl, hi, ho, hcp, hb⟩
    try go_simp
    refine hK _ _ ?_
    exact bx31_0_1_2 X V2 b0 d0 (Lib.hid (B.out.trans (hb.mono B.out.size))) (Lib.hid hi) _ (by kernel_rfl)
  refine AllReady.cons rfl (fun K hK => ?_) ?_
  · have hb : Below V.heap.size V (V.alloc (.cells #[.slice none 0 0] 26)) := (Below.refl _ _).alloc (Nat.le_refl _) _
    delta bxops31
    go_simp
    refine hK _ _ ?_
    exact bx31_0_2_8 X _ V.heap.size (Lib.hid (B.out.trans (hb.mono B.out.size))) (Lib.hid (And.intro B.out.size (famAt_new _ _))) _ (by kernel_rfl)
  exact AllReady.nil
set_option maxRecDepth 100000 in
set_option maxHeartbeats 2000000 in
theorem bx31_0_8 {W : World} {g0 g1 : Nat} {a0 a1 : Option Addr} {c0 c1 : Nat} {xs0 xs1 out : List Int} {r1 : Bool} {Q : Exit → Act → World → Prop} {x0 x1 x4 x5 x6 x7 x8 x9 x10 x11 x12 x13 x14 x17 x18 x19 x20 x21 x22 x23 x24 x25 x26 x27 x28 x29 x30 x31 x32 x33 x34 x35 x36 x37 x38 x39 x40 x41 x42 x43 x44 x45 x46 x47 x48 x49 x50 x51 x52 x53 x54 x55 x56 x57 x58 x59 x60 x61 x62 x63 x64 x65 x66 x67 x68 x69 x70 x71 x72 x73 x74 x75 x76 x77 x78 x79 x80 x81 x82 x83 x84 x85 x86 x87 x88 x89 x90 x91 x92 x93 x102 x103 x104 x105 x106 x107 x108 x109 x110 x111 x112 x113 x114 x115 x116 x117 x118 : Value} (X : Bx31 W g0 g1 a0 a1 c0 c1 xs0 xs1 out r1 Q x0 x1 x4 x5 x6 x7 x8 x9 x10 x11 x12 x13 x14 x17 x18 x19 x20 x21 x22 x23 x24 x25 x26 x27 x28 x29 x30 x31 x32 x33 x34 x35 x36 x37 x38 x39 x40 x41 x42 x43 x44 x45 x46 x47 x48 x49 x50 x51 x52 x53 x54 x55 x56 x57 x58 x59 x60 x61 x62 x63 x64 x65 x66 x67 x68 x69 x70 x71 x72 x73 x74 x75 x76 x77 x78 x79 x80 x81 x82 x83 x84 x85 x86 x87 x88 x89 x90 x91 x92 x93 x102 x103 x104 x105 x106 x107 x108 x109 x110 x111 x112 x113 x114 x115 x116 x117 x118) (V : World) (n : Nat) (B : Hid (Below W.heap.size W V)) (N : Hid (W.heap.size ≤ n ∧ FamAt V n (.slice none 0 0))) (L : Array Bool) (hL : L = #[true, false, false, false, false, false, false, false, true, false, false]) :
    wpAny Try.prog .any bxops31 Q 9 L { tmps := #[x0, x1, .pointer (some ⟨g0, 0, none⟩), .pointer (some ⟨g1, 0, none⟩), x4, x5, x6, x7, x8, x9, x10, x11, x12, x13, x14, .pointer (some ⟨n, 0, none⟩), undef, x17, x18, x19, x20, x21, x22, x23, x24, x25, x26, x27, x28, x29, x30, x31, x32, x33, x34, x35, x36, x37, x38, x39, x40, x41, x42, x43, x44, x45, x46, x47, x48, x49, x50, x51, x52, x53, x54, x55, x56, x57, x58, x59, x60, x61, x62, x63, x64, x65, x66, x67, x68, x69, x70, x71, x72, x73, x74, x75, x76, x77, x78, x79, x80, x81, x82, x83, x84, x85, x86, x87, x88, x89, x90, x91, x92, x93, undef, .agg #[.slice a0 xs0.length c0], undef, undef, undef, undef, undef, undef, x102, x103, x104, x105, x106, x107, x108, x109, x110, x111, x112, x113, x114, x115, x116, x117, x118], defers := [] } V := by
  subst hL
  refine wpAny_ready (rs := [1, 2]) (by kernel_rfl) (by simp) ?_
  refine AllReady.cons rfl (fun K hK => ?_) ?_
  · delta bxops31
    go_simp
    refine (toFam_any _ _ xs0 _ (Lib.hid (X.i0.on B.out)) X.l0).mono ?_
    rintro e V2 ⟨b0, d0, rfl, hi, ho, hcp, hb⟩
    try go_simp
    refine hK _ _ ?_
    exact bx31_0_1_8 X V2 b0 d0 n (Lib.hid (B.out.trans (hb.mono B.out.size))) (Lib.hid hi) (Lib.hid (And.intro N.out.1 (N.out.2.on hb))) _ (by kernel_rfl)
  refine AllReady.cons rfl (fun K hK => ?_) ?_
  · have hcx := (X.v1.on B.out).cell
    delta bxops31
    go_simp
    refine hK _ _ ?_
    exact bx31_0_2_8 X V n B N _ (by kernel_rfl)
  exact AllReady.nil
set_option maxRecDepth 100000 in
set_option maxHeartbeats 2000000 in
theorem bx31_0 {W : World} {g0 g1 : Nat} {a0 a1 : Option Addr} {c0 c1 : Nat} {xs0 xs1 out : List Int} {r1 : Bool} {Q : Exit → Act → World → Prop} {x0 x1 x4 x5 x6 x7 x8 x9 x10 x11 x12 x13 x14 x17 x18 x19 x20 x21 x22 x23 x24 x25 x26 x27 x28 x29 x30 x31 x32 x33 x34 x35 x36 x37 x38 x39 x40 x41 x42 x43 x44 x45 x46 x47 x48 x49 x50 x51 x52 x53 x54 x55 x56 x57 x58 x59 x60 x61 x62 x63 x64 x65 x66 x67 x68 x69 x70 x71 x72 x73 x74 x75 x76 x77 x78 x79 x80 x81 x82 x83 x84 x85 x86 x87 x88 x89 x90 x91 x92 x93 x102 x103 x104 x105 x106 x107 x108 x109 x110 x111 x112 x113 x114 x115 x116 x117 x118 : Value} (X : Bx31 W g0 g1 a0 a1 c0 c1 xs0 xs1 out r1 Q x0 x1 x4 x5 x6 x7 x8 x9 x10 x11 x12 x13 x14 x17 x18 x19 x20 x21 x22 x23 x24 x25 x26 x27 x28 x29 x30 x31 x32 x33 x34 x35 x36 x37 x38 x39 x40 x41 x42 x43 x44 x45 x46 x47 x48 x49 x50 x51 x52 x53 x54 x55 x56 x57 x58 x59 x60 x61 x62 x63 x64 x65 x66 x67 x68 x69 x70 x71 x72 x73 x74 x75 x76 x77 x78 x79 x80 x81 x82 x83 x84 x85 x86 x87 x88 x89 x90 x91 x92 x93 x102 x103 x104 x105 x106 x107 x108 x109 x110 x111 x112 x113 x114 x115 x116 x117 x118) (V : World)  (B : Hid (Below W.heap.size W V)) (L : Array Bool) (hL : L = #[true, false, false, false, false, false, false, false, false, false, false]) :
    wpAny Try.prog .any bxops31 Q 10 L { tmps := #[x0, x1, .pointer (some ⟨g0, 0, none⟩), .pointer (some ⟨g1, 0, none⟩), x4, x5, x6, x7, x8, x9, x10, x11, x12, x13, x14, undef, undef, x17, x18, x19, x20, x21, x22, x23, x24, x25, x26, x27, x28, x29, x30, x31, x32, x33, x34, x35, x36, x37, x38, x39, x40, x41, x42, x43, x44, x45, x46, x47, x48, x49, x50, x51, x52, x53, x54, x55, x56, x57, x58, x59, x60, x61, x62, x63, x64, x65, x66, x67, x68, x69, x70, x71, x72, x73, x74, x75, x76, x77, x78, x79, x80, x81, x82, x83, x84, x85, x86, x87, x88, x89, x90, x91, x92, x93, undef, .agg #[.slice a0 xs0.length c0], undef, undef, undef, undef, undef, undef, x102, x103, x104, x105, x106, x107, x108, x109, x110, x111, x112, x113, x114, x115, x116, x117, x118], defers := [] } V := by
  subst hL
  refine wpAny_ready (rs := [1, 2, 8]) (by kernel_rfl) (by simp) ?_
  refine AllReady.cons rfl (fun K hK => ?_) ?_
  · delta bxops31
    go_simp
    refine (toFam_any _ _ xs0 _ (Lib.hid (X.i0.on B.out)) X.l0).mono ?_
    rintro e V2 ⟨b0, d0, rfl, hi, ho, hcp, hb⟩
    try go_simp
    refine hK _ _ ?_
    exact bx31_0_1 X V2 b0 d0 (Lib.hid (B.out.trans (hb.mono B.out.size))) (Lib.hid hi) _ (by kernel_rfl)
  refine AllReady.cons rfl (fun K hK => ?_) ?_
  · have hcx := (X.v1.on B.out).cell
    delta bxops31
    go_simp
    refine hK _ _ ?_
    exact bx31_0_2 X V  B _ (by kernel_rfl)
  refine AllReady.cons rfl (fun K hK => ?_) ?_
  · have hb : Below V.heap.size V (V.alloc (.cells #[.slice none 0 0] 26)) := (Below.refl _ _).alloc (Nat.le_refl _) _
    delta bxops31
    go_simp
    refine hK _ _ ?_
    exact bx31_0_8 X _ V.heap.size (Lib.hid (B.out.trans (hb.mono B.out.size))) (Lib.hid (And.intro B.out.size (famAt_new _ _))) _ (by kernel_rfl)
  exact AllReady.nil
set_option maxRecDepth 100000 in
set_option maxHeartbeats 2000000 in
theorem bx31_2_8 {W : World} {g0 g1 : Nat} {a0 a1 : Option Addr} {c0 c1 : Nat} {xs0 xs1 out : List Int} {r1 : Bool} {Q : Exit → Act → World → Prop} {x0 x1 x4 x5 x6 x7 x8 x9 x10 x11 x12 x13 x14 x17 x18 x19 x20 x21 x22 x23 x24 x25 x26 x27 x28 x29 x30 x31 x32 x33 x34 x35 x36 x37 x38 x39 x40 x41 x42 x43 x44 x45 x46 x47 x48 x49 x50 x51 x52 x53 x54 x55 x56 x57 x58 x59 x60 x61 x62 x63 x64 x65 x66 x67 x68 x69 x70 x71 x72 x73 x74 x75 x76 x77 x78 x79 x80 x81 x82 x83 x84 x85 x86 x87 x88 x89 x90 x91 x92 x93 x102 x103 x104 x105 x106 x107 x108 x109 x110 x111 x112 x113 x114 x115 x116 x117 x118 : Value} (X : Bx31 W g0 g1 a0 a1 c0 c1 xs0 xs1 out r1 Q x0 x1 x4 x5 x6 x7 x8 x9 x10 x11 x12 x13 x14 x17 x18 x19 x20 x21 x22 x23 x24 x25 x26 x27 x28 x29 x30 x31 x32 x33 x34 x35 x36 x37 x38 x39 x40 x41 x42 x43 x44 x45 x46 x47 x48 x49 x50 x51 x52 x53 x54 x55 x56 x57 x58 x59 x60 x61 x62 x63 x64 x65 x66 x67 x68 x69 x70 x71 x72 x73 x74 x75 x76 x77 x78 x79 x80 x81 x82 x83 x84 x85 x86 x87 x88 x89 x90 x91 x92 x93 x102 x103 x104 x105 x106 x107 x108 x109 x110 x111 x112 x113 x114 x115 x116 x117 x118) (V : World) (n : Nat) (B : Hid (Below W.heap.size W V)) (N : Hid (W.heap.size ≤ n ∧ FamAt V n (.slice none 0 0))) (L : Array Bool) (hL : L = #[false, false, true, false, false, false, false, false, true, false, false]) :
    wpAny Try.prog .any bxops31 Q 9 L { tmps := #[x0, x1, .pointer (some ⟨g0, 0, none⟩), .pointer (some ⟨g1, 0, none⟩), x4, x5, x6, x7, x8, x9, x10, x11, x12, x13, x14, .pointer (some ⟨n, 0, none⟩), undef, x17, x18, x19, x20, x21, x22, x23, x24, x25, x26, x27, x28, x29, x30, x31, x32, x33, x34, x35, x36, x37, x38, x39, x40, x41, x42, x43, x44, x45, x46, x47, x48, x49, x50, x51, x52, x53, x54, x55, x56, x57, x58, x59, x60, x61, x62, x63, x64, x65, x66, x67, x68, x69, x70, x71, x72, x73, x74, x75, x76, x77, x78, x79, x80, x81, x82, x83, x84, x85, x86, x87, x88, x89, x90, x91, x92, x93, undef, undef, undef, .agg #[.slice a1 xs1.length c1], undef, undef, undef, undef, x102, x103, x104, x105, x106, x107, x108, x109, x110, x111, x112, x113, x114, x115, x116, x117, x118], defers := [] } V := by
  subst hL
  refine wpAny_ready (rs := [0]) (by kernel_rfl) (by simp) ?_
  refine AllReady.cons rfl (fun K hK => ?_) ?_
  · have hcx := (X.v0.on B.out).cell
    delta bxops31
    go_simp
    refine hK _ _ ?_
    exact bx31_0_2_8 X V n B N _ (by kernel_rfl)
  exact AllReady.nil
set_option maxRecDepth 100000 in
set_option maxHeartbeats 2000000 in
theorem bx31_2 {W : World} {g0 g1 : Nat} {a0 a1 : Option Addr} {c0 c1 : Nat} {xs0 xs1 out : List Int} {r1 : Bool} {Q : Exit → Act → World → Prop} {x0 x1 x4 x5 x6 x7 x8 x9 x10 x11 x12 x13 x14 x17 x18 x19 x20 x21 x22 x23 x24 x25 x26 x27 x28 x29 x30 x31 x32 x33 x34 x35 x36 x37 x38 x39 x40 x41 x42 x43 x44 x45 x46 x47 x48 x49 x50 x51 x52 x53 x54 x55 x56 x57 x58 x59 x60 x61 x62 x63 x64 x65 x66 x67 x68 x69 x70 x71 x72 x73 x74 x75 x76 x77 x78 x79 x80 x81 x82 x83 x84 x85 x86 x87 x88 x89 x90 x91 x92 x93 x102 x103 x104 x105 x106 x107 x108 x109 x110 x111 x112 x113 x114 x115 x116 x117 x118 : Value} (X : Bx31 W g0 g1 a0 a1 c0 c1 xs0 xs1 out r1 Q x0 x1 x4 x5 x6 x7 x8 x9 x10 x11 x12 x13 x14 x17 x18 x19 x20 x21 x22 x23 x24 x25 x26 x27 x28 x29 x30 x31 x32 x33 x34 x35 x36 x37 x38 x39 x40 x41 x42 x43 x44 x45 x46 x47 x48 x49 x50 x51 x52 x53 x54 x55 x56 x57 x58 x59 x60 x61 x62 x63 x64 x65 x66 x67 x68 x69 x70 x71 x72 x73 x74 x75 x76 x77 x78 x79 x80 x81 x82 x83 x84 x85 x86 x87 x88 x89 x90 x91 x92 x93 x102 x103 x104 x105 x106 x107 x108 x109 x110 x111 x112 x113 x114 x115 x116 x117 x118) (V : World)  (B : Hid (Below W.heap.size W V)) (L : Array Bool) (hL : L = #[false, false, true, false, false, false, false, false, false, false, false]) :
    wpAny Try.prog .any bxops31 Q 10 L { tmps := #[x0, x1, .pointer (some ⟨g0, 0, none⟩), .pointer (some ⟨g1, 0, none⟩), x4, x5, x6, x7, x8, x9, x10, x11, x12, x13, x14, undef, undef, x17, x18, x19, x20, x21, x22, x23, x24, x25, x26, x27, x28, x29, x30, x31, x32, x33, x34, x35, x36, x37, x38, x39, x40, x41, x42, x43, x44, x45, x46, x47, x48, x49, x50, x51, x52, x53, x54, x55, x56, x57, x58, x59, x60, x61, x62, x63, x64, x65, x66, x67, x68, x69, x70, x71, x72, x73, x74, x75, x76, x77, x78, x79, x80, x81, x82, x83, x84, x85, x86, x87, x88, x89, x90, x91, x92, x93, undef, undef, undef, .agg #[.slice a1 xs1.length c1], undef, undef, undef, undef, x102, x103, x104, x105, x106, x107, x108, x109, x110, x111, x112, x113, x114, x115, x116, x117, x118], defers := [] } V := by
  subst hL
  refine wpAny_ready (rs := [0, 8]) (by kernel_rfl) (by simp) ?_
  refine AllReady.cons rfl (fun K hK => ?_) ?_
  · have hcx := (X.v0.on B.out).cell
    delta bxops31
    go_simp
    refine hK _ _ ?_
    exact bx31_0_2 X V  B _ (by kernel_rfl)
  refine AllReady.cons rfl (fun K hK => ?_) ?_
  · have hb : Below V.heap.size V (V.alloc (.cells #[.slice none 0 0] 26)) := (Below.refl _ _).alloc (Nat.le_refl _) _
    delta bxops31
    go_simp
    refine hK _ _ ?_
    exact bx31_2_8 X _ V.heap.size (Lib.hid (B.out.trans (hb.mono B.out.size))) (Lib.hid (And.intro B.out.size (famAt_new _ _))) _ (by kernel_rfl)
  exact AllReady.nil
set_option maxRecDepth 100000 in
set_option maxHeartbeats 2000000 in
theorem bx31_8 {W : World} {g0 g1 : Nat} {a0 a1 : Option Addr} {c0 c1 : Nat} {xs0 xs1 out : List Int} {r1 : Bool} {Q : Exit → Act → World → Prop} {x0 x1 x4 x5 x6 x7 x8 x9 x10 x11 x12 x13 x14 x17 x18 x19 x20 x21 x22 x23 x24 x25 x26 x27 x28 x29 x30 x31 x32 x33 x34 x35 x36 x37 x38 x39 x40 x41 x42 x43 x44 x45 x46 x47 x48 x49 x50 x51 x52 x53 x54 x55 x56 x57 x58 x59 x60 x61 x62 x63 x64 x65 x66 x67 x68 x69 x70 x71 x72 x73 x74 x75 x76 x77 x78 x79 x80 x81 x82 x83 x84 x85 x86 x87 x88 x89 x90 x91 x92 x93 x102 x103 x104 x105 x106 x107 x108 x109 x110 x111 x112 x113 x114 x115 x116 x117 x118 : Value} (X : Bx31 W g0 g1 a0 a1 c0 c1 xs0 xs1 out r1 Q x0 x1 x4 x5 x6 x7 x8 x9 x10 x11 x12 x13 x14 x17 x18 x19 x20 x21 x22 x23 x24 x25 x26 x27 x28 x29 x30 x31 x32 x33 x34 x35 x36 x37 x38 x39 x40 x41 x42 x43 x44 x45 x46 x47 x48 x49 x50 x51 x52 x53 x54 x55 x56 x57 x58 x59 x60 x61 x62 x63 x64 x65 x66 x67 x68 x69 x70 x71 x72 x73 x74 x75 x76 x77 x78 x79 x80 x81 x82 x83 x84 x85 x86 x87 x88 x89 x90 x91 x92 x93 x102 x103 x104 x105 x106 x107 x108 x109 x110 x111 x112 x113 x114 x115 x116 x117 x118) (V : World) (n : Nat) (B : Hid (Below W.heap.size W V)) (N : Hid (W.heap.size ≤ n ∧ FamAt V n (.slice none 0 0))) (L : Array Bool) (hL : L = #[false, false, false, false, false, false, false, false, true, false, false]) :
    wpAny Try.prog .any bxops31 Q 10 L { tmps := #[x0, x1, .pointer (some ⟨g0, 0, none⟩), .pointer (some ⟨g1, 0, none⟩), x4, x5, x6, x7, x8, x9, x10, x11, x12, x13, x14, .pointer (some ⟨n, 0, none⟩), undef, x17, x18, x19, x20, x21, x22, x23, x24, x25, x26, x27, x28, x29, x30, x31, x32, x33, x34, x35, x36, x37, x38, x39, x40, x41, x42, x43, x44, x45, x46, x47, x48, x49, x50, x51, x52, x53, x54, x55, x56, x57, x58, x59, x60, x61, x62, x63, x64, x65, x66, x67, x68, x69, x70, x71, x72, x73, x74, x75, x76, x77, x78, x79, x80, x81, x82, x83, x84, x85, x86, x87, x88, x89, x90, x91, x92, x93, undef, undef, undef, undef, undef, undef, undef, undef, x102, x103, x104, x105, x106, x107, x108, x109, x110, x111, x112, x113, x114, x115, x116, x117, x118], defers := [] } V := by
  subst hL
  refine wpAny_ready (rs := [0, 2]) (by kernel_rfl) (by simp) ?_
  refine AllReady.cons rfl (fun K hK => ?_) ?_
  · have hcx := (X.v0.on B.out).cell
    delta bxops31
    go_simp
    refine hK _ _ ?_
    exact bx31_0_8 X V n B N _ (by kernel_rfl)
  refine AllReady.cons rfl (fun K hK => ?_) ?_
  · have hcx := (X.v1.on B.out).cell
    delta bxops31
    go_simp
    refine hK _ _ ?_
    exact bx31_2_8 X V n B N _ (by kernel_rfl)
  exact AllReady.nil
set_option maxRecDepth 100000 in
set_option maxHeartbeats 2000000 in
theorem bx31_start {W : World} {g0 g1 : Nat} {a0 a1 : Option Addr} {c0 c1 : Nat} {xs0 xs1 out : List Int} {r1 : Bool} {Q : Exit → Act → World → Prop} {x0 x1 x4 x5 x6 x7 x8 x9 x10 x11 x12 x13 x14 x17 x18 x19 x20 x21 x22 x23 x24 x25 x26 x27 x28 x29 x30 x31 x32 x33 x34 x35 x36 x37 x38 x39 x40 x41 x42 x43 x44 x45 x46 x47 x48 x49 x50 x51 x52 x53 x54 x55 x56 x57 x58 x59 x60 x61 x62 x63 x64 x65 x66 x67 x68 x69 x70 x71 x72 x73 x74 x75 x76 x77 x78 x79 x80 x81 x82 x83 x84 x85 x86 x87 x88 x89 x90 x91 x92 x93 x102 x103 x104 x105 x106 x107 x108 x109 x110 x111 x112 x113 x114 x115 x116 x117 x118 : Value} (X : Bx31 W g0 g1 a0 a1 c0 c1 xs0 xs1 out r1 Q x0 x1 x4 x5 x6 x7 x8 x9 x10 x11 x12 x13 x14 x17 x18 x19 x20 x21 x22 x23 x24 x25 x26 x27 x28 x29 x30 x31 x32 x33 x34 x35 x36 x37 x38 x39 x40 x41 x42 x43 x44 x45 x46 x47 x48 x49 x50 x51 x52 x53 x54 x55 x56 x57 x58 x59 x60 x61 x62 x63 x64 x65 x66 x67 x68 x69 x70 x71 x72 x73 x74 x75 x76 x77 x78 x79 x80 x81 x82 x83 x84 x85 x86 x87 x88 x89 x90 x91 x92 x93 x102 x103 x104 x105 x106 x107 x108 x109 x110 x111 x112 x113 x114 x115 x116 x117 x118) (V : World)  (B : Hid (Below W.heap.size W V)) (L : Array Bool) (hL : L = #[false, false, false, false, false, false, false, false, false, false, false]) :
    wpAny Try.prog .any bxops31 Q 11 L { tmps := #[x0, x1, .pointer (some ⟨g0, 0, none⟩), .pointer (some ⟨g1, 0, none⟩), x4, x5, x6, x7, x8, x9, x10, x11, x12, x13, x14, undef, undef, x17, x18, x19, x20, x21, x22, x23, x24, x25, x26, x27, x28, x29, x30, x31, x32, x33, x34, x35, x36, x37, x38, x39, x40, x41, x42, x43, x44, x45, x46, x47, x48, x49, x50, x51, x52, x53, x54, x55, x56, x57, x58, x59, x60, x61, x62, x63, x64, x65, x66, x67, x68, x69, x70, x71, x72, x73, x74, x75, x76, x77, x78, x79, x80, x81, x82, x83, x84, x85, x86, x87, x88, x89, x90, x91, x92, x93, undef, undef, undef, undef, undef, undef, undef, undef, x102, x103, x104, x105, x106, x107, x108, x109, x110, x111, x112, x113, x114, x115, x116, x117, x118], defers := [] } V := by
  subst hL
  refine wpAny_ready (rs := [0, 2, 8]) (by kernel_rfl) (by simp) ?_
  refine AllReady.cons rfl (fun K hK => ?_) ?_
  · have hcx := (X.v0.on B.out).cell
    delta bxops31
    go_simp
    refine hK _ _ ?_
    exact bx31_0 X V  B _ (by kernel_rfl)
  refine AllReady.cons rfl (fun K hK => ?_) ?_
  · have hcx := (X.v1.on B.out).cell
    delta bxops31
    go_simp
    refine hK _ _ ?_
    exact bx31_2 X V  B _ (by kernel_rfl)
  refine AllReady.cons rfl (fun K hK => ?_) ?_
  · have hb : Below V.heap.size V (V.alloc (.cells #[.slice none 0 0] 26)) := (Below.refl _ _).alloc (Nat.le_refl _) _
    delta bxops31
    go_simp
    refine hK _ _ ?_
    exact bx31_8 X _ V.heap.size (Lib.hid (B.out.trans (hb.mono B.out.size))) (Lib.hid (And.intro B.out.size (famAt_new _ _))) _ (by kernel_rfl)
  exact AllReady.nil

set_option maxRecDepth 20000 in
set_option maxHeartbeats 2000000 in
theorem walk (a0 : Option Addr) (len0 cap0 : Nat) (z0 : List Int) (a1 : Option Addr) (len1 cap1 : Nat) (z1 : List Int) (w : World) (w0 : IsRow .i64 w a0 len0 cap0 z0) (w1 : IsRow .i64 w a1 len1 cap1 z1) :
    Calls Try.prog 4 #[.agg #[.slice a0 len0 cap0], .agg #[.slice a1 len1 cap1]] w fun e w' => e = .returned (.bool true) ∧ Below w.heap.size w w' := by
  obtain ⟨xs0, rfl, hI0, h640, hl0⟩ := row_ints w0
  clear w0
  have I0 := Lib.hid hI0
  have N0 := Lib.hid h640
  clear hI0 h640
  obtain ⟨xs1, rfl, hI1, h641, hl1⟩ := row_ints w1
  clear w1
  have I1 := Lib.hid hI1
  have N1 := Lib.hid h641
  clear hI1 h641
  by_cases h0 : 1048576 < xs0.length
  · skip
    go_enter Try.func4, Try.ntmps4
    have hb : Below w.heap.size w ((w.alloc (.cells #[.slice a0 xs0.length cap0] 24)).alloc (.cells #[.slice a1 xs1.length cap1] 24)) := ((Below.refl _ _).alloc (Nat.le_refl _) _).alloc (by simp) _
    have hx : At1 24 ((w.alloc (.cells #[.slice a0 xs0.length cap0] 24)).alloc (.cells #[.slice a1 xs1.length cap1] 24)) w.heap.size (.slice a0 xs0.length cap0) := at1_old _ _ _
    have hy : At1 24 ((w.alloc (.cells #[.slice a0 xs0.length cap0] 24)).alloc (.cells #[.slice a1 xs1.length cap1] 24)) (w.heap.size + 1) (.slice a1 xs1.length cap1) := At1.second _ _ _
    have hlt : w.heap.size + 1 < ((w.alloc (.cells #[.slice a0 xs0.length cap0] 24)).alloc (.cells #[.slice a1 xs1.length cap1] 24)).heap.size := by simp
    have hc0 := hx.cell
    have Hb := Lib.hid hb
    have Hx := Lib.hid hx
    have Hy := Lib.hid hy
    have Hlt := Lib.hid hlt
    clear hb hx hy hlt
    go_wp2_with fail
    clear hc0
    generalize ((w.alloc (.cells #[.slice a0 xs0.length cap0] 24)).alloc (.cells #[.slice a1 xs1.length cap1] 24)) = W1 at Hb Hx Hy Hlt ⊢
    have hb := Hb.out
    have B1 := Lib.hid hb
    have Z1 := Lib.hid hb.size
    have T1 : Hid (w.heap.size < W1.heap.size) := Lib.hid (by have := Hlt.out; omega)
    have T1b := Hlt
    have Xv0_1 := Hx
    have Xv1_1 := Hy
    clear hb Hb
    refine (sz_big _ _ _ _ h0 (by omega)).mono ?_
    rintro e W2 ⟨rfl, hb⟩
    have B2 := Lib.hid (B1.out.trans (hb.mono B1.out.size))
    have Z2 := Lib.hid hb.size
    clear hb
    go_wp2_with fail
    go_ret
    exact ⟨rfl, B2.out⟩
  · skip
    have hn0 : xs0.length ≤ 1048576 := by omega
    clear h0
    by_cases h1 : 1048576 < xs0.length + xs1.length
    · skip
      go_enter Try.func4, Try.ntmps4
      have hb : Below w.heap.size w ((w.alloc (.cells #[.slice a0 xs0.length cap0] 24)).alloc (.cells #[.slice a1 xs1.length cap1] 24)) := ((Below.refl _ _).alloc (Nat.le_refl _) _).alloc (by simp) _
      have hx : At1 24 ((w.alloc (.cells #[.slice a0 xs0.length cap0] 24)).alloc (.cells #[.slice a1 xs1.length cap1] 24)) w.heap.size (.slice a0 xs0.length cap0) := at1_old _ _ _
      have hy : At1 24 ((w.alloc (.cells #[.slice a0 xs0.length cap0] 24)).alloc (.cells #[.slice a1 xs1.length cap1] 24)) (w.heap.size + 1) (.slice a1 xs1.length cap1) := At1.second _ _ _
      have hlt : w.heap.size + 1 < ((w.alloc (.cells #[.slice a0 xs0.length cap0] 24)).alloc (.cells #[.slice a1 xs1.length cap1] 24)).heap.size := by simp
      have hc0 := hx.cell
      have Hb := Lib.hid hb
      have Hx := Lib.hid hx
      have Hy := Lib.hid hy
      have Hlt := Lib.hid hlt
      clear hb hx hy hlt
      go_wp2_with fail
      clear hc0
      generalize ((w.alloc (.cells #[.slice a0 xs0.length cap0] 24)).alloc (.cells #[.slice a1 xs1.length cap1] 24)) = W1 at Hb Hx Hy Hlt ⊢
      have hb := Hb.out
      have B1 := Lib.hid hb
      have Z1 := Lib.hid hb.size
      have T1 : Hid (w.heap.size < W1.heap.size) := Lib.hid (by have := Hlt.out; omega)
      have T1b := Hlt
      have Xv0_1 := Hx
      have Xv1_1 := Hy
      clear hb Hb
      refine (sz_first _ _ _ _ hn0).mono ?_
      rintro e W2 ⟨rfl, hb⟩
      have B2 := Lib.hid (B1.out.trans (hb.mono B1.out.size))
      have Z2 := Lib.hid hb.size
      have Xv0_2 := Lib.hid (Xv0_1.out.on hb)
      clear Xv0_1
      have Xv1_2 := Lib.hid (Xv1_1.out.on hb)
      clear Xv1_1
      clear hb
      have hs1 : ¬ (1048576 - (xs0.length : Int) < 0) := by omega
      have hcv1 := Xv1_2.out.cell
      go_wp2_with fail
      clear hcv1
      refine (sz_over _ xs0.length _ _ _ hn0 h1 (by omega)).mono ?_
      rintro e W3 ⟨rfl, hb⟩
      have B3 := Lib.hid (B2.out.trans (hb.mono B2.out.size))
      have Z3 := Lib.hid hb.size
      clear hb
      go_wp2_with fail
      go_ret
      exact ⟨rfl, B3.out⟩
    · skip
      have hn1 : xs1.length ≤ 1048576 := by omega
      obtain ⟨out, r1, hol, hsp, him⟩ := bothOrFamily xs0 N0 hn0 xs1 N1 hn1
      have HP := Lib.hid hsp
      have HI := Lib.hid him
      clear hsp him
      go_enter Try.func4, Try.ntmps4
      have hb : Below w.heap.size w ((w.alloc (.cells #[.slice a0 xs0.length cap0] 24)).alloc (.cells #[.slice a1 xs1.length cap1] 24)) := ((Below.refl _ _).alloc (Nat.le_refl _) _).alloc (by simp) _
      have hx : At1 24 ((w.alloc (.cells #[.slice a0 xs0.length cap0] 24)).alloc (.cells #[.slice a1 xs1.length cap1] 24)) w.heap.size (.slice a0 xs0.length cap0) := at1_old _ _ _
      have hy : At1 24 ((w.alloc (.cells #[.slice a0 xs0.length cap0] 24)).alloc (.cells #[.slice a1 xs1.length cap1] 24)) (w.heap.size + 1) (.slice a1 xs1.length cap1) := At1.second _ _ _
      have hlt : w.heap.size + 1 < ((w.alloc (.cells #[.slice a0 xs0.length cap0] 24)).alloc (.cells #[.slice a1 xs1.length cap1] 24)).heap.size := by simp
      have hc0 := hx.cell
      have Hb := Lib.hid hb
      have Hx := Lib.hid hx
      have Hy := Lib.hid hy
      have Hlt := Lib.hid hlt
      clear hb hx hy hlt
      go_wp2_with fail
      clear hc0
      generalize ((w.alloc (.cells #[.slice a0 xs0.length cap0] 24)).alloc (.cells #[.slice a1 xs1.length cap1] 24)) = W1 at Hb Hx Hy Hlt ⊢
      have hb := Hb.out
      have B1 := Lib.hid hb
      have Z1 := Lib.hid hb.size
      have T1 : Hid (w.heap.size < W1.heap.size) := Lib.hid (by have := Hlt.out; omega)
      have T1b := Hlt
      have Xv0_1 := Hx
      have Xv1_1 := Hy
      clear hb Hb
      refine (sz_first _ _ _ _ hn0).mono ?_
      rintro e W2 ⟨rfl, hb⟩
      have B2 := Lib.hid (B1.out.trans (hb.mono B1.out.size))
      have Z2 := Lib.hid hb.size
      have Xv0_2 := Lib.hid (Xv0_1.out.on hb)
      clear Xv0_1
      have Xv1_2 := Lib.hid (Xv1_1.out.on hb)
      clear Xv1_1
      clear hb
      have hs1 : ¬ (1048576 - (xs0.length : Int) < 0) := by omega
      have hcv1 := Xv1_2.out.cell
      go_wp2_with fail
      clear hcv1
      refine (sz_next _ xs0.length _ _ _ (by omega)).mono ?_
      rintro e W3 ⟨rfl, hb⟩
      have B3 := Lib.hid (B2.out.trans (hb.mono B2.out.size))
      have Z3 := Lib.hid hb.size
      have Xv0_3 := Lib.hid (Xv0_2.out.on hb)
      clear Xv0_2
      have Xv1_3 := Lib.hid (Xv1_2.out.on hb)
      clear Xv1_2
      clear hb
      have hs2 : ¬ (1048576 - (xs0.length : Int) - (xs1.length : Int) < 0) := by omega
      have HA0 := (Lib.hid (I0.out.on B3.out))
      have HV0 := Xv0_3
      have HA1 := (Lib.hid (I1.out.on B3.out))
      have HV1 := Xv1_3
      go_upto_region 8 with fail
      go_cut [6, 7] from 27 to 34 (fun s6 s7 wx => ∃ n a c, s6 = .pointer (some ⟨n, 0, none⟩) ∧ s7 = .bool r1 ∧ Boxed W3 out n a c wx)
      case first =>
        have Q0 : Hid (Below W3.heap.size W3 W3.drew) := Lib.hid (Below.refl _ _).drew
        refine wp_region_any (by kernel_rfl) ?_
        change wpAny _ _ _ _ _ _ _ (World.drew _)
        refine bx8_start (out := out) (r1 := r1) ⟨HA0.out, HA1.out, hn0, hn1, HV0.out, HV1.out, HP.out, fun b0 d0 b1 d1 a c n V hX => ?_⟩ W3.drew Q0 _ (by kernel_rfl)
        go_wp2_with fail
        go_meet
        case rel => exact ⟨n, a, c, rfl, rfl, hX⟩
      case rest =>
        obtain ⟨nw, aw, cw, rfl, rfl, hX⟩ := hcut
        clear HA0 HV0 HA1 HV1
        generalize wc = W4 at hX ⊢
        have hb := hX.2.2.2.2.1
        have hi := hX.2.1
        have ho := hX.2.2.1
        have B4 := Lib.hid (B3.out.trans (hb.mono B3.out.size))
        have Z4 := Lib.hid hb.size
        have Xv0_4 := Lib.hid (Xv0_3.out.on hb)
        clear Xv0_3
        have Xv1_4 := Lib.hid (Xv1_3.out.on hb)
        clear Xv1_3
        have Fw_4 := Lib.hid hi
        have Ow := Lib.hid ho
        have Xbw_4 : Hid (At1 26 W4 nw (.slice aw out.length cw)) := Lib.hid hX.1
        have Nw := Lib.hid (And.intro hX.2.2.2.2.2 hX.1.lt)
        clear hX hb hi ho
        have hcv0 := Xv0_4.out.cell
        go_wp2_with fail
        clear hcv0
        refine (toFam_any _ _ xs0 _ (Lib.hid (I0.out.on B4.out)) hn0).mono ?_
        rintro e W5 ⟨ax0, cx0, rfl, hi, ho, hcp, hb⟩
        have B5 := Lib.hid (B4.out.trans (hb.mono B4.out.size))
        have Z5 := Lib.hid hb.size
        have Fw_5 := Lib.hid (Fw_4.out.on hb)
        clear Fw_4
        have Xv0_5 := Lib.hid (Xv0_4.out.on hb)
        clear Xv0_4
        have Xv1_5 := Lib.hid (Xv1_4.out.on hb)
        clear Xv1_4
        have Xbw_5 := Lib.hid (Xbw_4.out.on hb)
        clear Xbw_4
        have Fx0_5 := Lib.hid hi
        have Ox0 := Lib.hid ho
        have Kx0 := Lib.hid hcp
        clear hi ho hcp hb
        have hb : Below W5.heap.size W5 (W5.alloc (.cells #[.slice ax0 xs0.length cx0] 26)) := (Below.refl _ _).alloc (Nat.le_refl _) _
        have hx : At1 26 (W5.alloc (.cells #[.slice ax0 xs0.length cx0] 26)) W5.heap.size (.slice ax0 xs0.length cx0) := at1_new _ _ _
        have hlt : W5.heap.size < (W5.alloc (.cells #[.slice ax0 xs0.length cx0] 26)).heap.size := alloc_lt _ _
        have hcv1 := (Xv1_5.out.on hb).cell
        have Hb := Lib.hid hb
        have Hx := Lib.hid hx
        have Hlt := Lib.hid hlt
        clear hb hx hlt
        go_wp2_with fail
        clear hcv1
        generalize (W5.alloc (.cells #[.slice ax0 xs0.length cx0] 26)) = W6 at Hb Hx Hlt ⊢
        have hb := Hb.out
        have B6 := Lib.hid (B5.out.trans (hb.mono B5.out.size))
        have Z6 := Lib.hid hb.size
        have T6 := Hlt
        have Fw_6 := Lib.hid (Fw_5.out.on hb)
        clear Fw_5
        have Fx0_6 := Lib.hid (Fx0_5.out.on hb)
        clear Fx0_5
        have Qx0_6 := Lib.hid (Ox0.out.on hb)
        have Xv0_6 := Lib.hid (Xv0_5.out.on hb)
        clear Xv0_5
        have Xv1_6 := Lib.hid (Xv1_5.out.on hb)
        clear Xv1_5
        have Xbw_6 := Lib.hid (Xbw_5.out.on hb)
        clear Xbw_5
        have Xbx0_6 := Hx
        clear hb Hb
        refine (toFam_any _ _ xs1 _ (Lib.hid (I1.out.on B6.out)) hn1).mono ?_
        rintro e W7 ⟨ax1, cx1, rfl, hi, ho, hcp, hb⟩
        have B7 := Lib.hid (B6.out.trans (hb.mono B6.out.size))
        have Z7 := Lib.hid hb.size
        have Fw_7 := Lib.hid (Fw_6.out.on hb)
        clear Fw_6
        have Fx0_7 := Lib.hid (Fx0_6.out.on hb)
        clear Fx0_6
        have Qx0_7 := Lib.hid (Qx0_6.out.on hb)
        clear Qx0_6
        have Xv0_7 := Lib.hid (Xv0_6.out.on hb)
        clear Xv0_6
        have Xv1_7 := Lib.hid (Xv1_6.out.on hb)
        clear Xv1_6
        have Xbw_7 := Lib.hid (Xbw_6.out.on hb)
        clear Xbw_6
        have Xbx0_7 := Lib.hid (Xbx0_6.out.on hb)
        clear Xbx0_6
        have Fx1_7 := Lib.hid hi
        have Ox1 := Lib.hid ho
        have Kx1 := Lib.hid hcp
        clear hi ho hcp hb
        have hb : Below W7.heap.size W7 (W7.alloc (.cells #[.slice ax1 xs1.length cx1] 26)) := (Below.refl _ _).alloc (Nat.le_refl _) _
        have hx : At1 26 (W7.alloc (.cells #[.slice ax1 xs1.length cx1] 26)) W7.heap.size (.slice ax1 xs1.length cx1) := at1_new _ _ _
        have hlt : W7.heap.size < (W7.alloc (.cells #[.slice ax1 xs1.length cx1] 26)).heap.size := alloc_lt _ _
        have hcbx0 := (Xbx0_7.out.on hb).cell
        have Hb := Lib.hid hb
        have Hx := Lib.hid hx
        have Hlt := Lib.hid hlt
        clear hb hx hlt
        go_wp2_with fail
        clear hcbx0
        generalize (W7.alloc (.cells #[.slice ax1 xs1.length cx1] 26)) = W8 at Hb Hx Hlt ⊢
        have hb := Hb.out
        have B8 := Lib.hid (B7.out.trans (hb.mono B7.out.size))
        have Z8 := Lib.hid hb.size
        have T8 := Hlt
        have Fw_8 := Lib.hid (Fw_7.out.on hb)
        clear Fw_7
        have Fx0_8 := Lib.hid (Fx0_7.out.on hb)
        clear Fx0_7
        have Fx1_8 := Lib.hid (Fx1_7.out.on hb)
        clear Fx1_7
        have Qx0_8 := Lib.hid (Qx0_7.out.on hb)
        clear Qx0_7
        have Qx1_8 := Lib.hid (Ox1.out.on hb)
        have Xv0_8 := Lib.hid (Xv0_7.out.on hb)
        clear Xv0_7
        have Xv1_8 := Lib.hid (Xv1_7.out.on hb)
        clear Xv1_7
        have Xbw_8 := Lib.hid (Xbw_7.out.on hb)
        clear Xbw_7
        have Xbx0_8 := Lib.hid (Xbx0_7.out.on hb)
        clear Xbx0_7
        have Xbx1_8 := Hx
        clear hb Hb
        refine (HI.out _ _ _ _ _ Fx0_8 Fx1_8).mono ?_
        rintro e W9 ⟨ag, cg, rfl, hi, ho, hcp, hb⟩
        have B9 := Lib.hid (B8.out.trans (hb.mono B8.out.size))
        have Z9 := Lib.hid hb.size
        have Fw_9 := Lib.hid (Fw_8.out.on hb)
        clear Fw_8
        have Fx0_9 := Lib.hid (Fx0_8.out.on hb)
        clear Fx0_8
        have Fx1_9 := Lib.hid (Fx1_8.out.on hb)
        clear Fx1_8
        have Qx0_9 := Lib.hid (Qx0_8.out.on hb)
        clear Qx0_8
        have Qx1_9 := Lib.hid (Qx1_8.out.on hb)
        clear Qx1_8
        have Xv0_9 := Lib.hid (Xv0_8.out.on hb)
        clear Xv0_8
        have Xv1_9 := Lib.hid (Xv1_8.out.on hb)
        clear Xv1_8
        have Xbw_9 := Lib.hid (Xbw_8.out.on hb)
        clear Xbw_8
        have Xbx0_9 := Lib.hid (Xbx0_8.out.on hb)
        clear Xbx0_8
        have Xbx1_9 := Lib.hid (Xbx1_8.out.on hb)
        clear Xbx1_8
        have Fg_9 := Lib.hid hi
        have Og := Lib.hid ho
        clear hi ho hcp hb
        have hb : Below W9.heap.size W9 (W9.alloc (.cells #[.slice ag out.length cg] 26)) := (Below.refl _ _).alloc (Nat.le_refl _) _
        have hx : At1 26 (W9.alloc (.cells #[.slice ag out.length cg] 26)) W9.heap.size (.slice ag out.length cg) := at1_new _ _ _
        have hlt : W9.heap.size < (W9.alloc (.cells #[.slice ag out.length cg] 26)).heap.size := alloc_lt _ _
        have hcbw := (Xbw_9.out.on hb).cell
        have Hb := Lib.hid hb
        have Hx := Lib.hid hx
        have Hlt := Lib.hid hlt
        clear hb hx hlt
        go_wp2_with fail
        clear hcbw
        generalize (W9.alloc (.cells #[.slice ag out.length cg] 26)) = W10 at Hb Hx Hlt ⊢
        have hb := Hb.out
        have B10 := Lib.hid (B9.out.trans (hb.mono B9.out.size))
        have Z10 := Lib.hid hb.size
        have T10 := Hlt
        have Fw_10 := Lib.hid (Fw_9.out.on hb)
        clear Fw_9
        have Fx0_10 := Lib.hid (Fx0_9.out.on hb)
        clear Fx0_9
        have Fx1_10 := Lib.hid (Fx1_9.out.on hb)
        clear Fx1_9
        have Fg_10 := Lib.hid (Fg_9.out.on hb)
        clear Fg_9
        have Qx0_10 := Lib.hid (Qx0_9.out.on hb)
        clear Qx0_9
        have Qx1_10 := Lib.hid (Qx1_9.out.on hb)
        clear Qx1_9
        have Qg_10 := Lib.hid (Og.out.on hb)
        have Xv0_10 := Lib.hid (Xv0_9.out.on hb)
        clear Xv0_9
        have Xv1_10 := Lib.hid (Xv1_9.out.on hb)
        clear Xv1_9
        have Xbw_10 := Lib.hid (Xbw_9.out.on hb)
        clear Xbw_9
        have Xbx0_10 := Lib.hid (Xbx0_9.out.on hb)
        clear Xbx0_9
        have Xbx1_10 := Lib.hid (Xbx1_9.out.on hb)
        clear Xbx1_9
        have Xbg_10 := Hx
        clear hb Hb
        refine (eqFam_same _ _ _ _ out _ Fg_10 Fw_10 (by omega)).mono ?_
        rintro e W11 ⟨rfl, hb⟩
        have B11 := Lib.hid (B10.out.trans (hb.mono B10.out.size))
        have Z11 := Lib.hid hb.size
        have Fw_11 := Lib.hid (Fw_10.out.on hb)
        clear Fw_10
        have Fx0_11 := Lib.hid (Fx0_10.out.on hb)
        clear Fx0_10
        have Fx1_11 := Lib.hid (Fx1_10.out.on hb)
        clear Fx1_10
        have Fg_11 := Lib.hid (Fg_10.out.on hb)
        clear Fg_10
        have Qx0_11 := Lib.hid (Qx0_10.out.on hb)
        clear Qx0_10
        have Qx1_11 := Lib.hid (Qx1_10.out.on hb)
        clear Qx1_10
        have Qg_11 := Lib.hid (Qg_10.out.on hb)
        clear Qg_10
        have Xv0_11 := Lib.hid (Xv0_10.out.on hb)
        clear Xv0_10
        have Xv1_11 := Lib.hid (Xv1_10.out.on hb)
        clear Xv1_10
        have Xbw_11 := Lib.hid (Xbw_10.out.on hb)
        clear Xbw_10
        have Xbx0_11 := Lib.hid (Xbx0_10.out.on hb)
        clear Xbx0_10
        have Xbx1_11 := Lib.hid (Xbx1_10.out.on hb)
        clear Xbx1_10
        have Xbg_11 := Lib.hid (Xbg_10.out.on hb)
        clear Xbg_10
        clear hb
        have HX := Fx0_11
        have HA := (Lib.hid (I0.out.on B11.out))
        have HXV := Xbx0_11
        have HIA := Xv0_11
        go_upto_region 14 with fail
        go_cut [58] from 54 to 58 (fun s wx => s = .bool false ∧ Below W11.heap.size W11 wx)
        case first =>
          have hc1 := HXV.out.cell
          have hc2 := HIA.out.cell
          have hd1 : W11.drew.cell? _ = _ := hc1
          have hd2 : W11.drew.cell? _ = _ := hc2
          have HXd : Hid (Ints W11.drew ax0 xs0) := HX
          have HAd : Hid (Ints W11.drew a0 xs0) := HA
          have HXVd : Hid (At1 26 W11.drew W5.heap.size (.slice ax0 xs0.length cx0)) := HXV
          have HBd : Hid (Below W11.heap.size W11 W11.drew) := Lib.hid (Below.refl _ _).drew
          go_region_law (go_simp; first
            | (go_at_call 9; refine (toFam_any _ _ xs0 _ HAd hn0).mono ?_; rintro e wa ⟨ay, cy, rfl, hi, ho, hcp, hb⟩; have hc3 := (HXVd.out.on hb).cell; have HY := Lib.hid hi; have HX2 := Lib.hid (HXd.out.on hb); have HB1 := Lib.hid (HBd.out.trans (hb.mono HBd.out.size)); clear hi ho hcp hb)
            | (go_at_call 11; refine (eqFam_same _ _ _ _ xs0 _ HX2 HY (by omega)).mono ?_; rintro e wb ⟨rfl, hb⟩; have HB2 := Lib.hid (HB1.out.trans (hb.mono HB1.out.size)); clear hb))
          all_goals
            go_wp2_with fail
            go_meet
            case rel => exact ⟨rfl, HB2.out⟩
        case rest =>
          obtain ⟨rfl, hb⟩ := hcut
          clear HX HA HXV HIA
          generalize wc = W12 at hb ⊢
          have B12 := Lib.hid (B11.out.trans (hb.mono B11.out.size))
          have Z12 := Lib.hid hb.size
          have Fw_12 := Lib.hid (Fw_11.out.on hb)
          clear Fw_11
          have Fx0_12 := Lib.hid (Fx0_11.out.on hb)
          clear Fx0_11
          have Fx1_12 := Lib.hid (Fx1_11.out.on hb)
          clear Fx1_11
          have Fg_12 := Lib.hid (Fg_11.out.on hb)
          clear Fg_11
          have Qx0_12 := Lib.hid (Qx0_11.out.on hb)
          clear Qx0_11
          have Qx1_12 := Lib.hid (Qx1_11.out.on hb)
          clear Qx1_11
          have Qg_12 := Lib.hid (Qg_11.out.on hb)
          clear Qg_11
          have Xv0_12 := Lib.hid (Xv0_11.out.on hb)
          clear Xv0_11
          have Xv1_12 := Lib.hid (Xv1_11.out.on hb)
          clear Xv1_11
          have Xbw_12 := Lib.hid (Xbw_11.out.on hb)
          clear Xbw_11
          have Xbx0_12 := Lib.hid (Xbx0_11.out.on hb)
          clear Xbx0_11
          have Xbx1_12 := Lib.hid (Xbx1_11.out.on hb)
          clear Xbx1_11
          have Xbg_12 := Lib.hid (Xbg_11.out.on hb)
          clear Xbg_11
          clear hb
          have HX := Fx1_12
          have HA := (Lib.hid (I1.out.on B12.out))
          have HXV := Xbx1_12
          have HIA := Xv1_12
          go_upto_region 16 with fail
          go_cut [63] from 59 to 63 (fun s wx => s = .bool false ∧ Below W12.heap.size W12 wx)
          case first =>
            have hc1 := HXV.out.cell
            have hc2 := HIA.out.cell
            have hd1 : W12.drew.cell? _ = _ := hc1
            have hd2 : W12.drew.cell? _ = _ := hc2
            have HXd : Hid (Ints W12.drew ax1 xs1) := HX
            have HAd : Hid (Ints W12.drew a1 xs1) := HA
            have HXVd : Hid (At1 26 W12.drew W7.heap.size (.slice ax1 xs1.length cx1)) := HXV
            have HBd : Hid (Below W12.heap.size W12 W12.drew) := Lib.hid (Below.refl _ _).drew
            go_region_law (go_simp; first
              | (go_at_call 9; refine (toFam_any _ _ xs1 _ HAd hn1).mono ?_; rintro e wa ⟨ay, cy, rfl, hi, ho, hcp, hb⟩; have hc3 := (HXVd.out.on hb).cell; have HY := Lib.hid hi; have HX2 := Lib.hid (HXd.out.on hb); have HB1 := Lib.hid (HBd.out.trans (hb.mono HBd.out.size)); clear hi ho hcp hb)
              | (go_at_call 11; refine (eqFam_same _ _ _ _ xs1 _ HX2 HY (by omega)).mono ?_; rintro e wb ⟨rfl, hb⟩; have HB2 := Lib.hid (HB1.out.trans (hb.mono HB1.out.size)); clear hb))
            all_goals
              go_wp2_with fail
              go_meet
              case rel => exact ⟨rfl, HB2.out⟩
          case rest =>
            obtain ⟨rfl, hb⟩ := hcut
            clear HX HA HXV HIA
            generalize wc = W13 at hb ⊢
            have B13 := Lib.hid (B12.out.trans (hb.mono B12.out.size))
            have Z13 := Lib.hid hb.size
            have Fw_13 := Lib.hid (Fw_12.out.on hb)
            clear Fw_12
            have Fx0_13 := Lib.hid (Fx0_12.out.on hb)
            clear Fx0_12
            have Fx1_13 := Lib.hid (Fx1_12.out.on hb)
            clear Fx1_12
            have Fg_13 := Lib.hid (Fg_12.out.on hb)
            clear Fg_12
            have Qx0_13 := Lib.hid (Qx0_12.out.on hb)
            clear Qx0_12
            have Qx1_13 := Lib.hid (Qx1_12.out.on hb)
            clear Qx1_12
            have Qg_13 := Lib.hid (Qg_12.out.on hb)
            clear Qg_12
            have Xv0_13 := Lib.hid (Xv0_12.out.on hb)
            clear Xv0_12
            have Xv1_13 := Lib.hid (Xv1_12.out.on hb)
            clear Xv1_12
            have Xbw_13 := Lib.hid (Xbw_12.out.on hb)
            clear Xbw_12
            have Xbx0_13 := Lib.hid (Xbx0_12.out.on hb)
            clear Xbx0_12
            have Xbx1_13 := Lib.hid (Xbx1_12.out.on hb)
            clear Xbx1_12
            have Xbg_13 := Lib.hid (Xbg_12.out.on hb)
            clear Xbg_12
            clear hb
            have hcbx0 := Xbx0_13.out.cell
            go_wp2_with fail
            clear hcbx0
            refine (markFam_first _ _ _ xs0 _ Fx0_13 (Lib.hid Qx0_13.out) (by omega)).mono ?_
            rintro e W14 ⟨rfl, hm⟩
            have B14 := Lib.hid (below_past B13.out hm Ox0.out (by have := Z1.out; have := Z2.out; have := Z3.out; have := Z4.out; have := T1.out; omega) B13.out.size)
            have Z14 := Lib.hid (size_past hm)
            have Fw_14 := Lib.hid (ints_past Fw_13.out hm (apart_of Ow.out Ox0.out (by omega)))
            clear Fw_13
            have Fx1_14 := Lib.hid (ints_past Fx1_13.out hm (apart_of Ox0.out Ox1.out (by have := Z6.out; have := T6.out; omega)).symm)
            clear Fx1_13
            have Fg_14 := Lib.hid (ints_past Fg_13.out hm (apart_of Ox0.out Og.out (by have := Z6.out; have := Z7.out; have := Z8.out; have := T6.out; have := T8.out; omega)).symm)
            clear Fg_13
            have Qx1_14 := Lib.hid (own_past Qx1_13.out hm (apart_of Ox0.out Ox1.out (by have := Z6.out; have := T6.out; omega)).symm)
            clear Qx1_13
            have Qg_14 := Lib.hid (own_past Qg_13.out hm (apart_of Ox0.out Og.out (by have := Z6.out; have := Z7.out; have := Z8.out; have := T6.out; have := T8.out; omega)).symm)
            clear Qg_13
            have Xv0_14 := Lib.hid (Xv0_13.out.past hm (far_low Ox0.out (by have := Z1.out; have := Z2.out; have := Z3.out; have := Z4.out; have := T1.out; omega)))
            clear Xv0_13
            have Xv1_14 := Lib.hid (Xv1_13.out.past hm (far_low Ox0.out (by have := T1b.out; have := Z1.out; have := Z2.out; have := Z3.out; have := Z4.out; have := T1.out; omega)))
            clear Xv1_13
            have Xbw_14 := Lib.hid (Xbw_13.out.past hm (far_low Ox0.out (by have := Nw.out; omega)))
            clear Xbw_13
            have Xbx0_14 := Lib.hid (Xbx0_13.out.past hm (far_high Ox0.out (by omega)))
            clear Xbx0_13
            have Xbx1_14 := Lib.hid (Xbx1_13.out.past hm (far_high Ox0.out (by have := Z6.out; have := Z7.out; have := T6.out; omega)))
            clear Xbx1_13
            have Xbg_14 := Lib.hid (Xbg_13.out.past hm (far_high Ox0.out (by have := Z6.out; have := Z7.out; have := Z8.out; have := Z9.out; have := T6.out; have := T8.out; omega)))
            clear Xbg_13
            have Fx0_14 := Lib.hid hm.2.1
            clear Fx0_13
            clear hm
            have hcbx1 := Xbx1_14.out.cell
            go_wp2_with fail
            clear hcbx1
            refine (markFam_next _ xs0.length _ _ xs1 _ Fx1_14 (Lib.hid Qx1_14.out) (by omega) (by omega)).mono ?_
            rintro e W15 ⟨rfl, hm⟩
            have B15 := Lib.hid (below_past B14.out hm Ox1.out (by have := Z1.out; have := Z2.out; have := Z3.out; have := Z4.out; have := Z5.out; have := Z6.out; have := T1.out; have := T6.out; omega) B14.out.size)
            have Z15 := Lib.hid (size_past hm)
            have Fw_15 := Lib.hid (ints_past Fw_14.out hm (apart_of Ow.out Ox1.out (by have := Z5.out; have := Z6.out; have := T6.out; omega)))
            clear Fw_14
            have Fx0_15 := Lib.hid (marks_past Fx0_14.out hm (apart_of Ox0.out Ox1.out (by have := Z6.out; have := T6.out; omega)))
            clear Fx0_14
            have Fg_15 := Lib.hid (ints_past Fg_14.out hm (apart_of Ox1.out Og.out (by have := Z8.out; have := T8.out; omega)).symm)
            clear Fg_14
            have Qg_15 := Lib.hid (own_past Qg_14.out hm (apart_of Ox1.out Og.out (by have := Z8.out; have := T8.out; omega)).symm)
            clear Qg_14
            have Xv0_15 := Lib.hid (Xv0_14.out.past hm (far_low Ox1.out (by have := Z1.out; have := Z2.out; have := Z3.out; have := Z4.out; have := Z5.out; have := Z6.out; have := T1.out; have := T6.out; omega)))
            clear Xv0_14
            have Xv1_15 := Lib.hid (Xv1_14.out.past hm (far_low Ox1.out (by have := T1b.out; have := Z1.out; have := Z2.out; have := Z3.out; have := Z4.out; have := Z5.out; have := Z6.out; have := T1.out; have := T6.out; omega)))
            clear Xv1_14
            have Xbw_15 := Lib.hid (Xbw_14.out.past hm (far_low Ox1.out (by have := Nw.out; have := Z5.out; have := Z6.out; have := T6.out; omega)))
            clear Xbw_14
            have Xbx0_15 := Lib.hid (Xbx0_14.out.past hm (far_low Ox1.out (by have := Z6.out; have := T6.out; omega)))
            clear Xbx0_14
            have Xbx1_15 := Lib.hid (Xbx1_14.out.past hm (far_high Ox1.out (by omega)))
            clear Xbx1_14
            have Xbg_15 := Lib.hid (Xbg_14.out.past hm (far_high Ox1.out (by have := Z8.out; have := Z9.out; have := T8.out; omega)))
            clear Xbg_14
            have Fx1_15 := Lib.hid hm.2.1
            clear Fx1_14
            clear hm
            have hcbg := Xbg_15.out.cell
            have hcbw := Xbw_15.out.cell
            go_wp2_with fail
            clear hcbg hcbw
            refine (eqFam_same _ _ _ _ out _ Fg_15 Fw_15 (by omega)).mono ?_
            rintro e W16 ⟨rfl, hb⟩
            have B16 := Lib.hid (B15.out.trans (hb.mono B15.out.size))
            have Z16 := Lib.hid hb.size
            have Fw_16 := Lib.hid (Fw_15.out.on hb)
            clear Fw_15
            have Fg_16 := Lib.hid (Fg_15.out.on hb)
            clear Fg_15
            have Qg_16 := Lib.hid (Qg_15.out.on hb)
            clear Qg_15
            have Xv0_16 := Lib.hid (Xv0_15.out.on hb)
            clear Xv0_15
            have Xv1_16 := Lib.hid (Xv1_15.out.on hb)
            clear Xv1_15
            have Xbw_16 := Lib.hid (Xbw_15.out.on hb)
            clear Xbw_15
            have Xbx0_16 := Lib.hid (Xbx0_15.out.on hb)
            clear Xbx0_15
            have Xbx1_16 := Lib.hid (Xbx1_15.out.on hb)
            clear Xbx1_15
            have Xbg_16 := Lib.hid (Xbg_15.out.on hb)
            clear Xbg_15
            clear hb
            have hcbg := Xbg_16.out.cell
            go_wp2_with fail
            clear hcbg
            refine (markFam_first _ _ _ out _ Fg_16 (Lib.hid Qg_16.out) (by omega)).mono ?_
            rintro e W17 ⟨rfl, hm⟩
            have B17 := Lib.hid (below_past B16.out hm Og.out (by have := Z1.out; have := Z2.out; have := Z3.out; have := Z4.out; have := Z5.out; have := Z6.out; have := Z7.out; have := Z8.out; have := T1.out; have := T6.out; have := T8.out; omega) B16.out.size)
            have Z17 := Lib.hid (size_past hm)
            have Fw_17 := Lib.hid (ints_past Fw_16.out hm (apart_of Ow.out Og.out (by have := Z5.out; have := Z6.out; have := Z7.out; have := Z8.out; have := T6.out; have := T8.out; omega)))
            clear Fw_16
            have Xv0_17 := Lib.hid (Xv0_16.out.past hm (far_low Og.out (by have := Z1.out; have := Z2.out; have := Z3.out; have := Z4.out; have := Z5.out; have := Z6.out; have := Z7.out; have := Z8.out; have := T1.out; have := T6.out; have := T8.out; omega)))
            clear Xv0_16
            have Xv1_17 := Lib.hid (Xv1_16.out.past hm (far_low Og.out (by have := T1b.out; have := Z1.out; have := Z2.out; have := Z3.out; have := Z4.out; have := Z5.out; have := Z6.out; have := Z7.out; have := Z8.out; have := T1.out; have := T6.out; have := T8.out; omega)))
            clear Xv1_16
            have Xbw_17 := Lib.hid (Xbw_16.out.past hm (far_low Og.out (by have := Nw.out; have := Z5.out; have := Z6.out; have := Z7.out; have := Z8.out; have := T6.out; have := T8.out; omega)))
            clear Xbw_16
            have Xbx0_17 := Lib.hid (Xbx0_16.out.past hm (far_low Og.out (by have := Z6.out; have := Z7.out; have := Z8.out; have := T6.out; have := T8.out; omega)))
            clear Xbx0_16
            have Xbx1_17 := Lib.hid (Xbx1_16.out.past hm (far_low Og.out (by have := Z8.out; have := T8.out; omega)))
            clear Xbx1_16
            have Xbg_17 := Lib.hid (Xbg_16.out.past hm (far_high Og.out (by omega)))
            clear Xbg_16
            have Fg_17 := Lib.hid hm.2.1
            clear Fg_16
            clear hm
            have hcbg := Xbg_17.out.cell
            go_wp2_with fail
            clear hcbg
            refine (heldFam_first _ _ out.length _ Fg_17 (by omega)).mono ?_
            rintro e W18 ⟨rfl, hb⟩
            have B18 := Lib.hid (B17.out.trans (hb.mono B17.out.size))
            have Z18 := Lib.hid hb.size
            have Fw_18 := Lib.hid (Fw_17.out.on hb)
            clear Fw_17
            have Fg_18 := Lib.hid (Fg_17.out.on hb)
            clear Fg_17
            have Xv0_18 := Lib.hid (Xv0_17.out.on hb)
            clear Xv0_17
            have Xv1_18 := Lib.hid (Xv1_17.out.on hb)
            clear Xv1_17
            have Xbw_18 := Lib.hid (Xbw_17.out.on hb)
            clear Xbw_17
            have Xbx0_18 := Lib.hid (Xbx0_17.out.on hb)
            clear Xbx0_17
            have Xbx1_18 := Lib.hid (Xbx1_17.out.on hb)
            clear Xbx1_17
            have Xbg_18 := Lib.hid (Xbg_17.out.on hb)
            clear Xbg_17
            clear hb
            have HA0 := (Lib.hid (I0.out.on B18.out))
            have HV0 := Xv0_18
            have HA1 := (Lib.hid (I1.out.on B18.out))
            have HV1 := Xv1_18
            go_upto_region 31 with fail
            go_cut [15, 16] from 94 to 101 (fun s15 s16 wx => ∃ n a c, s15 = .pointer (some ⟨n, 0, none⟩) ∧ s16 = .bool r1 ∧ Boxed W18 out n a c wx)
            case first =>
              have Q0 : Hid (Below W18.heap.size W18 W18.drew) := Lib.hid (Below.refl _ _).drew
              refine wp_region_any (by kernel_rfl) ?_
              change wpAny _ _ _ _ _ _ _ (World.drew _)
              refine bx31_start (out := out) (r1 := r1) ⟨HA0.out, HA1.out, hn0, hn1, HV0.out, HV1.out, HI.out, fun b0 d0 b1 d1 a c n V hX => ?_⟩ W18.drew Q0 _ (by kernel_rfl)
              go_wp2_with fail
              go_meet
              case rel => exact ⟨n, a, c, rfl, rfl, hX⟩
            case rest =>
              obtain ⟨nh, ah, ch, rfl, rfl, hX⟩ := hcut
              clear HA0 HV0 HA1 HV1
              generalize wc = W19 at hX ⊢
              have hb := hX.2.2.2.2.1
              have hi := hX.2.1
              have ho := hX.2.2.1
              have B19 := Lib.hid (B18.out.trans (hb.mono B18.out.size))
              have Z19 := Lib.hid hb.size
              have Fw_19 := Lib.hid (Fw_18.out.on hb)
              clear Fw_18
              have Fg_19 := Lib.hid (Fg_18.out.on hb)
              clear Fg_18
              have Xv0_19 := Lib.hid (Xv0_18.out.on hb)
              clear Xv0_18
              have Xv1_19 := Lib.hid (Xv1_18.out.on hb)
              clear Xv1_18
              have Xbw_19 := Lib.hid (Xbw_18.out.on hb)
              clear Xbw_18
              have Xbx0_19 := Lib.hid (Xbx0_18.out.on hb)
              clear Xbx0_18
              have Xbx1_19 := Lib.hid (Xbx1_18.out.on hb)
              clear Xbx1_18
              have Xbg_19 := Lib.hid (Xbg_18.out.on hb)
              clear Xbg_18
              have Fh_19 := Lib.hid hi
              have Oh := Lib.hid ho
              have Xbh_19 : Hid (At1 26 W19 nh (.slice ah out.length ch)) := Lib.hid hX.1
              have Nh := Lib.hid (And.intro hX.2.2.2.2.2 hX.1.lt)
              clear hX hb hi ho
              have hcbh := Xbh_19.out.cell
              have hcbw := Xbw_19.out.cell
              go_wp2_with fail
              clear hcbh hcbw
              refine (eqFam_same _ _ _ _ out _ Fh_19 Fw_19 (by omega)).mono ?_
              rintro e W20 ⟨rfl, hb⟩
              have B20 := Lib.hid (B19.out.trans (hb.mono B19.out.size))
              have Z20 := Lib.hid hb.size
              have Fw_20 := Lib.hid (Fw_19.out.on hb)
              clear Fw_19
              have Fg_20 := Lib.hid (Fg_19.out.on hb)
              clear Fg_19
              have Fh_20 := Lib.hid (Fh_19.out.on hb)
              clear Fh_19
              have Xv0_20 := Lib.hid (Xv0_19.out.on hb)
              clear Xv0_19
              have Xv1_20 := Lib.hid (Xv1_19.out.on hb)
              clear Xv1_19
              have Xbw_20 := Lib.hid (Xbw_19.out.on hb)
              clear Xbw_19
              have Xbx0_20 := Lib.hid (Xbx0_19.out.on hb)
              clear Xbx0_19
              have Xbx1_20 := Lib.hid (Xbx1_19.out.on hb)
              clear Xbx1_19
              have Xbg_20 := Lib.hid (Xbg_19.out.on hb)
              clear Xbg_19
              have Xbh_20 := Lib.hid (Xbh_19.out.on hb)
              clear Xbh_19
              clear hb
              have hcbg := Xbg_20.out.cell
              go_wp2_with fail
              clear hcbg
              refine (heldFam_first _ _ out.length _ Fg_20 (by omega)).mono ?_
              rintro e W21 ⟨rfl, hb⟩
              have B21 := Lib.hid (B20.out.trans (hb.mono B20.out.size))
              have Z21 := Lib.hid hb.size
              have Fw_21 := Lib.hid (Fw_20.out.on hb)
              clear Fw_20
              have Fg_21 := Lib.hid (Fg_20.out.on hb)
              clear Fg_20
              have Fh_21 := Lib.hid (Fh_20.out.on hb)
              clear Fh_20
              have Xv0_21 := Lib.hid (Xv0_20.out.on hb)
              clear Xv0_20
              have Xv1_21 := Lib.hid (Xv1_20.out.on hb)
              clear Xv1_20
              have Xbw_21 := Lib.hid (Xbw_20.out.on hb)
              clear Xbw_20
              have Xbx0_21 := Lib.hid (Xbx0_20.out.on hb)
              clear Xbx0_20
              have Xbx1_21 := Lib.hid (Xbx1_20.out.on hb)
              clear Xbx1_20
              have Xbg_21 := Lib.hid (Xbg_20.out.on hb)
              clear Xbg_20
              have Xbh_21 := Lib.hid (Xbh_20.out.on hb)
              clear Xbh_20
              clear hb
              go_wp2
              go_ret
              exact ⟨rfl, B21.out⟩

set_option maxRecDepth 100000 in
theorem lifted (os : Os) (started : os.Started) (H : Type) (enc : TypeId × Value → H) :
    ReturnsInHanded {} Try.checked os 4 .any (Rows.fnExactOrFamilySpec.pre6 enc Try.prog Try.f4 Rows.fnExactOrFamilyRow.domain false) (Rows.fnExactOrFamilySpec.post enc Try.prog Try.f4 false true false false) := by
  refine returnsInHanded_of_change (C := Try.checked) own started (by kernel_rfl) Try.func4
    (ChangeSpec.witness6 (enc := enc) (C := Try.checked) false ⟨#[], #[.agg #[.slice none 0 0], .agg #[.slice none 0 0]], []⟩ 8 (by kernel_rfl) (by kernel_rfl) (by kernel_rfl) (by kernel_rfl)) ?_
  intro W base args ds gs before hval0 hW hcnd _
  have hval : ∀ (j : Nat) t v, Try.f4.params[j]? = some t → args[j]? = some v → Value.okWide Try.prog W .any base t v := hval0
  have hW' := hW
  obtain ⟨p, q, hA0, hV, rfl, hfz, hnd⟩ := hW
  have hA : DataW.TrodAll enc Try.prog W 0 (fun _ => true) true Try.f4.params.toList args.toList ds p := hA0
  rw [Try.params4] at hA hval
  obtain ⟨v0, vs0, d0, ds0, p0, q0, hargs, rfl, rfl, h0, r0⟩ := trodAll_cons hA
  obtain ⟨v1, vs1, d1, ds1, p1, q1, rfl, rfl, rfl, h1, r1⟩ := trodAll_cons r0
  obtain ⟨rfl, rfl, rfl⟩ := trodAll_nil r1
  obtain rfl : args = #[v0, v1] := by cases args; simp_all
  obtain ⟨rfl, rfl⟩ := trodVars_none hV
  have k0 := h0
  have lt0 : ∀ x ∈ p0, x.block < W.heap.size := by obtain ⟨m, hm⟩ := k0; exact DataW.trod_lt m _ _ _ hm
  obtain ⟨cs0, rfl, hsz0⟩ := okWide_struct Try.underlying24 (hval 0 24 v0 rfl rfl)
  obtain ⟨c0, rfl⟩ := one_of (hsz0.trans (by kernel_rfl))
  obtain ⟨a0, len0, cap0, z0, rfl, w0⟩ : ∃ a len cap zs, c0 = .slice a len cap ∧ IsRow .i64 W a len cap zs := by
    obtain ⟨fuel, hf⟩ := h0
    obtain ⟨y0, n0, -, -, hf1⟩ := trod_struct1 Try.underlying24 hf
    rcases open_ints Try.underlying22 Try.underlying3 (by kernel_rfl) hf1 with ⟨hcs, _⟩ | ⟨x, l, c, zs, hcs, _, hl, hm, hz, _, hcell, hwz⟩
    · have hcs2 : [c0] = [.slice none 0 0] := hcs
      simp only [List.cons.injEq, and_true] at hcs2
      exact ⟨none, 0, 0, [], hcs2, .inl ⟨rfl, rfl, rfl, rfl⟩⟩
    · have hcs2 : [c0] = [.slice (some x) l c] := hcs
      simp only [List.cons.injEq, and_true] at hcs2
      exact ⟨some x, l, c, zs, hcs2, .inr ⟨_, rfl, hl, hm, by simpa using hz, hcell, hwz⟩⟩
  have k1 := h1
  have lt1 : ∀ x ∈ p1, x.block < W.heap.size := by obtain ⟨m, hm⟩ := k1; exact DataW.trod_lt m _ _ _ hm
  obtain ⟨cs1, rfl, hsz1⟩ := okWide_struct Try.underlying24 (hval 1 24 v1 rfl rfl)
  obtain ⟨c1, rfl⟩ := one_of (hsz1.trans (by kernel_rfl))
  obtain ⟨a1, len1, cap1, z1, rfl, w1⟩ : ∃ a len cap zs, c1 = .slice a len cap ∧ IsRow .i64 W a len cap zs := by
    obtain ⟨fuel, hf⟩ := h1
    obtain ⟨y0, n0, -, -, hf1⟩ := trod_struct1 Try.underlying24 hf
    rcases open_ints Try.underlying22 Try.underlying3 (by kernel_rfl) hf1 with ⟨hcs, _⟩ | ⟨x, l, c, zs, hcs, _, hl, hm, hz, _, hcell, hwz⟩
    · have hcs2 : [c1] = [.slice none 0 0] := hcs
      simp only [List.cons.injEq, and_true] at hcs2
      exact ⟨none, 0, 0, [], hcs2, .inl ⟨rfl, rfl, rfl, rfl⟩⟩
    · have hcs2 : [c1] = [.slice (some x) l c] := hcs
      simp only [List.cons.injEq, and_true] at hcs2
      exact ⟨some x, l, c, zs, hcs2, .inr ⟨_, rfl, hl, hm, by simpa using hz, hcell, hwz⟩⟩
  clear hA0 hval0
  refine (walk a0 len0 cap0 z0 a1 len1 cap1 z1 W w0 w1).mono fun e W' ⟨he, bel⟩ => ?_
  subst he
  exact ⟨_, rfl, _, _, _, [], _, [], hW', trodAll_mk1 (shut_bool Try.underlying4 _), (trodAll_cons_mk (Below.trod laidOut (by kernel_rfl) (of_decide_eq_true (by kernel_rfl)) k0 bel lt0) (trodAll_cons_mk (Below.trod laidOut (by kernel_rfl) (of_decide_eq_true (by kernel_rfl)) k1 bel lt1) trodAll_mk0)), rfl, bel.frame _, fun h => by cases h⟩

theorem over : Rows.fnExactOrFamilyRow.holds Try.pinned (OpenSpec.ofChange Rows.fnExactOrFamilySpec) :=
  OpenClaim.holds_of_wide 4 Try.f4 rfl rfl rfl rfl rfl rfl rfl ⟨rfl, rfl, rfl, rfl, rfl⟩ rfl rfl rfl rfl rfl (by kernel_rfl) Try.func4 (by kernel_rfl)
    (of_decide_eq_true (by kernel_rfl)) (by unfold Func.isWrapper; first | (rw [if_pos (by decide +kernel)]; kernel_rfl) | (rw [if_neg (by decide +kernel)]; exact ⟨rfl, rfl⟩))
    (fun os started H enc _ => lifted os started H enc)

theorem proved : Rows.FnExactOrFamilySaid := over
end Go.Proofs.Ytfikbjfgieiifaa.fnExactOrFamily
