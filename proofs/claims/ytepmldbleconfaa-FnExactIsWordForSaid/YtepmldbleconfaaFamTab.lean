/- What the functions share that fill a table of 64 reports and hand back the Family of its least members. No condition. -/
import Derived.Test.YtepmldbleconfaaFamValid
namespace Go.Proofs.Ytepmldbleconfaa
open Go.ChangeShapes Go.WideShapes Go.ChangeAt Go.RowKit
set_option linter.unusedVariables false

/-- A table in the block that lay next, in making. -/
def TabOn (wb wr : World) (t : Nat → Bool) : Prop := Tab wr wb.heap.size t ∧ Below wb.heap.size wb wr
theorem TabOn.later {wb wr w1 : World} {t : Nat → Bool} (h : TabOn wb wr t) (hb : Below wr.heap.size wr w1) : TabOn wb w1 t := ⟨h.1.on hb, h.2.trans (hb.mono h.2.size)⟩
theorem TabOn.set {wb wr : World} {t : Nat → Bool} {k : Nat} (h : TabOn wb wr (upTo t k)) (hk : k < 64) : TabOn wb (wr.setCell ⟨wb.heap.size, k, none⟩ (.bool (t k))) (upTo t (k + 1)) := ⟨h.1.set hk, h.2.setCell (p := ⟨wb.heap.size, k, none⟩) (Nat.le_refl _) _⟩
theorem tabOn_start (wb : World) : TabOn wb ((wb.alloc (.cells (bools fun _ => false) 50)).setRow wb.heap.size (bools fun _ => false)) (fun _ => false) :=
  ⟨tab_row (tab_new wb _), below_setRow ((Below.refl _ _).alloc (Nat.le_refl _) _) (Nat.le_refl _) _⟩
/-- A Family's result and a report, both zero. -/
theorem fb_nil {w w' : World} (h : Below w.heap.size w w') : FB [] false w (.returned (.tuple #[.agg #[.slice none 0 0], .bool false])) w' :=
  ⟨none, 0, rfl, Ints.nil _ _, .inl rfl, ⟨Nat.le_refl _, by simp, fun _ => rfl, fun x h => by cases h⟩, h⟩
/-- A Family that came back behind block B is stored in a variable below it. -/
theorem fam_stored {w W w1 : World} {B G : Nat} {u : Value} {a : Option Addr} {c : Nat} {out : List Int} (hW : Below w.heap.size w W) (hG : w.heap.size ≤ G) (hGB : G < B) (hB : B ≤ W.heap.size) (hf : FamAt W G u)
    (hi : Ints w1 a out) (ho : Own B w1 a out.length) (hc : Cap a out.length c) (hb : Below W.heap.size W w1) :
    FamAt (w1.setCell ⟨G, 0, none⟩ (.slice a out.length c)) G (.slice a out.length c) ∧ FB out true w (.returned (.tuple #[.agg #[.slice a out.length c], .bool true])) (w1.setCell ⟨G, 0, none⟩ (.slice a out.length c)) := by
  have s1 := set_low (G := G) (i := 0) (v := .slice a out.length c) hi ho hGB
  exact ⟨(hf.on hb).set _, a, c, rfl, s1.1, s1.2.mono (by omega), hc, (hW.trans (hb.mono hW.size)).setCell (p := ⟨G, 0, none⟩) hG _⟩
theorem fam_stored1 {w W w1 : World} {B G : Nat} {u : Value} {a : Option Addr} {c : Nat} {out : List Int} (hW : Below w.heap.size w W) (hG : w.heap.size ≤ G) (hGB : G < B) (hB : B ≤ W.heap.size) (hf : FamAt W G u)
    (hi : Ints w1 a out) (ho : Own B w1 a out.length) (hc : Cap a out.length c) (hb : Below W.heap.size W w1) :
    FamAt (w1.setCell ⟨G, 0, none⟩ (.slice a out.length c)) G (.slice a out.length c) ∧ FamPost out w (.returned (.agg #[.slice a out.length c])) (w1.setCell ⟨G, 0, none⟩ (.slice a out.length c)) := by
  have s1 := set_low (G := G) (i := 0) (v := .slice a out.length c) hi ho hGB
  exact ⟨(hf.on hb).set _, a, c, rfl, s1.1, s1.2.mono (by omega), hc, (hW.trans (hb.mono hW.size)).setCell (p := ⟨G, 0, none⟩) hG _⟩
theorem numsB_range {n : Int} {a b : Int} (h : decide (a ≤ n ∧ n ≤ b) = true) : a ≤ n ∧ n ≤ b := by simpa using h
theorem heap2 (w : World) (o p : Obj) : ((w.alloc o).alloc p).heap.size = w.heap.size + 2 := by simp
theorem heap3 (w : World) (o p q : Obj) : (((w.alloc o).alloc p).alloc q).heap.size = w.heap.size + 3 := by simp
/-- A Family's variable, and a result's behind it. -/
theorem box_result (w : World) (v : Value) : FamAt ((w.alloc (.cells #[v] 29)).alloc (.cells #[.slice none 0 0] 29)) w.heap.size v ∧ FamAt ((w.alloc (.cells #[v] 29)).alloc (.cells #[.slice none 0 0] 29)) (w.heap.size + 1) (.slice none 0 0) ∧
    Below w.heap.size w ((w.alloc (.cells #[v] 29)).alloc (.cells #[.slice none 0 0] 29)) ∧ ((w.alloc (.cells #[v] 29)).alloc (.cells #[.slice none 0 0] 29)).heap.size = w.heap.size + 2 := by
  have h1 := famAt_new (w.alloc (.cells #[v] 29)) (.slice none 0 0)
  rw [show (w.alloc (.cells #[v] 29)).heap.size = w.heap.size + 1 by simp] at h1
  exact ⟨(famAt_new w v).alloc _, h1, ((Below.refl _ _).alloc (Nat.le_refl _) _).alloc (by simp) _, by simp⟩
/-- Two Families' variables, and a result's behind them. -/
theorem box2_result (w : World) (v u : Value) : FamAt (((w.alloc (.cells #[v] 29)).alloc (.cells #[u] 29)).alloc (.cells #[.slice none 0 0] 29)) w.heap.size v ∧ FamAt (((w.alloc (.cells #[v] 29)).alloc (.cells #[u] 29)).alloc (.cells #[.slice none 0 0] 29)) (w.heap.size + 1) u ∧
    FamAt (((w.alloc (.cells #[v] 29)).alloc (.cells #[u] 29)).alloc (.cells #[.slice none 0 0] 29)) (w.heap.size + 1 + 1) (.slice none 0 0) ∧
    Below w.heap.size w (((w.alloc (.cells #[v] 29)).alloc (.cells #[u] 29)).alloc (.cells #[.slice none 0 0] 29)) ∧ (((w.alloc (.cells #[v] 29)).alloc (.cells #[u] 29)).alloc (.cells #[.slice none 0 0] 29)).heap.size = w.heap.size + 3 := by
  have h1 := famAt_new (w.alloc (.cells #[v] 29)) u
  rw [show (w.alloc (.cells #[v] 29)).heap.size = w.heap.size + 1 by simp] at h1
  have h2 := famAt_new ((w.alloc (.cells #[v] 29)).alloc (.cells #[u] 29)) (.slice none 0 0)
  rw [show ((w.alloc (.cells #[v] 29)).alloc (.cells #[u] 29)).heap.size = w.heap.size + 1 + 1 by simp] at h2
  exact ⟨((famAt_new w v).alloc _).alloc _, h1.alloc _, h2, (((Below.refl _ _).alloc (Nat.le_refl _) _).alloc (by simp) _).alloc (by simp; omega) _, by simp⟩
theorem results_fam2 {fn : Func} {p q : Tmp} (h : fn.results = #[.cell p 29, .tmp q]) (tmps : Array Value) (w : World) (g : Nat) (u b : Value) (hp : tmps.getD p undef = .pointer (some ⟨g, 0, none⟩)) (hq : tmps.getD q undef = b) (hg : FamAt w g u) :
    (results fn tmps).run Try.prog w = .ok (.tuple #[.agg #[u], b]) w := by
  rw [← hq]
  exact results_tab2 h tmps w g #[u] hp (fam_load hg)
/-- A whole Family loaded from its variable. -/
theorem wpList_load_fam {ops : Array Oper} {rest : List Oper} {o : Oper} {a : Act} {w : World} {Q : Exit → Act → World → Prop} (hgd : o.guard = none) (x : Operand) (ho : o.op = .load 29 x)
    (g : Nat) (hx : a.eval x = .pointer (some ⟨g, 0, none⟩)) (u : Value) (hg : FamAt w g u) (h : wpList Try.prog ops Q rest (a.put o.dst (.agg #[u])) w) : wpList Try.prog ops Q (o :: rest) a w :=
  wpList_load_row hgd 29 x ho g hx 29 #[u] (0, 0) _ hg Try.underlying29 rfl infoFam h

end Go.Proofs.Ytepmldbleconfaa
