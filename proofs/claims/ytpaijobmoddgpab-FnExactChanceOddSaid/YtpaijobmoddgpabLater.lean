/- A region that draws its order, whose operations read and whose callees leave alone what lay before and hand back one value: walked once. A whole row that is loaded in a region that draws its order and is walked once. No condition. -/
import Derived.Test.YtpaijobmoddgpabLawKit
import Derived.Deep.Quiet
import Derived.Deep.QuietTactic
import Derived.Laws.Rows
import Derived.BigRegion
namespace Go.Proofs.Ytpaijobmoddgpab
open Go.ChangeShapes Go.WideShapes Go.ChangeAt Go.RowKit
set_option linter.unusedVariables false

/-- A world that leaves alone what lay in w. -/
structure Later (w : World) where
  W : World
  ok : Below w.heap.size w W
instance (w : World) : Inhabited (Later w) := ⟨⟨w, Below.refl _ _⟩⟩
theorem wp_region_below {id : Nat} {Q : Exit → Act → World → Prop} {a : Act} {w : World} {l : List Oper} (hm : Try.prog.follows .mixedOrders = true) (hB : Region.lexB .any l.toArray = true)
    (h : wpQuiet Try.prog l.toArray (fun w' => ∃ p : Later w, w' = p.W) (fun a' => ∀ w', (∃ p : Later w, w' = p.W) → Q .normal a' w') l a) : (Code.region id l.toArray true).wp Try.prog Q a w :=
  wp_region_quiet (C := fun w' => ∃ p : Later w, w' = p.W) hm hB ⟨⟨_, (Below.refl _ _).drew⟩, rfl⟩ (by simpa using h)
theorem later_of {f : FuncId} {args : Array Value} {w : World} {v : Value} {p : Later w} (h : Calls Try.prog f args p.W (Val v p.W)) : Calls Try.prog f args p.W fun e w'' => e = .returned v ∧ ∃ q : Later w, w'' = q.W :=
  h.mono fun _ _ ⟨he, hb⟩ => ⟨he, ⟨⟨_, p.ok.trans (hb.mono p.ok.size)⟩, rfl⟩⟩
theorem later_same {f : FuncId} {args : Array Value} {w : World} {v : Value} {p : Later w} (h : Calls Try.prog f args p.W fun e w' => e = .returned v ∧ w' = p.W) : Calls Try.prog f args p.W fun e w'' => e = .returned v ∧ ∃ q : Later w, w'' = q.W :=
  h.mono fun _ _ ⟨he, hb⟩ => ⟨he, ⟨p, hb⟩⟩

end Go.Proofs.Ytpaijobmoddgpab

namespace Go.Proofs.Ytpaijobmoddgpab
open Go.ChangeShapes Go.WideShapes Go.ChangeAt Go.RowKit
set_option linter.unusedVariables false

theorem later_row {ops : Array Oper} {w : World} {Q : Act → Prop} {a : Act} {o : Oper} {rest : List Oper} (hgd : o.guard = none) (T : TypeId) (x : Operand) (ho : o.op = .load T x) (g : Nat) (hx : a.eval x = .pointer (some ⟨g, 0, none⟩))
    (cs : Array Value) (hl : ∀ p : Later w, (loadVar T ⟨g, 0, none⟩).run Try.prog p.W = .ok (.agg cs) p.W) (h : wpQuiet Try.prog ops (fun w' => ∃ p : Later w, w' = p.W) Q rest (a.put o.dst (.agg cs))) :
    wpQuiet Try.prog ops (fun w' => ∃ p : Later w, w' = p.W) Q (o :: rest) a :=
  wpQuiet_step fun K hK => by
    have hw : Region.wanted o (yielded ops a.tmps) = true := by simp [Region.wanted, hgd]
    rw [if_pos hw]
    refine ⟨.agg cs, fun w' hw' => ?_, hK _ h⟩
    obtain ⟨p, rfl⟩ := hw'
    unfold Oper.quietAt execOp
    simp only [ho, hx, Instr.loadAt, Instr.sureAddr, Sem.run_bind, Sem.run_pure, Result.andThen_ok, hl p]
    exact ⟨rfl, rfl⟩

end Go.Proofs.Ytpaijobmoddgpab
