/- Blocks that hold the coefficients of a word, in both programs' forms. Contracts: impl.countLists, placeBehind. No condition. -/
import Derived.Test.YtpaijobmoddgpabWindMath
import Derived.Test.YtpaijobmoddgpabLater
import Derived.Test.YtpaijobmoddgpabWordWalks
import Derived.Laws.Rows
import Derived.Laws.Tables
import Derived.Laws.CopyOwn
import Derived.BigRegion
import Derived.Deep.RegionLaw
namespace Go.Proofs.Ytpaijobmoddgpab
open Go.ChangeShapes Go.WideShapes Go.ChangeAt Go.RowKit
set_option linter.unusedVariables false

/-- Values by place. -/
def arrN (n : Nat) (f : Nat → Value) : Array Value := ((List.range n).map f).toArray
theorem arrN_size (n : Nat) (f : Nat → Value) : (arrN n f).size = n := by simp [arrN]
theorem arrN_at {n : Nat} (f : Nat → Value) {i : Nat} (h : i < n) : (arrN n f)[i]? = some (f i) := by simp [arrN, h]
theorem arrN_ext {n : Nat} {a : Array Value} {f : Nat → Value} (hs : a.size = n) (h : ∀ i, i < n → a[i]? = some (f i)) : a = arrN n f := by
  apply Array.ext_getElem?
  intro i
  by_cases hi : i < n
  · rw [h i hi, arrN_at f hi]
  · rw [Array.getElem?_eq_none (by omega), Array.getElem?_eq_none (by rw [arrN_size]; omega)]
theorem arrN_set {n : Nat} (f : Nat → Value) {k : Nat} (v : Value) (h : k < n) : (arrN n f).setIfInBounds k v = arrN n (fun i => if i = k then v else f i) := by
  refine arrN_ext (by simp [arrN_size]) fun i hi => ?_
  rw [Array.getElem?_setIfInBounds]
  by_cases e : k = i
  · subst e
    simp [arrN_size, h]
  · rw [if_neg e, if_neg (fun h => e h.symm), arrN_at f hi]
theorem arrN_cong {n : Nat} {f g : Nat → Value} (h : ∀ i, i < n → f i = g i) : arrN n f = arrN n g := by
  refine arrN_ext (arrN_size n f) fun i hi => ?_
  rw [arrN_at f hi, h i hi]
theorem arrN_one {n : Nat} {f : Nat → Value} (h : ∀ i, (f i).oneCell' = true) : (arrN n f).all (·.oneCell') = true := by
  rw [Array.all_eq_true_iff_forall_mem]
  intro x hx
  simp [arrN] at hx
  obtain ⟨i, -, rfl⟩ := hx
  exact h i

/-! a whole row loaded, stored, as a step of a region that draws its order -/
theorem wstep_load {ops : Array Oper} {o : Oper} {a : Act} {w : World} {K : Act → World → Prop} {Q : Exit → Act → World → Prop} {E : Prop} (hgd : o.guard = none) (ty : TypeId) (x : Operand) (ho : o.op = .load ty x)
    (g : Nat) (hx : a.eval x = .pointer (some ⟨g, 0, none⟩)) (cs : Array Value) (hl : (loadVar ty ⟨g, 0, none⟩).run Try.prog w = .ok (.agg cs) w)
    (h : K (a.put o.dst (.agg cs)) w) : if Region.wanted o (yielded ops a.tmps) = true then Oper.wp Try.prog o a w K Q else E := by
  rw [if_pos (by simp [Region.wanted, hgd])]
  unfold Oper.wp execOp
  simp only [ho, hx, Instr.loadAt, Instr.sureAddr, Sem.run_bind, Sem.run_pure, Result.andThen_ok, hl]
  exact h
theorem wstep_store {ops : Array Oper} {o : Oper} {a : Act} {w : World} {K : Act → World → Prop} {Q : Exit → Act → World → Prop} {E : Prop} (hgd : o.guard = none) (ty : TypeId) (x y : Operand) (ho : o.op = .store ty x y)
    (g : Nat) (cells : Array Value) (hx : a.eval x = .pointer (some ⟨g, 0, none⟩)) (hy : a.eval y = .agg cells)
    (t : TypeId) (old : Array Value) (hg : w.heap[g]? = some (.cells old t (0, 0))) (hi : (Try.prog.info? ty).map (·.size) = some cells.size)
    (hold : old.size = cells.size) (h1 : cells.all (·.oneCell') = true)
    (h : K (a.put o.dst undef) (w.setRow g cells)) : if Region.wanted o (yielded ops a.tmps) = true then Oper.wp Try.prog o a w K Q else E := by
  rw [if_pos (by simp [Region.wanted, hgd])]
  exact wp_store_row ty x y ho g cells hx hy t old hg hi hold h1 h

/-! the program's form: the length ahead, then 259 places -/
def coefV (l : Int) (c : Nat → Int) : Nat → Value := fun i => if i = 0 then .int .i64 l else .int .i64 (c (i - 1))
def coefs (l : Int) (c : Nat → Int) : Array Value := arrN 260 (coefV l c)
theorem coefs_one (l : Int) (c : Nat → Int) : (coefs l c).all (·.oneCell') = true := arrN_one fun i => by unfold coefV; split <;> rfl
theorem coefs_size (l : Int) (c : Nat → Int) : (coefs l c).size = 260 := arrN_size _ _
theorem coefs_cong {l : Int} {c d : Nat → Int} (h : ∀ q, q < 259 → c q = d q) : coefs l c = coefs l d := arrN_cong fun i hi => by
  unfold coefV
  split
  · rfl
  · rw [h (i - 1) (by omega)]
theorem coefs_set (l : Int) (c : Nat → Int) {k : Nat} (x : Int) (h : k < 259) : (coefs l c).setIfInBounds (1 + k) (.int .i64 x) = coefs l (fun q => if q = k then x else c q) := by
  unfold coefs
  rw [arrN_set _ _ (by omega)]
  refine arrN_cong fun i hi => ?_
  unfold coefV
  by_cases e : i = 1 + k
  · rw [if_pos e, if_neg (by omega)]
    dsimp only
    rw [if_pos (by omega)]
  · rw [if_neg e]
    by_cases e0 : i = 0
    · rw [if_pos e0, if_pos e0]
    · rw [if_neg e0, if_neg e0]
      dsimp only
      rw [if_neg (by omega)]

/-! the specification's form: 258 places, those of lists with nails -/
def serV (c : Nat → Int) : Nat → Value := fun i => .int .i64 (c (i + 1))
def sers (c : Nat → Int) : Array Value := arrN 258 (serV c)
theorem sers_one (c : Nat → Int) : (sers c).all (·.oneCell') = true := arrN_one fun i => rfl
theorem sers_size (c : Nat → Int) : (sers c).size = 258 := arrN_size _ _
theorem sers_cong {c d : Nat → Int} (h : ∀ q, 1 ≤ q → q < 259 → c q = d q) : sers c = sers d := arrN_cong fun i hi => by unfold serV; rw [h (i + 1) (by omega) (by omega)]
theorem sers_set (c : Nat → Int) {k : Nat} (x : Int) (h : k < 258) : (sers c).setIfInBounds k (.int .i64 x) = sers (fun q => if q = k + 1 then x else c q) := by
  unfold sers
  rw [arrN_set _ _ h]
  refine arrN_cong fun i hi => ?_
  unfold serV
  by_cases e : i = k
  · rw [if_pos e]
    dsimp only
    rw [if_pos (by omega)]
  · rw [if_neg e]
    dsimp only
    rw [if_neg (by omega)]



end Go.Proofs.Ytpaijobmoddgpab
