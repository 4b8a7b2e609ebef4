/- A region that draws its order, whose operations read and whose callees leave alone what lay before and hand back one value: walked once. A whole row that is loaded in a region that draws its order and is walked once. No condition. -/
import Derived.Test.YtnmjanhpjnlfcaaLawKit
import Derived.Test.YtnmjanhpjnlfcaaWindMath
import Derived.Test.YtnmjanhpjnlfcaaWordWalks
import Derived.Deep.Quiet
import Derived.Deep.QuietTactic
import Derived.Laws.Rows
import Derived.BigRegion
import Derived.Laws.Tables
import Derived.Laws.CopyOwn
import Derived.Deep.RegionLaw
namespace Go.Proofs.Ytnmjanhpjnlfcaa
open Go.ChangeShapes Go.WideShapes Go.ChangeAt Go.RowKit
set_option linter.unusedVariables false

/-- A world that leaves alone what lay in w. -/
structure Later (w : World) where
  W : World
  ok : Below w.heap.size w W
instance (w : World) : Inhabited (Later w) := ⟨⟨w, Below.refl _ _⟩⟩
theorem wp_region_below {id : Nat} {Q : Exit → Act → World → Prop} {a : Act} {w : World} {l : List Oper} (hm : Try.prog.follows .mixedOrders = true) (hB : Region.lexB .any l.toArray = true)
    (h : wpQuiet Try.prog l.toArray (fun w' => ∃ p : Later w, w' = p.W) (fun a' => ∀ w', (∃ p : Later w, w' = p.W) → Q .normal a' w') l a) : (Code.region id l.toArray true).wp Try.prog Q a w :=
  wp_region_quiet (C := fun w' => ∃ p : Later w, w' = p.W) hm hB ⟨⟨_, (Below.refl _ _).drew⟩, rfl⟩ (by simpa using h)
theorem later_of {f : FuncId} {args : Array Value} {w : World} {v : Value} {p : Later w} (h : Calls Try.prog f args p.W (Val v p.W)) : Calls Try.prog f args p.W fun e w'' => e = .returned v ∧ ∃ q : Later w, w'' = q.W :=
  h.mono fun _ _ ⟨he, hb⟩ => ⟨he, ⟨⟨_, p.ok.trans (hb.mono p.ok.size)⟩, rfl⟩⟩
theorem later_same {f : FuncId} {args : Array Value} {w : World} {v : Value} {p : Later w} (h : Calls Try.prog f args p.W fun e w' => e = .returned v ∧ w' = p.W) : Calls Try.prog f args p.W fun e w'' => e = .returned v ∧ ∃ q : Later w, w'' = q.W :=
  h.mono fun _ _ ⟨he, hb⟩ => ⟨he, ⟨p, hb⟩⟩

end Go.Proofs.Ytnmjanhpjnlfcaa

namespace Go.Proofs.Ytnmjanhpjnlfcaa
open Go.ChangeShapes Go.WideShapes Go.ChangeAt Go.RowKit
set_option linter.unusedVariables false

theorem later_row {ops : Array Oper} {w : World} {Q : Act → Prop} {a : Act} {o : Oper} {rest : List Oper} (hgd : o.guard = none) (T : TypeId) (x : Operand) (ho : o.op = .load T x) (g : Nat) (hx : a.eval x = .pointer (some ⟨g, 0, none⟩))
    (cs : Array Value) (hl : ∀ p : Later w, (loadVar T ⟨g, 0, none⟩).run Try.prog p.W = .ok (.agg cs) p.W) (h : wpQuiet Try.prog ops (fun w' => ∃ p : Later w, w' = p.W) Q rest (a.put o.dst (.agg cs))) :
    wpQuiet Try.prog ops (fun w' => ∃ p : Later w, w' = p.W) Q (o :: rest) a :=
  wpQuiet_step fun K hK => by
    have hw : Region.wanted o (yielded ops a.tmps) = true := by simp [Region.wanted, hgd]
    rw [if_pos hw]
    refine ⟨.agg cs, fun w' hw' => ?_, hK _ h⟩
    obtain ⟨p, rfl⟩ := hw'
    unfold Oper.quietAt execOp
    simp only [ho, hx, Instr.loadAt, Instr.sureAddr, Sem.run_bind, Sem.run_pure, Result.andThen_ok, hl p]
    exact ⟨rfl, rfl⟩

end Go.Proofs.Ytnmjanhpjnlfcaa

/- Blocks that hold the coefficients of a word, in both programs' forms. Contracts: impl.countLists, placeBehind. No condition. -/
namespace Go.Proofs.Ytnmjanhpjnlfcaa
open Go.ChangeShapes Go.WideShapes Go.ChangeAt Go.RowKit
set_option linter.unusedVariables false

/-- Values by place. -/
def arrN (n : Nat) (f : Nat → Value) : Array Value := ((List.range n).map f).toArray
theorem arrN_size (n : Nat) (f : Nat → Value) : (arrN n f).size = n := by simp [arrN]
theorem arrN_at {n : Nat} (f : Nat → Value) {i : Nat} (h : i < n) : (arrN n f)[i]? = some (f i) := by simp [arrN, h]
theorem arrN_ext {n : Nat} {a : Array Value} {f : Nat → Value} (hs : a.size = n) (h : ∀ i, i < n → a[i]? = some (f i)) : a = arrN n f := by
  apply Array.ext_getElem?
  intro i
  by_cases hi : i < n
  · rw [h i hi, arrN_at f hi]
  · rw [Array.getElem?_eq_none (by omega), Array.getElem?_eq_none (by rw [arrN_size]; omega)]
theorem arrN_set {n : Nat} (f : Nat → Value) {k : Nat} (v : Value) (h : k < n) : (arrN n f).setIfInBounds k v = arrN n (fun i => if i = k then v else f i) := by
  refine arrN_ext (by simp [arrN_size]) fun i hi => ?_
  rw [Array.getElem?_setIfInBounds]
  by_cases e : k = i
  · subst e
    simp [arrN_size, h]
  · rw [if_neg e, if_neg (fun h => e h.symm), arrN_at f hi]
theorem arrN_cong {n : Nat} {f g : Nat → Value} (h : ∀ i, i < n → f i = g i) : arrN n f = arrN n g := by
  refine arrN_ext (arrN_size n f) fun i hi => ?_
  rw [arrN_at f hi, h i hi]
theorem arrN_one {n : Nat} {f : Nat → Value} (h : ∀ i, (f i).oneCell' = true) : (arrN n f).all (·.oneCell') = true := by
  rw [Array.all_eq_true_iff_forall_mem]
  intro x hx
  simp [arrN] at hx
  obtain ⟨i, -, rfl⟩ := hx
  exact h i

/-! a whole row loaded, stored, as a step of a region that draws its order -/
theorem wstep_load {ops : Array Oper} {o : Oper} {a : Act} {w : World} {K : Act → World → Prop} {Q : Exit → Act → World → Prop} {E : Prop} (hgd : o.guard = none) (ty : TypeId) (x : Operand) (ho : o.op = .load ty x)
    (g : Nat) (hx : a.eval x = .pointer (some ⟨g, 0, none⟩)) (cs : Array Value) (hl : (loadVar ty ⟨g, 0, none⟩).run Try.prog w = .ok (.agg cs) w)
    (h : K (a.put o.dst (.agg cs)) w) : if Region.wanted o (yielded ops a.tmps) = true then Oper.wp Try.prog o a w K Q else E := by
  rw [if_pos (by simp [Region.wanted, hgd])]
  unfold Oper.wp execOp
  simp only [ho, hx, Instr.loadAt, Instr.sureAddr, Sem.run_bind, Sem.run_pure, Result.andThen_ok, hl]
  exact h
theorem wstep_store {ops : Array Oper} {o : Oper} {a : Act} {w : World} {K : Act → World → Prop} {Q : Exit → Act → World → Prop} {E : Prop} (hgd : o.guard = none) (ty : TypeId) (x y : Operand) (ho : o.op = .store ty x y)
    (g : Nat) (cells : Array Value) (hx : a.eval x = .pointer (some ⟨g, 0, none⟩)) (hy : a.eval y = .agg cells)
    (t : TypeId) (old : Array Value) (hg : w.heap[g]? = some (.cells old t (0, 0))) (hi : (Try.prog.info? ty).map (·.size) = some cells.size)
    (hold : old.size = cells.size) (h1 : cells.all (·.oneCell') = true)
    (h : K (a.put o.dst undef) (w.setRow g cells)) : if Region.wanted o (yielded ops a.tmps) = true then Oper.wp Try.prog o a w K Q else E := by
  rw [if_pos (by simp [Region.wanted, hgd])]
  exact wp_store_row ty x y ho g cells hx hy t old hg hi hold h1 h

/-! the program's form: the length ahead, then 259 places -/
def coefV (l : Int) (c : Nat → Int) : Nat → Value := fun i => if i = 0 then .int .i64 l else .int .i64 (c (i - 1))
def coefs (l : Int) (c : Nat → Int) : Array Value := arrN 260 (coefV l c)
theorem coefs_one (l : Int) (c : Nat → Int) : (coefs l c).all (·.oneCell') = true := arrN_one fun i => by unfold coefV; split <;> rfl
theorem coefs_size (l : Int) (c : Nat → Int) : (coefs l c).size = 260 := arrN_size _ _
theorem coefs_cong {l : Int} {c d : Nat → Int} (h : ∀ q, q < 259 → c q = d q) : coefs l c = coefs l d := arrN_cong fun i hi => by
  unfold coefV
  split
  · rfl
  · rw [h (i - 1) (by omega)]
theorem coefs_set (l : Int) (c : Nat → Int) {k : Nat} (x : Int) (h : k < 259) : (coefs l c).setIfInBounds (1 + k) (.int .i64 x) = coefs l (fun q => if q = k then x else c q) := by
  unfold coefs
  rw [arrN_set _ _ (by omega)]
  refine arrN_cong fun i hi => ?_
  unfold coefV
  by_cases e : i = 1 + k
  · rw [if_pos e, if_neg (by omega)]
    dsimp only
    rw [if_pos (by omega)]
  · rw [if_neg e]
    by_cases e0 : i = 0
    · rw [if_pos e0, if_pos e0]
    · rw [if_neg e0, if_neg e0]
      dsimp only
      rw [if_neg (by omega)]
def CoefAt (w : World) (G : Nat) (l : Int) (c : Nat → Int) : Prop := w.heap[G]? = some (.cells (coefs l c) 55 (0, 0))
theorem CoefAt.lt {w : World} {G : Nat} {l : Int} {c : Nat → Int} (h : CoefAt w G l c) : G < w.heap.size := (Array.getElem?_eq_some_iff.1 h).1
theorem CoefAt.on {w w' : World} {G : Nat} {l : Int} {c : Nat → Int} (h : CoefAt w G l c) (hb : Below w.heap.size w w') : CoefAt w' G l c := (hb.block G h.lt).trans h
theorem CoefAt.len {w : World} {G : Nat} {l : Int} {c : Nat → Int} (h : CoefAt w G l c) : w.cell? ⟨G, 0, none⟩ = some (.int .i64 l) := by
  rw [cell_of_row w G 0 _ _ _ h]
  exact arrN_at _ (by omega)
theorem CoefAt.cell {w : World} {G : Nat} {l : Int} {c : Nat → Int} (h : CoefAt w G l c) {k : Nat} (hk : k < 259) : w.cell? ⟨G, 1 + k, none⟩ = some (.int .i64 (c k)) := by
  rw [cell_of_row w G (1 + k) _ _ _ h]
  refine (arrN_at _ (by omega)).trans ?_
  unfold coefV
  rw [if_neg (by omega)]
  congr 3; omega
theorem CoefAt.free {w : World} {G : Nat} {l : Int} {c : Nat → Int} (h : CoefAt w G l c) (i : Nat) : w.frozen? ⟨G, i, none⟩ = false := frozen_of_row w G i _ _ h
theorem CoefAt.cong {w : World} {G : Nat} {l : Int} {c d : Nat → Int} (h : CoefAt w G l c) (he : ∀ q, q < 259 → c q = d q) : CoefAt w G l d := by rw [CoefAt, ← coefs_cong he]; exact h
theorem CoefAt.set {w : World} {G k : Nat} {l : Int} {c d : Nat → Int} (h : CoefAt w G l c) (x : Int) (hk : k < 259) (he : ∀ q, q < 259 → d q = if q = k then x else c q) : CoefAt (w.setCell ⟨G, 1 + k, none⟩ (.int .i64 x)) G l d := by
  rw [CoefAt, heap_setCell_same w G (1 + k) _ _ _ h, coefs_set l c x hk, coefs_cong he]
set_option maxRecDepth 100000 in
theorem infoCoef : (Try.prog.info? 55).map (·.size) = some 260 := by kernel_rfl

/-! the specification's form: 258 places, those of lists with nails -/
def serV (c : Nat → Int) : Nat → Value := fun i => .int .i64 (c (i + 1))
def sers (c : Nat → Int) : Array Value := arrN 258 (serV c)
theorem sers_one (c : Nat → Int) : (sers c).all (·.oneCell') = true := arrN_one fun i => rfl
theorem sers_size (c : Nat → Int) : (sers c).size = 258 := arrN_size _ _
theorem sers_cong {c d : Nat → Int} (h : ∀ q, 1 ≤ q → q < 259 → c q = d q) : sers c = sers d := arrN_cong fun i hi => by unfold serV; rw [h (i + 1) (by omega) (by omega)]
theorem sers_set (c : Nat → Int) {k : Nat} (x : Int) (h : k < 258) : (sers c).setIfInBounds k (.int .i64 x) = sers (fun q => if q = k + 1 then x else c q) := by
  unfold sers
  rw [arrN_set _ _ h]
  refine arrN_cong fun i hi => ?_
  unfold serV
  by_cases e : i = k
  · rw [if_pos e]
    dsimp only
    rw [if_pos (by omega)]
  · rw [if_neg e]
    dsimp only
    rw [if_neg (by omega)]
def SerAt (w : World) (G : Nat) (c : Nat → Int) : Prop := w.heap[G]? = some (.cells (sers c) 49 (0, 0))
theorem SerAt.lt {w : World} {G : Nat} {c : Nat → Int} (h : SerAt w G c) : G < w.heap.size := (Array.getElem?_eq_some_iff.1 h).1
theorem SerAt.on {w w' : World} {G : Nat} {c : Nat → Int} (h : SerAt w G c) (hb : Below w.heap.size w w') : SerAt w' G c := (hb.block G h.lt).trans h
theorem SerAt.cell {w : World} {G : Nat} {c : Nat → Int} (h : SerAt w G c) {k : Nat} (hk : k < 258) : w.cell? ⟨G, k, none⟩ = some (.int .i64 (c (k + 1))) := by
  rw [cell_of_row w G k _ _ _ h]
  exact arrN_at _ hk
theorem SerAt.free {w : World} {G : Nat} {c : Nat → Int} (h : SerAt w G c) (i : Nat) : w.frozen? ⟨G, i, none⟩ = false := frozen_of_row w G i _ _ h
theorem SerAt.cong {w : World} {G : Nat} {c d : Nat → Int} (h : SerAt w G c) (he : ∀ q, 1 ≤ q → q < 259 → c q = d q) : SerAt w G d := by rw [SerAt, ← sers_cong he]; exact h
theorem SerAt.set {w : World} {G k : Nat} {c d : Nat → Int} (h : SerAt w G c) (x : Int) (hk : k < 258) (he : ∀ q, q < 259 → d q = if q = k + 1 then x else c q) : SerAt (w.setCell ⟨G, k, none⟩ (.int .i64 x)) G d := by
  rw [SerAt, heap_setCell_same w G k _ _ _ h, sers_set c x hk, sers_cong fun q _ hq => he q hq]
theorem SerAt.off {w : World} {G H i : Nat} {c : Nat → Int} {v : Value} (h : SerAt w G c) (hne : G ≠ H) : SerAt (w.setCell ⟨H, i, none⟩ v) G c := (heap_setCell_other w ⟨H, i, none⟩ G v hne).trans h
theorem SerAt.other {w : World} {G H : Nat} {c : Nat → Int} {cs : Array Value} (h : SerAt w G c) (hne : G ≠ H) : SerAt (w.setRow H cs) G c := (setRow_other w H G cs hne).trans h
theorem serAt_row {w : World} {G : Nat} {c : Nat → Int} {cs : Array Value} (h : w.heap[G]? = some (.cells cs 49 (0, 0))) : SerAt (w.setRow G (sers c)) G c := setRow_heap w G _ _ _ _ h
set_option maxRecDepth 100000 in
theorem infoSer : (Try.prog.info? 49).map (·.size) = some 258 := by kernel_rfl
theorem ser_load {w : World} {G : Nat} {c : Nat → Int} (h : SerAt w G c) : (loadVar 49 ⟨G, 0, none⟩).run Try.prog w = .ok (.agg (sers c)) w :=
  run_loadVar_row w G 49 49 _ (0, 0) _ h Try.underlying49 rfl (by rw [sers_size]; exact infoSer)

theorem infoSers (c : Nat → Int) : (Try.prog.info? 49).map (·.size) = some (sers c).size := by rw [sers_size]; exact infoSer
theorem sers_zero : sers (fun _ => 0) = Try.zeroCells49 := by kernel_rfl
theorem SerAt.past {w w' : World} {B G : Nat} {c : Nat → Int} (h : SerAt w G c) (hb : Below B w w') (hG : G < B) : SerAt w' G c := (hb.block G hG).trans h

theorem countLists_any (l : Nat) (w : World) (hl : l ≤ 4) : Calls Try.prog 63 #[.int .i64 ((l : Int) - 1)] w fun e w' => e = .returned (.int .i64 (Plain.cntL l : Nat)) ∧ w' = w := by
  go_enter Try.func63, Try.ntmps63
  go_wp2_with fail
  go_loop [3, 6] (fun s i => ∃ k : Nat, k ≤ l ∧ i = .int .i64 k ∧ s = .int .i64 (Plain.cntL k : Nat)) (fun _ i => l - (intOf i).toNat)
  case atStart => exact ⟨0, Nat.zero_le _, rfl, rfl⟩
  case round =>
    obtain ⟨k, hk, rfl, rfl⟩ := hrel
    by_cases hlt : k < l
    · have h3 : k ≤ 3 := by omega
      have hC := Plain.cntL_le h3
      have hS : Plain.cntL (k + 1) = 1 + 6 * Plain.cntL k := rfl
      obtain ⟨C, hCC⟩ : ∃ C, C = Plain.cntL k := ⟨_, rfl⟩
      rw [hS, ← hCC] at hC
      have HS := Lib.hid hS
      rw [← hCC] at HS ⊢
      clear hS hCC
      go_wp2_with fail
      go_round
      case rel => exact ⟨k + 1, by omega, by go_num, by rw [HS.out]; go_num⟩
      case measure => simp [intOf]; omega
    · obtain rfl : k = l := by omega
      go_wp2_with fail
      go_ret
      exact ⟨rfl, rfl⟩
theorem placeBehind_any (p n : Nat) (w : World) (hp : p ≤ 1000000) (hn : n ≤ 1000000) : Calls Try.prog 61 #[.int .i64 (p : Int), .int .i64 (n : Int)] w fun e w' => e = .returned (.int .i64 ((6 * p + n : Nat) : Int)) ∧ w' = w := by
  go_enter Try.func61, Try.ntmps61
  go_wp2_with fail
  go_ret
  exact ⟨ret_int (by omega), rfl⟩
theorem placeBehind_is (p n P : Nat) (w : World) (hp : p ≤ 1000000) (hn : n ≤ 1000000) (hP : Hid (P = 6 * p + n)) : Calls Try.prog 61 #[.int .i64 (p : Int), .int .i64 (n : Int)] w fun e w' => e = .returned (.int .i64 (P : Int)) ∧ w' = w := by
  rw [hP.out]
  exact placeBehind_any p n w hp hn

end Go.Proofs.Ytnmjanhpjnlfcaa
