/- Contracts: spec.MatteringNails, HangsBy, FallAlike, HidesNail, FallOrder. Conditions: numbers of 64 bits, lengths that fit. -/
import Derived.Test.YtkooibimeoojeaaMatter
import Derived.DeepKeys
namespace Go.Proofs.Ytkooibimeoojeaa
open Go.ChangeShapes Go.WideShapes Go.ChangeAt Go.RowKit
set_option linter.unusedVariables false

def matterW (xs : List Int) : Nat := if Plain.wordB xs = true then Plain.matter (Plain.fallsB xs) else 0
theorem matterW_yes {xs : List Int} (h : Plain.wordB xs = true) : matterW xs = Plain.matter (Plain.fallsB xs) := if_pos h
theorem matterW_no {xs : List Int} (h : Plain.wordB xs = false) : matterW xs = 0 := if_neg (by rw [h]; simp)
set_option maxHeartbeats 400000 in
theorem specMattering_any (a : Option Addr) (cap : Nat) (xs : List Int) (w : World) (h : Hid (Ints w a xs)) (h64 : Hid (In64 xs)) (hn : xs.length ≤ 9223372036854775807) :
    Calls Try.prog 26 #[.slice a xs.length cap] w (Val (.tuple #[.int .i64 (matterW xs : Nat), .bool (Plain.wordB xs)]) w) := by
  cases hw : Plain.wordB xs with
  | false =>
    have HE := Lib.hid (matterW_no hw)
    have HW := Lib.hid hw
    clear hw
    go_enter Try.func26, Try.ntmps26
    go_wp2_with fail
    refine (l2Word_any _ _ xs _ h h64 hn).mono ?_
    rw [HW.out]
    rintro e w' ⟨rfl, rfl⟩
    go_wp2_with fail
    go_ret2
    exact val_ib HE.out.symm rfl ⟨rfl, Below.refl _ _⟩
  | true =>
    have m1 := (Plain.wordB_iff.1 hw).1
    have HL := Lib.hid (Plain.wordB_iff.1 hw).2
    have HE := Lib.hid (matterW_yes hw)
    have HW := Lib.hid hw
    clear hw
    go_enter Try.func26, Try.ntmps26
    go_wp2_with fail
    refine (l2Word_any _ _ xs _ h h64 hn).mono ?_
    rw [HW.out]
    rintro e w' ⟨rfl, rfl⟩
    go_wp2_with fail
    refine (l3Table_any _ _ xs _ h HL (by omega)).mono ?_
    rintro e w1 ⟨rfl, hb⟩
    have HB := Lib.hid hb
    clear hb
    go_wp2_with fail
    refine (l3Matter_any _ _).mono ?_
    rintro e w2 ⟨rfl, hb⟩
    have HB2 := Lib.hid (HB.out.trans (hb.mono HB.out.size))
    clear hb
    go_wp2_with fail
    go_ret2
    exact val_ib HE.out.symm rfl ⟨rfl, HB2.out⟩

/-! two tables compared -/
theorem tab_key : Try.prog.keyTypeAt 5 23 = true := by kernel_rfl
theorem tab_cells : Try.prog.cellsOf 23 = 64 := by kernel_rfl
theorem bool_cells : Try.prog.cellsOf 4 = 1 := by kernel_rfl
theorem bool_lit (d : Nat) (b : Bool) : Try.prog.keyLits (d + 1) 4 [.bool b] = some [.bool b] := by
  unfold Program.keyLits
  rw [Try.underlying4]
theorem mapM_some {α β : Type} (g : α → β) (f : α → Option β) : ∀ l : List α, (∀ x ∈ l, f x = some (g x)) → l.mapM f = some (l.map g)
  | [], _ => rfl
  | x :: l, h => by
    rw [List.mapM_cons, h x (by simp), mapM_some g f l (fun y hy => h y (by simp [hy]))]
    rfl
theorem drop_one {α : Type} (f : Nat → α) (n i : Nat) (h : i < n) : (((List.range n).map f).drop i).take 1 = [f i] := by
  rw [List.drop_eq_getElem_cons (by simpa using h)]
  simp
theorem flat_one {α : Type} (f : Nat → α) (l : List Nat) : (l.map fun i => [f i]).flatten = l.map f := by
  induction l with
  | nil => rfl
  | cons x l ih => simp [ih]
theorem bools_list (t : Nat → Bool) : (bools t).toList = (List.range 64).map (fun i => Value.bool (t i)) := by simp [bools, arr64]
theorem bools_lits (t : Nat → Bool) : Try.prog.keyLits 3 23 (bools t).toList = some ((List.range 64).map fun i => Lit.bool (t i)) := by
  rw [bools_list]
  unfold Program.keyLits
  rw [Try.underlying23]
  simp only [tab_cells, bool_cells]
  rw [if_pos (by simp), mapM_some (fun i => [Lit.bool (t i)]) _ _ (fun i hi => by rw [Nat.mul_one, drop_one _ 64 i (by simpa using hi)]; exact bool_lit 1 _)]
  rw [Option.map_some, flat_one]
theorem run_tabs (w : World) (t u : Nat → Bool) : Sem.run Try.prog (Op.equalIn 10000 23 (.agg (bools t)) (.agg (bools u))) w = .ok (Plain.alike t u) w := by
  have hf : ∀ v : Nat → Bool, (Value.agg (bools v)).formed Try.prog 23 = true := fun v => by
    unfold Value.formed
    rw [Try.underlying23]
    simp [tab_cells, bools_size]
  have hc : ∀ v : Nat → Bool, (Value.agg (bools v)).cells.toList = (bools v).toList := fun v => by simp [Value.cells]
  obtain ⟨r, hr, hiff⟩ := run_equalIn_deep (P := Try.prog) 9995 5 23 tab_key w 3 3 _ _ _ _ (hf t) (hf u) (by rw [hc]; exact bools_lits t) (by rw [hc]; exact bools_lits u)
  rw [hr]
  have e : r = Plain.alike t u := by
    rw [Bool.eq_iff_iff, hiff, Plain.alike, Plain.alikeTo_iff]
    constructor
    · intro h i hi
      have := congrArg (fun l => l[i]?) h
      simp [hi] at this
      exact this
    · intro h
      refine List.map_congr_left fun i hi => ?_
      rw [h i (by simpa using hi)]
  rw [e]

def pairW (xs ys : List Int) : Bool := Plain.wordB xs && Plain.wordB ys
def alikeW (xs ys : List Int) : Bool := pairW xs ys && Plain.alike (Plain.fallsB xs) (Plain.fallsB ys)
theorem alike_yes {xs ys : List Int} (h1 : Plain.wordB xs = true) (h2 : Plain.wordB ys = true) : alikeW xs ys = Plain.alike (Plain.fallsB xs) (Plain.fallsB ys) ∧ pairW xs ys = true := by simp [alikeW, pairW, h1, h2]
theorem alike_no {xs ys : List Int} (h : Plain.wordB xs = false ∨ Plain.wordB ys = false) : alikeW xs ys = false ∧ pairW xs ys = false := by
  have hb : pairW xs ys = false := by rcases h with h | h <;> simp [pairW, h]
  simp [alikeW, hb]
set_option maxRecDepth 100000 in
set_option maxHeartbeats 800000 in
theorem specAlike_any (a1 a2 : Option Addr) (c1 c2 : Nat) (xs ys : List Int) (w : World) (h1 : Hid (Ints w a1 xs)) (n1 : Hid (In64 xs)) (h2 : Hid (Ints w a2 ys)) (n2 : Hid (In64 ys)) (hx : xs.length ≤ 9223372036854775807) (hy : ys.length ≤ 9223372036854775807) :
    Calls Try.prog 30 #[.slice a1 xs.length c1, .slice a2 ys.length c2] w (Val (.tuple #[.bool (alikeW xs ys), .bool (pairW xs ys)]) w) := by
  cases hw1 : Plain.wordB xs with
  | false =>
    have HE := Lib.hid (alike_no (ys := ys) (.inl hw1))
    have W1 := Lib.hid hw1
    clear hw1
    go_enter Try.func30, Try.ntmps30
    go_wp2_with fail
    refine (l2Word_any _ _ xs _ h1 n1 hx).mono ?_
    rw [W1.out]
    rintro e w' ⟨rfl, rfl⟩
    go_wp2_with fail
    go_ret2
    exact val_bb HE.out.1.symm HE.out.2.symm ⟨rfl, Below.refl _ _⟩
  | true =>
    cases hw2 : Plain.wordB ys with
    | false =>
      have HE := Lib.hid (alike_no (xs := xs) (.inr hw2))
      have W1 := Lib.hid hw1
      have W2 := Lib.hid hw2
      clear hw1 hw2
      go_enter Try.func30, Try.ntmps30
      go_wp2_with fail
      refine (l2Word_any _ _ xs _ h1 n1 hx).mono ?_
      rw [W1.out]
      rintro e w' ⟨rfl, rfl⟩
      go_wp2_with fail
      refine (l2Word_any _ _ ys _ h2 n2 hy).mono ?_
      rw [W2.out]
      rintro e w' ⟨rfl, rfl⟩
      go_wp2_with fail
      go_ret2
      exact val_bb HE.out.1.symm HE.out.2.symm ⟨rfl, Below.refl _ _⟩
    | true =>
      have HE := Lib.hid (alike_yes hw1 hw2)
      have m1 := (Plain.wordB_iff.1 hw1).1
      have m2 := (Plain.wordB_iff.1 hw2).1
      have L1 := Lib.hid (Plain.wordB_iff.1 hw1).2
      have L2 := Lib.hid (Plain.wordB_iff.1 hw2).2
      have W1 := Lib.hid hw1
      have W2 := Lib.hid hw2
      clear hw1 hw2
      go_enter Try.func30, Try.ntmps30
      go_wp2_with fail
      refine (l2Word_any _ _ xs _ h1 n1 hx).mono ?_
      rw [W1.out]
      rintro e w' ⟨rfl, rfl⟩
      go_wp2_with fail
      refine (l2Word_any _ _ ys _ h2 n2 hy).mono ?_
      rw [W2.out]
      rintro e w' ⟨rfl, rfl⟩
      go_wp2_with fail
      refine (l3Table_any _ _ xs _ h1 L1 (by omega)).mono ?_
      rintro e w1 ⟨rfl, hb⟩
      have HB := Lib.hid hb
      have H2 := Lib.hid (h2.out.on hb)
      clear hb
      go_wp2_with fail
      refine (l3Table_any _ _ ys _ H2 L2 (by omega)).mono ?_
      rintro e w2 ⟨rfl, hb⟩
      have HB2 := Lib.hid (HB.out.trans (hb.mono HB.out.size))
      clear hb
      have hrun := run_tabs w2 (Plain.fallsB xs) (Plain.fallsB ys)
      go_wp2_with fail
      go_ret2
      exact val_bb HE.out.1.symm HE.out.2.symm ⟨rfl, HB2.out⟩

end Go.Proofs.Ytkooibimeoojeaa
