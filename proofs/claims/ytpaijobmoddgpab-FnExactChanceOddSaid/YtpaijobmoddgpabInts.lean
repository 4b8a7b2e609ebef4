/- Words for lists of numbers in memory: what lies at an address, and whose it is. No condition. -/
import Derived.Test.YtpaijobmoddgpabRows
import Derived.WalkKit
import Derived.ProofKit
import Derived.OpenShut
import Derived.ShutString
import Derived.Lib.Hide
import Derived.Outline
import Derived.WalkSpells
import Derived.WalkSmall
import Derived.Laws.OwnMore
import Derived.OwnWalk
import Derived.Deep.QuietTactic
import Derived.BigQuiet
import Derived.Maps.AppendAt
import Derived.IntWalk
namespace Go.Proofs.Ytpaijobmoddgpab
open Go.ChangeShapes Go.WideShapes Go.ChangeAt Go.RowKit

theorem infoInt : (Try.prog.info? 3).map (fun i => (i.zero, i.size, i.bytes)) = some (some (.int .i64 0), 1, 8) := by kernel_rfl
theorem ret_int {k : IntKind} {a b : Int} (h : a = b) : Ending.returned (.int k a) = .returned (.int k b) := by rw [h]
theorem ret_bool {a b : Bool} (h : a = b) : Ending.returned (.bool a) = .returned (.bool b) := by rw [h]
theorem at_some {α : Type} (xs : List α) (k : Nat) (h : k < xs.length) : ∃ x, xs[k]? = some x := ⟨xs[k], List.getElem?_eq_getElem h⟩
theorem at_lt {α : Type} {xs : List α} {k : Nat} {x : α} (h : xs[k]? = some x) : k < xs.length := (List.getElem?_eq_some_iff.1 h).1

def nums (xs : List Int) : List Value := xs.map (Value.int .i64)
theorem nums_length (xs : List Int) : (nums xs).length = xs.length := by simp [nums]
theorem nums_at {xs : List Int} {j : Nat} {x : Int} (h : xs[j]? = some x) : (nums xs)[j]? = some (.int .i64 x) := by simp [nums, h]
theorem nums_one (xs : List Int) : ∀ u ∈ nums xs, u.oneCell' = true := ints_oneCell .i64 xs

/-- At an address lie these numbers. -/
def Ints (w : World) (a : Option Addr) (xs : List Int) : Prop := ∀ j x, xs[j]? = some x → ∃ b o, a = some ⟨b, o, none⟩ ∧ w.cell? ⟨b, o + j, none⟩ = some (.int .i64 x)
/-- What lies there lies in a block from B on, which may be written. -/
def Own (B : Nat) (w : World) (a : Option Addr) (n : Nat) : Prop := n = 0 ∨ ∃ b o, a = some ⟨b, o, none⟩ ∧ B ≤ b ∧ b < w.heap.size ∧ ∀ j, w.frozen? ⟨b, j, none⟩ = false
/-- A slice's length and room. -/
def Cap (a : Option Addr) (n cap : Nat) : Prop := n ≤ cap ∧ cap ≤ 9223372036854775807 ∧ (a = none → cap = 0) ∧ ∀ x, a = some x → ∃ b o, x = ⟨b, o, none⟩
/-- A slice of these numbers, its memory from B on. -/
def Res (B : Nat) (w : World) (v : Value) (xs : List Int) : Prop := ∃ a cap, v = .slice a xs.length cap ∧ Ints w a xs ∧ Own B w a xs.length ∧ Cap a xs.length cap

theorem cap_copy (g : Nat) {n : Nat} (h : n ≤ 1048576) : Cap (some ⟨g, 0, none⟩) n n := ⟨Nat.le_refl _, by omega, fun h => (by cases h), fun x h => ⟨g, 0, by cases h; rfl⟩⟩
theorem Ints.nil (w : World) (a : Option Addr) : Ints w a [] := fun j x h => by simp at h
theorem Ints.on {w w' : World} {a : Option Addr} {xs : List Int} (h : Ints w a xs) (hb : Below w.heap.size w w') : Ints w' a xs := fun j x hx => by
  obtain ⟨b, o, e, hc⟩ := h j x hx
  exact ⟨b, o, e, cell_later hb hc⟩
theorem Ints.drewN {w : World} {a : Option Addr} {xs : List Int} (h : Ints w a xs) (n : Nat) : Ints (w.drewN n) a xs := h
theorem Ints.off {w w' : World} {a : Option Addr} {xs : List Int} {g : Nat} (h : Ints w a xs) (hg : w.grownBy w' (some g)) (hne : ∀ b o, a = some ⟨b, o, none⟩ → xs ≠ [] → b ≠ g) : Ints w' a xs := fun j x hx => by
  obtain ⟨b, o, e, hc⟩ := h j x hx
  refine ⟨b, o, e, hg.cell hc ?_⟩
  have := hne b o e (by intro h0; subst h0; simp at hx)
  simp; omega
theorem Own.on {B : Nat} {w w' : World} {a : Option Addr} {n : Nat} (h : Own B w a n) (hb : Below w.heap.size w w') : Own B w' a n := by
  rcases h with h | ⟨b, o, e, h1, h2, h3⟩
  · exact .inl h
  · exact .inr ⟨b, o, e, h1, by have := hb.size; omega, fun j => (hb.frozen (p := ⟨b, j, none⟩) h2).trans (h3 j)⟩
theorem Own.mono {B B' : Nat} {w : World} {a : Option Addr} {n : Nat} (h : Own B w a n) (hB : B' ≤ B) : Own B' w a n := by
  rcases h with h | ⟨b, o, e, h1, h2, h3⟩
  · exact .inl h
  · exact .inr ⟨b, o, e, by omega, h2, h3⟩
theorem Res.on {B : Nat} {w w' : World} {v : Value} {xs : List Int} (h : Res B w v xs) (hb : Below w.heap.size w w') : Res B w' v xs := by
  obtain ⟨a, cap, rfl, h1, h2, h3⟩ := h
  exact ⟨a, cap, rfl, h1.on hb, h2.on hb, h3⟩
theorem Res.mono {B B' : Nat} {w : World} {v : Value} {xs : List Int} (h : Res B w v xs) (hB : B' ≤ B) : Res B' w v xs := by
  obtain ⟨a, cap, rfl, h1, h2, h3⟩ := h
  exact ⟨a, cap, rfl, h1, h2.mono hB, h3⟩
theorem Res.drewN {B : Nat} {w : World} {v : Value} {xs : List Int} (h : Res B w v xs) (n : Nat) : Res B (w.drewN n) v xs := h

theorem owns_ints {w : World} {B : Nat} {v : Value} {n : Nat} {xs : List Int} (h : w.ownsRow B 3 1 v n (nums xs)) : Res B w v xs := by
  have h0 := h
  obtain ⟨hl, ⟨rfl, rfl⟩ | ⟨g, cap, cur, rfl, hg, hc, hn, hm, hz, ht⟩⟩ := h
  · have e : xs = [] := by simpa [nums] using hl
    subst e
    exact ⟨none, 0, rfl, Ints.nil _ _, .inl rfl, Nat.le_refl _, by omega, fun _ => rfl, fun x h => by cases h⟩
  · have e : xs.length = n := by simpa [nums] using hl
    subst e
    have hlt : g < w.heap.size := (Array.getElem?_eq_some_iff.1 hc).1
    refine ⟨_, cap, rfl, fun j x hx => ⟨g, 0, rfl, ?_⟩, .inr ⟨g, 0, rfl, hg, hlt, fun j => by simp [World.frozen?, hc]⟩, hn, by unfold maxLen at hm; omega, fun h => (by cases h), fun x h => ⟨g, 0, by cases h; rfl⟩⟩
    rw [Nat.zero_add, World.ownsRow.cellAt h0 j (by have := at_lt hx; omega), nums_at hx]

/-- What came in as a slice of numbers. -/
def Row (k : IntKind) (w : World) (a : Option Addr) (len cap : Nat) (zs : List Int) : Prop :=
  (a = none ∧ len = 0 ∧ cap = 0 ∧ zs = []) ∨
  ∃ x, a = some x ∧ len ≤ cap ∧ cap ≤ maxLen ∧ zs.length = cap ∧ (∀ i, i < zs.length → w.cell? (x.add i) = some (.int k (zs.getD i 0))) ∧ ∀ n ∈ zs, (Lit.int k n).wf = true

def In64 (xs : List Int) : Prop := ∀ (j : Nat) (x : Int), xs[j]? = some x → -9223372036854775808 ≤ x ∧ x ≤ 9223372036854775807
theorem row_ints {w : World} {a : Option Addr} {len cap : Nat} {zs : List Int} (h : Row .i64 w a len cap zs) : ∃ xs : List Int, xs.length = len ∧ Ints w a xs ∧ In64 xs ∧ len ≤ 9223372036854775807 := by
  rcases h with ⟨rfl, rfl, rfl, rfl⟩ | ⟨x, rfl, hl, hm, hz, hc, hw⟩
  · exact ⟨[], rfl, Ints.nil _ _, fun j x hx => by simp at hx, by omega⟩
  · unfold maxLen at hm
    refine ⟨zs.take len, by simp; omega, fun j y hy => ?_, fun j y hy => ?_, by omega⟩
    · have hj : j < len := by have := at_lt hy; simp at this; omega
      have hy' : zs[j]? = some y := by rwa [List.getElem?_take_of_lt hj] at hy
      have hc' := hc j (by omega)
      obtain ⟨b, o, s⟩ := x
      have hsp : s = none := by simpa [Addr.add] using World.cell?_spot (hc 0 (by omega))
      subst hsp
      refine ⟨b, o, rfl, ?_⟩
      rw [List.getD_eq_getElem?_getD, hy'] at hc'
      rw [← add_plain]
      exact hc'
    · have hj : j < len := by have := at_lt hy; simp at this; omega
      have hy' : zs[j]? = some y := by rwa [List.getElem?_take_of_lt hj] at hy
      have hb := hw y (List.mem_of_getElem? hy')
      have e1 : IntKind.i64.min = -9223372036854775808 := by decide
      have e2 : IntKind.i64.max = 9223372036854775807 := by decide
      simp [Lit.wf] at hb
      omega

theorem int_range {x : Int} (h : (Lit.int .i64 x).wf = true) : -9223372036854775808 ≤ x ∧ x ≤ 9223372036854775807 := by
  have e1 : IntKind.i64.min = -9223372036854775808 := by decide
  have e2 : IntKind.i64.max = 9223372036854775807 := by decide
  simp [Lit.wf] at h
  omega
/-- Appending the numbers that lie at an address, whatever it is. -/
theorem wpList_append_ints {w : World} {ops : Array Oper} {rest : List Oper} {o : Oper} {a : Act} {Q : Exit → Act → World → Prop} (hgd : o.guard = none) (s x : Operand) (t : TypeId) (i : TypeInfo)
    (ho : o.op = .call { callee := .builtin .append, args := #[s, x], argTypes := #[t, t] }) (ht : Try.prog.underlying t = some (.slice 3))
    (hi : Try.prog.info? 3 = some i) (hz : i.zero = some (.int .i64 0)) (hsize : i.size = 1) (hby : i.bytes = 8)
    (base : Nat) (v : Value) (n : Nat) (xs : List Int) (hs : a.eval s = v) (hown : w.ownsRow base 3 1 v n (nums xs))
    (ao : Option Addr) (m c : Nat) (ys : List Int) (hx : a.eval x = .slice ao m c) (hm : ys.length = m) (hys : Ints w ao ys) (hcp : Cap ao m c)
    (hb : n + m ≤ 1099511627776) (hbase : base ≤ w.heap.size)
    (h : ∀ v' w', w'.ownsRow base 3 1 v' (n + m) (nums (xs ++ ys)) → w.grownBy w' v.ownBlock → (v' = .slice none 0 0 → v = .slice none 0 0 ∧ m = 0) → wpList Try.prog ops Q rest (a.put o.dst v') w') : wpList Try.prog ops Q (o :: rest) a w := by
  have happ : nums (xs ++ ys) = nums xs ++ nums ys := by simp [nums]
  cases ao with
  | some ad =>
    have hcell : ∀ j u, (nums ys)[j]? = some u → w.cell? (ad.add j) = some u := fun j u hj => by
      obtain ⟨y, hy⟩ := at_some ys j (by have := at_lt hj; simpa [nums] using this)
      rw [nums_at hy] at hj
      cases hj
      obtain ⟨b, o, e, hc⟩ := hys j y hy
      cases e
      rw [add_plain]
      exact hc
    refine wpList_append_own w hgd s x t ho base 3 i (.int .i64 0) 1 8 ht hi hz hsize hby rfl (by decide) v n (nums xs) hs hown ad m c (nums ys) hx (by simp [nums, hm]) hcell (nums_one ys) (by unfold maxLen; omega) (by omega) hbase fun v' w' h1 h2 h3 => h v' w' (by rw [happ]; exact h1) h2 h3.1
  | none =>
    have hys0 : ys = [] := by
      cases ys with
      | nil => rfl
      | cons y t => obtain ⟨b, o, e, _⟩ := hys 0 y rfl; cases e
    subst hys0
    obtain rfl : m = 0 := hm.symm
    obtain rfl := hcp.2.2.1 rfl
    refine wpList_plain hgd fun K hK => ?_
    have hrun := run_append_owned_none (P := Try.prog) w base t o.type 3 i 1 ht hi v n (nums xs) hown
    unfold Oper.wp
    simp [execOp, ho, resolve, invoke, builtin, hs, hx, hrun, Result.andThen]
    exact hK _ _ (h v w (by simpa using hown) (World.grownBy.refl _ _) (fun e => ⟨e, rfl⟩))

/-- The same as a step of a region that draws its order. -/
theorem step_append_ints {w : World} {ops : Array Oper} {o : Oper} {a : Act} {K : Act → World → Prop} {Q : Exit → Act → World → Prop} {E : Prop} (hgd : o.guard = none) (s x : Operand) (t : TypeId) (i : TypeInfo)
    (ho : o.op = .call { callee := .builtin .append, args := #[s, x], argTypes := #[t, t] }) (ht : Try.prog.underlying t = some (.slice 3))
    (hi : Try.prog.info? 3 = some i) (hz : i.zero = some (.int .i64 0)) (hsize : i.size = 1) (hby : i.bytes = 8)
    (base : Nat) (v : Value) (n : Nat) (xs : List Int) (hs : a.eval s = v) (hown : w.ownsRow base 3 1 v n (nums xs))
    (ao : Option Addr) (m c : Nat) (ys : List Int) (hx : a.eval x = .slice ao m c) (hm : ys.length = m) (hys : Ints w ao ys) (hcp : Cap ao m c)
    (hb : n + m ≤ 1099511627776) (hbase : base ≤ w.heap.size)
    (h : ∀ v' w', w'.ownsRow base 3 1 v' (n + m) (nums (xs ++ ys)) → w.grownBy w' v.ownBlock → (v' = .slice none 0 0 → v = .slice none 0 0 ∧ m = 0) → K (a.put o.dst v') w') : if Region.wanted o (yielded ops a.tmps) = true then Oper.wp Try.prog o a w K Q else E := by
  have hw : Region.wanted o (yielded ops a.tmps) = true := by simp [Region.wanted, hgd]
  rw [if_pos hw]
  have happ : nums (xs ++ ys) = nums xs ++ nums ys := by simp [nums]
  cases ao with
  | some ad =>
    have hcell : ∀ j u, (nums ys)[j]? = some u → w.cell? (ad.add j) = some u := fun j u hj => by
      obtain ⟨y, hy⟩ := at_some ys j (by have := at_lt hj; simpa [nums] using this)
      rw [nums_at hy] at hj
      cases hj
      obtain ⟨b, o, e, hc⟩ := hys j y hy
      cases e
      rw [add_plain]
      exact hc
    refine wp_append_own w s x t ho base 3 i (.int .i64 0) 1 8 ht hi hz hsize hby rfl (by decide) v n (nums xs) hs hown ad m c (nums ys) hx (by simp [nums, hm]) hcell (nums_one ys) (by unfold maxLen; omega) (by omega) hbase fun v' w' h1 h2 h3 => h v' w' (by rw [happ]; exact h1) h2 h3.1
  | none =>
    have hys0 : ys = [] := by
      cases ys with
      | nil => rfl
      | cons y t => obtain ⟨b, o, e, _⟩ := hys 0 y rfl; cases e
    subst hys0
    obtain rfl : m = 0 := hm.symm
    obtain rfl := hcp.2.2.1 rfl
    have hrun := run_append_owned_none (P := Try.prog) w base t o.type 3 i 1 ht hi v n (nums xs) hown
    unfold Oper.wp
    simp [execOp, ho, resolve, invoke, builtin, hs, hx, hrun, Result.andThen]
    exact (h v w (by simpa using hown) (World.grownBy.refl _ _) (fun e => ⟨e, rfl⟩))

/-- A list that is appended to: what has been collected, in a row of the call's own. -/
def Coll (L : List Int) (B : Nat) (w : World) (v : Value) (wr : World) : Prop := wr.ownsRow B 3 1 v L.length (nums L) ∧ Below B w wr ∧ B ≤ wr.heap.size
theorem coll_start (w : World) : Coll [] w.heap.size w (.slice (some ⟨w.heap.size, 0, none⟩) 0 0) (w.alloc (.cells #[] 3)) :=
  ⟨World.ownsRow_made w #[] 0 (Nat.le_refl _) (Nat.zero_le _) rfl, (Below.refl _ w).alloc (Nat.le_refl _) _, by simp⟩
theorem Coll.drewN {L : List Int} {B : Nat} {w wr : World} {v : Value} (h : Coll L B w v wr) (n : Nat) : Coll L B w v (wr.drewN n) := ⟨h.1, below_drewN h.2.1 n, h.2.2⟩
theorem Coll.later {L : List Int} {B : Nat} {w wr w1 : World} {v : Value} (h : Coll L B w v wr) (hb : Below wr.heap.size wr w1) : Coll L B w v w1 :=
  ⟨h.1.kept (row := none) ⟨hb.os, hb.tape, hb.output, hb.size, fun j hj _ => hb.block j hj⟩ (by cases hv : v.ownBlock with | none => exact .inl rfl | some g => exact .inr (by simp)), h.2.1.trans (hb.mono h.2.2), by have := hb.size; have := h.2.2; omega⟩
theorem coll_push {x : Int} {L : List Int} {B : Nat} {w wr w1 : World} {v v' : Value} {o : Obj} (h : Coll L B w v wr)
    (hown : w1.ownsRow B 3 1 v' (L.length + 1) (nums L ++ [.int .i64 x])) (hgrow : (wr.alloc o).grownBy w1 v.ownBlock) : Coll (L ++ [x]) B w v' w1 := by
  obtain ⟨ho, hb, hB⟩ := h
  refine ⟨by simpa [nums] using hown, (hb.alloc hB o).grown hgrow (by simp; omega) (fun j hj => (ho.lt j hj).1), by have := hgrow.size; simp at this; omega⟩
theorem coll_more {L ys : List Int} {B m : Nat} {w wr w1 : World} {v v' : Value} (h : Coll L B w v wr) (hm : ys.length = m)
    (hown : w1.ownsRow B 3 1 v' (L.length + m) (nums (L ++ ys))) (hgrow : wr.grownBy w1 v.ownBlock) : Coll (L ++ ys) B w v' w1 := by
  obtain ⟨ho, hb, hB⟩ := h
  subst hm
  exact ⟨by simpa using hown, hb.grown hgrow hB (fun j hj => (ho.lt j hj).1), by have := hgrow.size; omega⟩
theorem coll_res {L : List Int} {B : Nat} {w wr : World} {v : Value} (h : Coll L B w v wr) : Res B wr v L ∧ Below B w wr := ⟨owns_ints h.1, h.2.1⟩
/-- Parts of a list. -/
theorem Ints.from {w : World} {b o : Nat} {xs : List Int} (h : Ints w (some ⟨b, o, none⟩) xs) (k : Nat) : Ints w (some ⟨b, o + k, none⟩) (xs.drop k) := fun j x hx => by
  rw [List.getElem?_drop] at hx
  obtain ⟨b', o', e, hc⟩ := h (k + j) x hx
  cases e
  exact ⟨b, o + k, rfl, by rw [Nat.add_assoc]; exact hc⟩
theorem Ints.upto {w : World} {a : Option Addr} {xs : List Int} (h : Ints w a xs) (k : Nat) : Ints w a (xs.take k) := fun j x hx => by
  have hj := at_lt hx
  simp at hj
  rw [List.getElem?_take_of_lt (by omega)] at hx
  exact h j x hx
theorem cap_from {b o n cap k : Nat} (h : Cap (some ⟨b, o, none⟩) n cap) (hk : k ≤ n) : Cap (some ⟨b, o + k, none⟩) (n - k) (cap - k) := ⟨by have := h.1; omega, by have := h.2.1; omega, fun h => (by cases h), fun x h => ⟨b, o + k, by cases h; rfl⟩⟩
theorem cap_upto {a : Option Addr} {n cap k : Nat} (h : Cap a n cap) (hk : k ≤ n) : Cap a k cap := ⟨by have := h.1; omega, h.2⟩

end Go.Proofs.Ytpaijobmoddgpab
