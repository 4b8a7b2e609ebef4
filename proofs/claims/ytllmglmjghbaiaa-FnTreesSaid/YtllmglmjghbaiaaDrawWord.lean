/- Contracts: (*spec.l1Cur).letter draws a letter, word a list of at most 66 numbers in new memory, and each turns only the cursor. Condition: the cursor lies in a block of its own, its bytes elsewhere. -/
import Derived.Test.YtllmglmjghbaiaaCurW
import Derived.Test.YtllmglmjghbaiaaInvWalks
import Derived.Deep.Onto
namespace Go.Proofs.Ytllmglmjghbaiaa
open Go.ChangeShapes Go.WideShapes Go.ChangeAt Go.RowKit

set_option maxHeartbeats 800000 in
theorem letter_any (B len cap m : Nat) (a : Option Addr) (W : World) (h : Hid (Held W B a len cap m)) (hm : m ≤ 900000) :
    Calls Try.prog 61 #[.pointer (some ⟨B, 0, none⟩)] W fun e W' => ∃ x : Int, e = .returned (.int .i64 x) ∧ x ≠ 0 ∧ -6 ≤ x ∧ x ≤ 6 ∧ Held W' B a len cap (m + 6) ∧ W.grownBy W' (some B) := by
  go_enter Try.func61, Try.ntmps61
  go_wp2_with fail
  refine (pickInt B len cap m a [2, 3, 2, 6, 3] W _ h (by simp) (by omega) (by simp)).mono ?_
  rintro e W1 ⟨j, n, rfl, hn, hH, hg⟩
  have hmem : n ∈ [2, 3, 2, 6, 3] := List.mem_of_getElem? hn
  obtain ⟨u, rfl, hu⟩ : ∃ u : Nat, n = (u : Int) ∧ u ≤ 6 ∧ 2 ≤ u := ⟨n.toNat, by simp at hmem; omega, by simp at hmem; omega⟩
  have hHH := Lib.hid hH
  have hgg := Lib.hid hg
  clear hH hg hn hmem
  go_wp2_with fail
  refine (pick_any B len cap (m + 2) u a _ hHH (by omega) (by omega)).mono ?_
  rintro e W2 ⟨k, rfl, hk, hH, hg⟩
  have hk1 : k ≤ 5 := by omega
  have hHH2 := Lib.hid hH
  have hgg2 := Lib.hid (hgg.out.trans hg)
  clear hH hg hk
  go_wp2_with fail
  refine (one_any B len cap (m + 4) 2 a _ hHH2 (by omega) (by omega)).mono ?_
  rintro e W3 ⟨b, rfl, hH, hg⟩
  have hHH3 := Lib.hid hH
  have hgg3 := Lib.hid (hgg2.out.trans hg)
  clear hH hg
  cases b
  · go_wp2
    go_ret
    exact ⟨_, rfl, by omega, by omega, by omega, hHH3.out, hgg3.out⟩
  · go_wp2
    go_ret
    exact ⟨_, rfl, by omega, by omega, by omega, hHH3.out, hgg3.out⟩

/-- A list in making beside a cursor. -/
def Draw (L : List Int) (B : Nat) (a : Option Addr) (len cap m : Nat) (w : World) (v : Value) (wr : World) : Prop :=
  wr.ownsRow w.heap.size 3 1 v L.length (nums L) ∧ w.grownBy wr (some B) ∧ B < w.heap.size ∧ Held wr B a len cap m ∧ Bytes w B a len
section
variable {L : List Int} {B len cap m : Nat} {a : Option Addr} {w wr : World} {v : Value}
theorem draw_start (h : Held w B a len cap m) : Draw [] B a len cap m w (.slice (some ⟨w.heap.size, 0, none⟩) 0 0) (w.alloc (.cells #[] 3)) :=
  ⟨(coll_start w).1, World.grownBy_alloc w _ _, h.lt, h.alloc _, h.2⟩
theorem Draw.cur {m' : Nat} {w1 : World} (h : Draw L B a len cap m w v wr) (hH : Held w1 B a len cap m') (hg : wr.grownBy w1 (some B)) : Draw L B a len cap m' w v w1 := by
  obtain ⟨ho, hw, hB, _, hy⟩ := h
  refine ⟨ho.kept hg ?_, hw.trans hg, hB, hH, hy⟩
  cases hv : v.ownBlock with
  | none => exact .inl rfl
  | some g => exact .inr (fun e => by injection e with e; have := (ho.lt g hv).1; omega)
theorem Held.aside {w1 : World} {row : Option Nat} (h : Held wr B a len cap m) (hy : Bytes w B a len) (hg : w.grownBy w1 (some B)) (hB : B < w.heap.size) (hw : wr.grownBy w1 row) (hr : ∀ k, row = some k → w.heap.size ≤ k) : Held w1 B a len cap m := by
  obtain ⟨⟨p, sd, hp, hC⟩, hb⟩ := h
  refine ⟨⟨p, sd, hp, ?_, hC.2⟩, hy.kept hg⟩
  rw [hw.block B (Array.getElem?_eq_some_iff.1 hC.1).1 (fun e => by have := hr B e.symm; omega)]
  exact hC.1
theorem Draw.grown_over {w1 : World} {row : Option Nat} (hw0 : w.grownBy wr (some B)) (hg : wr.grownBy w1 row) (hr : ∀ k, row = some k → w.heap.size ≤ k) : w.grownBy w1 (some B) :=
  ⟨hg.os.trans hw0.os, hg.tape.trans hw0.tape, hg.output.trans hw0.output, Nat.le_trans hw0.size hg.size, fun j hj hne => by
    rw [hg.block j (Nat.lt_of_lt_of_le hj hw0.size) (fun e => by have := hr j e.symm; omega), hw0.block j hj hne]⟩
theorem Draw.more {ys : List Int} {n : Nat} {w1 : World} {v' : Value} (h : Draw L B a len cap m w v wr) (hm : ys.length = n)
    (hown : w1.ownsRow w.heap.size 3 1 v' (L.length + n) (nums (L ++ ys))) (hg : wr.grownBy w1 v.ownBlock) : Draw (L ++ ys) B a len cap m w v' w1 := by
  obtain ⟨ho, hw, hB, hH, hy⟩ := h
  subst hm
  have hr : ∀ k, v.ownBlock = some k → w.heap.size ≤ k := fun k e => (ho.lt k e).1
  have hw1 := Draw.grown_over hw hg hr
  exact ⟨by simpa using hown, hw1, hB, hH.aside hy hw1 hB hg hr, hy⟩
theorem Draw.alloc (h : Draw L B a len cap m w v wr) (o : Obj) : Draw L B a len cap m w v (wr.alloc o) := by
  obtain ⟨ho, hw, hB, hH, hy⟩ := h
  exact ⟨ho.alloc o, hw.trans (World.grownBy_alloc wr o _), hB, hH.alloc o, hy⟩
theorem Draw.push {x : Int} {w1 : World} {v' : Value} {o : Obj} (h : Draw L B a len cap m w v wr)
    (hown : w1.ownsRow w.heap.size 3 1 v' (L.length + 1) (nums L ++ [.int .i64 x])) (hg : (wr.alloc o).grownBy w1 v.ownBlock) : Draw (L ++ [x]) B a len cap m w v' w1 :=
  (h.alloc o).more (ys := [x]) (n := 1) rfl (by simpa [nums] using hown) hg
theorem Draw.later {w1 : World} (h : Draw L B a len cap m w v wr) (hb : Below wr.heap.size wr w1) : Draw L B a len cap m w v w1 := by
  obtain ⟨ho, hw, hB, hH, hy⟩ := h
  have hg : ∀ row, wr.grownBy w1 row := fun row => ⟨hb.os, hb.tape, hb.output, hb.size, fun j hj _ => hb.block j hj⟩
  exact ⟨ho.kept (row := none) (hg none) (by cases hv : v.ownBlock with | none => exact .inl rfl | some g => exact .inr (by simp)), hw.trans (hg _), hB, hH.kept hb, hy⟩
theorem Draw.other {L1 : List Int} {w0 w1 : World} {v1 : Value} {N : Nat} (h : Draw L B a len cap m w v wr) (hb : Below wr.heap.size wr w1) (hN : wr.heap.size ≤ N) (hc : Coll L1 N w0 v1 w1) : Draw L1 B a len cap m w v1 w1 := by
  have h' := h.later hb
  exact ⟨hc.1.mono (Nat.le_trans h.2.1.size hN), h'.2⟩
theorem Draw.res (h : Draw L B a len cap m w v wr) : Res w.heap.size wr v L := owns_ints h.1
theorem Draw.drewN (h : Draw L B a len cap m w v wr) (n : Nat) : Draw L B a len cap m w v (wr.drewN n) := ⟨h.1, h.2.1.trans ⟨rfl, rfl, rfl, Nat.le_refl _, fun _ _ _ => rfl⟩, h.2.2.1, h.2.2.2.1, h.2.2.2.2⟩
end
theorem In64.app {L : List Int} {x : Int} (h : In64 L) (h0 : -9223372036854775808 ≤ x) (h1 : x ≤ 9223372036854775807) : In64 (L ++ [x]) := by
  intro j y hy
  rcases List.mem_append.1 (List.mem_of_getElem? hy) with hm | hm
  · obtain ⟨i, hi⟩ := List.getElem?_of_mem hm
    exact h i y hi
  · simp at hm; subst hm; exact ⟨h0, h1⟩
theorem letters_in64 {L : List Int} (h : Plain.Letters L) : In64 L := fun j x hx => by have := h.at hx; omega
theorem Plain.Letters.push {L : List Int} {x : Int} (h : Plain.Letters L) (h0 : x ≠ 0) (h1 : -6 ≤ x) (h2 : x ≤ 6) : Plain.Letters (L ++ [x]) := h.append fun y hy => by simp at hy; subst hy; exact ⟨h0, h1, h2⟩
def roomOf (v : Value) : Nat := match v with | .slice _ n _ => 66 - n | _ => 0

/-- Behind a drawing of a word. -/
def WordPost (B : Nat) (a : Option Addr) (len cap m : Nat) (w : World) (e : Ending) (w' : World) : Prop :=
  ∃ v xs, e = .returned v ∧ In64 xs ∧ xs.length ≤ 66 ∧ Res w.heap.size w' v xs ∧ Held w' B a len cap (m + 2000) ∧ w.grownBy w' (some B)
theorem Draw.post {L : List Int} {B len cap m m' : Nat} {a : Option Addr} {w wr : World} {v : Value} (h : Draw L B a len cap m' w v wr) (h64 : In64 L) (hl : L.length ≤ 66) (hm : m' ≤ m + 2000) : WordPost B a len cap m w (.returned v) wr :=
  ⟨v, L, rfl, h64, hl, h.res, h.2.2.2.1.more hm, h.2.1⟩


end Go.Proofs.Ytllmglmjghbaiaa
