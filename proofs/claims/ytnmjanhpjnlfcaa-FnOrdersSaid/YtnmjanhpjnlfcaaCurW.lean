/- Contracts of the cursor at the seats of stage 2: next, pick, one, among. Condition: the cursor lies in a block of its own, its bytes elsewhere. -/
import Derived.Test.YtnmjanhpjnlfcaaIntsWalks
import Derived.WalkKit
import Derived.ProofKit
import Derived.OpenShut
import Derived.ShutString
import Derived.Lib.Hide
import Derived.Outline
import Derived.WalkSpells
import Derived.WalkSmall
import Derived.Deep.QuietTactic
import Derived.BigQuiet
import Derived.IntWalk
import Derived.Laws.BitsAllLaws
namespace Go.Proofs.Ytnmjanhpjnlfcaa
open Go.ChangeShapes Go.WideShapes Go.ChangeAt Go.RowKit

/-- The cursor: block B holds its bytes' slice, its place, its seed. -/
def Cur (W : World) (B : Nat) (a : Option Addr) (len cap at' : Nat) (sd : Int) : Prop :=
  W.heap[B]? = some (.cells #[.slice a len cap, .int .i64 (at' : Int), .int .u64 sd] 64 (0, 0)) ∧ at' ≤ 1000000 ∧ 0 ≤ sd ∧ sd < 2 ^ 64
/-- The bytes lie elsewhere. -/
def Bytes (W : World) (B : Nat) (a : Option Addr) (len : Nat) : Prop :=
  ∀ i, i < len → ∃ b o z, a = some ⟨b, o, none⟩ ∧ b ≠ B ∧ W.cell? ⟨b, o + i, none⟩ = some (.int .u8 z) ∧ 0 ≤ z ∧ z ≤ 255

theorem Cur.cells {W : World} {B len cap at' : Nat} {a : Option Addr} {sd : Int} (h : Cur W B a len cap at' sd) :
    W.cell? ⟨B, 0, none⟩ = some (.slice a len cap) ∧ W.cell? ⟨B, 1, none⟩ = some (.int .i64 (at' : Int)) ∧ W.cell? ⟨B, 2, none⟩ = some (.int .u64 sd) ∧ ∀ j, W.frozen? ⟨B, j, none⟩ = false := by
  have h0 := h.1
  refine ⟨by simp [World.cell?, h0], by simp [World.cell?, h0], by simp [World.cell?, h0], fun j => by simp [World.frozen?, h0]⟩

/-- Behind a call of next: the place is one further on, and nothing else has turned. -/
def NextPost (B : Nat) (a : Option Addr) (len cap at' : Nat) (W : World) (e : Ending) (W' : World) : Prop :=
  ∃ n sd, e = .returned (.int .i64 n) ∧ 0 ≤ n ∧ n ≤ 255 ∧ Cur W' B a len cap (at' + 1) sd ∧ W.grownBy W' (some B)

/-- The cursor behind a turn. -/
theorem Cur.turned {W : World} {B len cap at' : Nat} {a : Option Addr} {sd : Int} (h : Cur W B a len cap at' sd) (hat : at' ≤ 999999) (sd' : Int) (h0 : 0 ≤ sd') (h1 : sd' < 2 ^ 64) :
    Cur ((W.setCell ⟨B, 1, none⟩ (.int .i64 ((at' : Int) + 1))).setCell ⟨B, 2, none⟩ (.int .u64 sd')) B a len cap (at' + 1) sd' := by
  refine ⟨?_, by omega, h0, h1⟩
  have e1 := heap_setCell_same W B 1 _ _ (.int .i64 ((at' : Int) + 1)) h.1
  have e2 := heap_setCell_same _ B 2 _ _ (.int .u64 sd') e1
  rw [e2]
  simp
theorem grown_refl (W : World) (b : Option Nat) : W.grownBy W b := ⟨rfl, rfl, rfl, Nat.le_refl _, fun _ _ _ => rfl⟩
theorem cur_set (W : World) (B i : Nat) (v : Value) : W.grownBy (W.setCell ⟨B, i, none⟩ v) (some B) := by
  have e := Below.refl 0 W
  refine ⟨rfl, rfl, rfl, ?_, fun j hj hne => ?_⟩
  · simp [World.setCell]
  · exact Below.heap_setCell _ _ _ _ (by simpa using hne)
theorem grown_drawn (W W' : World) (B : Option Nat) (n : Nat) (h : W.grownBy W' B) : W.grownBy (W'.drewN n) B := h.trans ⟨rfl, rfl, rfl, Nat.le_refl _, fun _ _ _ => rfl⟩
theorem drawn_grown (W W' : World) (B : Option Nat) (n : Nat) (h : (W.drewN n).grownBy W' B) : W.grownBy W' B := ⟨h.os, h.tape, h.output, h.size, h.block⟩
theorem Cur.drewN {W : World} {B len cap at' : Nat} {a : Option Addr} {sd : Int} (h : Cur W B a len cap at' sd) (n : Nat) : Cur (W.drewN n) B a len cap at' sd := h
theorem u64_wrap_in (x : Int) : 0 ≤ IntKind.u64.wrap x ∧ IntKind.u64.wrap x < 2 ^ 64 := by
  simp only [IntKind.wrap, IntKind.bits, IntKind.signed]
  constructor
  · simp; omega
  · simp; omega
theorem and255 (x : Int) (h0 : 0 ≤ x) (h1 : x < 2 ^ 64) : bits .and .u64 x 255 = ((x.toNat &&& 255 : Nat) : Int) := u64_and x 255 h0 (by simpa using h1) (by omega) (by omega)

theorem rand_in (x : Int) (h0 : 0 ≤ x) (h1 : x < 2 ^ 64) : 0 ≤ wrap64 (bits .and .u64 (x / 1099511627776) 255) ∧ wrap64 (bits .and .u64 (x / 1099511627776) 255) ≤ 255 := by
  have e := and255 (x / 1099511627776) (by omega) (by omega)
  have l : (x / 1099511627776).toNat &&& 255 ≤ 255 := Nat.and_le_right
  rw [e]
  have w : wrap64 (((x / 1099511627776).toNat &&& 255 : Nat) : Int) = (((x / 1099511627776).toNat &&& 255 : Nat) : Int) := by unfold wrap64; omega
  rw [w]
  omega

set_option maxHeartbeats 1000000 in
theorem next_in (B len cap at' : Nat) (a : Option Addr) (sd : Int) (W : World) (hC : Cur W B a len cap at' sd) (hB : Hid (Bytes W B a len)) (hat : at' ≤ 999999) (hlt : at' < len) :
    Calls Try.prog 64 #[.pointer (some ⟨B, 0, none⟩)] W (NextPost B a len cap at' W) := by
  obtain ⟨c0, c1, c2, hf⟩ := hC.cells
  have hf1 := hf 1
  have hf2 := hf 2
  obtain ⟨b, o, z, rfl, hne, hz, hz0, hz1⟩ := hB.out at' hlt
  have HC := Lib.hid hC
  have hi : (at' : Int) < (len : Int) := by omega
  have hi1 : (at' : Int) + 1 ≤ (len : Int) := by omega
  have hi0 : (0 : Int) ≤ (at' : Int) := by omega
  clear hC hf
  go_enter Try.func64, Try.ntmps64
  go_wp2
  go_quiet (fail)
  go_wp2
  go_quiet (fail)
  go_wp2
  go_quiet (fail)
  go_wp2
  go_ret
  exact ⟨z, _, rfl, hz0, hz1, (Cur.turned (HC.out.drewN _) hat _ (u64_wrap_in _).1 (u64_wrap_in _).2).drewN _, grown_drawn _ _ _ _ (drawn_grown _ _ _ _ ((cur_set _ B 1 _).trans (cur_set _ B 2 _)))⟩

set_option maxHeartbeats 1000000 in
theorem next_out (B len cap at' : Nat) (a : Option Addr) (sd : Int) (W : World) (hC : Cur W B a len cap at' sd) (hat : at' ≤ 999999) (hlt : ¬ at' < len) :
    Calls Try.prog 64 #[.pointer (some ⟨B, 0, none⟩)] W (NextPost B a len cap at' W) := by
  obtain ⟨c0, c1, c2, hf⟩ := hC.cells
  have hf1 := hf 1
  have hf2 := hf 2
  have HC := Lib.hid hC
  have hi : ¬ (at' : Int) < (len : Int) := by omega
  have hi1 : ¬ (at' : Int) + 1 ≤ (len : Int) := by omega
  have hi0 : (0 : Int) ≤ (at' : Int) := by omega
  clear hC hf
  go_enter Try.func64, Try.ntmps64
  go_wp2
  go_quiet (fail)
  go_wp2
  go_quiet (fail)
  go_wp2
  go_ret
  have hx := u64_wrap_in (IntKind.u64.wrap (IntKind.u64.wrap (sd * 6364136223846793005)) + 462197)
  have hr := rand_in _ hx.1 hx.2
  exact ⟨_, _, rfl, hr.1, hr.2, (Cur.turned (HC.out.drewN _) hat _ hx.1 hx.2).drewN _, grown_drawn _ _ _ _ (drawn_grown _ _ _ _ ((cur_set _ B 1 _).trans (cur_set _ B 2 _)))⟩

/-- A cursor whose place is at most m, and its bytes. -/
def Held (W : World) (B : Nat) (a : Option Addr) (len cap m : Nat) : Prop := (∃ at' sd, at' ≤ m ∧ Cur W B a len cap at' sd) ∧ Bytes W B a len
theorem Bytes.kept {W W' : World} {B len : Nat} {a : Option Addr} (h : Bytes W B a len) (hg : W.grownBy W' (some B)) : Bytes W' B a len := by
  intro i hi
  obtain ⟨b, o, z, rfl, hne, hz, h0, h1⟩ := h i hi
  refine ⟨b, o, z, rfl, hne, ?_, h0, h1⟩
  have hl : b < W.heap.size := World.block_lt_of_cell? _ _ hz
  have e := hg.block b hl (by simpa using hne)
  rw [← hz]
  simp [World.cell?, e]
theorem Held.kept {W W' : World} {B len cap m : Nat} {a : Option Addr} (h : Held W B a len cap m) (hb : Below W.heap.size W W') : Held W' B a len cap m := by
  obtain ⟨⟨p, sd, hp, hC⟩, hB⟩ := h
  have hl : B < W.heap.size := (Array.getElem?_eq_some_iff.1 hC.1).1
  refine ⟨⟨p, sd, hp, ⟨by rw [hb.block B hl]; exact hC.1, hC.2⟩⟩, hB.kept ⟨hb.os, hb.tape, hb.output, hb.size, fun j hj _ => hb.block j hj⟩⟩
theorem Held.more {W : World} {B len cap m m' : Nat} {a : Option Addr} (h : Held W B a len cap m) (hm : m ≤ m') : Held W B a len cap m' := by
  obtain ⟨⟨p, sd, hp, hC⟩, hB⟩ := h
  exact ⟨⟨p, sd, by omega, hC⟩, hB⟩

/-- A call of next: a number from 0 to 255, and the cursor is further on. -/
theorem next_any (B len cap m : Nat) (a : Option Addr) (W : World) (h : Held W B a len cap m) (hm : m ≤ 999999) :
    Calls Try.prog 64 #[.pointer (some ⟨B, 0, none⟩)] W fun e W' => ∃ n : Nat, e = .returned (.int .i64 (n : Int)) ∧ n ≤ 255 ∧ Held W' B a len cap (m + 1) ∧ W.grownBy W' (some B) := by
  obtain ⟨⟨p, sd, hp, hC⟩, hB⟩ := h
  have hN : Calls Try.prog 64 #[.pointer (some ⟨B, 0, none⟩)] W (NextPost B a len cap p W) := by
    by_cases hlt : p < len
    · exact next_in B len cap p a sd W hC (Lib.hid hB) (by omega) hlt
    · exact next_out B len cap p a sd W hC (by omega) hlt
  refine hN.mono ?_
  rintro e W' ⟨n, sd', rfl, h0, h1, hC', hg⟩
  obtain ⟨k, rfl⟩ := Int.eq_ofNat_of_zero_le h0
  exact ⟨k, rfl, by omega, ⟨⟨p + 1, sd', by omega, hC'⟩, hB.kept hg⟩, hg⟩

set_option maxHeartbeats 1000000 in
theorem pick_any (B len cap m n : Nat) (a : Option Addr) (W : World) (h : Hid (Held W B a len cap m)) (hm : m + 1 ≤ 999999) (hn : n ≤ 65536) :
    Calls Try.prog 53 #[.pointer (some ⟨B, 0, none⟩), .int .i64 (n : Int)] W fun e W' => ∃ k : Nat, e = .returned (.int .i64 (k : Int)) ∧ (k < n ∨ k = 0) ∧ Held W' B a len cap (m + 2) ∧ W.grownBy W' (some B) := by
  by_cases h1 : n ≤ 1
  · have h1' : (n : Int) ≤ 1 := by omega
    go_enter Try.func53, Try.ntmps53
    go_wp2
    go_ret
    exact ⟨0, rfl, .inr rfl, h.out.more (by omega), grown_refl _ _⟩
  · by_cases h2 : n ≤ 200
    · have h1' : ¬ (n : Int) ≤ 1 := by omega
      have h2' : ¬ 200 < (n : Int) := by omega
      have hnz : (n : Int) ≠ 0 := by omega
      go_enter Try.func53, Try.ntmps53
      go_wp2_with fail
      refine (next_any B len cap m a _ h.out (by omega)).mono ?_
      rintro e W1 ⟨x, rfl, hx, hH, hg⟩
      have hHH := Lib.hid hH
      have hgg := Lib.hid hg
      clear hH hg
      go_wp2
      go_ret
      have hk : ((x % n : Nat) : Int) = (x : Int) % (n : Int) := by omega
      exact ⟨x % n, by rw [hk]; rfl, .inl (Nat.mod_lt _ (by omega)), hHH.out.more (by omega), hgg.out⟩
    · have h1' : ¬ (n : Int) ≤ 1 := by omega
      have h2' : 200 < (n : Int) := by omega
      have hnz : (n : Int) ≠ 0 := by omega
      go_enter Try.func53, Try.ntmps53
      go_wp2_with fail
      refine (next_any B len cap m a _ h.out (by omega)).mono ?_
      rintro e W1 ⟨x, rfl, hx, hH, hg⟩
      have hHH := Lib.hid hH
      have hgg := Lib.hid hg
      clear hH hg
      go_wp2_with fail
      refine (next_any B len cap (m + 1) a _ hHH.out (by omega)).mono ?_
      rintro e W2 ⟨y, rfl, hy, hH2, hg2⟩
      have hHH2 := Lib.hid hH2
      have hgg2 := Lib.hid (hgg.out.trans hg2)
      clear hH2 hg2
      go_wp2
      go_ret
      obtain ⟨u, hu⟩ : ∃ u : Nat, u = x * 256 + y := ⟨_, rfl⟩
      have hu2 : (x : Int) * 256 + (y : Int) = (u : Int) := by omega
      have hk : ((u % n : Nat) : Int) = (x * 256 + y : Int) % (n : Int) := by rw [hu2]; omega
      exact ⟨u % n, by rw [hk]; rfl, .inl (Nat.mod_lt _ (by omega)), hHH2.out, hgg2.out⟩

set_option maxHeartbeats 400000 in
theorem one_any (B len cap m n : Nat) (a : Option Addr) (W : World) (h : Hid (Held W B a len cap m)) (hm : m + 1 ≤ 999999) (hn : n ≤ 65536) :
    Calls Try.prog 35 #[.pointer (some ⟨B, 0, none⟩), .int .i64 (n : Int)] W fun e W' => ∃ b : Bool, e = .returned (.bool b) ∧ Held W' B a len cap (m + 2) ∧ W.grownBy W' (some B) := by
  go_enter Try.func35, Try.ntmps35
  go_wp2_with fail
  refine (pick_any B len cap m n a _ h hm hn).mono ?_
  rintro e W1 ⟨k, rfl, hk, hH, hg⟩
  have hHH := Lib.hid hH
  have hgg := Lib.hid hg
  clear hH hg
  go_wp2
  go_ret
  exact ⟨_, rfl, hHH.out, hgg.out⟩

theorem Held.alloc {W : World} {B len cap m : Nat} {a : Option Addr} (h : Held W B a len cap m) (o : Obj) : Held (W.alloc o) B a len cap m := h.kept ((Below.refl _ W).alloc (Nat.le_refl _) _)
theorem Held.lt {W : World} {B len cap m : Nat} {a : Option Addr} (h : Held W B a len cap m) : B < W.heap.size := by
  obtain ⟨⟨p, sd, hp, hC⟩, hB⟩ := h
  exact (Array.getElem?_eq_some_iff.1 hC.1).1
theorem alloc_grown {W W' : World} {B : Option Nat} {o : Obj} (h : (W.alloc o).grownBy W' B) : W.grownBy W' B := by
  have hb := (Below.refl _ W).alloc (Nat.le_refl _) o
  exact World.grownBy.trans ⟨hb.os, hb.tape, hb.output, hb.size, fun j hj _ => hb.block j hj⟩ h

def Code8 (W : World) (a : Option Addr) (len : Nat) : Prop := ∀ i, i < len → ∃ b o z, a = some ⟨b, o, none⟩ ∧ W.cell? ⟨b, o + i, none⟩ = some (.int .u8 z) ∧ 0 ≤ z ∧ z ≤ 255
theorem Code8.on {W W' : World} {a : Option Addr} {len : Nat} (h : Code8 W a len) (hb : Below W.heap.size W W') : Code8 W' a len := fun i hi => by
  obtain ⟨b, o, z, e, hc, h0, h1⟩ := h i hi
  exact ⟨b, o, z, e, cell_later hb hc, h0, h1⟩
theorem Held.fresh {W : World} {a : Option Addr} {len : Nat} (cap : Nat) (h : Code8 W a len) : Held (W.alloc (.cells #[.slice a len cap, .int .i64 0, .int .u64 0] 64)) W.heap.size a len cap 0 := by
  have hb : Below W.heap.size W (W.alloc (.cells #[.slice a len cap, .int .i64 0, .int .u64 0] 64)) := (Below.refl _ W).alloc (Nat.le_refl _) _
  refine ⟨⟨0, 0, Nat.le_refl _, ?_, by omega, by omega, by omega⟩, fun i hi => ?_⟩
  · show (W.heap.push _)[W.heap.size]? = _
    simp
  · obtain ⟨b, o, z, e, hc, h0, h1⟩ := h i hi
    exact ⟨b, o, z, e, Nat.ne_of_lt (World.block_lt_of_cell? _ _ hc), cell_later hb hc, h0, h1⟩
theorem below_of {W W' : World} {o : Obj} (h : (W.alloc o).grownBy W' (some W.heap.size)) : Below W.heap.size W W' := by
  have hb := (Below.refl _ W).alloc (Nat.le_refl _) o
  have hs : (W.alloc o).heap.size = W.heap.size + 1 := by show (W.heap.push o).size = _; simp
  refine ⟨h.os.trans hb.os, h.tape.trans hb.tape, h.output.trans hb.output, Nat.le_trans hb.size h.size, fun j hj => ?_⟩
  rw [h.block j (by omega) (by simp; omega), hb.block j hj]

def intVals (zs : List Int) : List Value := zs.map (Value.int .i64)
theorem Ints.made (W : World) (zs : List Int) (t : TypeId) : Ints (W.alloc (.cells (intVals zs).toArray t)) (some ⟨W.heap.size, 0, none⟩) zs := by
  intro j x hx
  refine ⟨W.heap.size, 0, rfl, ?_⟩
  have hv : (intVals zs)[j]? = some (.int .i64 x) := by simp [intVals, hx]
  rw [World.cell?_alloc_mark]
  simpa using hv

set_option maxHeartbeats 400000 in
theorem among_any (B len cap m lc : Nat) (a la : Option Addr) (zs : List Int) (W : World) (h : Hid (Held W B a len cap m)) (hl : Hid (Ints W la zs)) (hne : Hid (∀ p, la = some p → p.block ≠ B)) (h0 : 0 < zs.length) (hm : m + 1 ≤ 999999) (hn : zs.length ≤ 65536) :
    Calls Try.prog 33 #[.pointer (some ⟨B, 0, none⟩), .slice la zs.length lc] W fun e W' => ∃ (k : Nat) (x : Int), e = .returned (.int .i64 x) ∧ zs[k]? = some x ∧ Held W' B a len cap (m + 2) ∧ W.grownBy W' (some B) := by
  go_enter Try.func33, Try.ntmps33
  go_wp2_with fail
  refine (pick_any B len cap m zs.length a _ h hm hn).mono ?_
  rintro e W1 ⟨k, rfl, hk, hH, hg⟩
  have hk1 : k < zs.length := by omega
  have hk2 : (k : Int) < (zs.length : Int) := by omega
  have hk0 : (0 : Int) ≤ (k : Int) := by omega
  obtain ⟨x, hs⟩ : ∃ x, zs[k]? = some x := ⟨_, List.getElem?_eq_getElem hk1⟩
  obtain ⟨b, o, rfl, hc⟩ := hl.out k x hs
  have hc1 : W1.cell? ⟨b, o + k, none⟩ = some (.int .i64 x) := by
    have e := hg.block b (World.block_lt_of_cell? _ _ hc) (by simpa using hne.out _ rfl)
    rw [← hc]
    simp [World.cell?, e]
  have hHH := Lib.hid hH
  have hgg := Lib.hid hg
  clear hH hg hc
  go_wp2
  go_ret
  exact ⟨k, x, rfl, hs, hHH.out, hgg.out⟩

theorem pickInt (B len cap m : Nat) (a : Option Addr) (zs : List Int) (W : World) (t : TypeId) (h : Hid (Held W B a len cap m)) (h0 : 0 < zs.length) (hm : m + 1 ≤ 999999) (hn : zs.length ≤ 65536) :
    Calls Try.prog 33 #[.pointer (some ⟨B, 0, none⟩), .slice (some ⟨W.heap.size, 0, none⟩) zs.length zs.length] (W.alloc (.cells (intVals zs).toArray t)) fun e W' => ∃ (k : Nat) (x : Int), e = .returned (.int .i64 x) ∧ zs[k]? = some x ∧ Held W' B a len cap (m + 2) ∧ W.grownBy W' (some B) := by
  have hl := h.out.lt
  refine (among_any B len cap m zs.length a _ zs _ (Lib.hid (h.out.alloc _)) (Lib.hid (Ints.made W zs t)) (Lib.hid fun p hp => ?_) h0 hm hn).mono ?_
  · cases hp
    exact Nat.ne_of_gt hl
  · rintro e W' ⟨k, s, rfl, hs, hH, hg⟩
    exact ⟨k, s, rfl, hs, hH, alloc_grown hg⟩

end Go.Proofs.Ytnmjanhpjnlfcaa
