/- Contract: spec.DrawJoinStrings returns a list of at most four texts of at most 5000 bytes, and a sign of at most two. Condition: the code's bytes lie in memory. -/
import Derived.Test.YthcggmjgecdfgaaCur
namespace Go.Proofs.Ythcggmjgecdfgaa
open Go.ChangeShapes Go.WideShapes Go.ChangeAt Go.RowKit

def signsJ : List ByteArray := [⟨#[44]⟩, ⟨#[59]⟩, ⟨#[59]⟩, ⟨#[]⟩, ⟨#[97, 98]⟩]
theorem signsJ_small : ∀ s ∈ signsJ, s.size ≤ 2 := by decide

/-- The list so far, and the cursor. -/
def ListAt (W : World) (a : Option Addr) (len cap m : Nat) (v : Value) (ss : List ByteArray) (wr : World) : Prop :=
  wr.ownsRow (W.heap.size + 1) 9 1 v ss.length (strVals ss) ∧ Held wr W.heap.size a len cap m ∧ Below W.heap.size W wr ∧ W.heap.size + 1 ≤ wr.heap.size ∧ (∀ s ∈ ss, s.size ≤ 5000) ∧ Code8 W a len

theorem below_grown {W w w1 : World} {row : Option Nat} (h : Below W.heap.size W w) (hg : w.grownBy w1 row) (hr : ∀ k, row = some k → W.heap.size ≤ k) : Below W.heap.size W w1 := by
  have hs := h.size
  refine ⟨hg.os.trans h.os, hg.tape.trans h.tape, hg.output.trans h.output, Nat.le_trans h.size hg.size, fun j hj => ?_⟩
  rw [hg.block j (by omega) (fun e => by have := hr j e.symm; omega), h.block j hj]

theorem ListAt.start {W : World} {a : Option Addr} {len : Nat} (cap : Nat) (h : Code8 W a len) (o : Obj) (ho : o = .cells #[.slice a len cap, .int .i64 0, .int .u64 0] 44) :
    ListAt W a len cap 0 (.slice (some ⟨W.heap.size + 1, 0, none⟩) 0 0) [] ((W.alloc o).alloc (.cells #[] 9)) := by
  subst ho
  have hs : (W.alloc (.cells #[.slice a len cap, .int .i64 0, .int .u64 0] 44)).heap.size = W.heap.size + 1 := by show (W.heap.push _).size = _; simp
  have hm := World.ownsRow_made (base := W.heap.size + 1) (e := 9) (size := 1) (W.alloc (.cells #[.slice a len cap, .int .i64 0, .int .u64 0] 44)) #[] 0 (by omega) (Nat.zero_le _) rfl
  rw [hs] at hm
  refine ⟨hm, (Held.fresh cap h).alloc _, ((Below.refl _ W).alloc (Nat.le_refl _) _).alloc (by omega) _, ?_, by simp, h⟩
  show W.heap.size + 1 ≤ ((W.alloc _).heap.push _).size
  rw [Array.size_push, hs]
  omega

theorem ListAt.turn {W wr w1 : World} {a : Option Addr} {len cap m m' : Nat} {v : Value} {ss : List ByteArray} (h : ListAt W a len cap m v ss wr) (hH : Held w1 W.heap.size a len cap m') (hg : wr.grownBy w1 (some W.heap.size)) : ListAt W a len cap m' v ss w1 := by
  obtain ⟨ho, hh, hb, hs, hz, hc8⟩ := h
  have hs1 := hg.size
  refine ⟨ho.kept hg (.inr fun e => ?_), hH, below_grown hb hg (fun k e => by cases e; exact Nat.le_refl _), by omega, hz, hc8⟩
  have := (ho.lt _ e).1
  omega

theorem ListAt.more {W wr w1 : World} {a : Option Addr} {len cap m : Nat} {v v' : Value} {ss : List ByteArray} {s : ByteArray} {o : Obj} (h : ListAt W a len cap m v ss wr) (hsz : s.size ≤ 5000)
    (hown' : w1.ownsRow (W.heap.size + 1) 9 1 v' (ss.length + 1) (strVals ss ++ [.string s])) (hgrow : (wr.alloc o).grownBy w1 v.ownBlock) : ListAt W a len cap m v' (ss ++ [s]) w1 := by
  obtain ⟨ho, hh, hb, hs, hz, hc8⟩ := h
  have hlt := hh.lt
  have hsz2 : (wr.alloc o).heap.size = wr.heap.size + 1 := by show (wr.heap.push o).size = _; simp
  have hs1 := hgrow.size
  have hne : some W.heap.size ≠ v.ownBlock := fun e => by have := (ho.lt _ e.symm).1; omega
  obtain ⟨⟨p, sd, hp, hC⟩, hB⟩ := hh.alloc o
  have hb2 := below_grown (hb.alloc (by omega) o) hgrow (fun k e => by have := (ho.lt k e).1; omega)
  refine ⟨by simpa [strVals] using hown', ⟨⟨p, sd, hp, ⟨by rw [hgrow.block _ (by omega) hne]; exact hC.1, hC.2⟩⟩, ?_⟩, hb2, by omega, ?_, hc8⟩
  · intro i hi
    obtain ⟨b, q, z, e, hc, h0, h1⟩ := hc8 i hi
    exact ⟨b, q, z, e, Nat.ne_of_lt (World.block_lt_of_cell? _ _ hc), cell_later hb2 hc, h0, h1⟩
  · intro x hx
    rcases List.mem_append.1 hx with hx | hx
    · exact hz x hx
    · simp at hx
      rw [hx]
      exact hsz

theorem owns_cap {w : World} {B n cap : Nat} {a : Option Addr} {e : TypeId} {z : Nat} {xs : List Value} (h : w.ownsRow B e z (.slice a n cap) n xs) : n ≤ cap := by
  obtain ⟨hl, ⟨hv, hn⟩ | ⟨g, cap', cur, hv, hg, hc, hn, hm, hz, ht⟩⟩ := h
  · omega
  · simp only [Value.slice.injEq] at hv
    omega

/-- What the draw hands back. -/
def JoinDraw (W : World) (e : Ending) (W' : World) : Prop :=
  ∃ (la : Option Addr) (ss : List ByteArray) (c : Nat) (sep : ByteArray), e = .returned (.tuple #[.slice la ss.length c, .string sep]) ∧ Strs W' la ss ∧ ss.length ≤ c ∧ ss.length ≤ 4 ∧ (∀ s ∈ ss, s.size ≤ 5000) ∧ sep.size ≤ 2 ∧ Below W.heap.size W W'
theorem finish {W w : World} {a : Option Addr} {len cap m : Nat} {v : Value} {ss : List ByteArray} {sep : ByteArray} (h : ListAt W a len cap m v ss w) (hl : ss.length ≤ 4) (hs : sep.size ≤ 2) : JoinDraw W (.returned (.tuple #[v, .string sep])) w := by
  obtain ⟨ho, hh, hb, hz, hsm, hc8⟩ := h
  obtain ⟨la, c, rfl, hS⟩ := strs_of_owns ho
  exact ⟨la, ss, c, sep, rfl, hS, owns_cap ho, hl, hsm, hs, hb⟩

def zerosB (n : Nat) : ByteArray := ⟨(List.replicate n 0).toArray⟩
theorem zerosB_size (n : Nat) : (zerosB n).size = n := by simp [zerosB, ByteArray.size]
theorem infoU8 : (Try.prog.info? 5).map (fun i => (i.zero, i.size, i.bytes)) = some (some (.int .u8 0), 1, 1) := by kernel_rfl
theorem run_zeros (q : Nat) (hq : q ≤ 1000) (w : World) : (Instr.makeSlice 22 (.int .i64 (3990 + (q : Int))) (.int .i64 (3990 + (q : Int)))).run Try.prog w = .ok (.slice (some ⟨w.heap.size, 0, none⟩) (3990 + q) (3990 + q)) (w.alloc (.cells (madeCells #[.int .u8 0] (3990 + q)) 5)) := by
  obtain ⟨i0, hi, hz0, hz1, hz2⟩ := info_parts infoU8
  have h := run_makeSlice (P := Try.prog) w 22 5 i0 (.int .u8 0) Try.underlying22 hi hz0 .i64 .i64 (3990 + (q : Int)) (3990 + (q : Int)) (by omega) (by omega) (by rw [hz1]; omega) (by rw [hz2]; omega) (by omega)
  have e : (3990 + (q : Int)).toNat = 3990 + q := by omega
  rw [e, hz1, Nat.mul_one] at h
  exact h
theorem run_zstr (q : Nat) (w : World) : (convert 22 9 (.slice (some ⟨w.heap.size, 0, none⟩) (3990 + q) (3990 + q))).run Try.prog (w.alloc (.cells (madeCells #[.int .u8 0] (3990 + q)) 5)) = .ok (.string (zerosB (3990 + q))) (w.alloc (.cells (madeCells #[.int .u8 0] (3990 + q)) 5)) := by
  have h := run_convert_bytes_back (P := Try.prog) (w.alloc (.cells (madeCells #[.int .u8 0] (3990 + q)) 5)) 22 9 5 ⟨w.heap.size, 0, none⟩ (3990 + q) (List.replicate (3990 + q) 0) Try.underlying22 Try.underlying5 Try.underlying9 (fun j hj => by
    rw [add_plain, World.cell?_alloc_at _ _ _ _ rfl]
    have hj' : j < 3990 + q := by simpa using hj
    have e : (madeCells #[Value.int .u8 0] (3990 + q))[0 + j]? = (madeCells #[Value.int .u8 0] (3990 + q)).toList[j]? := by rw [Nat.zero_add, Array.getElem?_toList]
    rw [e, toList_madeCells_one]
    simp [hj'])
  rw [List.length_replicate] at h
  exact h

theorem zeros_any (q : Nat) (hq : q ≤ 1000) : ∃ (N : Nat) (zs : Array Value) (z : ByteArray), z.size ≤ 5000 ∧
    (∀ w : World, (Instr.makeSlice 22 (.int .i64 (3990 + (q : Int))) (.int .i64 (3990 + (q : Int)))).run Try.prog w = .ok (.slice (some ⟨w.heap.size, 0, none⟩) N N) (w.alloc (.cells zs 5))) ∧
    ∀ w : World, (convert 22 9 (.slice (some ⟨w.heap.size, 0, none⟩) N N)).run Try.prog (w.alloc (.cells zs 5)) = .ok (.string z) (w.alloc (.cells zs 5)) :=
  ⟨3990 + q, _, zerosB (3990 + q), by rw [zerosB_size]; omega, run_zeros q hq, run_zstr q⟩

set_option maxHeartbeats 800000 in
theorem drawJoin_any (a : Option Addr) (len cap : Nat) (W : World) (h : Hid (Code8 W a len)) :
    Calls Try.prog 11 #[.slice a len cap] W (JoinDraw W) := by
  obtain ⟨i0, hi, hz0, hz1, hz2⟩ := info_parts infoStr
  go_enter Try.func11, Try.ntmps11
  have HL := Lib.hid (ListAt.start cap h.out _ rfl)
  go_wp2_with fail
  refine (pick_any W.heap.size len cap 0 4 a _ (Lib.hid HL.out.2.1) (by omega) (by omega)).mono ?_
  rintro e W1 ⟨n, rfl, hn, hH, hg⟩
  have HL1 := Lib.hid (HL.out.turn hH hg)
  clear hH hg HL
  have hn4 : n < 4 := by omega
  go_wp2_with fail
  go_loopw [5, 7] (fun v i wr => ∃ (k : Nat) (ss : List ByteArray), k ≤ n ∧ i = .int .i64 k ∧ ss.length = k ∧ ListAt W a len cap (2 + 2 * k) v ss wr) (fun _ i _ => n - (intOf i).toNat)
  case atStart => exact ⟨0, [], Nat.zero_le _, rfl, rfl, HL1.out⟩
  case round =>
    obtain ⟨k, ss, hk, rfl, hlen, hL⟩ := hrel
    subst hlen
    have HL := Lib.hid hL
    clear hL
    by_cases hlt : ss.length < n
    · go_wp2_with fail
      refine (any1_any W.heap.size len cap (2 + 2 * ss.length) a _ (Lib.hid HL.out.2.1) (by omega)).mono ?_
      rintro e w1 ⟨s, rfl, hs, hH, hg⟩
      have HL2 := Lib.hid (HL.out.turn hH hg)
      have hown := HL2.out.1
      have hlast := HL2.out.2.2.2.1
      clear hH hg
      go_wp2_with (at_builtin; refine wpList_append_own _ rfl _ _ 26 rfl (W.heap.size + 1) 9 i0 (.string ByteArray.empty) 1 16 Try.underlying26 hi hz0 hz1 hz2 rfl (by decide) _ _ _ rfl (hown.alloc _) ⟨w1.heap.size, 0, none⟩ 1 1 [.string s] rfl rfl ?c1 ?c2 ?c3 ?c4 ?c5 ?_)
      case c1 => exact cell_one_new _ _ _
      case c2 => simp [Value.oneCell']
      case c3 => unfold maxLen; omega
      case c4 => omega
      case c5 => simp; omega
      intro v' w2 hown' hgrow _
      have hR := Lib.hid (HL2.out.more (Nat.le_trans hs (by decide)) hown' hgrow)
      clear hown' hgrow hown
      go_wp2
      go_roundw
      case rel => exact ⟨ss.length + 1, ss ++ [s], by omega, by go_num, by simp, hR.out⟩
      case measure => simp [intOf]; omega
    · obtain rfl : n = ss.length := by omega
      go_wp2_with fail
      refine (one_any W.heap.size len cap (2 + 2 * ss.length) 20 a _ (Lib.hid HL.out.2.1) (by omega) (by omega)).mono ?_
      rintro e w1 ⟨b, rfl, hH, hg⟩
      have HL2 := Lib.hid (HL.out.turn hH hg)
      clear hH hg HL
      cases b
      · go_wp2_with fail
        refine (pickText W.heap.size len cap (2 + 2 * ss.length + 2) a signsJ w1 _ (Lib.hid HL2.out.2.1) (by decide) (by omega) (by decide)).mono ?_
        rintro e w2 ⟨j, sep, rfl, hsep, hH, hg⟩
        have hsm := signsJ_small sep (List.mem_of_getElem? hsep)
        have HF := Lib.hid (finish (HL2.out.turn hH hg) (by omega) hsm)
        clear hH hg hsep
        go_wp2
        go_ret2
        exact HF.out
      · go_wp2_with fail
        refine (pick_any W.heap.size len cap (2 + 2 * ss.length + 2) 20 a _ (Lib.hid HL2.out.2.1) (by omega) (by omega)).mono ?_
        rintro e w3 ⟨q, rfl, hq, hH, hg⟩
        have HL3 := Lib.hid (HL2.out.turn hH hg)
        have hq20 : q < 20 := by omega
        obtain ⟨N, zs, z, hzz, hmk, hcv⟩ := zeros_any q (by omega)
        have HL4 := Lib.hid (HL3.out.turn (HL3.out.2.1.alloc (.cells zs 5)) (World.grownBy_alloc _ _ _))
        have hown := HL4.out.1
        have hlast := HL3.out.2.2.2.1
        clear hH hg hq HL2
        go_wp2_with (at_builtin; refine wpList_append_own _ rfl _ _ 26 rfl (W.heap.size + 1) 9 i0 (.string ByteArray.empty) 1 16 Try.underlying26 hi hz0 hz1 hz2 rfl (by decide) _ _ _ rfl (hown.alloc _) ⟨w3.heap.size + 1, 0, none⟩ 1 1 [.string z] rfl rfl ?c1 ?c2 ?c3 ?c4 ?c5 ?_)
        case c1 =>
          have hc1 := cell_one_new (w3.alloc (.cells zs 5)) (.string z) 9
          have hsz : (w3.alloc (.cells zs 5)).heap.size = w3.heap.size + 1 := by show (w3.heap.push _).size = _; simp
          rw [hsz] at hc1
          exact hc1
        case c2 => simp [Value.oneCell']
        case c3 => unfold maxLen; omega
        case c4 => omega
        case c5 => simp; omega
        intro v' w4 hown' hgrow _
        have HL5 := Lib.hid (HL4.out.more hzz hown' hgrow)
        have hl5 : (ss ++ [z]).length ≤ 4 := by simp; omega
        clear hown' hgrow hown
        go_wp2_with fail
        refine (pickText W.heap.size len cap (2 + 2 * ss.length + 2 + 2) a signsJ w4 _ (Lib.hid HL5.out.2.1) (by decide) (by omega) (by decide)).mono ?_
        rintro e w2 ⟨j, sep, rfl, hsep, hH, hg⟩
        have hsm := signsJ_small sep (List.mem_of_getElem? hsep)
        have HF := Lib.hid (finish (HL5.out.turn hH hg) hl5 hsm)
        clear hH hg hsep
        go_wp2
        go_ret2
        exact HF.out

end Go.Proofs.Ythcggmjgecdfgaa
