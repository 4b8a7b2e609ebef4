/- Contract: the function value that impl.partsOf returns hands each part of a text to a loop's body, in order. No condition. -/
import Derived.Test.YthcggmjgecdfgaaSplitWalks
import Derived.RangeFuncNested
import Derived.RangeFuncBound
import Derived.RangeFuncBox
import Derived.RangeFuncCalls
import Derived.RangeFuncLeaves
import Derived.Shelf.Abstract
import Derived.Shelf.RegionOpen
import Derived.OwnWalkIn
import Derived.TacticsInMore
import Derived.LoopNIn
import Derived.LoopIn
import Derived.Sort.QuietIn
namespace Go.Proofs.Ythcggmjgecdfgaa
open Go.RowKit Go.Shelf
attribute [local go_sem] Oper.semAt_some

theorem partsOf_in (s : ByteArray) (c : UInt8) (w : World) :
    Calls Try.prog 27 #[.string s, .int .u8 (c.toNat : Int)] w fun e w' => e = .returned (.func (.func 38) #[] #[.pointer (some ⟨w.heap.size, 0, none⟩), .pointer (some ⟨w.heap.size + 1, 0, none⟩)]) ∧ w' = (w.alloc (.cells #[.string s] 9)).alloc (.cells #[.int .u8 (c.toNat : Int)] 5) := by
  have hmf : ∀ (fn : Fn) (first cap : Array Value) (w : World), (Instr.makeFunc fn first cap).run Try.prog w = .ok (.func fn first cap) w := fun _ _ _ _ => rfl
  go_enter Try.func27, Try.ntmps27
  go_wp2
  go_ret
  exact ⟨rfl, rfl⟩

/-- What the function value reads between two rounds lies as it lay. -/
def Two (Bs Bc : Nat) (W W' : World) : Prop := W'.heap[Bs]? = W.heap[Bs]? ∧ W'.heap[Bc]? = W.heap[Bc]?
theorem Two.refl (Bs Bc : Nat) (W : World) : Two Bs Bc W W := ⟨rfl, rfl⟩
theorem Two.trans {Bs Bc : Nat} {A B C : World} (h : Two Bs Bc A B) (k : Two Bs Bc B C) : Two Bs Bc A C := ⟨k.1.trans h.1, k.2.trans h.2⟩
theorem Two.drewN {Bs Bc : Nat} {A B : World} (h : Two Bs Bc A B) (m : Nat) : Two Bs Bc A (B.drewN m) := h
theorem Two.cells {Bs Bc : Nat} {A B : World} (h : Two Bs Bc A B) : B.cell? ⟨Bs, 0, none⟩ = A.cell? ⟨Bs, 0, none⟩ ∧ B.cell? ⟨Bc, 0, none⟩ = A.cell? ⟨Bc, 0, none⟩ := ⟨World.cell?_of_block h.1, World.cell?_of_block h.2⟩
theorem Two.putObj {Bs Bc : Nat} (W : World) (l : Nat) (o : Obj) (h1 : Bs < l) (h2 : Bc < l) : Two Bs Bc W (W.putObj l o) := ⟨World.putObj_heap_other (by omega), World.putObj_heap_other (by omega)⟩

/-- What a loop's body is handed: a text that is not too long. -/
abbrev Part := { x : ByteArray // x.size ≤ 1048576 }
def texts (l : List Part) : List ByteArray := l.map (·.1)
theorem texts_snoc (l : List Part) (x : Part) : texts (l ++ [x]) = texts l ++ [x.1] := by simp [texts]
theorem texts_length (l : List Part) : (texts l).length = l.length := by simp [texts]
theorem extract_le (s : ByteArray) (a b : Nat) (h : s.size ≤ 1048576) : (s.extract a b).size ≤ 1048576 := by rw [ByteArray.size_extract]; omega

set_option maxRecDepth 100000 in
set_option maxHeartbeats 1000000 in
theorem parts1_in (n : Nat) (hn : 1 ≤ n) (l Bs Bc : Nat) (s : ByteArray) (c : UInt8) (hsz : s.size ≤ 1048576) (J Jx : List Part → World → Prop)
    (hY : ∀ pre x W, J pre W → pre.length < (Plain.parts s c).length → YieldAt Fence.wide (n - 1) Try.prog l #[.string x.1] W fun e W' =>
      (e = .returned (.bool true) ∧ J (pre ++ [x]) W' ∧ Two Bs Bc W W') ∨ (e = .returned (.bool false) ∧ Jx (pre ++ [x]) W'))
    (hJd : ∀ pre W m, J pre W → J pre (W.drewN m))
    (W : World) (hs : W.cell? ⟨Bs, 0, none⟩ = some (.string s)) (hc : W.cell? ⟨Bc, 0, none⟩ = some (.int .u8 (c.toNat : Int))) (h0 : J [] W) :
    CallsIn Fence.wide n Try.prog 38 #[.func (.yield l) #[] #[], .pointer (some ⟨Bs, 0, none⟩), .pointer (some ⟨Bc, 0, none⟩)] W fun e W' => (∃ v, e = .returned v) ∧
      ((∃ ys, texts ys = Plain.parts s c ∧ J ys W') ∨ (∃ pre, texts pre <+: Plain.parts s c ∧ Jx pre W')) := by
  refine callsIn_of_wp Try.func38 rfl trivial ?_ rfl
  simp only [Try.ntmps38, List.size_toArray, List.length_cons, List.length_nil, Nat.reduceAdd, Nat.reduceSub, Array.replicate_succ, Array.replicate_zero, List.push_toArray, List.append_toArray, List.nil_append, List.cons_append]
  have HY := Lib.hid hY
  have HJ := Lib.hid hJd
  clear hY hJd
  gi_wp2
  gi_loopw [4, 8] (fun st i wr => ∃ k : Nat, k ≤ s.size ∧ i = .int .i64 k ∧ st = .int .i64 ((Plain.sp s c k).2 : Nat) ∧ (∃ q, texts q = (Plain.sp s c k).1 ∧ J q wr) ∧ Two Bs Bc W wr) (fun _ i _ => s.size - (intOf i).toNat)
  case atStart => exact ⟨0, Nat.zero_le _, rfl, rfl, ⟨[], rfl, h0⟩, Two.refl _ _ _⟩
  case round =>
    obtain ⟨k, hk, rfl, rfl, ⟨q, hq, hJk⟩, hb⟩ := hrel
    have HQ := Lib.hid hq
    have hql : q.length = (Plain.sp s c k).1.length := by rw [← hq, texts_length]
    clear hq
    have hcs : wr.cell? ⟨Bs, 0, none⟩ = some (.string s) := hb.cells.1.trans hs
    have hcc : wr.cell? ⟨Bc, 0, none⟩ = some (.int .u8 (c.toNat : Int)) := hb.cells.2.trans hc
    have hf := (Plain.sp_le s c k).1
    have HJk := Lib.hid hJk
    have HB := Lib.hid hb
    clear hJk hb
    by_cases hlt : k < s.size
    · have hi : (k : Int) < (s.size : Int) := by omega
      have hi0 : (0 : Int) ≤ (k : Int) := by omega
      by_cases he : s[k] = c
      · have hbq : ((s[k].toNat : Int) == (c.toNat : Int)) = true := by rw [he]; simp
        have hbn : ((s[k].toNat : Int) != (c.toNat : Int)) = false := by rw [bne, hbq]; rfl
        have HS := Lib.hid (Plain.sp_hit s c k hlt he)
        have HP := Lib.hid (Plain.sp_next s c k hlt he)
        have hlen : q.length < (Plain.parts s c).length := by
          have := HP.out.length_le
          simp at this
          omega
        have HX := Lib.hid (extract_le s (Plain.sp s c k).2 k hsz)
        clear hql
        clear he
        gi_wp2
        gi_quiet (fail)
        obtain ⟨fn, tmps, assign, body, hy, hR⟩ := HY.out q ⟨s.extract (Plain.sp s c k).2 k, HX.out⟩ (wr.drewN nq) (HJ.out _ _ _ HJk.out) hlen
        dsimp only at hy
        gi_wp2
        refine hR.mono ?_
        rintro e W3 (⟨rfl, hJ3, hk3⟩ | ⟨rfl, hJx3⟩)
        · have HB3 : Hid (Two Bs Bc W W3) := Lib.hid ((HB.out.drewN nq).trans hk3)
          have HJ3 : Hid (∃ q, texts q = (Plain.sp s c (k + 1)).1 ∧ J q W3) := Lib.hid ⟨_, by rw [HS.out, texts_snoc, HQ.out], hJ3⟩
          clear hJ3 hk3
          gi_wp2
          go_roundw
          case rel => exact ⟨k + 1, by omega, by go_num, by rw [HS.out]; go_num, HJ3.out, HB3.out⟩
          case measure => simp [intOf]; omega
        · gi_wp2
          refine bodyPost_ret (results_none rfl _ _ _) rfl ?_
          exact ⟨⟨_, rfl⟩, .inr ⟨_, by rw [texts_snoc, HQ.out]; exact HP.out, hJx3⟩⟩
      · have hbq : ((s[k].toNat : Int) == (c.toNat : Int)) = false := by
          rw [beq_eq_false_iff_ne]
          intro e
          exact he (UInt8.toNat_inj.1 (by omega))
        have hbn : ((s[k].toNat : Int) != (c.toNat : Int)) = true := by rw [bne, hbq]; rfl
        have HS := Lib.hid (Plain.sp_miss s c k hlt he)
        clear he
        gi_wp2
        gi_quiet (fail)
        gi_wp2
        go_roundw
        case rel => exact ⟨k + 1, by omega, by go_num, by rw [HS.out], ⟨q, by rw [HS.out, HQ.out], HJ.out _ _ _ HJk.out⟩, HB.out.drewN _⟩
        case measure => simp [intOf]; omega
    · obtain rfl : k = s.size := by omega
      have hlen : q.length < (Plain.parts s c).length := by rw [hql]; unfold Plain.parts; simp
      have HX := Lib.hid (extract_le s (Plain.sp s c s.size).2 s.size hsz)
      clear hql
      have HP : Hid (Plain.parts s c = (Plain.sp s c s.size).1 ++ [s.extract (Plain.sp s c s.size).2 s.size]) := Lib.hid rfl
      obtain ⟨fn, tmps, assign, body, hy, hR⟩ := HY.out q ⟨s.extract (Plain.sp s c s.size).2 s.size, HX.out⟩ wr HJk.out hlen
      dsimp only at hy
      gi_wp2
      refine hR.mono ?_
      rintro e W3 (⟨rfl, hJ3, hk3⟩ | ⟨rfl, hJx3⟩)
      · gi_wp2
        go_end0
        exact ⟨⟨_, rfl⟩, .inl ⟨_, by rw [texts_snoc, HQ.out, HP.out], hJ3⟩⟩
      · gi_wp2
        go_end0
        exact ⟨⟨_, rfl⟩, .inr ⟨_, by rw [texts_snoc, HQ.out, HP.out]; exact List.prefix_refl _, hJx3⟩⟩

/-- The function value, as a range over it takes it. -/
theorem parts_stops (n : Nat) (hn : 1 ≤ n) (Bs Bc : Nat) (s : ByteArray) (c : UInt8) (hsz : s.size ≤ 1048576) (w : World) (hBs : Bs < w.heap.size) (hBc : Bc < w.heap.size)
    (hs : w.cell? ⟨Bs, 0, none⟩ = some (.string s)) (hc : w.cell? ⟨Bc, 0, none⟩ = some (.int .u8 (c.toNat : Int))) :
    SeqStopsK Fence.wide n Try.prog 38 #[.pointer (some ⟨Bs, 0, none⟩), .pointer (some ⟨Bc, 0, none⟩)] (fun x : Part => #[Value.string x.1]) (Two Bs Bc) (fun ys => texts ys = Plain.parts s c) (fun pre => texts pre <+: Plain.parts s c) (Plain.parts s c).length w := fun l J Jx W hW hJ _ hY h0 =>
  parts1_in n hn l Bs Bc s c hsz J Jx hY
    (fun pre V m hp => hJ pre V (V.drewN m) none hp ⟨rfl, rfl, rfl, Nat.le_refl _, fun _ _ _ => rfl⟩ (fun r e => by cases e))
    W ((hW.cell (p := ⟨Bs, 0, none⟩) hBs).trans hs) ((hW.cell (p := ⟨Bc, 0, none⟩) hBc).trans hc) h0

end Go.Proofs.Ythcggmjgecdfgaa
