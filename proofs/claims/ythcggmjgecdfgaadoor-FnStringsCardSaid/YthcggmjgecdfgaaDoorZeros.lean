/- A new slice of zero bytes, and the text that it is turned into: of at most 5000 bytes. Condition: its length is 3990 and at most 1000 more. -/
import Derived.Test.YthcggmjgecdfgaaDoorCur
namespace Go.Proofs.YthcggmjgecdfgaaDoor
open Go.ChangeShapes Go.WideShapes Go.ChangeAt Go.RowKit

def zerosB (n : Nat) : ByteArray := ⟨(List.replicate n 0).toArray⟩
theorem zerosB_size (n : Nat) : (zerosB n).size = n := by simp [zerosB, ByteArray.size]
theorem infoU8 : (Tryd.prog.info? 5).map (fun i => (i.zero, i.size, i.bytes)) = some (some (.int .u8 0), 1, 1) := by kernel_rfl
theorem run_zeros (q : Nat) (hq : q ≤ 1000) (w : World) : (Instr.makeSlice 22 (.int .i64 (3990 + (q : Int))) (.int .i64 (3990 + (q : Int)))).run Tryd.prog w = .ok (.slice (some ⟨w.heap.size, 0, none⟩) (3990 + q) (3990 + q)) (w.alloc (.cells (madeCells #[.int .u8 0] (3990 + q)) 5)) := by
  obtain ⟨i0, hi, hz0, hz1, hz2⟩ := info_parts infoU8
  have h := run_makeSlice (P := Tryd.prog) w 22 5 i0 (.int .u8 0) Tryd.underlying22 hi hz0 .i64 .i64 (3990 + (q : Int)) (3990 + (q : Int)) (by omega) (by omega) (by rw [hz1]; omega) (by rw [hz2]; omega) (by omega)
  have e : (3990 + (q : Int)).toNat = 3990 + q := by omega
  rw [e, hz1, Nat.mul_one] at h
  exact h
theorem run_zstr (q : Nat) (w : World) : (convert 22 9 (.slice (some ⟨w.heap.size, 0, none⟩) (3990 + q) (3990 + q))).run Tryd.prog (w.alloc (.cells (madeCells #[.int .u8 0] (3990 + q)) 5)) = .ok (.string (zerosB (3990 + q))) (w.alloc (.cells (madeCells #[.int .u8 0] (3990 + q)) 5)) := by
  have h := run_convert_bytes_back (P := Tryd.prog) (w.alloc (.cells (madeCells #[.int .u8 0] (3990 + q)) 5)) 22 9 5 ⟨w.heap.size, 0, none⟩ (3990 + q) (List.replicate (3990 + q) 0) Tryd.underlying22 Tryd.underlying5 Tryd.underlying9 (fun j hj => by
    rw [add_plain, World.cell?_alloc_at _ _ _ _ rfl]
    have hj' : j < 3990 + q := by simpa using hj
    have e : (madeCells #[Value.int .u8 0] (3990 + q))[0 + j]? = (madeCells #[Value.int .u8 0] (3990 + q)).toList[j]? := by rw [Nat.zero_add, Array.getElem?_toList]
    rw [e, toList_madeCells_one]
    simp [hj'])
  rw [List.length_replicate] at h
  exact h

theorem zeros_any (q : Nat) (hq : q ≤ 1000) : ∃ (N : Nat) (zs : Array Value) (z : ByteArray), z.size ≤ 5000 ∧
    (∀ w : World, (Instr.makeSlice 22 (.int .i64 (3990 + (q : Int))) (.int .i64 (3990 + (q : Int)))).run Tryd.prog w = .ok (.slice (some ⟨w.heap.size, 0, none⟩) N N) (w.alloc (.cells zs 5))) ∧
    ∀ w : World, (convert 22 9 (.slice (some ⟨w.heap.size, 0, none⟩) N N)).run Tryd.prog (w.alloc (.cells zs 5)) = .ok (.string z) (w.alloc (.cells zs 5)) :=
  ⟨3990 + q, _, zerosB (3990 + q), by rw [zerosB_size]; omega, run_zeros q hq, run_zstr q⟩

end Go.Proofs.YthcggmjgecdfgaaDoor
