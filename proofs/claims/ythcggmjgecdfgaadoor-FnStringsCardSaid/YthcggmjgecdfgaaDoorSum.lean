/- Plain mathematics of the checksum: a fold over bytes, below its modulus. No condition. -/
namespace Go.Proofs.YthcggmjgecdfgaaDoor.Plain

def sumStep (h : Nat) (c : UInt8) : Nat := (41 * h + c.toNat + 1) % 999979
def sumOf (l : List UInt8) : Nat := l.foldl sumStep 7

theorem sumStep_lt (h : Nat) (c : UInt8) : sumStep h c < 999979 := Nat.mod_lt _ (by omega)

theorem foldl_lt (l : List UInt8) : ∀ h, h < 999979 → l.foldl sumStep h < 999979 := by
  induction l with
  | nil => intro h hh; exact hh
  | cons c l ih => intro h _; exact ih _ (sumStep_lt h c)

theorem sumOf_lt (l : List UInt8) : sumOf l < 999979 := foldl_lt l 7 (by omega)

theorem sumOf_snoc (l : List UInt8) (c : UInt8) : sumOf (l ++ [c]) = (41 * sumOf l + c.toNat + 1) % 999979 := by
  unfold sumOf; rw [List.foldl_append]; rfl

theorem take_snoc (s : ByteArray) (k : Nat) (h : k < s.size) : s.data.toList.take (k + 1) = s.data.toList.take k ++ [s[k]] := by
  rw [List.take_succ_eq_append_getElem (by simpa using h)]; rfl

theorem sumOf_take (s : ByteArray) (k : Nat) (h : k < s.size) :
    sumOf (s.data.toList.take (k + 1)) = (41 * sumOf (s.data.toList.take k) + s[k].toNat + 1) % 999979 := by
  rw [take_snoc s k h, sumOf_snoc]

theorem take_all (s : ByteArray) (k : Nat) (h : s.size ≤ k) : s.data.toList.take k = s.data.toList :=
  List.take_of_length_le (by simpa using h)

end Go.Proofs.YthcggmjgecdfgaaDoor.Plain
