/- Plain mathematics of lists of texts: their sizes together, and a list that is filled from its first place on. No condition. -/
namespace Go.Proofs.YtaepmgfodjjidaaDoor.Plain

def tot (ss : List ByteArray) : Nat := (ss.map ByteArray.size).sum
theorem tot_take (ss : List ByteArray) (k : Nat) (x : ByteArray) (h : ss[k]? = some x) : tot (ss.take (k + 1)) = tot (ss.take k) + x.size := by
  unfold tot
  rw [List.take_add_one, h]
  simp
theorem tot_take_le (ss : List ByteArray) (k : Nat) : tot (ss.take k) ≤ tot ss := by
  unfold tot
  rw [List.map_take]
  conv => rhs; rw [← List.take_append_drop k (ss.map ByteArray.size), List.sum_append]
  omega
theorem tot_all (ss : List ByteArray) (k : Nat) (h : ss.length ≤ k) : tot (ss.take k) = tot ss := by rw [List.take_of_length_le h]
theorem le_tot (ss : List ByteArray) (k : Nat) (x : ByteArray) (h : ss[k]? = some x) : x.size ≤ tot ss := by
  have := tot_take ss k x h
  have := tot_take_le ss (k + 1)
  omega
theorem some_at (ss : List ByteArray) (k : Nat) (h : k < ss.length) : ∃ x, ss[k]? = some x := ⟨ss[k], List.getElem?_eq_getElem h⟩

end Go.Proofs.YtaepmgfodjjidaaDoor.Plain
