/- Plain mathematics of splitting a text at a byte: the parts that are complete after k bytes, and where the next one begins. No condition. -/
namespace Go.Proofs.YtaepmgfodjjidaaDoor.Plain

def sp (s : ByteArray) (c : UInt8) : Nat → List ByteArray × Nat
  | 0 => ([], 0)
  | k + 1 => if h : k < s.size then (if s[k] = c then ((sp s c k).1 ++ [s.extract (sp s c k).2 k], k + 1) else sp s c k) else sp s c k

theorem sp_hit (s : ByteArray) (c : UInt8) (k : Nat) (h : k < s.size) (e : s[k] = c) : sp s c (k + 1) = ((sp s c k).1 ++ [s.extract (sp s c k).2 k], k + 1) := by
  rw [sp, dif_pos h, if_pos e]
theorem sp_miss (s : ByteArray) (c : UInt8) (k : Nat) (h : k < s.size) (e : ¬ s[k] = c) : sp s c (k + 1) = sp s c k := by
  rw [sp, dif_pos h, if_neg e]

theorem sp_le (s : ByteArray) (c : UInt8) : ∀ k, (sp s c k).2 ≤ k ∧ (sp s c k).1.length ≤ k
  | 0 => ⟨Nat.le_refl _, Nat.le_refl _⟩
  | k + 1 => by
    have ih := sp_le s c k
    by_cases h : k < s.size
    · by_cases e : s[k] = c
      · rw [sp_hit s c k h e]; simp; omega
      · rw [sp_miss s c k h e]; omega
    · rw [sp, dif_neg h]; omega

/-- All parts. -/
def parts (s : ByteArray) (c : UInt8) : List ByteArray := (sp s c s.size).1 ++ [s.extract (sp s c s.size).2 s.size]

theorem parts_length (s : ByteArray) (c : UInt8) : (parts s c).length ≤ s.size + 1 := by
  have := (sp_le s c s.size).2
  unfold parts; simp; omega
theorem parts_pos (s : ByteArray) (c : UInt8) : 0 < (parts s c).length := by
  unfold parts; simp

theorem sp_grows (s : ByteArray) (c : UInt8) : ∀ k, k < s.size → (sp s c k).1 <+: (sp s c (k + 1)).1 := fun k h => by
  by_cases e : s[k] = c
  · rw [sp_hit s c k h e]; exact List.prefix_append _ _
  · rw [sp_miss s c k h e]; exact List.prefix_refl _
theorem sp_prefix (s : ByteArray) (c : UInt8) (j : Nat) : ∀ i, i + j = s.size → (sp s c i).1 <+: (sp s c s.size).1 := by
  induction j with
  | zero => intro i h; obtain rfl : i = s.size := by omega
            exact List.prefix_refl _
  | succ j ih => intro i h; exact (sp_grows s c i (by omega)).trans (ih (i + 1) (by omega))
theorem sp_parts (s : ByteArray) (c : UInt8) (k : Nat) (h : k ≤ s.size) : (sp s c k).1 <+: parts s c :=
  (sp_prefix s c (s.size - k) k (by omega)).trans (List.prefix_append _ _)
theorem sp_next (s : ByteArray) (c : UInt8) (k : Nat) (h : k < s.size) (e : s[k] = c) : (sp s c k).1 ++ [s.extract (sp s c k).2 k] <+: parts s c := by
  have := sp_parts s c (k + 1) (by omega)
  rwa [sp_hit s c k h e] at this

end Go.Proofs.YtaepmgfodjjidaaDoor.Plain
