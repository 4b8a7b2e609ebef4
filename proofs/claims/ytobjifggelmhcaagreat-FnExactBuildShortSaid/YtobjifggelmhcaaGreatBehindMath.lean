/- Plain mathematics of reduced words one letter longer: the letters that can stand behind a word, the words with one letter more, lists of all words of a length. No condition. -/
import Derived.Test.YtobjifggelmhcaaGreatBuildMath
namespace Go.Proofs.YtobjifggelmhcaaGreat.Plain
set_option linter.unusedVariables false

/-- The last letter. -/
def lastOf (w : List Int) : Option Int := w[w.length - 1]?
/-- May the letter stand behind the word? -/
def stays (w : List Int) (x : Int) : Bool := match lastOf w with
  | none => true
  | some y => decide (y ≠ -x)
theorem stays_nil (x : Int) : stays [] x = true := rfl
theorem stays_some {w : List Int} {y : Int} (h : w[w.length - 1]? = some y) (x : Int) : stays w x = decide (y ≠ -x) := by simp only [stays, lastOf, h]
/-- The letters that may stand behind a word, of the first m ones. -/
def behind (w : List Int) : Nat → List Int
  | 0 => []
  | k + 1 => if stays w (letterAt k) = true then behind w k ++ [letterAt k] else behind w k
theorem behind_step (w : List Int) (k : Nat) : behind w (k + 1) = if stays w (letterAt k) = true then behind w k ++ [letterAt k] else behind w k := rfl
theorem behind_le (w : List Int) (k : Nat) : (behind w k).length ≤ k := by
  induction k with
  | zero => exact Nat.le_refl _
  | succ k ih =>
    rw [behind_step]
    split
    · rw [List.length_append]; simp; omega
    · omega
theorem behind_mem {w : List Int} {x : Int} {k : Nat} (h : x ∈ behind w k) : ∃ j, j < k ∧ x = letterAt j ∧ stays w x = true := by
  induction k with
  | zero => cases h
  | succ k ih =>
    rw [behind_step] at h
    split at h
    · rename_i hs
      rcases List.mem_append.1 h with h | h
      · obtain ⟨j, h1, h2⟩ := ih h; exact ⟨j, by omega, h2⟩
      · obtain rfl := List.mem_singleton.1 h; exact ⟨k, by omega, rfl, hs⟩
    · obtain ⟨j, h1, h2⟩ := ih h; exact ⟨j, by omega, h2⟩
theorem behind_range {w : List Int} {x : Int} {k : Nat} (hk : k ≤ 12) (h : x ∈ behind w k) : x ≠ 0 ∧ -6 ≤ x ∧ x ≤ 6 := by
  obtain ⟨j, hj, rfl, -⟩ := behind_mem h
  exact letterAt_ok j (by omega)
/-- The words with one letter more behind a word. -/
def rowB (w : List Int) (ls : List Int) : List (List Int) := ls.map fun x => w ++ [x]
theorem rowB_len (w ls : List Int) : (rowB w ls).length = ls.length := by simp [rowB]
/-- The words with one letter more behind the first k words of a list. -/
def moreB (m : Nat) (ws : List (List Int)) (k : Nat) : List (List Int) := (ws.take k).flatMap fun w => rowB w (behind w m)
theorem moreB_zero (m : Nat) (ws : List (List Int)) : moreB m ws 0 = [] := by simp [moreB]
theorem moreB_step {m : Nat} {ws : List (List Int)} {k : Nat} {w : List Int} (h : ws[k]? = some w) : moreB m ws (k + 1) = moreB m ws k ++ rowB w (behind w m) := by
  rw [moreB, List.take_add_one, h]
  simp [moreB]
theorem moreB_len (m : Nat) (ws : List (List Int)) : ∀ k, (moreB m ws k).length ≤ m * k := by
  intro k
  induction k with
  | zero => simp [moreB]
  | succ k ih =>
    rcases h : ws[k]? with _ | w
    · have : moreB m ws (k + 1) = moreB m ws k := by rw [moreB, List.take_add_one, h]; simp [moreB]
      rw [this, Nat.mul_add]; omega
    · rw [moreB_step h, List.length_append, rowB_len, Nat.mul_add]
      have := behind_le w m
      omega
/-- All words of a length, in order. -/
def allB (m : Nat) : Nat → List (List Int)
  | 0 => [[]]
  | k + 1 => moreB m (allB m k) (allB m k).length
theorem allB_step (m k : Nat) : moreB m (allB m k) (allB m k).length = allB m (k + 1) := rfl
theorem moreB_mem {m : Nat} {ws : List (List Int)} {k : Nat} {v : List Int} (h : v ∈ moreB m ws k) : ∃ w ∈ ws, ∃ x ∈ behind w m, v = w ++ [x] := by
  rw [moreB, List.mem_flatMap] at h
  obtain ⟨w, hw, hv⟩ := h
  rw [rowB, List.mem_map] at hv
  obtain ⟨x, hx, rfl⟩ := hv
  exact ⟨w, List.mem_of_mem_take hw, x, hx, rfl⟩
theorem allB_mem {m : Nat} (hm : m ≤ 12) : ∀ {k : Nat} {v : List Int}, v ∈ allB m k → v.length = k ∧ Letters v := by
  intro k
  induction k with
  | zero => intro v h; obtain rfl := List.mem_singleton.1 h; exact ⟨rfl, Letters.nil⟩
  | succ k ih =>
    intro v h
    obtain ⟨w, hw, x, hx, rfl⟩ := moreB_mem h
    obtain ⟨h1, h2⟩ := ih hw
    have hr := behind_range hm hx
    exact ⟨by simp [h1], h2.append fun y hy => by obtain rfl := List.mem_singleton.1 hy; exact hr⟩
theorem all1_len : (allB 12 1).length = 12 := by kernel_rfl
theorem all2_len : (allB 12 2).length = 132 := by kernel_rfl
theorem all_made : allB 12 0 ++ allB 12 1 ++ allB 12 2 = keys := by kernel_rfl

end Go.Proofs.YtobjifggelmhcaaGreat.Plain
