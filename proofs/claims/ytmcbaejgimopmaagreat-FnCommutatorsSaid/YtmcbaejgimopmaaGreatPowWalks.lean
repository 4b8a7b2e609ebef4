/- Contracts: math/bits.Mul at small numbers, slices.Repeat, spec.PowerWord, impl.PowerWord. Conditions: as each says. -/
import Derived.Test.YtmcbaejgimopmaaGreatBdJoinWWalks
import Derived.Laws.BitsAllLaws
import Derived.Laws.CopyOwn
namespace Go.Proofs.YtmcbaejgimopmaaGreat
open Go.ChangeShapes Go.WideShapes Go.ChangeAt Go.RowKit

theorem low32 (x : Nat) (h : x ≤ 4294967295) : bits .and .u64 (x : Int) 4294967295 = (x : Int) := by
  have e := u64_and (x : Int) 4294967295 (by omega) (by omega) (by omega) (by omega)
  rw [e]
  have : ((x : Int).toNat &&& (4294967295 : Int).toNat) = x := by
    have h1 : (4294967295 : Int).toNat = 2 ^ 32 - 1 := by decide
    rw [h1, Nat.and_two_pow_sub_one_eq_mod]
    simp
    omega
  omega
theorem high32 (x : Nat) (h : x ≤ 4294967295) : (x : Int) / 4294967296 = 0 := by omega


/-- A list, c times. -/
def rep (xs : List Int) (c : Nat) : List Int := (List.replicate c xs).flatten
theorem rep_zero (xs : List Int) : rep xs 0 = [] := rfl
theorem rep_succ (xs : List Int) (c : Nat) : rep xs (c + 1) = xs ++ rep xs c := by simp [rep, List.replicate_succ]
theorem rep_one (xs : List Int) : rep xs 1 = xs := by simp [rep]
theorem rep_add (xs : List Int) (i j : Nat) : rep xs (i + j) = rep xs i ++ rep xs j := by
  induction i with
  | zero => simp [rep_zero]
  | succ i ih => rw [show i + 1 + j = (i + j) + 1 by omega, rep_succ, rep_succ, ih, List.append_assoc]
theorem rep_length (xs : List Int) (c : Nat) : (rep xs c).length = xs.length * c := by simp [rep, Nat.mul_comm]
theorem rep_take {xs : List Int} {i j : Nat} (h : i ≤ j) : (rep xs j).take (xs.length * i) = rep xs i := by
  obtain ⟨k, rfl⟩ : ∃ k, j = i + k := ⟨j - i, by omega⟩
  rw [rep_add, ← rep_length, List.take_left]
theorem rep_letters {xs : List Int} (h : Plain.Letters xs) (c : Nat) : Plain.Letters (rep xs c) := by
  induction c with
  | zero => exact Plain.Letters.nil
  | succ c ih => rw [rep_succ]; exact h.append ih

/-- A block holds N numbers, the first ones a list j times. -/
def Filling (xs : List Int) (N G j : Nat) (w wr : World) : Prop :=
  ∃ zs : List Int, zs.length = N ∧ wr.heap[G]? = some (.cells (nums zs).toArray 3 (0, 0)) ∧ zs.take (xs.length * j) = rep xs j ∧ Below G w wr
theorem splice_nums (zs ys : List Int) (k : Nat) : splice (nums zs) k (nums ys) = nums (zs.take k ++ (ys ++ zs.drop (k + ys.length))) := by
  simp [splice, nums, List.map_take, List.map_drop]
theorem filling_step {xs zs : List Int} {N G j i : Nat} {w w1 : World} (hl : zs.length = N) (ht : zs.take (xs.length * j) = rep xs j) (hij : i ≤ j) (hN : xs.length * (j + i) ≤ N)
    (hg : w1.heap[G]? = some (.cells (splice (nums zs) (xs.length * j) (nums (zs.take (xs.length * i)))).toArray 3 (0, 0))) (hb : Below G w w1) : Filling xs N G (j + i) w w1 := by
  have h1 : xs.length * i ≤ xs.length * j := Nat.mul_le_mul_left _ hij
  have h2 : xs.length * (j + i) = xs.length * j + xs.length * i := Nat.mul_add _ _ _
  have h3 : (zs.take (xs.length * i)).length = xs.length * i := by rw [List.length_take]; omega
  have h4 : zs.take (xs.length * i) = rep xs i := by
    have : (zs.take (xs.length * j)).take (xs.length * i) = (rep xs j).take (xs.length * i) := by rw [ht]
    rw [List.take_take, Nat.min_eq_left h1, rep_take hij] at this
    exact this
  rw [splice_nums, h3] at hg
  refine ⟨_, ?_, hg, ?_, hb⟩
  · simp; omega
  · rw [h2, h4, ht, rep_add, ← List.append_assoc, List.take_left' (by rw [List.length_append, rep_length, rep_length])]
theorem filling_end {xs : List Int} {N G c : Nat} {w wr : World} (h : Filling xs N G c w wr) (hN : N = xs.length * c) (hle : N ≤ 1048576) : Res G wr (.slice (some ⟨G, 0, none⟩) N N) (rep xs c) ∧ Below G w wr := by
  obtain ⟨zs, hl, hg, ht, hb⟩ := h
  have hz : zs = rep xs c := by rw [← ht, ← hN, ← hl, List.take_length]
  have hlt : G < wr.heap.size := (Array.getElem?_eq_some_iff.1 hg).1
  refine ⟨⟨_, N, by rw [rep_length, ← hN], fun j x hx => ⟨G, 0, rfl, ?_⟩, .inr ⟨G, 0, rfl, Nat.le_refl _, hlt, fun j => by simp [World.frozen?, hg]⟩, by rw [rep_length]; omega, ?_, fun h => (by cases h), fun x h => ⟨G, 0, by cases h; rfl⟩⟩, hb⟩
  · rw [← hz] at hx
    simp [World.cell?, hg, nums, hx]
  · omega

theorem made_block {w : World} {G N : Nat} (h : w.ownsRow G 3 1 (.slice (some ⟨G, 0, none⟩) N N) N (madeCells (Value.cells (.int .i64 0)) (N * 1)).toList) : w.heap[G]? = some (.cells (nums (List.replicate N 0)).toArray 3 (0, 0)) := by
  obtain ⟨hl, ⟨e, -⟩ | ⟨g, cap, cur, e, hg, hc, hn, hm, hz, ht⟩⟩ := h
  · cases e
  · cases e
    rw [hc]
    congr 2
    have h1 : cur.toList = nums (List.replicate N 0) := by
      rw [List.take_of_length_le (by simp [hz])] at ht
      rw [ht]
      simp [toList_madeCells_one, Value.cells, nums]
    rw [← h1]

theorem fill_split {n j c N : Nat} (h0 : c = 0 ∨ 0 < j) (hN : N = n * c) (hlt : n * j < N) : ∃ i, 0 < n * i ∧ i ≤ j ∧ j + i ≤ c ∧ n * i = min (n * j) (N - n * j) := by
  subst hN
  have hjc : j < c := by
    rcases Nat.lt_or_ge j c with h | h
    · exact h
    · have := Nat.mul_le_mul_left n h; omega
  have hsub : n * c - n * j = n * (c - j) := by rw [Nat.mul_sub]
  have hn : 0 < n := by
    rcases Nat.eq_zero_or_pos n with h | h
    · subst h; simp at hlt
    · exact h
  have hj : 0 < j := by omega
  refine ⟨min j (c - j), Nat.mul_pos hn (by omega), by omega, by omega, ?_⟩
  rw [hsub]
  rcases Nat.le_total j (c - j) with h | h
  · rw [Nat.min_eq_left h, Nat.min_eq_left (Nat.mul_le_mul_left n h)]
  · rw [Nat.min_eq_right h, Nat.min_eq_right (Nat.mul_le_mul_left n h)]
theorem second_src {zs : List Int} {n i m N G : Nat} {wr : World} (hl : zs.length = N) (hg : wr.heap[G]? = some (.cells (nums zs).toArray 3 (0, 0))) (h1 : n * i ≤ m) (h2 : m ≤ N) :
    (nums (zs.take (n * i))).length = n * i ∧ (0 < (nums (zs.take (n * i))).length → (some (⟨G, m, none⟩ : Addr)) = some ⟨G, m, none⟩ ∧ ∃ ad, some (⟨G, 0, none⟩ : Addr) = some ad ∧ ∀ j v, (nums (zs.take (n * i)))[j]? = some v → wr.cell? (ad.add j) = some v) := by
  have hlen : (nums (zs.take (n * i))).length = n * i := by rw [nums_length, List.length_take]; omega
  refine ⟨hlen, fun _ => ⟨rfl, _, rfl, fun j v hv => ?_⟩⟩
  have hj := at_lt hv
  rw [hlen] at hj
  obtain ⟨y, hy⟩ := at_some zs j (by omega)
  rw [nums_at (x := y) (by rw [List.getElem?_take_of_lt hj]; exact hy)] at hv
  cases hv
  rw [add_plain, Nat.zero_add]
  simp [World.cell?, hg, nums, hy]
theorem rep_same {xs : List Int} {j c : Nat} (h : xs.length * j = xs.length * c) : rep xs j = rep xs c := by
  cases xs with
  | nil => simp [rep]
  | cons x t => rw [Nat.eq_of_mul_eq_mul_left (by simp) h]
theorem copy_len (xs : List Int) (N : Nat) : (nums (xs.take (Nat.min xs.length N))).length = Nat.min xs.length N := by
  have h : Nat.min xs.length N ≤ xs.length := Nat.min_le_left _ _
  rw [nums_length, List.length_take]
  exact Nat.min_eq_left h
theorem copy_fit (xs : List Int) (N : Nat) : 0 + (nums (xs.take (Nat.min xs.length N))).length ≤ (nums (List.replicate N 0)).length := by
  rw [copy_len]
  have h : Nat.min xs.length N ≤ N := Nat.min_le_right _ _
  rw [nums_length, List.length_replicate]
  omega
theorem copy_src {w : World} {a : Option Addr} {xs : List Int} (h : Ints w a xs) (N : Nat) (d : Option Addr) : 0 < (nums (xs.take (Nat.min xs.length N))).length → d = d ∧ ∃ ad, a = some ad ∧ ∀ j v, (nums (xs.take (Nat.min xs.length N)))[j]? = some v → w.cell? (ad.add j) = some v := fun hp => by
  refine ⟨rfl, ?_⟩
  have hl : 0 < xs.length := by
    rw [copy_len] at hp
    have h : Nat.min xs.length N ≤ xs.length := Nat.min_le_left _ _
    omega
  obtain ⟨x, hx⟩ := at_some xs 0 hl
  obtain ⟨b, o, rfl, _⟩ := h 0 x hx
  refine ⟨_, rfl, fun j v hv => ?_⟩
  have hj := at_lt hv
  rw [copy_len] at hj
  have hj2 : j < xs.length := by have h : Nat.min xs.length N ≤ xs.length := Nat.min_le_left _ _; omega
  obtain ⟨y, hy⟩ := at_some xs j hj2
  have hv2 : (nums (xs.take (Nat.min xs.length N)))[j]? = some (.int .i64 y) := nums_at (by rw [List.getElem?_take_of_lt hj]; exact hy)
  rw [hv2] at hv
  cases hv
  obtain ⟨b2, o2, e, hc⟩ := h j y hy
  cases e
  rw [add_plain]
  exact hc
theorem first_copy {xs : List Int} {N G c : Nat} {w w2 : World} (hN : N = xs.length * c)
    (hg : w2.heap[G]? = some (.cells (splice (nums (List.replicate N 0)) 0 (nums (xs.take (Nat.min xs.length N)))).toArray 3 (0, 0))) (hb : Below G w w2) :
    ∃ j, j ≤ c ∧ (nums (xs.take (Nat.min xs.length N))).length = xs.length * j ∧ (c = 0 ∨ 0 < j) ∧ Filling xs N G j w w2 := by
  by_cases h0 : c = 0
  · subst h0
    simp only [Nat.mul_zero] at hN
    subst hN
    refine ⟨0, Nat.le_refl _, by simp [nums], .inl rfl, [], rfl, ?_, by simp [rep_zero], hb⟩
    rw [hg]
    simp [splice, nums]
  · have hle : xs.length ≤ N := by rw [hN]; exact Nat.le_mul_of_pos_right _ (by omega)
    rw [show Nat.min xs.length N = xs.length from Nat.min_eq_left hle, List.take_length] at hg ⊢
    refine ⟨1, by omega, by simp [nums], .inr (by omega), _, ?_, by rw [splice_nums] at hg; exact hg, ?_, hb⟩
    · simp; omega
    · simp [rep_one]

end Go.Proofs.YtmcbaejgimopmaaGreat
