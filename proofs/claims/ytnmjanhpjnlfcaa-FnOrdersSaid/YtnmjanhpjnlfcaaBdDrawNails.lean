/- Contracts: math/bits.Mul at small numbers, slices.Repeat, spec.PowerWord, impl.PowerWord. Conditions: as each says. -/
import Derived.Test.YtnmjanhpjnlfcaaBdDrawWs
import Derived.Test.YtnmjanhpjnlfcaaBdJoinWWalks
import Derived.Test.YtnmjanhpjnlfcaaBdNailOf
import Derived.Test.YtnmjanhpjnlfcaaTurnWalks
import Derived.Laws.BitsAllLaws
import Derived.Laws.CopyOwn
namespace Go.Proofs.Ytnmjanhpjnlfcaa
open Go.ChangeShapes Go.WideShapes Go.ChangeAt Go.RowKit

theorem low32 (x : Nat) (h : x ≤ 4294967295) : bits .and .u64 (x : Int) 4294967295 = (x : Int) := by
  have e := u64_and (x : Int) 4294967295 (by omega) (by omega) (by omega) (by omega)
  rw [e]
  have : ((x : Int).toNat &&& (4294967295 : Int).toNat) = x := by
    have h1 : (4294967295 : Int).toNat = 2 ^ 32 - 1 := by decide
    rw [h1, Nat.and_two_pow_sub_one_eq_mod]
    simp
    omega
  omega
theorem high32 (x : Nat) (h : x ≤ 4294967295) : (x : Int) / 4294967296 = 0 := by omega


/-- A list, c times. -/
def rep (xs : List Int) (c : Nat) : List Int := (List.replicate c xs).flatten
theorem rep_zero (xs : List Int) : rep xs 0 = [] := rfl
theorem rep_succ (xs : List Int) (c : Nat) : rep xs (c + 1) = xs ++ rep xs c := by simp [rep, List.replicate_succ]
theorem rep_one (xs : List Int) : rep xs 1 = xs := by simp [rep]
theorem rep_add (xs : List Int) (i j : Nat) : rep xs (i + j) = rep xs i ++ rep xs j := by
  induction i with
  | zero => simp [rep_zero]
  | succ i ih => rw [show i + 1 + j = (i + j) + 1 by omega, rep_succ, rep_succ, ih, List.append_assoc]
theorem rep_length (xs : List Int) (c : Nat) : (rep xs c).length = xs.length * c := by simp [rep, Nat.mul_comm]
theorem rep_take {xs : List Int} {i j : Nat} (h : i ≤ j) : (rep xs j).take (xs.length * i) = rep xs i := by
  obtain ⟨k, rfl⟩ : ∃ k, j = i + k := ⟨j - i, by omega⟩
  rw [rep_add, ← rep_length, List.take_left]
theorem rep_letters {xs : List Int} (h : Plain.Letters xs) (c : Nat) : Plain.Letters (rep xs c) := by
  induction c with
  | zero => exact Plain.Letters.nil
  | succ c ih => rw [rep_succ]; exact h.append ih

/-- A block holds N numbers, the first ones a list j times. -/
def Filling (xs : List Int) (N G j : Nat) (w wr : World) : Prop :=
  ∃ zs : List Int, zs.length = N ∧ wr.heap[G]? = some (.cells (nums zs).toArray 3 (0, 0)) ∧ zs.take (xs.length * j) = rep xs j ∧ Below G w wr
theorem splice_nums (zs ys : List Int) (k : Nat) : splice (nums zs) k (nums ys) = nums (zs.take k ++ (ys ++ zs.drop (k + ys.length))) := by
  simp [splice, nums, List.map_take, List.map_drop]
theorem filling_step {xs zs : List Int} {N G j i : Nat} {w w1 : World} (hl : zs.length = N) (ht : zs.take (xs.length * j) = rep xs j) (hij : i ≤ j) (hN : xs.length * (j + i) ≤ N)
    (hg : w1.heap[G]? = some (.cells (splice (nums zs) (xs.length * j) (nums (zs.take (xs.length * i)))).toArray 3 (0, 0))) (hb : Below G w w1) : Filling xs N G (j + i) w w1 := by
  have h1 : xs.length * i ≤ xs.length * j := Nat.mul_le_mul_left _ hij
  have h2 : xs.length * (j + i) = xs.length * j + xs.length * i := Nat.mul_add _ _ _
  have h3 : (zs.take (xs.length * i)).length = xs.length * i := by rw [List.length_take]; omega
  have h4 : zs.take (xs.length * i) = rep xs i := by
    have : (zs.take (xs.length * j)).take (xs.length * i) = (rep xs j).take (xs.length * i) := by rw [ht]
    rw [List.take_take, Nat.min_eq_left h1, rep_take hij] at this
    exact this
  rw [splice_nums, h3] at hg
  refine ⟨_, ?_, hg, ?_, hb⟩
  · simp; omega
  · rw [h2, h4, ht, rep_add, ← List.append_assoc, List.take_left' (by rw [List.length_append, rep_length, rep_length])]
theorem filling_end {xs : List Int} {N G c : Nat} {w wr : World} (h : Filling xs N G c w wr) (hN : N = xs.length * c) (hle : N ≤ 1048576) : Res G wr (.slice (some ⟨G, 0, none⟩) N N) (rep xs c) ∧ Below G w wr := by
  obtain ⟨zs, hl, hg, ht, hb⟩ := h
  have hz : zs = rep xs c := by rw [← ht, ← hN, ← hl, List.take_length]
  have hlt : G < wr.heap.size := (Array.getElem?_eq_some_iff.1 hg).1
  refine ⟨⟨_, N, by rw [rep_length, ← hN], fun j x hx => ⟨G, 0, rfl, ?_⟩, .inr ⟨G, 0, rfl, Nat.le_refl _, hlt, fun j => by simp [World.frozen?, hg]⟩, by rw [rep_length]; omega, ?_, fun h => (by cases h), fun x h => ⟨G, 0, by cases h; rfl⟩⟩, hb⟩
  · rw [← hz] at hx
    simp [World.cell?, hg, nums, hx]
  · omega

theorem made_block {w : World} {G N : Nat} (h : w.ownsRow G 3 1 (.slice (some ⟨G, 0, none⟩) N N) N (madeCells (Value.cells (.int .i64 0)) (N * 1)).toList) : w.heap[G]? = some (.cells (nums (List.replicate N 0)).toArray 3 (0, 0)) := by
  obtain ⟨hl, ⟨e, -⟩ | ⟨g, cap, cur, e, hg, hc, hn, hm, hz, ht⟩⟩ := h
  · cases e
  · cases e
    rw [hc]
    congr 2
    have h1 : cur.toList = nums (List.replicate N 0) := by
      rw [List.take_of_length_le (by simp [hz])] at ht
      rw [ht]
      simp [toList_madeCells_one, Value.cells, nums]
    rw [← h1]

theorem fill_split {n j c N : Nat} (h0 : c = 0 ∨ 0 < j) (hN : N = n * c) (hlt : n * j < N) : ∃ i, 0 < n * i ∧ i ≤ j ∧ j + i ≤ c ∧ n * i = min (n * j) (N - n * j) := by
  subst hN
  have hjc : j < c := by
    rcases Nat.lt_or_ge j c with h | h
    · exact h
    · have := Nat.mul_le_mul_left n h; omega
  have hsub : n * c - n * j = n * (c - j) := by rw [Nat.mul_sub]
  have hn : 0 < n := by
    rcases Nat.eq_zero_or_pos n with h | h
    · subst h; simp at hlt
    · exact h
  have hj : 0 < j := by omega
  refine ⟨min j (c - j), Nat.mul_pos hn (by omega), by omega, by omega, ?_⟩
  rw [hsub]
  rcases Nat.le_total j (c - j) with h | h
  · rw [Nat.min_eq_left h, Nat.min_eq_left (Nat.mul_le_mul_left n h)]
  · rw [Nat.min_eq_right h, Nat.min_eq_right (Nat.mul_le_mul_left n h)]
theorem second_src {zs : List Int} {n i m N G : Nat} {wr : World} (hl : zs.length = N) (hg : wr.heap[G]? = some (.cells (nums zs).toArray 3 (0, 0))) (h1 : n * i ≤ m) (h2 : m ≤ N) :
    (nums (zs.take (n * i))).length = n * i ∧ (0 < (nums (zs.take (n * i))).length → (some (⟨G, m, none⟩ : Addr)) = some ⟨G, m, none⟩ ∧ ∃ ad, some (⟨G, 0, none⟩ : Addr) = some ad ∧ ∀ j v, (nums (zs.take (n * i)))[j]? = some v → wr.cell? (ad.add j) = some v) := by
  have hlen : (nums (zs.take (n * i))).length = n * i := by rw [nums_length, List.length_take]; omega
  refine ⟨hlen, fun _ => ⟨rfl, _, rfl, fun j v hv => ?_⟩⟩
  have hj := at_lt hv
  rw [hlen] at hj
  obtain ⟨y, hy⟩ := at_some zs j (by omega)
  rw [nums_at (x := y) (by rw [List.getElem?_take_of_lt hj]; exact hy)] at hv
  cases hv
  rw [add_plain, Nat.zero_add]
  simp [World.cell?, hg, nums, hy]
theorem rep_same {xs : List Int} {j c : Nat} (h : xs.length * j = xs.length * c) : rep xs j = rep xs c := by
  cases xs with
  | nil => simp [rep]
  | cons x t => rw [Nat.eq_of_mul_eq_mul_left (by simp) h]
theorem copy_len (xs : List Int) (N : Nat) : (nums (xs.take (Nat.min xs.length N))).length = Nat.min xs.length N := by
  have h : Nat.min xs.length N ≤ xs.length := Nat.min_le_left _ _
  rw [nums_length, List.length_take]
  exact Nat.min_eq_left h
theorem copy_fit (xs : List Int) (N : Nat) : 0 + (nums (xs.take (Nat.min xs.length N))).length ≤ (nums (List.replicate N 0)).length := by
  rw [copy_len]
  have h : Nat.min xs.length N ≤ N := Nat.min_le_right _ _
  rw [nums_length, List.length_replicate]
  omega
theorem copy_src {w : World} {a : Option Addr} {xs : List Int} (h : Ints w a xs) (N : Nat) (d : Option Addr) : 0 < (nums (xs.take (Nat.min xs.length N))).length → d = d ∧ ∃ ad, a = some ad ∧ ∀ j v, (nums (xs.take (Nat.min xs.length N)))[j]? = some v → w.cell? (ad.add j) = some v := fun hp => by
  refine ⟨rfl, ?_⟩
  have hl : 0 < xs.length := by
    rw [copy_len] at hp
    have h : Nat.min xs.length N ≤ xs.length := Nat.min_le_left _ _
    omega
  obtain ⟨x, hx⟩ := at_some xs 0 hl
  obtain ⟨b, o, rfl, _⟩ := h 0 x hx
  refine ⟨_, rfl, fun j v hv => ?_⟩
  have hj := at_lt hv
  rw [copy_len] at hj
  have hj2 : j < xs.length := by have h : Nat.min xs.length N ≤ xs.length := Nat.min_le_left _ _; omega
  obtain ⟨y, hy⟩ := at_some xs j hj2
  have hv2 : (nums (xs.take (Nat.min xs.length N)))[j]? = some (.int .i64 y) := nums_at (by rw [List.getElem?_take_of_lt hj]; exact hy)
  rw [hv2] at hv
  cases hv
  obtain ⟨b2, o2, e, hc⟩ := h j y hy
  cases e
  rw [add_plain]
  exact hc
theorem first_copy {xs : List Int} {N G c : Nat} {w w2 : World} (hN : N = xs.length * c)
    (hg : w2.heap[G]? = some (.cells (splice (nums (List.replicate N 0)) 0 (nums (xs.take (Nat.min xs.length N)))).toArray 3 (0, 0))) (hb : Below G w w2) :
    ∃ j, j ≤ c ∧ (nums (xs.take (Nat.min xs.length N))).length = xs.length * j ∧ (c = 0 ∨ 0 < j) ∧ Filling xs N G j w w2 := by
  by_cases h0 : c = 0
  · subst h0
    simp only [Nat.mul_zero] at hN
    subst hN
    refine ⟨0, Nat.le_refl _, by simp [nums], .inl rfl, [], rfl, ?_, by simp [rep_zero], hb⟩
    rw [hg]
    simp [splice, nums]
  · have hle : xs.length ≤ N := by rw [hN]; exact Nat.le_mul_of_pos_right _ (by omega)
    rw [show Nat.min xs.length N = xs.length from Nat.min_eq_left hle, List.take_length] at hg ⊢
    refine ⟨1, by omega, by simp [nums], .inr (by omega), _, ?_, by rw [splice_nums] at hg; exact hg, ?_, hb⟩
    · simp; omega
    · simp [rep_one]

end Go.Proofs.Ytnmjanhpjnlfcaa

/- Contract: spec.DrawLessWord hands back two lists of at most 100 numbers, in memory of their own. Condition: the code's bytes lie in memory. -/
namespace Go.Proofs.Ytnmjanhpjnlfcaa
open Go.ChangeShapes Go.WideShapes Go.ChangeAt Go.RowKit
set_option linter.unusedVariables false

theorem Draw.stored {L : List Int} {B len cap m : Nat} {a : Option Addr} {w wr : World} {b o n c k : Nat} {x : Int} (h : Draw L B a len cap m w (.slice (some ⟨b, o, none⟩) n c) wr) :
    Draw (L.set k x) B a len cap m w (.slice (some ⟨b, o, none⟩) n c) (wr.setCell ⟨b, o + k, none⟩ (.int .i64 x)) := by
  obtain ⟨ho, hw, hB, hH, hy⟩ := h
  have h2 := ho.2
  rcases h2 with ⟨e, -⟩ | ⟨g, cap', cur, e, -⟩
  · simp at e
  · simp only [Value.slice.injEq, Option.some.injEq, Addr.mk.injEq, and_true] at e
    obtain ⟨⟨rfl, rfl⟩, rfl, rfl⟩ := e
    obtain ⟨hs, hg⟩ := World.ownsRow.stored ho k (.int .i64 x)
    rw [nums_set] at hs
    rw [Nat.zero_add]
    have hr : ∀ j, some b = some j → w.heap.size ≤ j := fun j e => by cases e; exact (ho.lt b rfl).1
    have hw1 := Draw.grown_over hw hg hr
    exact ⟨by simpa using hs, hw1, hB, hH.aside hy hw1 hB hg hr, hy⟩

theorem in64_set {L : List Int} {k : Nat} {x : Int} (h : In64 L) (h0 : -9223372036854775808 ≤ x) (h1 : x ≤ 9223372036854775807) : In64 (L.set k x) := by
  intro j y hy
  rw [List.getElem?_set] at hy
  split at hy
  · split at hy
    · cases hy; exact ⟨h0, h1⟩
    · cases hy
  · exact h j y hy


end Go.Proofs.Ytnmjanhpjnlfcaa

/- Contracts: spec.PowerWord, impl.PowerWord. Conditions: numbers of 64 bits, lengths that fit. -/
namespace Go.Proofs.Ytnmjanhpjnlfcaa
open Go.ChangeShapes Go.WideShapes Go.ChangeAt Go.RowKit
set_option linter.unusedVariables false

/-- What is raised to a power: the word, or its inverse. -/
def baseOf (xs : List Int) (n : Int) : List Int := if n < 0 then Plain.inv xs else xs
def powB (xs : List Int) (n : Int) : Bool := Plain.wordB xs && decide (-8 ≤ n ∧ n ≤ 8)
def powOut (xs : List Int) (n : Int) : List Int := if powB xs n = true then short (Plain.red (rep (baseOf xs n) n.natAbs)) else []
def powOk (xs : List Int) (n : Int) : Bool := powB xs n && shortB (Plain.red (rep (baseOf xs n) n.natAbs))
theorem pow_no {xs : List Int} {n : Int} (h : Plain.wordB xs = false ∨ ¬ (-8 ≤ n ∧ n ≤ 8)) : powOut xs n = [] ∧ powOk xs n = false := by
  have hb : powB xs n = false := by
    rcases h with h | h
    · simp [powB, h]
    · simp only [powB, decide_eq_false h, Bool.and_false]
  simp [powOut, powOk, hb]
theorem pow_pos {xs : List Int} {k : Nat} (h : Plain.wordB xs = true) (hk : k ≤ 8) : powOut xs (k : Int) = short (Plain.red (rep xs k)) ∧ powOk xs (k : Int) = shortB (Plain.red (rep xs k)) := by
  have hb : powB xs (k : Int) = true := by simp [powB, h]; omega
  have hn : ¬ ((k : Int) < 0) := by omega
  simp [powOut, powOk, hb, baseOf, hn]
theorem pow_neg {xs : List Int} {k : Nat} (h : Plain.wordB xs = true) (hk : k ≤ 8) (hk1 : 1 ≤ k) : powOut xs (-(k : Int)) = short (Plain.red (rep (Plain.inv xs) k)) ∧ powOk xs (-(k : Int)) = shortB (Plain.red (rep (Plain.inv xs) k)) := by
  have hb : powB xs (-(k : Int)) = true := by simp [powB, h]; omega
  have hk0 : 0 < k := by omega
  simp [powOut, powOk, hb, baseOf, hk0]
theorem pow_le (xs : List Int) (n : Int) : (powOut xs n).length ≤ 1048576 := by
  have := short_le (Plain.red (rep (baseOf xs n) n.natAbs))
  unfold powOut
  split
  · omega
  · simp
theorem red_rep_succ (bs : List Int) (q : Nat) : Plain.red (Plain.red (rep bs q) ++ bs) = Plain.red (rep bs (q + 1)) := by rw [Plain.red_red_append, rep_add, rep_one]
theorem red_rep_le {bs : List Int} {q : Nat} (h : bs.length ≤ 64) (hq : q ≤ 8) : (Plain.red (rep bs q)).length ≤ 512 := by
  refine Nat.le_trans (Plain.red_length _) ?_
  rw [rep_length]
  exact Nat.mul_le_mul h hq
theorem red_rep_letters {bs : List Int} (h : Plain.Letters bs) (q : Nat) : Plain.Letters (Plain.red (rep bs q)) := (rep_letters h q).red

/-- The loop's relation of spec.PowerWord. -/
def Powed (bs : List Int) (ab : Option Addr) (q : Nat) (w : World) (v : Value) (wr : World) : Prop := Res w.heap.size wr v (Plain.red (rep bs q)) ∧ Ints wr ab bs ∧ Below w.heap.size w wr
theorem powed_step {bs : List Int} {ab : Option Addr} {q : Nat} {w wr w1 : World} {v v1 : Value} (h : Powed bs ab q w v wr) (hr : Res wr.heap.size w1 v1 (Plain.red (Plain.red (rep bs q) ++ bs))) (hb : Below wr.heap.size wr w1) : Powed bs ab (q + 1) w v1 w1 := by
  rw [red_rep_succ] at hr
  exact ⟨hr.mono h.2.2.size, h.2.1.on hb, h.2.2.trans (hb.mono h.2.2.size)⟩







end Go.Proofs.Ytnmjanhpjnlfcaa

/- Contracts: spec.DrawLeftLength, DrawBalancedLength, DrawCommutatorOf, DrawLeftWord, DrawWicksParts hand back numbers in bounds and lists of at most 100 numbers, in memory of their own. Condition: the code's bytes lie in memory. -/
namespace Go.Proofs.Ytnmjanhpjnlfcaa
open Go.ChangeShapes Go.WideShapes Go.ChangeAt Go.RowKit
set_option linter.unusedVariables false

/-- A number in bounds. -/
def IntDraw (W : World) (e : Ending) (W' : World) : Prop := ∃ n : Int, e = .returned (.int .i64 n) ∧ -1000 ≤ n ∧ n ≤ 1000 ∧ Below W.heap.size W W'


end Go.Proofs.Ytnmjanhpjnlfcaa

/- Contract: (*spec.l1Cur).nails and spec.DrawLeftWord hand back a list of at most six numbers, in memory of their own. Condition: the code's bytes lie in memory. -/
namespace Go.Proofs.Ytnmjanhpjnlfcaa
open Go.ChangeShapes Go.WideShapes Go.ChangeAt Go.RowKit
set_option linter.unusedVariables false

/-- The nails that are left, in a row of their own. -/
def Left (N : Nat) (A : List Int) (v va : Value) (wr : World) : Prop := wr.ownsRow N 3 1 va A.length (nums A) ∧ (va.ownBlock = none ∨ va.ownBlock ≠ v.ownBlock)
theorem Left.cur {N B : Nat} {A : List Int} {v va : Value} {wr w1 : World} (h : Left N A v va wr) (hB : B < N) (hg : wr.grownBy w1 (some B)) : Left N A v va w1 := by
  refine ⟨h.1.kept hg ?_, h.2⟩
  cases hv : va.ownBlock with
  | none => exact .inl rfl
  | some g => exact .inr (fun e => by injection e with e; have := (h.1.lt g hv).1; omega)
theorem Left.res {N : Nat} {A : List Int} {v va : Value} {wr : World} (h : Left N A v va wr) : Res N wr va A := owns_ints h.1

end Go.Proofs.Ytnmjanhpjnlfcaa
