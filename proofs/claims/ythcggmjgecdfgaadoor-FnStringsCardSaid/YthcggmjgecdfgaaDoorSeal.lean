/- Plain mathematics of checksummed texts: does a byte stand in a text, what stands before the first one, a text with its checksum. No condition. -/
import Derived.Test.YthcggmjgecdfgaaDoorSum
import Derived.Test.YthcggmjgecdfgaaDoorNum
import Derived.Test.YthcggmjgecdfgaaDoorSplit
import Derived.Lib.IndexMore
import Derived.Lib.IndexLaws
namespace Go.Proofs.YthcggmjgecdfgaaDoor.Plain
open Go

theorem size_list (s : ByteArray) : s.size = s.data.toList.length := by rw [Array.length_toList]; rfl

theorem sep_of (s : ByteArray) (h : s.size = 1) : ∃ c, s = ⟨#[c]⟩ := by
  have h1 : s.data.toList.length = 1 := by rw [Array.length_toList]; exact h
  obtain ⟨c, hc⟩ := List.length_eq_one_iff.1 h1
  exact ⟨c, eq_of_list (by rw [hc])⟩

def has (s : ByteArray) (c : UInt8) : Bool := decide (c ∈ s.data.toList)

theorem indexByte_mem (c : UInt8) (l : List UInt8) : (0 ≤ Lib.indexByte l c) ↔ c ∈ l := by
  constructor
  · intro h
    obtain ⟨o, ho⟩ : ∃ o : Nat, Lib.indexByte l c = o := ⟨(Lib.indexByte l c).toNat, by omega⟩
    have := (Lib.indexByte_some ho).1
    exact List.mem_of_getElem? this
  · intro h
    have hge := Lib.indexByte_ge l c
    by_cases e : Lib.indexByte l c = -1
    · obtain ⟨k, hk⟩ := List.getElem?_of_mem h
      exact absurd hk (Lib.indexByte_none e k)
    · omega

theorem has_index (s : ByteArray) (c : UInt8) : decide (0 ≤ Lib.indexByte s.data.toList c) = has s c := by
  unfold has
  rw [decide_eq_decide]
  exact indexByte_mem c _

/-- What stands before the first byte c. -/
def pre (c : UInt8) : List UInt8 → List UInt8
  | [] => []
  | b :: l => if b = c then [] else b :: pre c l

theorem pre_none (c : UInt8) : ∀ l : List UInt8, c ∉ l → pre c l = l
  | [], _ => rfl
  | b :: l, h => by
    have h1 : ¬ b = c := fun e => h (by simp [e])
    have h2 : c ∉ l := fun e => h (by simp [e])
    rw [pre, if_neg h1, pre_none c l h2]

theorem pre_app (c : UInt8) : ∀ l r : List UInt8, c ∉ l → pre c (l ++ c :: r) = l
  | [], r, _ => by simp [pre]
  | b :: l, r, h => by
    have h1 : ¬ b = c := fun e => h (by simp [e])
    have h2 : c ∉ l := fun e => h (by simp [e])
    rw [List.cons_append, pre, if_neg h1, pre_app c l r h2]

theorem pre_notin (c : UInt8) : ∀ l : List UInt8, c ∉ pre c l
  | [] => by simp [pre]
  | b :: l => by
    by_cases h : b = c
    · simp [pre, h]
    · rw [pre, if_neg h]
      simp only [List.mem_cons, not_or]
      exact ⟨fun e => h e.symm, pre_notin c l⟩

theorem pre_length (c : UInt8) : ∀ l : List UInt8, (pre c l).length ≤ l.length
  | [] => Nat.le_refl _
  | b :: l => by
    by_cases h : b = c
    · simp [pre, h]
    · rw [pre, if_neg h]; have := pre_length c l; simp; omega

/-- A list with the byte in it is what stands before the first one, the byte, and the rest. -/
theorem pre_split (c : UInt8) : ∀ l : List UInt8, c ∈ l → ∃ r, l = pre c l ++ c :: r
  | [], h => by simp at h
  | b :: l, h => by
    by_cases e : b = c
    · exact ⟨l, by simp [pre, e]⟩
    · obtain ⟨r, hr⟩ := pre_split c l (by simpa [Ne.symm e] using h)
      exact ⟨r, by rw [pre, if_neg e, List.cons_append, ← hr]⟩

theorem index_one (c b : UInt8) (l : List UInt8) : Lib.index (b :: l) [c] = if b = c then 0 else if Lib.index l [c] == -1 then -1 else Lib.index l [c] + 1 := by
  rw [Lib.index]
  by_cases h : b = c
  · subst h; simp [List.isPrefixOf]
  · have : ([c].isPrefixOf (b :: l)) = false := by simp [List.isPrefixOf]; exact fun e => h e.symm
    rw [this, if_neg h]; simp

theorem cut_pre (c : UInt8) : ∀ l : List UInt8, (0 ≤ Lib.index l [c] → l.take (Lib.index l [c]).toNat = pre c l) ∧ (¬ 0 ≤ Lib.index l [c] → pre c l = l)
  | [] => by simp [Lib.index, pre]
  | b :: l => by
    have ih := cut_pre c l
    have hge := Lib.index_ge l [c]
    rw [index_one]
    by_cases h : b = c
    · simp [pre, h]
    · rw [if_neg h, pre, if_neg h]
      by_cases e : Lib.index l [c] = -1
      · have hn : ¬ 0 ≤ Lib.index l [c] := by omega
        simp [e, ih.2 hn]
      · have e' : (Lib.index l [c] == -1) = false := by simpa using e
        rw [e']
        obtain ⟨o, ho⟩ : ∃ o : Nat, Lib.index l [c] = o := ⟨(Lib.index l [c]).toNat, by omega⟩
        have i1 := ih.1 (by omega)
        rw [ho] at i1 ⊢
        refine ⟨fun _ => ?_, fun hh => absurd (show (0 : Int) ≤ _ by simp; omega) hh⟩
        have e2 : ((if false = true then (-1 : Int) else (o : Int) + 1)).toNat = o + 1 := by simp
        rw [e2, List.take_succ_cons]
        simpa using i1

theorem cut_one (l : List UInt8) (c : UInt8) : (Lib.cut l [c]).1 = pre c l := by
  unfold Lib.cut
  split
  · rename_i h; exact (cut_pre c l).1 h
  · rename_i h; exact ((cut_pre c l).2 h).symm

def before (s : ByteArray) (c : UInt8) : ByteArray := ⟨(pre c s.data.toList).toArray⟩
theorem before_size (s : ByteArray) (c : UInt8) : (before s c).size ≤ s.size := by
  have h := pre_length c s.data.toList
  have e1 : s.size = s.data.toList.length := by rw [Array.length_toList]; rfl
  have e2 : (before s c).size = (pre c s.data.toList).length := by unfold before; show (pre c s.data.toList).toArray.size = _; simp
  omega

/-- The first of all parts is what stands before the first byte. -/
theorem sp_head (s : ByteArray) (c : UInt8) : ∀ k, k ≤ s.size → (c ∉ s.data.toList.take k → sp s c k = ([], 0)) ∧ (c ∈ s.data.toList.take k → ∃ rest, (sp s c k).1 = before s c :: rest)
  | 0, _ => by simp [sp]
  | k + 1, hk => by
    obtain ⟨i1, i2⟩ := sp_head s c k (by omega)
    have ht := take_snoc s k (by omega)
    rw [ht]
    by_cases e : s[k] = c
    · rw [sp_hit s c k (by omega) e]
      refine ⟨fun h => absurd (by simp [e]) h, fun _ => ?_⟩
      by_cases hm : c ∈ s.data.toList.take k
      · obtain ⟨rest, hr⟩ := i2 hm
        exact ⟨rest ++ [s.extract (sp s c k).2 k], by simp [hr]⟩
      · rw [i1 hm]
        refine ⟨[], ?_⟩
        have hl : s.data.toList = s.data.toList.take k ++ c :: s.data.toList.drop (k + 1) := by
          conv => lhs; rw [← List.take_append_drop (k + 1) s.data.toList, ht, e]
          simp
        have : before s c = s.extract 0 k := by
          apply eq_of_list
          unfold before
          conv => lhs; rw [hl, pre_app c _ _ hm]
          simp [ByteArray.data_extract, Array.toList_extract, List.extract_eq_take_drop]
        simp [this]
    · rw [sp_miss s c k (by omega) e]
      have e' : ¬ c = s[k] := fun h => e h.symm
      refine ⟨fun h => i1 (fun hm => h (by simp [hm])), fun h => i2 ?_⟩
      simpa [e'] using h

theorem parts_head (s : ByteArray) (c : UInt8) : ∃ rest, parts s c = before s c :: rest := by
  have ht := take_all s s.size (Nat.le_refl _)
  obtain ⟨i1, i2⟩ := sp_head s c s.size (Nat.le_refl _)
  rw [ht] at i1 i2
  unfold parts
  by_cases hm : c ∈ s.data.toList
  · obtain ⟨rest, hr⟩ := i2 hm
    exact ⟨rest ++ [s.extract (sp s c s.size).2 s.size], by simp [hr]⟩
  · rw [i1 hm]
    refine ⟨[], ?_⟩
    have : before s c = s.extract 0 s.size := by
      apply eq_of_list
      unfold before
      rw [pre_none c _ hm]
      rw [ByteArray.data_extract, Array.toList_extract, List.extract_eq_take_drop, List.drop_zero, Nat.sub_zero, ht]
    simp [this]

/-- The text with its checksum. -/
def mark : ByteArray := ⟨#[35]⟩
def sumS (s : ByteArray) : ByteArray := numS (sumOf s.data.toList)
def sealS (s : ByteArray) : ByteArray := s ++ mark ++ sumS s

theorem sumS_size (s : ByteArray) : (sumS s).size ≤ 6 := by
  have h := sumOf_lt s.data.toList
  have := nDigits_le 5 (sumOf s.data.toList) (by omega)
  unfold sumS numS
  show (Lib.decDigits _).toArray.size ≤ 6
  rw [List.size_toArray, Lib.decDigits_length]
  exact this

theorem sealS_size (s : ByteArray) : (sealS s).size = s.size + 1 + (sumS s).size := by
  unfold sealS
  rw [ByteArray.size_append, ByteArray.size_append]
  rfl

end Go.Proofs.YthcggmjgecdfgaaDoor.Plain
