/- Plain mathematics: a text's parts joined again are the text, and no part has the sign. No condition. -/
import Derived.Test.YthcggmjgecdfgaaSplit
import Derived.Test.YthcggmjgecdfgaaJoin
import Derived.Test.YthcggmjgecdfgaaImplJoin
namespace Go.Proofs.Ythcggmjgecdfgaa.Plain

theorem extract_list (s : ByteArray) (a b : Nat) : (s.extract a b).data.toList = (s.data.toList.drop a).take (b - a) := by
  rw [ByteArray.data_extract, Array.toList_extract]
theorem at_list (s : ByteArray) (k : Nat) (h : k < s.size) : s.data.toList[k]? = some s[k] := by
  have h' : k < s.data.size := h
  rw [Array.getElem?_toList, Array.getElem?_eq_getElem h']
  rfl

theorem tail_join (sep : List UInt8) (y : List UInt8) (r : List (List UInt8)) : Lib.joinTail sep (y :: r) = sep ++ Lib.join (y :: r) sep := by
  rw [Lib.join_cons]; simp [Lib.joinTail]
theorem join_snoc (sep x : List UInt8) : ∀ P : List (List UInt8), Lib.join (P ++ [x]) sep = (P.map (· ++ sep)).flatten ++ x
  | [] => by simp [Lib.join_one]
  | p :: P => by
    have ih := join_snoc sep x P
    rw [List.cons_append, Lib.join_cons]
    obtain ⟨y, r, e⟩ : ∃ y r, P ++ [x] = y :: r := by cases P <;> simp
    rw [e, tail_join, ← e, ih]
    simp

/-- What holds of the parts that are complete behind k bytes. -/
def SpOk (s : ByteArray) (c : UInt8) (k : Nat) : Prop :=
  (((sp s c k).1.map (·.data.toList)).map (· ++ [c])).flatten = s.data.toList.take (sp s c k).2 ∧ (∀ p ∈ (sp s c k).1, c ∉ p.data.toList) ∧ c ∉ (s.data.toList.drop (sp s c k).2).take (k - (sp s c k).2)

theorem sp_ok (s : ByteArray) (c : UInt8) : ∀ k, k ≤ s.size → SpOk s c k
  | 0, _ => by simp [SpOk, sp]
  | k + 1, hk => by
    obtain ⟨h1, h2, h3⟩ := sp_ok s c k (by omega)
    have hf := (sp_le s c k).1
    have hlt : k < s.size := by omega
    have hat := at_list s k hlt
    unfold SpOk
    by_cases he : s[k] = c
    · rw [sp_hit s c k hlt he]
      rw [he] at hat
      refine ⟨?_, ?_, by simp⟩
      · simp only [List.map_append, List.flatten_append, h1, List.map_cons, List.map_nil, extract_list]
        have e1 : s.data.toList.take (k + 1) = s.data.toList.take k ++ [c] := by rw [List.take_add_one, hat]; rfl
        have e2 : s.data.toList.take k = s.data.toList.take (sp s c k).2 ++ (s.data.toList.drop (sp s c k).2).take (k - (sp s c k).2) := by
          have := List.take_add (l := s.data.toList) (i := (sp s c k).2) (j := k - (sp s c k).2)
          rwa [Nat.add_sub_cancel' hf] at this
        rw [e1, e2]
        simp
      · intro p hp
        rcases List.mem_append.1 hp with hp | hp
        · exact h2 p hp
        · simp at hp
          rw [hp, extract_list]
          exact h3
    · rw [sp_miss s c k hlt he]
      refine ⟨h1, h2, ?_⟩
      have e3 : k + 1 - (sp s c k).2 = (k - (sp s c k).2) + 1 := by omega
      have e4 : (s.data.toList.drop (sp s c k).2)[k - (sp s c k).2]? = some s[k] := by
        rw [List.getElem?_drop, Nat.add_sub_cancel' hf, hat]
      rw [e3, List.take_add_one, e4]
      intro hm
      rcases List.mem_append.1 hm with hm | hm
      · exact h3 hm
      · simp at hm
        exact he hm.symm

theorem parts_join (s : ByteArray) (c : UInt8) : jn ⟨#[c]⟩ (parts s c) = s := by
  obtain ⟨h1, h2, h3⟩ := sp_ok s c s.size (Nat.le_refl _)
  have hf := (sp_le s c s.size).1
  have hl : s.data.toList.length = s.size := by show s.data.toList.length = s.data.size; exact Array.length_toList
  have e : (jn ⟨#[c]⟩ (parts s c)).data.toList = s.data.toList := by
    rw [jn_list]
    unfold parts
    rw [List.map_append, List.map_cons, List.map_nil, join_snoc]
    have h1' : ((List.map (fun x : ByteArray => x.data.toList) (sp s c s.size).1).map (· ++ [c])).flatten = s.data.toList.take (sp s c s.size).2 := h1
    have e5 : (s.data.toList.drop (sp s c s.size).2).take (s.size - (sp s c s.size).2) = s.data.toList.drop (sp s c s.size).2 := List.take_of_length_le (by rw [List.length_drop]; omega)
    rw [h1', extract_list, e5, List.take_append_drop]
  have e2 : (jn ⟨#[c]⟩ (parts s c)).data = s.data := Array.toList_inj.1 e
  exact ByteArray.ext e2

theorem parts_none (s : ByteArray) (c : UInt8) : ∀ p ∈ parts s c, has p c = false := by
  obtain ⟨h1, h2, h3⟩ := sp_ok s c s.size (Nat.le_refl _)
  intro p hp
  refine has_miss (j := p.size) (Nat.le_refl _) fun hm => ?_
  have hm := List.mem_of_mem_take hm
  unfold parts at hp
  rcases List.mem_append.1 hp with hp | hp
  · exact h2 p hp hm
  · simp at hp
    rw [hp, extract_list] at hm
    exact h3 hm

theorem parts_ok (s : ByteArray) (c : UInt8) (h : s.size ≤ 4000) : joinOk c (parts s c) = true := joinOk_yes (by rw [parts_join]; exact h) (parts_none s c)

end Go.Proofs.Ythcggmjgecdfgaa.Plain
