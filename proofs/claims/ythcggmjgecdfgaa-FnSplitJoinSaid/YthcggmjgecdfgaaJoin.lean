/- Plain mathematics of joining texts with a separator. No condition. -/
import Derived.Test.YthcggmjgecdfgaaSeal
import Derived.Test.YthcggmjgecdfgaaStrs
import Derived.Lib.Join
namespace Go.Proofs.Ythcggmjgecdfgaa.Plain
open Go

def jn (sep : ByteArray) (ss : List ByteArray) : ByteArray := ⟨(Lib.join (ss.map (·.data.toList)) sep.data.toList).toArray⟩
theorem jn_list (sep : ByteArray) (ss : List ByteArray) : (jn sep ss).data.toList = Lib.join (ss.map (·.data.toList)) sep.data.toList := by unfold jn; simp

theorem jn_nil (sep : ByteArray) : jn sep [] = ⟨#[]⟩ := by
  apply eq_of_list; rw [jn_list]; rfl

theorem jn_first (sep : ByteArray) (ss : List ByteArray) (x : ByteArray) (h : ss[0]? = some x) : jn sep (ss.take 1) = jn sep (ss.take 0) ++ x := by
  cases ss with
  | nil => simp at h
  | cons y r =>
    simp only [List.getElem?_cons_zero, Option.some.injEq] at h
    subst h
    apply eq_of_list
    rw [ByteArray.data_append, Array.toList_append, jn_list, jn_list]
    simp [Lib.join_one, Lib.join_nil]

theorem jn_next (sep : ByteArray) (ss : List ByteArray) (k : Nat) (x : ByteArray) (hk : 0 < k) (h : ss[k]? = some x) : jn sep (ss.take (k + 1)) = (jn sep (ss.take k) ++ sep) ++ x := by
  cases ss with
  | nil => simp at h
  | cons y r =>
    obtain ⟨i, rfl⟩ : ∃ i, k = i + 1 := ⟨k - 1, by omega⟩
    simp only [List.getElem?_cons_succ] at h
    apply eq_of_list
    rw [ByteArray.data_append, ByteArray.data_append, Array.toList_append, Array.toList_append, jn_list, jn_list, List.take_succ_cons, List.take_succ_cons]
    simp only [List.map_cons, Lib.join_cons, List.map_take]
    rw [Lib.joinTail_take_succ _ _ i x.data.toList (by simp [h])]
    simp

theorem lens_tot (ss : List ByteArray) : Lib.lens (ss.map (·.data.toList)) = tot ss := by
  unfold Lib.lens tot
  rw [List.map_map]
  congr 1

theorem jn_size (c : UInt8) (ss : List ByteArray) (h : 0 < ss.length) : (jn ⟨#[c]⟩ ss).size + 1 = tot ss + ss.length := by
  rw [size_list, jn_list]
  cases ss with
  | nil => simp at h
  | cons y r =>
    have e := Lib.join_length y.data.toList (r.map (·.data.toList)) [c]
    have e2 := lens_tot (y :: r)
    simp only [List.map_cons] at e2 ⊢
    rw [e2] at e
    simp only [List.length_map, List.length_cons, List.length_nil] at e ⊢
    have e3 : (Lib.join (y.data.toList :: r.map (·.data.toList)) (⟨#[c]⟩ : ByteArray).data.toList).length = (0 + 1) * r.length + tot (y :: r) := e
    omega

theorem jn_mono (c : UInt8) (ss : List ByteArray) (k : Nat) (hk : k < ss.length) : (jn ⟨#[c]⟩ (ss.take (k + 1))).size ≤ (jn ⟨#[c]⟩ ss).size := by
  have h1 := jn_size c ss (by omega)
  have h2 := jn_size c (ss.take (k + 1)) (by rw [List.length_take]; omega)
  have h3 := tot_take_le ss (k + 1)
  rw [List.length_take] at h2
  omega

/-- Can the texts be joined with the byte c? -/
def joinOk (c : UInt8) (ss : List ByteArray) : Bool := decide ((jn ⟨#[c]⟩ ss).size ≤ 4000) && ss.all (fun x => !has x c)
theorem joinOk_has {c : UInt8} {ss : List ByteArray} {k : Nat} {x : ByteArray} (h : ss[k]? = some x) (hh : has x c = true) : joinOk c ss = false := by
  unfold joinOk
  have : ss.all (fun x => !has x c) = false := by
    rw [List.all_eq_false]
    exact ⟨x, List.mem_of_getElem? h, by simp [hh]⟩
  rw [this]; simp
theorem joinOk_long {c : UInt8} {ss : List ByteArray} (h : 4000 < (jn ⟨#[c]⟩ ss).size) : joinOk c ss = false := by
  unfold joinOk
  rw [decide_eq_false (by omega)]; rfl
theorem joinOk_yes {c : UInt8} {ss : List ByteArray} (h1 : (jn ⟨#[c]⟩ ss).size ≤ 4000) (h2 : ∀ x ∈ ss, has x c = false) : joinOk c ss = true := by
  unfold joinOk
  rw [decide_eq_true h1, Bool.true_and, List.all_eq_true]
  intro x hx
  rw [h2 x hx]; rfl
theorem none_snoc {c : UInt8} {ss : List ByteArray} {k : Nat} {x : ByteArray} (h : ∀ y ∈ ss.take k, has y c = false) (hx : ss[k]? = some x) (hh : has x c = false) : ∀ y ∈ ss.take (k + 1), has y c = false := by
  rw [List.take_add_one, hx]
  intro y hy
  rcases List.mem_append.1 hy with hy | hy
  · exact h y hy
  · have : y = x := by simpa using hy
    rw [this]; exact hh
theorem none_all {c : UInt8} {ss : List ByteArray} {k : Nat} (hk : ss.length ≤ k) (h : ∀ y ∈ ss.take k, has y c = false) : ∀ y ∈ ss, has y c = false := by
  rwa [List.take_of_length_le hk] at h
end Go.Proofs.Ythcggmjgecdfgaa.Plain
