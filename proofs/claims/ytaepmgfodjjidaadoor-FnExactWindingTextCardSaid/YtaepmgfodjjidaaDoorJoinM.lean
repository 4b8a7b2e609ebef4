/- Plain mathematics of joining texts with a separator: the part that stands without the sums of bytes. No condition. -/
import Derived.Test.YtaepmgfodjjidaaDoorNum
import Derived.Test.YtaepmgfodjjidaaDoorStrs
import Derived.Lib.Join
namespace Go.Proofs.YtaepmgfodjjidaaDoor.Plain
open Go

theorem size8_list (s : ByteArray) : s.size = s.data.toList.length := by rw [Array.length_toList]; rfl
def jn (sep : ByteArray) (ss : List ByteArray) : ByteArray := ⟨(Lib.join (ss.map (·.data.toList)) sep.data.toList).toArray⟩
theorem jn_list (sep : ByteArray) (ss : List ByteArray) : (jn sep ss).data.toList = Lib.join (ss.map (·.data.toList)) sep.data.toList := by unfold jn; simp

theorem jn_nil (sep : ByteArray) : jn sep [] = ⟨#[]⟩ := by
  apply eq_of_list; rw [jn_list]; rfl

theorem jn_first (sep : ByteArray) (ss : List ByteArray) (x : ByteArray) (h : ss[0]? = some x) : jn sep (ss.take 1) = jn sep (ss.take 0) ++ x := by
  cases ss with
  | nil => simp at h
  | cons y r =>
    simp only [List.getElem?_cons_zero, Option.some.injEq] at h
    subst h
    apply eq_of_list
    rw [ByteArray.data_append, Array.toList_append, jn_list, jn_list]
    simp [Lib.join_one, Lib.join_nil]

theorem jn_next (sep : ByteArray) (ss : List ByteArray) (k : Nat) (x : ByteArray) (hk : 0 < k) (h : ss[k]? = some x) : jn sep (ss.take (k + 1)) = (jn sep (ss.take k) ++ sep) ++ x := by
  cases ss with
  | nil => simp at h
  | cons y r =>
    obtain ⟨i, rfl⟩ : ∃ i, k = i + 1 := ⟨k - 1, by omega⟩
    simp only [List.getElem?_cons_succ] at h
    apply eq_of_list
    rw [ByteArray.data_append, ByteArray.data_append, Array.toList_append, Array.toList_append, jn_list, jn_list, List.take_succ_cons, List.take_succ_cons]
    simp only [List.map_cons, Lib.join_cons, List.map_take]
    rw [Lib.joinTail_take_succ _ _ i x.data.toList (by simp [h])]
    simp

theorem lens_tot (ss : List ByteArray) : Lib.lens (ss.map (·.data.toList)) = tot ss := by
  unfold Lib.lens tot
  rw [List.map_map]
  congr 1

theorem jn_size (c : UInt8) (ss : List ByteArray) (h : 0 < ss.length) : (jn ⟨#[c]⟩ ss).size + 1 = tot ss + ss.length := by
  rw [size8_list, jn_list]
  cases ss with
  | nil => simp at h
  | cons y r =>
    have e := Lib.join_length y.data.toList (r.map (·.data.toList)) [c]
    have e2 := lens_tot (y :: r)
    simp only [List.map_cons] at e2 ⊢
    rw [e2] at e
    simp only [List.length_map, List.length_cons, List.length_nil] at e ⊢
    have e3 : (Lib.join (y.data.toList :: r.map (·.data.toList)) (⟨#[c]⟩ : ByteArray).data.toList).length = (0 + 1) * r.length + tot (y :: r) := e
    omega


end Go.Proofs.YtaepmgfodjjidaaDoor.Plain
