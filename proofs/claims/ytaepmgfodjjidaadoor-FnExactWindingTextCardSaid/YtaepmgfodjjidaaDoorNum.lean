/- Plain mathematics of decimal texts: the digits of a number as bytes, their length, how they are put together. No condition. -/
import Derived.Lib.ItoaNum
import Derived.Lib.ItoaLen
namespace Go.Proofs.YtaepmgfodjjidaaDoor.Plain
open Go

def numS (u : Nat) : ByteArray := ⟨(Lib.decDigits u).toArray⟩
def intS (n : Int) : ByteArray := ⟨(Lib.itoa n).toArray⟩
def digitText : ByteArray := ⟨#[48, 49, 50, 51, 52, 53, 54, 55, 56, 57]⟩

theorem append_mk (a b : List UInt8) : (⟨a.toArray⟩ : ByteArray) ++ ⟨b.toArray⟩ = ⟨(a ++ b).toArray⟩ := by
  apply ByteArray.ext
  simp [ByteArray.data_append]

theorem eq_of_list {a b : ByteArray} (h : a.data.toList = b.data.toList) : a = b := by
  apply ByteArray.ext
  exact Array.toList_inj.1 h

theorem digit_fin : ∀ d : Fin 10, (digitText.data.toList.drop d.val).take 1 = [UInt8.ofNat (48 + d.val)] := by decide +kernel

theorem digitS_eq (d : Nat) (h : d < 10) : digitText.extract d (d + 1) = numS d := by
  unfold numS
  apply eq_of_list
  rw [Lib.decDigits_one h]
  have := digit_fin ⟨d, h⟩
  simpa [ByteArray.data_extract, Array.toList_extract, List.extract_eq_take_drop] using this

theorem numS_step (u : Nat) (h : ¬ u < 10) : numS (u / 10) ++ digitText.extract (u % 10) (u % 10 + 1) = numS u := by
  rw [digitS_eq _ (Nat.mod_lt _ (by omega))]
  unfold numS
  rw [append_mk, Lib.decDigits_one (Nat.mod_lt _ (by omega))]
  conv => rhs; rw [Lib.decDigits, dif_neg h]

theorem numS_two (u : Nat) (h : ¬ u < 10) : numS (u / 10) ++ numS (u % 10) = numS u := by
  rw [← digitS_eq _ (Nat.mod_lt _ (by omega)), numS_step u h]

theorem intS_nat (u : Nat) : intS (u : Int) = numS u := by
  unfold intS numS Lib.itoa
  rw [if_neg (by omega)]
  simp

theorem intS_neg (u : Nat) (h : 1 ≤ u) : intS (-(u : Int)) = ⟨#[45]⟩ ++ numS u := by
  unfold intS numS Lib.itoa
  rw [if_pos (by omega)]
  apply eq_of_list
  simp [ByteArray.data_append]

theorem nDigits_le : ∀ (k u : Nat), u < 10 ^ (k + 1) → Lib.nDigits u ≤ k + 1
  | 0, u, h => by rw [Lib.nDigits_small (by simpa using h)]; exact Nat.le_refl _
  | k + 1, u, h => by
    by_cases h1 : u < 10
    · rw [Lib.nDigits_small h1]; omega
    · rw [Lib.nDigits_big h1]
      have := nDigits_le k (u / 10) (by rw [Nat.pow_succ] at h; omega)
      omega

theorem numS_size (u : Nat) (h : u < 10000000000000000000) : (numS u).size ≤ 19 := by
  have := nDigits_le 18 u (by simpa using h)
  unfold numS
  show (Lib.decDigits u).toArray.size ≤ 19
  rw [List.size_toArray, Lib.decDigits_length]
  exact this

theorem digitS_size (d : Nat) : (digitText.extract d (d + 1)).size ≤ 1 := by
  rw [ByteArray.size_extract]; omega

end Go.Proofs.YtaepmgfodjjidaaDoor.Plain
