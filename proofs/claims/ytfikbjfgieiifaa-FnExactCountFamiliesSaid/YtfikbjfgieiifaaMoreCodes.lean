/- Contracts: impl.withOneNailMore, familyCodes, CountFamilies. Conditions: numbers of 64 bits. -/
import Derived.Test.YtfikbjfgieiifaaUints
import Derived.Test.YtfikbjfgieiifaaSetKit
namespace Go.Proofs.Ytfikbjfgieiifaa
open Go.ChangeShapes Go.WideShapes Go.ChangeAt Go.RowKit
set_option linter.unusedVariables false

/-- Whether one code's Family lies in the other's, and the code of both. -/
def inB (x y : Int) : Bool := bits .andNot .u64 x y == 0
def joinC (s : Nat) (x y : Int) : Int := bits .or .u64 x (IntKind.u64.wrap (y * 2 ^ s))
def rowC (C : List Int) (s : Nat) (x : Int) (j : Nat) : List Int := ((C.take j).filter (inB x)).map (joinC s x)
def moreTo (C : List Int) (s : Nat) (k : Nat) : List Int := (C.take k).flatMap fun x => rowC C s x C.length
theorem take_more {α : Type} {C : List α} {k : Nat} {x : α} (h : C[k]? = some x) : C.take (k + 1) = C.take k ++ [x] := by
  rw [List.take_add_one, h]; rfl
theorem row_in {C : List Int} {s j : Nat} {x y : Int} (h : C[j]? = some y) (hb : inB x y = true) : rowC C s x (j + 1) = rowC C s x j ++ [joinC s x y] := by
  simp [rowC, take_more h, hb]
theorem row_out {C : List Int} {s j : Nat} {x y : Int} (h : C[j]? = some y) (hb : inB x y = false) : rowC C s x (j + 1) = rowC C s x j := by
  simp [rowC, take_more h, hb]
theorem more_step {C : List Int} {s k : Nat} {x : Int} (h : C[k]? = some x) : moreTo C s (k + 1) = moreTo C s k ++ rowC C s x C.length := by
  simp [moreTo, take_more h]
theorem row_le (C : List Int) (s j : Nat) (x : Int) : (rowC C s x j).length ≤ C.length := by
  unfold rowC
  rw [List.length_map]
  exact Nat.le_trans (List.length_filter_le _ _) (by simp; omega)
theorem more_le (C : List Int) (s : Nat) : ∀ k, (moreTo C s k).length ≤ k * C.length
  | 0 => by simp [moreTo]
  | k + 1 => by
    have ih := more_le C s k
    rcases h : C[k]? with _ | x
    · have : C.take (k + 1) = C.take k := by rw [List.take_add_one, h]; simp
      have e : moreTo C s (k + 1) = moreTo C s k := by simp only [moreTo, this]
      rw [e, Nat.add_mul]; omega
    · rw [more_step h, List.length_append, Nat.add_mul]
      have := row_le C s C.length x
      omega

set_option maxRecDepth 100000 in
set_option maxHeartbeats 800000 in
theorem moreCodes_any (a : Option Addr) (cap : Nat) (C : List Int) (s : Nat) (w : World) (h : Hid (U.Ints w a C)) (hn : C.length ≤ 1000) (hs : s < 64) :
    Calls Try.prog 48 #[.slice a C.length cap, .int .i64 (s : Int)] w (fun e w' => ∃ v, e = .returned v ∧ U.Res w.heap.size w' v (moreTo C s C.length) ∧ Below w.heap.size w w') := by
  obtain ⟨i0, hi0, hz0, hz1, hz2⟩ := info_parts U.infoUint
  have HS := Lib.hid (U.coll_start w)
  go_enter Try.func48, Try.ntmps48
  go_wp2_with fail
  go_loopw [5, 13] (fun u i wr => ∃ k : Nat, k ≤ C.length ∧ i = .int .i64 k ∧ U.Coll (moreTo C s k) w.heap.size w u wr) (fun _ i _ => C.length - (intOf i).toNat)
  case atStart => exact ⟨0, Nat.zero_le _, rfl, HS.out⟩
  case round =>
    obtain ⟨k, hk, rfl, hrel⟩ := hrel
    have hll := more_le C s k
    by_cases hlt : k < C.length
    · have HK := Lib.hid hrel
      obtain ⟨x, hx⟩ := at_some C k hlt
      obtain ⟨b, o, rfl, hc⟩ := (h.out.on HK.out.2.1) k x hx
      have hi : (k : Int) < (C.length : Int) := by omega
      have hi0' : (0 : Int) ≤ (k : Int) := by omega
      clear hrel
      go_wp2_with fail
      clear hc
      obtain ⟨A, hA⟩ : ∃ A, A = moreTo C s k := ⟨_, rfl⟩
      have HX := Lib.hid hx
      have HN : Hid (moreTo C s (k + 1) = A ++ rowC C s x C.length) := Lib.hid (by rw [more_step hx, hA])
      have hAl : A.length ≤ 1000000 := by
        rw [hA]
        have h1 : k * C.length ≤ 1000 * 1000 := Nat.mul_le_mul (by omega) hn
        omega
      rw [← hA] at HK
      clear hx hA hll
      go_loopw [5, 19] (fun u i wr => ∃ j : Nat, j ≤ C.length ∧ i = .int .i64 j ∧ U.Coll (A ++ rowC C s x j) w.heap.size w u wr) (fun _ i _ => C.length - (intOf i).toNat)
      case atStart => exact ⟨0, Nat.zero_le _, rfl, by simpa [rowC] using HK.out⟩
      case round =>
        clear HK
        obtain ⟨j, hj, rfl, hrel⟩ := hrel
        have hrl := row_le C s j x
        by_cases hlt2 : j < C.length
        · obtain ⟨L, hL⟩ : ∃ L, L = A ++ rowC C s x j := ⟨_, rfl⟩
          have hLl : L.length ≤ 1001000 := by rw [hL, List.length_append]; omega
          rw [← hL] at hrel
          have HK := Lib.hid hrel
          obtain ⟨y, hy⟩ := at_some C j hlt2
          obtain ⟨b2, o2, he2, hc2⟩ := (h.out.on HK.out.2.1) j y hy
          cases he2
          have hi2 : (j : Int) < (C.length : Int) := by omega
          have hi2' : (0 : Int) ≤ (j : Int) := by omega
          clear hrel
          by_cases hz : bits .andNot .u64 x y = 0
          · have HM : Hid (A ++ rowC C s x (j + 1) = L ++ [joinC s x y]) := Lib.hid (by rw [row_in hy (by simp [inB, hz]), hL, List.append_assoc])
            clear hy hL
            go_wp2_with (at_builtin; refine wpList_append_own _ rfl _ _ 55 rfl w.heap.size 54 i0 (.int .u64 0) 1 8 Try.underlying55 hi0 hz0 hz1 hz2 rfl (by decide) _ _ _ rfl (HK.out.1.alloc _) ⟨wr.heap.size, 0, none⟩ 1 1 [.int .u64 (joinC s x y)] rfl rfl ?c1 ?c2 ?c3 ?c4 ?c5 ?_)
            case c1 => exact cell_one_new _ _ _
            case c2 => simp [Value.oneCell']
            case c3 => unfold maxLen; omega
            case c4 => omega
            case c5 => exact Nat.le_trans HK.out.2.2 (by simp)
            intro v' w2 hown' hgrow _
            have hR := Lib.hid (U.coll_push (x := joinC s x y) HK.out hown' hgrow)
            clear hown' hgrow
            go_wp2_with fail
            go_roundw
            case rel => exact ⟨j + 1, by omega, by go_num, by rw [HM.out]; exact hR.out⟩
            case measure => simp [intOf]; omega
          · have HM : Hid (A ++ rowC C s x (j + 1) = L) := Lib.hid (by rw [row_out hy (by simp [inB, hz]), hL])
            clear hy hL
            go_wp2_with fail
            go_roundw
            case rel => exact ⟨j + 1, by omega, by go_num, by rw [HM.out]; exact HK.out⟩
            case measure => simp [intOf]; omega
        · obtain rfl : j = C.length := by omega
          have HK := Lib.hid hrel
          clear hrel
          go_wp2_with fail
          go_roundw
          case rel => exact ⟨k + 1, by omega, by go_num, by rw [HN.out]; exact HK.out⟩
          case measure => simp [intOf]; omega
    · obtain rfl : k = C.length := by omega
      have HR := Lib.hid (U.coll_res hrel)
      clear hrel
      go_wp2_with fail
      go_ret
      exact ⟨_, rfl, HR.out.1, HR.out.2⟩

end Go.Proofs.Ytfikbjfgieiifaa
