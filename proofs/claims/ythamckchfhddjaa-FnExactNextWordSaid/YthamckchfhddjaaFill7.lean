/- Contracts: spec.l7Filled, impl.firstBegun; plain mathematics of filled words. Conditions: lengths of at most 100, at most six nails. -/
import Derived.Test.YthamckchfhddjaaRankMath
import Derived.Test.YthamckchfhddjaaBehind
import Derived.Test.YthamckchfhddjaaInvWalks
import Derived.Deep.LoopGhost
namespace Go.Proofs.Ythamckchfhddjaa.Plain
set_option linter.unusedVariables false

/-- The first letter that may stand behind a word. -/
def firstL (w : List Int) : Int := if lastOf w = some (-1) then -1 else 1
/-- The first word with k letters more. -/
def fillW : Nat → List Int → List Int
  | 0, w => w
  | k + 1, w => fillW k w ++ [firstL (fillW k w)]
theorem fill_zero (w : List Int) : fillW 0 w = w := rfl
theorem fill_step (k : Nat) (w : List Int) : fillW (k + 1) w = fillW k w ++ [firstL (fillW k w)] := rfl
theorem fill_len (k : Nat) (w : List Int) : (fillW k w).length = w.length + k := by
  induction k with
  | zero => rfl
  | succ k ih => rw [fill_step, List.length_append, ih]; simp; omega
theorem behind_head {n : Nat} (hn : 1 ≤ n) (w : List Int) : (behind w (2 * n))[0]? = some (firstL w) := by
  obtain ⟨t, ht⟩ := behind_prefix w (show 2 ≤ 2 * n by omega)
  have h0 : letterAt 0 = 1 := by decide
  have h1 : letterAt 1 = -1 := by decide
  rw [ht, behind_step, behind_step, h0, h1, show behind w 0 = [] from rfl]
  unfold stays firstL
  cases hl : lastOf w with
  | none => simp
  | some y =>
    by_cases hy : y = -1
    · subst hy; simp
    · by_cases hy1 : y = 1
      · subst hy1; simp
      · simp [hy, hy1]
theorem letters_fill {w : List Int} (h : Letters w) (k : Nat) : Letters (fillW k w) := by
  induction k with
  | zero => exact h
  | succ k ih =>
    rw [fill_step]
    intro x hx
    rcases List.mem_append.1 hx with hx | hx
    · exact ih x hx
    · obtain rfl := List.mem_singleton.1 hx
      unfold firstL
      split <;> decide

end Go.Proofs.Ythamckchfhddjaa.Plain

namespace Go.Proofs.Ythamckchfhddjaa
open Go.ChangeShapes Go.WideShapes Go.ChangeAt Go.RowKit
set_option linter.unusedVariables false

set_option maxRecDepth 100000 in
set_option maxHeartbeats 2000000 in
theorem l7Filled_any (a : Option Addr) (cap : Nat) (xs : List Int) (N : Nat) (w : World) (h : Hid (Ints w a xs)) (hcp : Hid (Cap a xs.length cap)) (hn : xs.length ≤ 100) (hN : N ≤ 100) :
    Calls Try.prog 39 #[.slice a xs.length cap, .int .i64 (N : Int)] w (fun e w' => ∃ v, e = .returned v ∧ Coll (Plain.fillW (N - xs.length) xs) w.heap.size w v w') := by
  obtain ⟨i0, hi0, hz0, hz1, hz2⟩ := info_parts infoInt
  obtain ⟨K, hK⟩ : ∃ K, K = N - xs.length := ⟨_, rfl⟩
  rw [← hK]
  have HKE := Lib.hid hK
  clear hK
  go_enter Try.func39, Try.ntmps39
  go_wp2_with fail
  refine (l1Own_any a cap xs _ h hcp (by omega)).mono ?_
  rintro e w1 ⟨v1, rfl, hC, -⟩
  have HC := Lib.hid hC
  clear hC
  go_wp2_with fail
  go_loopg [5] K (fun g v wr => ∃ k, k + g = K ∧ Coll (Plain.fillW k xs) w.heap.size w v wr)
  case atStart => exact ⟨0, by omega, HC.out⟩
  case round =>
    obtain ⟨k, hk, hrel⟩ := hrel
    have hK := HKE.out
    have hlen := Plain.fill_len k xs
    have HST := Lib.hid (Plain.fill_step k xs)
    have HKK := Lib.hid (rfl : Plain.fillW k xs = Plain.fillW k xs)
    obtain ⟨L, hL⟩ : ∃ L, L = Plain.fillW k xs := ⟨_, rfl⟩
    rw [← hL] at hrel hlen HST
    obtain ⟨va, vc, e1, hi, -, -⟩ := (coll_res hrel).1
    cases gk with
    | zero =>
      have HR : Hid (Coll (Plain.fillW K xs) w.heap.size w _ wr) := Lib.hid (by obtain rfl : k = K := (by omega); rw [← hL]; exact hrel)
      obtain ⟨M, hM⟩ : ∃ M, M = L.length := ⟨_, rfl⟩
      rw [← hM] at e1 hlen
      subst e1
      have hnl : ¬ (M : Int) < (N : Int) := by omega
      clear hK hk hlen hrel hi hM hL HST HKK
      go_wp2_with fail
      go_ret
      exact ⟨_, rfl, HR.out⟩
    | succ g1 =>
      have HK := Lib.hid hrel
      have HG : Hid (∀ x wy v', Coll (L ++ [x]) w.heap.size w v' wy → x = Plain.firstL L → Coll (Plain.fillW (k + 1) xs) w.heap.size w v' wy) := Lib.hid (fun x wy v' hq e => by rw [HST.out, ← e]; exact hq)
      obtain ⟨M, hM⟩ : ∃ M, M = L.length := ⟨_, rfl⟩
      rw [← hM] at e1 hlen
      have hM1 : M ≤ 200 := by omega
      have HM := Lib.hid hM
      have hlt : (M : Int) < (N : Int) := by omega
      have HKG := Lib.hid hk
      clear hK hk hlen
      clear HKK HST hL hrel
      cases M with
      | zero =>
        subst e1
        have HX : Hid (1 = Plain.firstL L) := Lib.hid (by rw [List.eq_nil_of_length_eq_zero hM.symm]; rfl)
        clear hi hM
        go_wp2_with (at_builtin; refine wpList_append_own_at _ rfl _ _ 25 rfl w.heap.size 3 i0 (.int .i64 0) 1 8 Try.underlying25 hi0 hz0 hz1 hz2 rfl (by decide) _ _ _ rfl (HK.out.1.alloc _) ⟨wr.heap.size, 0, none⟩ 1 1 [.int .i64 1] rfl rfl ?c1 ?c2 ?c3 ?c4 ?c5 ?_)
        case c1 => exact cell_one_new _ _ _
        case c2 => simp [Value.oneCell']
        case c3 => have := HM.out; unfold maxLen; omega
        case c4 => have := HM.out; omega
        case c5 => exact Nat.le_trans HK.out.2.2 (by simp)
        intro v' w5 hown' hgrow _ hat
        have HR := Lib.hid (HG.out _ _ _ (coll_push HK.out hown' hgrow) HX.out)
        clear hown' hgrow hat
        go_wp2_with fail
        go_roundg g1
        case measure => omega
        case rel => exact ⟨k + 1, by have := HKG.out; omega, HR.out⟩
      | succ m =>
        obtain ⟨y, hy⟩ := at_some L m (by omega)
        obtain ⟨b, o, rfl, hc⟩ := hi m y hy
        subst e1
        have hy2 : Plain.lastOf L = some y := by rw [Plain.lastOf, ← hM]; exact hy
        by_cases hy1 : y = -1
        · subst hy1
          have HX : Hid (-1 = Plain.firstL L) := Lib.hid (by rw [Plain.firstL, if_pos hy2])
          clear hi hM hy hy2
          go_wp2_with (at_builtin; refine wpList_append_own_at _ rfl _ _ 25 rfl w.heap.size 3 i0 (.int .i64 0) 1 8 Try.underlying25 hi0 hz0 hz1 hz2 rfl (by decide) _ _ _ rfl (HK.out.1.alloc _) ⟨wr.heap.size, 0, none⟩ 1 1 [.int .i64 (-1)] rfl rfl ?c1 ?c2 ?c3 ?c4 ?c5 ?_)
          case c1 => exact cell_one_new _ _ _
          case c2 => simp [Value.oneCell']
          case c3 => have := HM.out; unfold maxLen; omega
          case c4 => have := HM.out; omega
          case c5 => exact Nat.le_trans HK.out.2.2 (by simp)
          intro v' w5 hown' hgrow _ hat
          have HR := Lib.hid (HG.out _ _ _ (coll_push HK.out hown' hgrow) HX.out)
          clear hown' hgrow hat
          go_wp2_with fail
          go_roundg g1
          case measure => omega
          case rel => exact ⟨k + 1, by have := HKG.out; omega, HR.out⟩
        · have HX : Hid (1 = Plain.firstL L) := Lib.hid (by rw [Plain.firstL, if_neg (by rw [hy2]; simpa using hy1)])
          have hq : (y == (-1 : Int)) = false := by simpa using hy1
          clear hi hM hy hy2 hy1
          go_wp2_with (at_builtin; refine wpList_append_own_at _ rfl _ _ 25 rfl w.heap.size 3 i0 (.int .i64 0) 1 8 Try.underlying25 hi0 hz0 hz1 hz2 rfl (by decide) _ _ _ rfl (HK.out.1.alloc _) ⟨wr.heap.size, 0, none⟩ 1 1 [.int .i64 1] rfl rfl ?c1 ?c2 ?c3 ?c4 ?c5 ?_)
          case c1 => exact cell_one_new _ _ _
          case c2 => simp [Value.oneCell']
          case c3 => have := HM.out; unfold maxLen; omega
          case c4 => have := HM.out; omega
          case c5 => exact Nat.le_trans HK.out.2.2 (by simp)
          intro v' w5 hown' hgrow _ hat
          have HR := Lib.hid (HG.out _ _ _ (coll_push HK.out hown' hgrow) HX.out)
          clear hown' hgrow hat
          go_wp2_with fail
          go_roundg g1
          case measure => omega
          case rel => exact ⟨k + 1, by have := HKG.out; omega, HR.out⟩
set_option maxRecDepth 100000 in
set_option maxHeartbeats 2000000 in
theorem firstBegun_any (xs : List Int) (n N B : Nat) (w0 w : World) (v : Value) (hC : Hid (Coll xs B w0 v w)) (hl : Hid (Plain.Letters xs)) (h1 : 1 ≤ n) (h6 : n ≤ 6) (hn : xs.length ≤ 100) (hN : N ≤ 100) :
    Calls Try.prog 42 #[v, .int .i64 (n : Int), .int .i64 (N : Int)] w (fun e w' => ∃ v, e = .returned v ∧ Coll (Plain.fillW (N - xs.length) xs) B w0 v w') := by
  obtain ⟨i0, hi0, hz0, hz1, hz2⟩ := info_parts infoInt
  obtain ⟨K, hK⟩ : ∃ K, K = N - xs.length := ⟨_, rfl⟩
  rw [← hK]
  have HKE := Lib.hid hK
  clear hK
  go_enter Try.func42, Try.ntmps42
  go_wp2_with fail
  go_loopg [0] K (fun g v wr => ∃ k, k + g = K ∧ Coll (Plain.fillW k xs) B w0 v wr)
  case atStart => exact ⟨0, by omega, hC.out⟩
  case round =>
    obtain ⟨k, hk, hrel⟩ := hrel
    have hK := HKE.out
    have hlen := Plain.fill_len k xs
    have HST := Lib.hid (Plain.fill_step k xs)
    have HLT := Lib.hid (Plain.letters_fill hl.out k)
    obtain ⟨L, hL⟩ : ∃ L, L = Plain.fillW k xs := ⟨_, rfl⟩
    rw [← hL] at hrel hlen HST HLT
    obtain ⟨va, vc, e1, hi, -, -⟩ := (coll_res hrel).1
    obtain ⟨M, hM⟩ : ∃ M, M = L.length := ⟨_, rfl⟩
    cases gk with
    | zero =>
      have HR : Hid (Coll (Plain.fillW K xs) B w0 _ wr) := Lib.hid (by obtain rfl : k = K := (by omega); rw [← hL]; exact hrel)
      rw [← hM] at e1 hlen
      subst e1
      have hnl : ¬ (M : Int) < (N : Int) := by omega
      clear hK hk hlen hrel hi hM hL HST HLT hC
      go_wp2_with fail
      go_ret
      exact ⟨_, rfl, HR.out⟩
    | succ g1 =>
      have HK := Lib.hid hrel
      have HG : Hid (∀ wy v', Coll (L ++ [Plain.firstL L]) B w0 v' wy → Coll (Plain.fillW (k + 1) xs) B w0 v' wy) := Lib.hid (fun wy v' hq => by rw [HST.out]; exact hq)
      have HHD := Lib.hid (Plain.behind_head h1 L)
      have hble := Plain.behind_le L (2 * n)
      rw [← hM] at e1 hlen
      subst e1
      have hM1 : M ≤ 200 := by omega
      have HM := Lib.hid hM
      have HMS := Lib.hid hM.symm
      have HI := Lib.hid hi
      have hlt : (M : Int) < (N : Int) := by omega
      have HKG := Lib.hid hk
      clear hK hk hlen
      obtain ⟨x, hx⟩ : ∃ x, x = Plain.firstL L := ⟨_, rfl⟩
      rw [← hx] at HG HHD
      clear HST hL hrel hi hM hC hx
      go_wp2_with fail
      refine (behindC_any va M vc L n _ HI HLT HMS (by omega) h6).mono ?_
      obtain ⟨ls, hls⟩ : ∃ ls, ls = Plain.behind L (2 * n) := ⟨_, rfl⟩
      rw [← hls] at HHD hble ⊢
      clear hls
      rintro e w2 ⟨v1, rfl, hC2⟩
      obtain ⟨la, lc, rfl, hil, -, -⟩ := (coll_res hC2).1
      obtain ⟨b, o, rfl, hc⟩ := hil 0 x HHD.out
      have hls0 : 0 < ls.length := at_lt HHD.out
      obtain ⟨J, hJ⟩ : ∃ J, J = ls.length := ⟨_, rfl⟩
      rw [← hJ] at hls0 hble ⊢
      rw [Nat.add_zero] at hc
      have hJ1 : (0 : Int) < (J : Int) := by omega
      have HK1 := Lib.hid (HK.out.later (coll_res hC2).2)
      clear hC2 hil hJ
      go_wp2_with (at_builtin; refine wpList_append_own_at _ rfl _ _ 47 rfl B 3 i0 (.int .i64 0) 1 8 Try.underlying47 hi0 hz0 hz1 hz2 rfl (by decide) _ _ _ rfl (HK1.out.1.alloc _) ⟨w2.heap.size, 0, none⟩ 1 1 [.int .i64 x] rfl rfl ?c1 ?c2 ?c3 ?c4 ?c5 ?_)
      case c1 => exact cell_one_new _ _ _
      case c2 => simp [Value.oneCell']
      case c3 => have := HM.out; unfold maxLen; omega
      case c4 => have := HM.out; omega
      case c5 => exact Nat.le_trans HK1.out.2.2 (by simp)
      intro v' w5 hown' hgrow _ hat
      have HR := Lib.hid (HG.out _ _ (coll_push HK1.out hown' hgrow))
      clear hown' hgrow hat
      go_wp2_with fail
      go_roundg g1
      case measure => omega
      case rel => exact ⟨k + 1, by have := HKG.out; omega, HR.out⟩

end Go.Proofs.Ythamckchfhddjaa
