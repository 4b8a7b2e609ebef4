/- Contracts: spec.l5Part, l5Has, l5Members, l5Made, l5Family, IsFamily, HasMember. Conditions: sets from 0 to 63, lengths that fit. -/
import Derived.Test.YtepmldbleconfaaFamKit
import Derived.Test.YtepmldbleconfaaFamMath
namespace Go.Proofs.Ytepmldbleconfaa
open Go.ChangeShapes Go.WideShapes Go.ChangeAt Go.RowKit
set_option linter.unusedVariables false

theorem l5Part_any (x : Int) (s : Nat) (w : World) (hx : 0 ≤ x ∧ x ≤ 63) (hs : s < 64) :
    Calls Try.prog 83 #[.int .i64 x, .int .i64 (s : Int)] w fun e w' => e = .returned (.bool (Plain.partB x s)) ∧ w' = w := by
  obtain ⟨h1, h2⟩ := Plain.nat_of hx
  obtain ⟨a, rfl⟩ : ∃ a : Nat, x = (a : Int) := ⟨x.toNat, h1.symm⟩
  simp only [Int.toNat_natCast] at h2
  have hand := and_small a s h2 hs
  have HP : Hid (Plain.partB (a : Int) s = (((a &&& s : Nat) : Int) == (a : Int))) := Lib.hid (by
    rw [Plain.partB, Int.toNat_natCast, Bool.eq_iff_iff]; simp; omega)
  rw [HP.out]
  clear hx h1 HP
  go_enter Try.func83, Try.ntmps83
  go_wp2_with fail
  go_ret
  exact ⟨rfl, rfl⟩
set_option maxHeartbeats 800000 in
theorem l5Has_any (a : Option Addr) (cap : Nat) (xs : List Int) (s : Nat) (w : World) (h : Hid (Ints w a xs)) (hx : Hid (Plain.setsB xs = true)) (hn : xs.length ≤ 9223372036854775807) (hs : s < 64) :
    Calls Try.prog 84 #[.agg #[.slice a xs.length cap], .int .i64 (s : Int)] w (Val (.bool (Plain.hasB xs s)) w) := by
  have hb0 := (Below.refl w.heap.size w).alloc (Nat.le_refl _) (.cells #[.slice a xs.length cap] 29)
  have H0 := Lib.hid (And.intro hb0 (And.intro (h.out.on hb0) (famAt_new w (.slice a xs.length cap)).cell))
  clear hb0
  go_enter Try.func84, Try.ntmps84
  go_wp2_with fail
  obtain ⟨W, hW⟩ : ∃ W, W = w.alloc (.cells #[.slice a xs.length cap] 29) := ⟨_, rfl⟩
  rw [← hW] at H0 ⊢
  clear hW
  have hcf := H0.out.2.2
  go_loop [5] (fun i => ∃ k : Nat, k ≤ xs.length ∧ i = .int .i64 (k : Int) ∧ ∀ (j : Nat) (x : Int), j < k → xs[j]? = some x → Plain.partB x s = false) (fun i => xs.length - (intOf i).toNat)
  case atStart => exact ⟨0, Nat.zero_le _, rfl, fun j x h => by omega⟩
  case round =>
    obtain ⟨k, hk, rfl, hrel⟩ := hrel
    have HA := Lib.hid hrel
    clear hrel
    by_cases hlt : k < xs.length
    · obtain ⟨x, hx0⟩ := at_some xs k hlt
      obtain ⟨b, o, rfl, hc⟩ := H0.out.2.1 k x hx0
      have HR := Lib.hid (Plain.setsB_at hx.out hx0)
      have HX := Lib.hid hx0
      have hi : (k : Int) < (xs.length : Int) := by omega
      have hi0 : (0 : Int) ≤ (k : Int) := by omega
      clear hx0
      go_wp2_with fail
      refine (l5Part_any x s _ HR.out hs).mono ?_
      cases hd : Plain.partB x s with
      | true =>
        have HE : Hid (Plain.hasB xs s = true) := Lib.hid (List.any_eq_true.2 ⟨x, List.mem_of_getElem? HX.out, hd⟩)
        clear hd
        rintro e w' ⟨rfl, rfl⟩
        go_wp2_with fail
        go_ret
        exact ⟨ret_bool HE.out.symm, H0.out.1⟩
      | false =>
        have HA2 : Hid (∀ (j : Nat) (y : Int), j < k + 1 → xs[j]? = some y → Plain.partB y s = false) := Lib.hid (fun j y hj hy => by
          by_cases e : j = k
          · subst e
            rw [HX.out] at hy
            cases hy
            exact hd
          · exact HA.out j y (by omega) hy)
        clear hd HA
        rintro e w' ⟨rfl, rfl⟩
        go_wp2_with fail
        go_round
        case rel => exact ⟨k + 1, by omega, by go_num, HA2.out⟩
        case measure => simp [intOf]; omega
    · obtain rfl : k = xs.length := by omega
      have HE : Hid (Plain.hasB xs s = false) := Lib.hid (by
        cases hh : Plain.hasB xs s with
        | false => rfl
        | true =>
          obtain ⟨x, hm, hp⟩ := List.any_eq_true.1 hh
          obtain ⟨j, hj⟩ := List.getElem?_of_mem hm
          rw [HA.out j x (at_lt hj) hj] at hp
          cases hp)
      clear HA
      go_wp2_with fail
      go_ret
      exact ⟨ret_bool HE.out.symm, H0.out.1⟩

/-- A table in making behind block B, the result's in front of it, a Family's variable below. -/
def Mem64 (w wr : World) (t u : Nat → Bool) (v : Value) : Prop := Tab wr (w.heap.size + 1 + 1) t ∧ Tab wr (w.heap.size + 1) u ∧ FamAt wr w.heap.size v ∧ Below w.heap.size w wr
theorem Mem64.later {w wr w1 : World} {t u : Nat → Bool} {v : Value} (h : Mem64 w wr t u v) (hb : Below wr.heap.size wr w1) : Mem64 w w1 t u v := ⟨h.1.on hb, h.2.1.on hb, h.2.2.1.on hb, h.2.2.2.trans (hb.mono h.2.2.2.size)⟩
theorem Mem64.set {w wr : World} {t u : Nat → Bool} {v : Value} {k : Nat} (h : Mem64 w wr (upTo t k) u v) (hk : k < 64) : Mem64 w (wr.setCell ⟨w.heap.size + 1 + 1, k, none⟩ (.bool (t k))) (upTo t (k + 1)) u v :=
  ⟨h.1.set hk, h.2.1.off (by omega), h.2.2.1.off (by omega), h.2.2.2.setCell (p := ⟨w.heap.size + 1 + 1, k, none⟩) (by simp; omega) _⟩
theorem mem64_start (w : World) (v : Value) : Mem64 w (((w.alloc (.cells #[v] 29)).alloc (.cells (bools fun _ => false) 50)).alloc (.cells (bools fun _ => false) 50)) (fun _ => false) (fun _ => false) v := by
  have hsz : (w.alloc (.cells #[v] 29)).heap.size = w.heap.size + 1 := by simp
  have h1 : Tab (((w.alloc (.cells #[v] 29)).alloc (.cells (bools fun _ => false) 50)).alloc (.cells (bools fun _ => false) 50)) ((w.alloc (.cells #[v] 29)).heap.size + 1) (fun _ => false) := heap_alloc2_new _ _ _
  have h2 : Tab (((w.alloc (.cells #[v] 29)).alloc (.cells (bools fun _ => false) 50)).alloc (.cells (bools fun _ => false) 50)) ((w.alloc (.cells #[v] 29)).heap.size) (fun _ => false) := heap_alloc2_old _ _ _
  rw [hsz] at h1 h2
  exact ⟨h1, h2, ((famAt_new w v).alloc _).alloc _, (((Below.refl _ w).alloc (Nat.le_refl _) _).alloc (by simp) _).alloc (by simp; omega) _⟩

theorem Mem64.row {w wr : World} {t u t' : Nat → Bool} {v : Value} (h : Mem64 w wr t u v) : Mem64 w (wr.setRow (w.heap.size + 1 + 1) (bools t')) t' u v :=
  ⟨tab_row h.1, h.2.1.other (by omega), (setRow_other wr (w.heap.size + 1 + 1) w.heap.size _ (by omega)).trans h.2.2.1, below_setRow h.2.2.2 (by omega) _⟩
set_option maxRecDepth 100000 in
set_option maxHeartbeats 800000 in
theorem l5Members_any (a : Option Addr) (cap : Nat) (xs : List Int) (w : World) (h : Hid (Ints w a xs)) (hx : Hid (Plain.setsB xs = true)) (hn : xs.length ≤ 9223372036854775807) :
    Calls Try.prog 48 #[.agg #[.slice a xs.length cap]] w (Val (.agg (bools (Plain.hasB xs))) w) := by
  have h0 := mem64_start w (.slice a xs.length cap)
  have h1 := h0.1
  unfold Tab at h1
  have HT0 := Lib.hid h1
  have H0 := Lib.hid (h0.row (t' := fun _ => false))
  clear h0 h1
  go_enter Try.func48, Try.ntmps48
  go_wp2_with (refine wpList_store_row rfl 50 _ _ rfl (w.heap.size + 1 + 1) (bools fun _ => false) rfl (by rw [bools_zero]; rfl) 50 (bools fun _ => false) (by rw [← bools_zero]; exact HT0.out) info64 rfl (bools_one _) ?_)
  rw [← bools_zero]
  obtain ⟨W, hW⟩ : ∃ W, W = ((((w.alloc (.cells #[.slice a xs.length cap] 29)).alloc (.cells (bools fun _ => false) 50)).alloc (.cells (bools fun _ => false) 50)).setRow (w.heap.size + 1 + 1) (bools fun _ => false)) := ⟨_, rfl⟩
  rw [← hW] at H0 ⊢
  clear hW
  go_loopw [4] (fun i wr => ∃ k : Nat, k ≤ 64 ∧ i = .int .i64 k ∧ Mem64 w wr (upTo (Plain.hasB xs) k) (fun _ => false) (.slice a xs.length cap)) (fun i _ => 64 - (intOf i).toNat)
  case atStart => exact ⟨0, Nat.zero_le _, rfl, by rw [upTo_zero]; exact H0.out⟩
  case round =>
    obtain ⟨k, hk, rfl, hrel⟩ := hrel
    by_cases hlt : k < 64
    · have HK := Lib.hid hrel
      have HI := Lib.hid (h.out.on (hrel.2.2.2))
      have hcf := hrel.2.2.1.cell
      have hi : (k : Int) < 64 := by omega
      have hi0 : (0 : Int) ≤ (k : Int) := by omega
      clear hrel
      go_wp2_with fail
      refine (l5Has_any a cap xs k _ HI hx hn hlt).mono ?_
      rintro e w1 ⟨rfl, hb⟩
      have H1 := Lib.hid (HK.out.later hb)
      have hc : w1.cell? ⟨w.heap.size + 1 + 1, k, none⟩ = some (.bool (upTo (Plain.hasB xs) k k)) := H1.out.1.cell hlt
      have hf : w1.frozen? ⟨w.heap.size + 1 + 1, k, none⟩ = false := H1.out.1.free k
      have H2 := Lib.hid (H1.out.set hlt)
      clear hb HK HI
      go_wp2_with fail
      go_roundw
      case rel => exact ⟨k + 1, by omega, by go_num, H2.out⟩
      case measure => simp [intOf]; omega
    · obtain rfl : k = 64 := by omega
      have T1 := hrel.1
      have T2 := hrel.2.1
      have HB := Lib.hid hrel.2.2.2
      rw [Tab, upTo_all] at T1
      have HT := Lib.hid T1
      have HT2 := Lib.hid T2
      have HF := Lib.hid (tab_row (t := Plain.hasB xs) T2)
      have HB2 := Lib.hid (below_setRow HB.out (Nat.le_succ _) (bools (Plain.hasB xs)))
      clear T1 T2 hrel
      go_wp2_with (first
        | (refine wpList_load_row rfl 50 _ rfl (w.heap.size + 1 + 1) rfl 50 (bools (Plain.hasB xs)) (0, 0) _ HT.out Try.underlying50 rfl info64 ?_)
        | (refine wpList_store_row rfl 50 _ _ rfl (w.heap.size + 1) (bools (Plain.hasB xs)) rfl rfl 50 _ HT2.out info64 rfl (bools_one _) ?_))
      exact bodyPost_ret (v := .agg (bools (Plain.hasB xs))) (results_cell_row rfl _ _ (w.heap.size + 1) 50 _ (0, 0) _ rfl HF.out Try.underlying50 rfl info64) rfl ⟨rfl, HB2.out⟩

end Go.Proofs.Ytepmldbleconfaa
