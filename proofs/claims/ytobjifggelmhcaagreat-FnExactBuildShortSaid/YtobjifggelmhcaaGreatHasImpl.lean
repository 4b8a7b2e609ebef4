/- Contracts: impl.isPart, the closure of Family.has, slices.IndexFunc and ContainsFunc at it, Family.has. Conditions: sets from 0 to 63, lengths that fit. -/
import Derived.Test.YtobjifggelmhcaaGreatFamKit
import Derived.Test.YtobjifggelmhcaaGreatFamMath
namespace Go.Proofs.YtobjifggelmhcaaGreat
open Go.ChangeShapes Go.WideShapes Go.ChangeAt Go.RowKit
set_option linter.unusedVariables false

theorem part_clr : ((List.range 64).all fun a => (List.range 64).all fun b => (Plain.clr a b == 0) == (a &&& b == a)) = true := by kernel_rfl
theorem partB_clr {a s : Nat} (ha : a < 64) (hs : s < 64) : Plain.partB (a : Int) s = (Plain.clr a s == 0) := by
  have h1 := List.all_eq_true.1 (List.all_eq_true.1 part_clr a (List.mem_range.2 ha)) s (List.mem_range.2 hs)
  rw [Plain.partB, Int.toNat_natCast]
  exact (by simpa using h1 : _ = _).symm
theorem isPart_any (x : Int) (s : Nat) (w : World) (hx : 0 ≤ x ∧ x ≤ 63) (hs : s < 64) :
    Calls Tryz.prog 75 #[.int .i64 x, .int .i64 (s : Int)] w fun e w' => e = .returned (.bool (Plain.partB x s)) ∧ w' = w := by
  obtain ⟨h1, h2⟩ := Plain.nat_of hx
  obtain ⟨a, rfl⟩ : ∃ a : Nat, x = (a : Int) := ⟨x.toNat, h1.symm⟩
  simp only [Int.toNat_natCast] at h2
  have hclr := clr_small h2 hs
  have HP := partB_clr h2 hs
  obtain ⟨c, hc⟩ : ∃ c, c = Plain.clr a s := ⟨_, rfl⟩
  rw [← hc] at hclr HP
  have HP2 : Hid (Plain.partB (a : Int) s = ((c : Int) == 0)) := Lib.hid (by rw [HP, Bool.eq_iff_iff]; simp)
  rw [HP2.out]
  clear hx h1 HP hc HP2
  go_enter Tryz.func75, Tryz.ntmps75
  go_wp2_with fail
  go_ret
  exact ⟨rfl, rfl⟩
theorem hasPart_any (x : Int) (s g : Nat) (w : World) (hx : 0 ≤ x ∧ x ≤ 63) (hs : s < 64) (hc : w.cell? ⟨g, 0, none⟩ = some (.int .i64 (s : Int))) :
    Calls Tryz.prog 74 #[.int .i64 x, .pointer (some ⟨g, 0, none⟩)] w fun e w' => e = .returned (.bool (Plain.partB x s)) ∧ w' = w := by
  have HX := Lib.hid hx
  clear hx
  go_enter Tryz.func74, Tryz.ntmps74
  go_wp2_with fail
  refine (isPart_any x s _ HX.out hs).mono ?_
  rintro e w' ⟨rfl, rfl⟩
  go_wp2_with fail
  go_ret
  exact ⟨rfl, rfl⟩
set_option maxHeartbeats 400000 in
theorem hasIndex_any (a : Option Addr) (cap : Nat) (xs : List Int) (s g : Nat) (w : World) (h : Hid (Ints w a xs)) (hl : Hid (Plain.setsB xs = true)) (hn : xs.length ≤ 9223372036854775807) (hs : s < 64) (hg : Hid (w.cell? ⟨g, 0, none⟩ = some (.int .i64 (s : Int)))) :
    Calls Tryz.prog 87 #[.slice a xs.length cap, .func (.func 74) #[] #[.pointer (some ⟨g, 0, none⟩)]] w fun e w' => (∃ i : Int, e = .returned (.int .i64 i) ∧ decide (0 ≤ i) = Plain.hasB xs s) ∧ w' = w := by
  go_enter Tryz.func87, Tryz.ntmps87
  go_wp2_with fail
  go_loop [5, 8] (fun _ i => ∃ k : Nat, k ≤ xs.length ∧ i = .int .i64 k ∧ ∀ (j : Nat) (x : Int), j < k → xs[j]? = some x → Plain.partB x s = false) (fun _ i => xs.length - (intOf i).toNat)
  case atStart => exact ⟨0, Nat.zero_le _, rfl, fun j x h => by omega⟩
  case round =>
    obtain ⟨k, hk, rfl, hno⟩ := hrel
    have HA := Lib.hid hno
    clear hno
    by_cases hlt : k < xs.length
    · obtain ⟨x, hx⟩ := at_some xs k hlt
      obtain ⟨b, o, rfl, hc⟩ := h.out k x hx
      have HX := Lib.hid hx
      have HR := Lib.hid (Plain.setsB_at hl.out hx)
      have hi : (k : Int) < (xs.length : Int) := by omega
      have hi0 : (0 : Int) ≤ (k : Int) := by omega
      clear hx
      go_wp2_with fail
      refine (hasPart_any x s g _ HR.out hs hg.out).mono ?_
      cases hd : Plain.partB x s with
      | true =>
        have HE : Hid (Plain.hasB xs s = true) := Lib.hid (List.any_eq_true.2 ⟨x, List.mem_of_getElem? HX.out, hd⟩)
        clear hd
        rintro e w' ⟨rfl, rfl⟩
        go_wp2_with fail
        go_ret
        exact ⟨⟨(k : Int), rfl, by rw [HE.out]; simp⟩, rfl⟩
      | false =>
        have HA2 : Hid (∀ (j : Nat) (y : Int), j < k + 1 → xs[j]? = some y → Plain.partB y s = false) := Lib.hid (fun j y hj hy => by
          by_cases e : j = k
          · subst e
            rw [HX.out] at hy
            cases hy
            exact hd
          · exact HA.out j y (by omega) hy)
        clear hd HA
        rintro e w' ⟨rfl, rfl⟩
        go_wp2_with fail
        go_round
        case rel => exact ⟨k + 1, by omega, by go_num, HA2.out⟩
        case measure => simp [intOf]; omega
    · obtain rfl : k = xs.length := by omega
      have HE : Hid (Plain.hasB xs s = false) := Lib.hid (by
        cases hh : Plain.hasB xs s with
        | false => rfl
        | true =>
          obtain ⟨x, hm, hp⟩ := List.any_eq_true.1 hh
          obtain ⟨j, hj⟩ := List.getElem?_of_mem hm
          rw [HA.out j x (at_lt hj) hj] at hp
          cases hp)
      clear HA
      go_wp2_with fail
      go_ret
      exact ⟨⟨-1, rfl, by rw [HE.out]; simp⟩, rfl⟩
theorem hasAny_any (a : Option Addr) (cap : Nat) (xs : List Int) (s g : Nat) (w : World) (h : Hid (Ints w a xs)) (hl : Hid (Plain.setsB xs = true)) (hn : xs.length ≤ 9223372036854775807) (hs : s < 64) (hg : Hid (w.cell? ⟨g, 0, none⟩ = some (.int .i64 (s : Int)))) :
    Calls Tryz.prog 73 #[.slice a xs.length cap, .func (.func 74) #[] #[.pointer (some ⟨g, 0, none⟩)]] w fun e w' => e = .returned (.bool (Plain.hasB xs s)) ∧ w' = w := by
  go_enter Tryz.func73, Tryz.ntmps73
  go_wp2_with fail
  refine (hasIndex_any a cap xs s g _ h hl hn hs hg).mono ?_
  rintro e w' ⟨⟨i, rfl, hi⟩, rfl⟩
  have HI := Lib.hid hi
  clear hi
  go_wp2_with fail
  go_ret
  exact ⟨ret_bool HI.out, rfl⟩
theorem has_any (a : Option Addr) (cap : Nat) (xs : List Int) (s : Nat) (w : World) (h : Hid (Ints w a xs)) (hl : Hid (Plain.setsB xs = true)) (hn : xs.length ≤ 9223372036854775807) (hs : s < 64) :
    Calls Tryz.prog 54 #[.agg #[.slice a xs.length cap], .int .i64 (s : Int)] w (Val (.bool (Plain.hasB xs s)) w) := by
  have hb0 := ((Below.refl w.heap.size w).alloc (Nat.le_refl _) (.cells #[.slice a xs.length cap] 28)).alloc (by simp) (.cells #[.int .i64 (s : Int)] 3)
  have hcg : ((w.alloc (.cells #[.slice a xs.length cap] 28)).alloc (.cells #[.int .i64 (s : Int)] 3)).cell? ⟨w.heap.size + 1, 0, none⟩ = some (.int .i64 (s : Int)) := by
    have h2 := heap_alloc2_new w (.cells #[.slice a xs.length cap] 28) (.cells #[.int .i64 (s : Int)] 3)
    rw [cell_of_row _ _ 0 _ _ _ h2]
    rfl
  have H0 := Lib.hid (And.intro hb0 (And.intro (h.out.on hb0) hcg))
  clear hb0 hcg
  go_enter Tryz.func54, Tryz.ntmps54
  go_wp2_with fail
  refine (hasAny_any a cap xs s _ _ (Lib.hid H0.out.2.1) hl hn hs (Lib.hid H0.out.2.2)).mono ?_
  rintro e w' ⟨rfl, rfl⟩
  go_wp2_with fail
  go_ret
  exact ⟨rfl, H0.out.1⟩

end Go.Proofs.YtobjifggelmhcaaGreat
