/- Contracts: spec.l5Part, l5Has, l5Members, l5Made, l5Family, IsFamily, HasMember. Contracts: spec.l5Family, IsFamily, HasMember. What the functions share that fill a table of 64 reports and hand back the Family of its least members. Conditions: sets from 0 to 63, lengths that fit; numbers of 64 bits, lengths that fit. -/
import Derived.Test.YtobjifggelmhcaaGreatFamKit
import Derived.Test.YtobjifggelmhcaaGreatFamMath
namespace Go.Proofs.YtobjifggelmhcaaGreat
open Go.ChangeShapes Go.WideShapes Go.ChangeAt Go.RowKit
set_option linter.unusedVariables false

theorem l5Part_any (x : Int) (s : Nat) (w : World) (hx : 0 ≤ x ∧ x ≤ 63) (hs : s < 64) :
    Calls Tryz.prog 30 #[.int .i64 x, .int .i64 (s : Int)] w fun e w' => e = .returned (.bool (Plain.partB x s)) ∧ w' = w := by
  obtain ⟨h1, h2⟩ := Plain.nat_of hx
  obtain ⟨a, rfl⟩ : ∃ a : Nat, x = (a : Int) := ⟨x.toNat, h1.symm⟩
  simp only [Int.toNat_natCast] at h2
  have hand := and_small a s h2 hs
  have HP : Hid (Plain.partB (a : Int) s = (((a &&& s : Nat) : Int) == (a : Int))) := Lib.hid (by
    rw [Plain.partB, Int.toNat_natCast, Bool.eq_iff_iff]; simp; omega)
  rw [HP.out]
  clear hx h1 HP
  go_enter Tryz.func30, Tryz.ntmps30
  go_wp2_with fail
  go_ret
  exact ⟨rfl, rfl⟩

/-- A table in making behind block B, the result's in front of it, a Family's variable below. -/
def Mem64 (w wr : World) (t u : Nat → Bool) (v : Value) : Prop := Tab wr (w.heap.size + 1 + 1) t ∧ Tab wr (w.heap.size + 1) u ∧ FamAt wr w.heap.size v ∧ Below w.heap.size w wr
theorem Mem64.later {w wr w1 : World} {t u : Nat → Bool} {v : Value} (h : Mem64 w wr t u v) (hb : Below wr.heap.size wr w1) : Mem64 w w1 t u v := ⟨h.1.on hb, h.2.1.on hb, h.2.2.1.on hb, h.2.2.2.trans (hb.mono h.2.2.2.size)⟩
theorem Mem64.set {w wr : World} {t u : Nat → Bool} {v : Value} {k : Nat} (h : Mem64 w wr (upTo t k) u v) (hk : k < 64) : Mem64 w (wr.setCell ⟨w.heap.size + 1 + 1, k, none⟩ (.bool (t k))) (upTo t (k + 1)) u v :=
  ⟨h.1.set hk, h.2.1.off (by omega), h.2.2.1.off (by omega), h.2.2.2.setCell (p := ⟨w.heap.size + 1 + 1, k, none⟩) (by simp; omega) _⟩
theorem mem64_start (w : World) (v : Value) : Mem64 w (((w.alloc (.cells #[v] 28)).alloc (.cells (bools fun _ => false) 56)).alloc (.cells (bools fun _ => false) 56)) (fun _ => false) (fun _ => false) v := by
  have hsz : (w.alloc (.cells #[v] 28)).heap.size = w.heap.size + 1 := by simp
  have h1 : Tab (((w.alloc (.cells #[v] 28)).alloc (.cells (bools fun _ => false) 56)).alloc (.cells (bools fun _ => false) 56)) ((w.alloc (.cells #[v] 28)).heap.size + 1) (fun _ => false) := heap_alloc2_new _ _ _
  have h2 : Tab (((w.alloc (.cells #[v] 28)).alloc (.cells (bools fun _ => false) 56)).alloc (.cells (bools fun _ => false) 56)) ((w.alloc (.cells #[v] 28)).heap.size) (fun _ => false) := heap_alloc2_old _ _ _
  rw [hsz] at h1 h2
  exact ⟨h1, h2, ((famAt_new w v).alloc _).alloc _, (((Below.refl _ w).alloc (Nat.le_refl _) _).alloc (by simp) _).alloc (by simp; omega) _⟩

theorem Mem64.row {w wr : World} {t u t' : Nat → Bool} {v : Value} (h : Mem64 w wr t u v) : Mem64 w (wr.setRow (w.heap.size + 1 + 1) (bools t')) t' u v :=
  ⟨tab_row h.1, h.2.1.other (by omega), (setRow_other wr (w.heap.size + 1 + 1) w.heap.size _ (by omega)).trans h.2.2.1, below_setRow h.2.2.2 (by omega) _⟩

end Go.Proofs.YtobjifggelmhcaaGreat

namespace Go.Proofs.YtobjifggelmhcaaGreat
open Go.ChangeShapes Go.WideShapes Go.ChangeAt Go.RowKit
set_option linter.unusedVariables false

theorem below_ofDrew {B : Nat} {w W wr : World} {n : Nat} (e : wr = W.drewN n) (h : Below B w W) (m : Nat) : Below B w (wr.drewN m) := by subst e; exact below_drewN (below_drewN h n) m
theorem drew_of {W wr : World} {n : Nat} (e : wr = W.drewN n) (m : Nat) : ∃ k, wr.drewN m = W.drewN k := by subst e; exact ⟨n + m, World.drewN_drewN _ _ _⟩
theorem isSet_setB (x : Int) : Plain.isSet x = setB x := rfl
theorem set_range {x : Int} (h : setB x = true) : 0 ≤ x ∧ x ≤ 63 := by simpa [setB] using h
/-- The first k of a list are sets, ascend, and none of them is a part of another one. -/
def FamUpto (xs : List Int) (k : Nat) : Prop :=
  (∀ (j : Nat) (x : Int), j < k → xs[j]? = some x → Plain.isSet x = true) ∧ (∀ (j : Nat) (x y : Int), j + 1 < k → xs[j]? = some x → xs[j + 1]? = some y → x < y) ∧
  ∀ (i j : Nat) (x y : Int), i < j → j < k → xs[i]? = some x → xs[j]? = some y → Plain.partB x y.toNat = false
theorem famUpto_zero (xs : List Int) : FamUpto xs 0 := ⟨fun j x h => by omega, fun j x y h => by omega, fun i j x y _ h => by omega⟩
theorem famUpto_all {xs : List Int} (h : FamUpto xs xs.length) : Plain.famB xs = true :=
  Plain.fam_good (Plain.setsB_good fun i x hx => h.1 i x (at_lt hx) hx) (fun i x y hx hy => h.2.1 i x y (at_lt hy) hx hy) (fun i j x y hij hx hy => h.2.2 i j x y hij (at_lt hy) hx hy)
theorem famUpto_step {xs : List Int} {k : Nat} {x : Int} (h : FamUpto xs k) (hx : xs[k]? = some x) (hs : Plain.isSet x = true) (ho : ∀ (j : Nat) (y : Int), j + 1 = k → xs[j]? = some y → y < x)
    (hp : ∀ (j : Nat) (y : Int), j < k → xs[j]? = some y → Plain.partB y x.toNat = false) : FamUpto xs (k + 1) := by
  refine ⟨fun j y hj hy => ?_, fun j y z hj hy hz => ?_, fun i j y z hij hj hy hz => ?_⟩
  · by_cases e : j = k
    · subst e; rw [hx] at hy; cases hy; exact hs
    · exact h.1 j y (by omega) hy
  · by_cases e : j + 1 = k
    · rw [e, hx] at hz; cases hz; exact ho j y e hy
    · exact h.2.1 j y z (by omega) hy hz
  · by_cases e : j = k
    · subst e; rw [hx] at hz; cases hz; exact hp i y hij hy
    · exact h.2.2 i j y z hij (by omega) hy hz

set_option maxRecDepth 100000 in
set_option maxHeartbeats 2000000 in
theorem l5Family_any (a : Option Addr) (cap : Nat) (xs : List Int) (w : World) (h : Hid (Ints w a xs)) (h64 : Hid (In64 xs)) (hn : xs.length ≤ 1048576) :
    Calls Tryz.prog 17 #[.agg #[.slice a xs.length cap]] w (Val (.bool (Plain.famB xs)) w) := by
  have hb0 := (Below.refl w.heap.size w).alloc (Nat.le_refl _) (.cells #[.slice a xs.length cap] 28)
  have H0 := Lib.hid (And.intro hb0 (And.intro (h.out.on hb0) (famAt_new w (.slice a xs.length cap)).cell))
  clear hb0
  go_enter Tryz.func17, Tryz.ntmps17
  go_wp2_with fail
  obtain ⟨W, hW⟩ : ∃ W, W = w.alloc (.cells #[.slice a xs.length cap] 28) := ⟨_, rfl⟩
  rw [← hW] at H0 ⊢
  clear hW
  go_loopw [3, 4] (fun i m wr => ∃ k : Nat, k ≤ xs.length ∧ i = .int .i64 (k : Int) ∧ FamUpto xs k ∧ ∃ n, wr = W.drewN n) (fun i _ _ => xs.length - (intOf i).toNat)
  case atStart => exact ⟨0, Nat.zero_le _, rfl, famUpto_zero xs, 0, rfl⟩
  case round =>
    obtain ⟨k, hk, rfl, hup, n, hwr⟩ := hrel
    have HU := Lib.hid hup
    have HW := Lib.hid hwr
    have hcf : wr.cell? ⟨w.heap.size, 0, none⟩ = some (.slice a xs.length cap) := by rw [hwr]; exact H0.out.2.2
    clear hup hwr
    by_cases hlt : k < xs.length
    · obtain ⟨x, hx0⟩ := at_some xs k hlt
      obtain ⟨b, o, rfl, hc0⟩ := H0.out.2.1 k x hx0
      have hc : wr.cell? ⟨b, o + k, none⟩ = some (.int .i64 x) := by rw [HW.out]; exact hc0
      have HR := Lib.hid (h64.out k x hx0)
      have HX := Lib.hid hx0
      have hi : (k : Int) < (xs.length : Int) := by omega
      have hi0 : (0 : Int) ≤ (k : Int) := by omega
      clear hx0 hc0
      cases hs : setB x with
      | false =>
        have HE : Hid (Plain.famB xs = false) := Lib.hid (Plain.fam_bad_set HX.out hs)
        have HS := Lib.hid hs
        clear hs
        go_wp2_with fail
        go_quiet (first | (go_at_call 29; exact Calls.quiet_of_same ((l3Set_any x _ HR.out).mono fun _ _ h => ⟨by rw [h.1, HS.out], h.2.symm⟩)))
        go_wp2_with fail
        go_ret
        exact ⟨ret_bool HE.out.symm, below_ofDrew HW.out H0.out.1 _⟩
      | true =>
        have HS := Lib.hid hs
        have hx63 := set_range hs
        have hord : (k = 0) ∨ ∃ (y : Int), 0 < k ∧ xs[k - 1]? = some y := by
          by_cases e : k = 0
          · exact .inl e
          · obtain ⟨y, hy⟩ := at_some xs (k - 1) (by omega)
            exact .inr ⟨y, by omega, hy⟩
        clear hs
        rcases hord with rfl | ⟨y, hk0, hy0⟩
        · have HO : Hid (∀ (j : Nat) (y : Int), j + 1 = 0 → xs[j]? = some y → y < x) := Lib.hid (fun j y h => by omega)
          rw [Nat.add_zero] at hc
          go_wp2_with fail
          go_quiet (first | (go_at_call 29; exact Calls.quiet_of_same ((l3Set_any x _ HR.out).mono fun _ _ h => ⟨by rw [h.1, HS.out], h.2.symm⟩)))
          go_wp2_with fail
          go_loopw [4] (fun m wr => ∃ q : Nat, q ≤ 0 ∧ m = .int .i64 (q : Int) ∧ (∀ (j : Nat) (y : Int), j < q → xs[j]? = some y → Plain.partB y x.toNat = false) ∧ ∃ n, wr = W.drewN n) (fun m _ => 0 - (intOf m).toNat)
          case atStart => exact ⟨0, Nat.zero_le _, rfl, fun j y h => by omega, drew_of HW.out _⟩
          case round =>
            obtain ⟨q, hq, rfl, hno, n2, hwq⟩ := hrel
            have HNO := Lib.hid hno
            have HW2 := Lib.hid hwq
            have hcf2 : wr.cell? ⟨w.heap.size, 0, none⟩ = some (.slice (some ⟨b, o, none⟩) xs.length cap) := by rw [hwq]; exact H0.out.2.2
            clear hno hwq
            by_cases hlt2 : q < 0
            · exact absurd hlt2 (Nat.not_lt_zero _)
            · obtain rfl : q = 0 := by omega
              have HU2 := Lib.hid (famUpto_step HU.out HX.out HS.out HO.out HNO.out)
              go_wp2_with fail
              go_roundw
              case rel => exact ⟨0 + 1, by omega, by go_num, HU2.out, n2, HW2.out⟩
              case measure => simp [intOf]; omega
        · have hc1 : wr.cell? ⟨b, o + (k - 1), none⟩ = some (.int .i64 y) := by
            obtain ⟨b', o', e, hc'⟩ := H0.out.2.1 (k - 1) y hy0
            simp only [Option.some.injEq, Addr.mk.injEq, and_true] at e
            obtain ⟨rfl, rfl⟩ := e
            rw [HW.out]; exact hc'
          obtain ⟨p, rfl⟩ : ∃ p, k = p + 1 := ⟨k - 1, by omega⟩
          simp only [Nat.add_sub_cancel] at hy0 hc1
          have hcp : ((p + 1 : Nat) : Int) - 1 = (p : Int) := by omega
          have hk1 : (0 : Int) < ((p + 1 : Nat) : Int) := by omega
          have hp0 : (0 : Int) ≤ (p : Int) := by omega
          have hp1 : (p : Int) < (xs.length : Int) := by omega
          have HY := Lib.hid hy0
          clear hy0
          by_cases hle : x ≤ y
          · have HE : Hid (Plain.famB xs = false) := Lib.hid (Plain.fam_bad_order HY.out HX.out hle)
            have hd : decide (x ≤ y) = true := by simpa using hle
            go_wp2_with fail
            go_quiet (first | (go_at_call 29; exact Calls.quiet_of_same ((l3Set_any x _ HR.out).mono fun _ _ h => ⟨by rw [h.1, HS.out], h.2.symm⟩)))
            go_wp2_with fail
            go_ret
            exact ⟨ret_bool HE.out.symm, below_ofDrew HW.out H0.out.1 _⟩
          · have HO : Hid (∀ (j : Nat) (z : Int), j + 1 = p + 1 → xs[j]? = some z → z < x) := Lib.hid (fun j z h hz => by
              obtain rfl : j = p := by omega
              rw [HY.out] at hz
              cases hz
              omega)
            have hd : decide (x ≤ y) = false := by simpa using hle
            clear hle
            go_wp2_with fail
            go_quiet (first | (go_at_call 29; exact Calls.quiet_of_same ((l3Set_any x _ HR.out).mono fun _ _ h => ⟨by rw [h.1, HS.out], h.2.symm⟩)))
            go_wp2_with fail
            go_loopw [4] (fun m wr => ∃ q : Nat, q ≤ (p + 1) ∧ m = .int .i64 (q : Int) ∧ (∀ (j : Nat) (y : Int), j < q → xs[j]? = some y → Plain.partB y x.toNat = false) ∧ ∃ n, wr = W.drewN n) (fun m _ => (p + 1) - (intOf m).toNat)
            case atStart => exact ⟨0, Nat.zero_le _, rfl, fun j y h => by omega, drew_of HW.out _⟩
            case round =>
              obtain ⟨q, hq, rfl, hno, n2, hwq⟩ := hrel
              have HNO := Lib.hid hno
              have HW2 := Lib.hid hwq
              have hcf2 : wr.cell? ⟨w.heap.size, 0, none⟩ = some (.slice (some ⟨b, o, none⟩) xs.length cap) := by rw [hwq]; exact H0.out.2.2
              clear hno hwq
              by_cases hlt2 : q < (p + 1)
              · obtain ⟨z, hz0⟩ := at_some xs q (by omega)
                have hc2 : wr.cell? ⟨b, o + q, none⟩ = some (.int .i64 z) := by
                  obtain ⟨b', o', e, hc'⟩ := H0.out.2.1 q z hz0
                  simp only [Option.some.injEq, Addr.mk.injEq, and_true] at e
                  obtain ⟨rfl, rfl⟩ := e
                  rw [HW2.out]; exact hc'
                have hc3 : wr.cell? ⟨b, o + (p + 1), none⟩ = some (.int .i64 x) := by
                  rw [HW2.out, ← hc, HW.out]; rfl
                have HZ := Lib.hid hz0
                have HZR : Hid (0 ≤ z ∧ z ≤ 63) := Lib.hid (by have := HU.out.1 q z hlt2 hz0; simpa [Plain.isSet] using this)
                obtain ⟨X, rfl, hX64⟩ := set_nat HS.out
                have hq0 : (0 : Int) ≤ (q : Int) := by omega
                have hq1 : (q : Int) < (xs.length : Int) := by omega
                have hq2 : (q : Int) < ((p + 1 : Nat) : Int) := by omega
                clear hz0
                cases hp : Plain.partB z X with
                | true =>
                  have HE : Hid (Plain.famB xs = false) := Lib.hid (Plain.fam_bad_part hlt2 HZ.out HX.out (by simpa using hp))
                  have HP := Lib.hid hp
                  clear hp
                  go_wp2_with fail
                  go_quiet (first | (go_at_call 30; exact Calls.quiet_of_same ((l5Part_any z X _ HZR.out hX64).mono fun _ _ h => ⟨by rw [h.1, HP.out], h.2⟩)))
                  go_wp2_with fail
                  go_ret
                  exact ⟨ret_bool HE.out.symm, below_ofDrew HW2.out H0.out.1 _⟩
                | false =>
                  have HN2 : Hid (∀ (j : Nat) (y : Int), j < q + 1 → xs[j]? = some y → Plain.partB y (X : Int).toNat = false) := Lib.hid (fun j y hj hy => by
                    by_cases e : j = q
                    · subst e
                      rw [HZ.out] at hy
                      cases hy
                      simpa using hp
                    · exact HNO.out j y (by omega) hy)
                  have HP := Lib.hid hp
                  clear hp
                  go_wp2_with fail
                  go_quiet (first | (go_at_call 30; exact Calls.quiet_of_same ((l5Part_any z X _ HZR.out hX64).mono fun _ _ h => ⟨by rw [h.1, HP.out], h.2⟩)))
                  go_wp2_with fail
                  go_roundw
                  case rel => exact ⟨q + 1, by omega, by go_num, HN2.out, drew_of HW2.out _⟩
                  case measure => simp [intOf]; omega
              · obtain rfl : q = (p + 1) := by omega
                have HU2 := Lib.hid (famUpto_step HU.out HX.out HS.out HO.out HNO.out)
                go_wp2_with fail
                go_roundw
                case rel => exact ⟨(p + 1) + 1, by omega, by go_num, HU2.out, n2, HW2.out⟩
                case measure => simp [intOf]; omega
    · obtain rfl : k = xs.length := by omega
      have HE : Hid (Plain.famB xs = true) := Lib.hid (famUpto_all HU.out)
      go_wp2_with fail
      go_ret
      exact ⟨ret_bool HE.out.symm, below_ofDrew HW.out H0.out.1 0⟩

end Go.Proofs.YtobjifggelmhcaaGreat

namespace Go.Proofs.YtobjifggelmhcaaGreat
open Go.ChangeShapes Go.WideShapes Go.ChangeAt Go.RowKit
set_option linter.unusedVariables false

/-- A table in the block that lay next, in making. -/
def TabOn (wb wr : World) (t : Nat → Bool) : Prop := Tab wr wb.heap.size t ∧ Below wb.heap.size wb wr
theorem TabOn.later {wb wr w1 : World} {t : Nat → Bool} (h : TabOn wb wr t) (hb : Below wr.heap.size wr w1) : TabOn wb w1 t := ⟨h.1.on hb, h.2.trans (hb.mono h.2.size)⟩
theorem TabOn.set {wb wr : World} {t : Nat → Bool} {k : Nat} (h : TabOn wb wr (upTo t k)) (hk : k < 64) : TabOn wb (wr.setCell ⟨wb.heap.size, k, none⟩ (.bool (t k))) (upTo t (k + 1)) := ⟨h.1.set hk, h.2.setCell (p := ⟨wb.heap.size, k, none⟩) (Nat.le_refl _) _⟩
theorem tabOn_start (wb : World) : TabOn wb ((wb.alloc (.cells (bools fun _ => false) 56)).setRow wb.heap.size (bools fun _ => false)) (fun _ => false) :=
  ⟨tab_row (tab_new wb _), below_setRow ((Below.refl _ _).alloc (Nat.le_refl _) _) (Nat.le_refl _) _⟩
/-- A Family's result and a report, both zero. -/
theorem fb_nil {w w' : World} (h : Below w.heap.size w w') : FB [] false w (.returned (.tuple #[.agg #[.slice none 0 0], .bool false])) w' :=
  ⟨none, 0, rfl, Ints.nil _ _, .inl rfl, ⟨Nat.le_refl _, by simp, fun _ => rfl, fun x h => by cases h⟩, h⟩
/-- A Family that came back behind block B is stored in a variable below it. -/
theorem fam_stored {w W w1 : World} {B G : Nat} {u : Value} {a : Option Addr} {c : Nat} {out : List Int} (hW : Below w.heap.size w W) (hG : w.heap.size ≤ G) (hGB : G < B) (hB : B ≤ W.heap.size) (hf : FamAt W G u)
    (hi : Ints w1 a out) (ho : Own B w1 a out.length) (hc : Cap a out.length c) (hb : Below W.heap.size W w1) :
    FamAt (w1.setCell ⟨G, 0, none⟩ (.slice a out.length c)) G (.slice a out.length c) ∧ FB out true w (.returned (.tuple #[.agg #[.slice a out.length c], .bool true])) (w1.setCell ⟨G, 0, none⟩ (.slice a out.length c)) := by
  have s1 := set_low (G := G) (i := 0) (v := .slice a out.length c) hi ho hGB
  exact ⟨(hf.on hb).set _, a, c, rfl, s1.1, s1.2.mono (by omega), hc, (hW.trans (hb.mono hW.size)).setCell (p := ⟨G, 0, none⟩) hG _⟩
theorem fam_stored1 {w W w1 : World} {B G : Nat} {u : Value} {a : Option Addr} {c : Nat} {out : List Int} (hW : Below w.heap.size w W) (hG : w.heap.size ≤ G) (hGB : G < B) (hB : B ≤ W.heap.size) (hf : FamAt W G u)
    (hi : Ints w1 a out) (ho : Own B w1 a out.length) (hc : Cap a out.length c) (hb : Below W.heap.size W w1) :
    FamAt (w1.setCell ⟨G, 0, none⟩ (.slice a out.length c)) G (.slice a out.length c) ∧ FamPost out w (.returned (.agg #[.slice a out.length c])) (w1.setCell ⟨G, 0, none⟩ (.slice a out.length c)) := by
  have s1 := set_low (G := G) (i := 0) (v := .slice a out.length c) hi ho hGB
  exact ⟨(hf.on hb).set _, a, c, rfl, s1.1, s1.2.mono (by omega), hc, (hW.trans (hb.mono hW.size)).setCell (p := ⟨G, 0, none⟩) hG _⟩
theorem numsB_range {n : Int} {a b : Int} (h : decide (a ≤ n ∧ n ≤ b) = true) : a ≤ n ∧ n ≤ b := by simpa using h
theorem heap2 (w : World) (o p : Obj) : ((w.alloc o).alloc p).heap.size = w.heap.size + 2 := by simp
theorem heap3 (w : World) (o p q : Obj) : (((w.alloc o).alloc p).alloc q).heap.size = w.heap.size + 3 := by simp
/-- A Family's variable, and a result's behind it. -/
theorem box_result (w : World) (v : Value) : FamAt ((w.alloc (.cells #[v] 28)).alloc (.cells #[.slice none 0 0] 28)) w.heap.size v ∧ FamAt ((w.alloc (.cells #[v] 28)).alloc (.cells #[.slice none 0 0] 28)) (w.heap.size + 1) (.slice none 0 0) ∧
    Below w.heap.size w ((w.alloc (.cells #[v] 28)).alloc (.cells #[.slice none 0 0] 28)) ∧ ((w.alloc (.cells #[v] 28)).alloc (.cells #[.slice none 0 0] 28)).heap.size = w.heap.size + 2 := by
  have h1 := famAt_new (w.alloc (.cells #[v] 28)) (.slice none 0 0)
  rw [show (w.alloc (.cells #[v] 28)).heap.size = w.heap.size + 1 by simp] at h1
  exact ⟨(famAt_new w v).alloc _, h1, ((Below.refl _ _).alloc (Nat.le_refl _) _).alloc (by simp) _, by simp⟩
/-- Two Families' variables, and a result's behind them. -/
theorem box2_result (w : World) (v u : Value) : FamAt (((w.alloc (.cells #[v] 28)).alloc (.cells #[u] 28)).alloc (.cells #[.slice none 0 0] 28)) w.heap.size v ∧ FamAt (((w.alloc (.cells #[v] 28)).alloc (.cells #[u] 28)).alloc (.cells #[.slice none 0 0] 28)) (w.heap.size + 1) u ∧
    FamAt (((w.alloc (.cells #[v] 28)).alloc (.cells #[u] 28)).alloc (.cells #[.slice none 0 0] 28)) (w.heap.size + 1 + 1) (.slice none 0 0) ∧
    Below w.heap.size w (((w.alloc (.cells #[v] 28)).alloc (.cells #[u] 28)).alloc (.cells #[.slice none 0 0] 28)) ∧ (((w.alloc (.cells #[v] 28)).alloc (.cells #[u] 28)).alloc (.cells #[.slice none 0 0] 28)).heap.size = w.heap.size + 3 := by
  have h1 := famAt_new (w.alloc (.cells #[v] 28)) u
  rw [show (w.alloc (.cells #[v] 28)).heap.size = w.heap.size + 1 by simp] at h1
  have h2 := famAt_new ((w.alloc (.cells #[v] 28)).alloc (.cells #[u] 28)) (.slice none 0 0)
  rw [show ((w.alloc (.cells #[v] 28)).alloc (.cells #[u] 28)).heap.size = w.heap.size + 1 + 1 by simp] at h2
  exact ⟨((famAt_new w v).alloc _).alloc _, h1.alloc _, h2, (((Below.refl _ _).alloc (Nat.le_refl _) _).alloc (by simp) _).alloc (by simp; omega) _, by simp⟩
theorem results_fam2 {fn : Func} {p q : Tmp} (h : fn.results = #[.cell p 28, .tmp q]) (tmps : Array Value) (w : World) (g : Nat) (u b : Value) (hp : tmps.getD p undef = .pointer (some ⟨g, 0, none⟩)) (hq : tmps.getD q undef = b) (hg : FamAt w g u) :
    (results fn tmps).run Tryz.prog w = .ok (.tuple #[.agg #[u], b]) w := by
  rw [← hq]
  exact results_tab2 h tmps w g #[u] hp (fam_load hg)
/-- A whole Family loaded from its variable. -/
theorem wpList_load_fam {ops : Array Oper} {rest : List Oper} {o : Oper} {a : Act} {w : World} {Q : Exit → Act → World → Prop} (hgd : o.guard = none) (x : Operand) (ho : o.op = .load 28 x)
    (g : Nat) (hx : a.eval x = .pointer (some ⟨g, 0, none⟩)) (u : Value) (hg : FamAt w g u) (h : wpList Tryz.prog ops Q rest (a.put o.dst (.agg #[u])) w) : wpList Tryz.prog ops Q (o :: rest) a w :=
  wpList_load_row hgd 28 x ho g hx 28 #[u] (0, 0) _ hg Tryz.underlying28 rfl infoFam h

end Go.Proofs.YtobjifggelmhcaaGreat
