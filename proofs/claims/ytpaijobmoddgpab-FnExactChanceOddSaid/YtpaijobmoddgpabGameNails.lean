/- Contracts: impl's position.nailsIn, position.safeNails. Conditions: sets from 0 to 63. -/
import Derived.Test.YtpaijobmoddgpabGameKit
import Derived.Test.YtpaijobmoddgpabDelI
import Derived.Deep.Onto
namespace Go.Proofs.Ytpaijobmoddgpab
open Go.ChangeShapes Go.WideShapes Go.ChangeAt Go.RowKit
set_option linter.unusedVariables false

def nailZ (l : List Nat) : List Int := l.map fun p : Nat => (p : Int) + 1
def passN (t : Nat → Bool) (m s p : Nat) : Bool := !t s && (m.testBit p && !s.testBit p)
def nailsTo (t : Nat → Bool) (m s k : Nat) : List Int := nailZ ((List.range k).filter (passN t m s))
theorem nailsTo_step (t : Nat → Bool) (m s k : Nat) : nailsTo t m s (k + 1) = if passN t m s k = true then nailsTo t m s k ++ [(k : Int) + 1] else nailsTo t m s k := by
  unfold nailsTo nailZ
  rw [List.range_succ, List.filter_append]
  cases h : passN t m s k <;> simp [h]
theorem nailsTo_le (t : Nat → Bool) (m s k : Nat) : (nailsTo t m s k).length ≤ k := by
  unfold nailsTo nailZ
  have := List.length_filter_le (passN t m s) (List.range k)
  simpa using this
theorem nailsTo_all (t : Nat → Bool) (m s : Nat) : nailsTo t m s 6 = nailZ (Plain.movesG t m true s) := by
  unfold nailsTo Plain.movesG Plain.inP
  cases h : t s with
  | true =>
    have : (List.range 6).filter (passN t m s) = [] := List.filter_eq_nil_iff.2 fun p _ => by simp [passN, h]
    rw [this]; rfl
  | false =>
    have : passN t m s = fun p => m.testBit p && !s.testBit p := by funext p; simp [passN, h]
    rw [this]; rfl
/-- A list that the call owns. -/
def OwnL (L : List Int) (w : World) (e : Ending) (w' : World) : Prop := ∃ v, e = .returned v ∧ w'.ownsRow w.heap.size 3 1 v L.length (nums L) ∧ Below w.heap.size w w'
set_option maxRecDepth 100000 in
set_option maxHeartbeats 1600000 in
theorem nailsIn_any (t : Nat → Bool) (m s : Nat) (w : World) (hm : m < 64) (hs : s < 64) :
    Calls Try.prog 69 #[.agg (posC t m s)] w (OwnL (nailZ (Plain.movesG t m true s)) w) := by
  obtain ⟨i0, hi0, hz0, hz1, hz2⟩ := info_parts infoInt
  have hclr := clr_small hm hs
  have hcl64 := clr_lt s hm
  obtain ⟨c, hc⟩ : ∃ c, c = Plain.clr m s := ⟨_, rfl⟩
  rw [← hc] at hclr hcl64
  have HC := Lib.hid hc
  obtain ⟨W, hW⟩ : ∃ W, W = w.alloc (.cells (posC t m s) 41) := ⟨_, rfl⟩
  have HP0 : Hid (PosAt W w.heap.size t m s) := Lib.hid (by rw [hW]; exact posAt_new w t m s)
  have HB0 : Hid (Below w.heap.size w W) := Lib.hid (by rw [hW]; exact (Below.refl _ _).alloc (Nat.le_refl _) _)
  have hZ : W.heap.size = w.heap.size + 1 := by rw [hW]; simp
  have HZ := Lib.hid hZ
  have HS := Lib.hid (coll_start W)
  clear hc hZ
  go_enter Try.func69, Try.ntmps69
  go_wp2_with fail
  rw [← hW]
  clear hW
  go_loopw [3, 4] (fun u i wr => ∃ k : Nat, k ≤ 6 ∧ i = .int .i64 ((k : Int) + 1) ∧ Coll (nailsTo t m s k) W.heap.size W u wr) (fun _ i _ => 7 - (intOf i).toNat)
  case atStart => exact ⟨0, Nat.zero_le _, rfl, by rw [← HZ.out]; exact HS.out⟩
  case round =>
    obtain ⟨k, hk, rfl, hrel⟩ := hrel
    have hll := nailsTo_le t m s k
    by_cases hlt : k < 6
    · have HK := Lib.hid hrel
      obtain ⟨L, hL⟩ : ∃ L, L = nailsTo t m s k := ⟨_, rfl⟩
      rw [← hL] at HK hll
      have HL := Lib.hid hL
      have HST := Lib.hid (nailsTo_step t m s k)
      have hi : (k : Int) + 1 ≤ 6 := by omega
      have HP : Hid (PosAt wr w.heap.size t m s) := Lib.hid (HP0.out.past (HK.out.2.1) (by rw [HZ.out]; omega))
      obtain ⟨q, hq⟩ : ∃ q : Nat, q = 2 ^ k := ⟨_, rfl⟩
      have hpow : (2 : Int) ^ k = (q : Int) := by rw [hq, pow_nat]
      have hq64 : q < 64 := by rw [hq]; exact Nat.pow_lt_pow_right (n := 6) (by omega) hlt
      have HPART : Hid (partZ (q : Int) c = (m.testBit k && !s.testBit k)) := Lib.hid (by rw [partZ_nat hq64 hcl64, hq, clr_pow, HC.out, bit_clr9])
      clear hrel hL hq
      go_wp2_with fail
      have hload : ∀ p : Later wr, (loadVar 41 ⟨w.heap.size, 0, none⟩).run Try.prog p.W = .ok (.agg (posC t m s)) p.W := fun p => pos_load (HP.out.on p.ok)
      have HLD := Lib.hid hload
      have q1 : ∀ p : Later wr, p.W.cell? ⟨w.heap.size, 64, none⟩ = some (.int .i64 (m : Int)) := fun p => (HP.out.on p.ok).nails
      have q2 : ∀ p : Later wr, p.W.cell? ⟨w.heap.size, 65, none⟩ = some (.int .i64 (s : Int)) := fun p => (HP.out.on p.ok).out
      clear hload
      cases hts : t s with
      | true =>
        have HN : Hid (nailsTo t m s (k + 1) = L) := Lib.hid (by rw [HST.out, if_neg (by simp [passN, hts]), HL.out])
        have HH : Hid (∀ V, Calls Try.prog 33 #[.agg (posC t m s)] V (Val (.bool false) V)) := Lib.hid (fun V => by have := hangs_any t m s V hs; rw [hts] at this; exact this)
        refine wp_region_below (by kernel_rfl) (by kernel_rfl) ?_
        refine later_row rfl 41 _ rfl w.heap.size rfl (posC t m s) HLD.out ?_
        repeat
          (with_reducible refine wpQuiet_step (fun K hK => ?_)
           go_simp
           first
             | (refine hK _ ?_; clear hK K)
             | (apply Exists.intro
                refine ⟨fun _ => ?_, hK _ ?_⟩
                (first | (go_at_call 33; exact later_of (HH.out _)) | (go_at_call 78; exact later_same ((nailSet_any k q _ (by omega) hpow).mono fun _ _ h => ⟨h.1, h.2.symm⟩)) | (go_at_call 32; exact later_same (HPA.out _)))
                clear hK K))
        refine wpQuiet_nil ?_
        intro wx hw'
        obtain ⟨p, he⟩ := hw'
        have hwx := p.ok
        rw [← he] at hwx
        clear he p
        have HK1 := Lib.hid (HK.out.later hwx)
        clear hwx
        go_wp2_with fail
        go_roundw
        case rel => exact ⟨k + 1, by omega, by go_num, by rw [HN.out]; exact HK1.out⟩
        case measure => simp [intOf]; omega
      | false =>
        have HN : Hid (nailsTo t m s (k + 1) = if (m.testBit k && !s.testBit k) = true then L ++ [(k : Int) + 1] else L) := Lib.hid (by rw [HST.out, ← HL.out]; unfold passN; rw [hts]; rfl)
        have HH : Hid (∀ V, Calls Try.prog 33 #[.agg (posC t m s)] V (Val (.bool true) V)) := Lib.hid (fun V => by have := hangs_any t m s V hs; rw [hts] at this; exact this)
        cases hb : (m.testBit k && !s.testBit k) with
        | false =>
          rw [hb] at HPART HN
          have HPA : Hid (∀ V, Calls Try.prog 32 #[.int .i64 (q : Int), .int .i64 (c : Int)] V fun e w' => e = .returned (.bool false) ∧ w' = V) := Lib.hid (fun V => by have := partZ_any (q : Int) c V; rw [HPART.out] at this; exact this)
          refine wp_region_below (by kernel_rfl) (by kernel_rfl) ?_
          refine later_row rfl 41 _ rfl w.heap.size rfl (posC t m s) HLD.out ?_
          repeat
            (with_reducible refine wpQuiet_step (fun K hK => ?_)
             go_simp
             first
               | (refine hK _ ?_; clear hK K)
               | (apply Exists.intro
                  refine ⟨fun _ => ?_, hK _ ?_⟩
                  (first | (go_at_call 33; exact later_of (HH.out _)) | (go_at_call 78; exact later_same ((nailSet_any k q _ (by omega) hpow).mono fun _ _ h => ⟨h.1, h.2.symm⟩)) | (go_at_call 32; exact later_same (HPA.out _)))
                  clear hK K))
          refine wpQuiet_nil ?_
          intro wx hw'
          obtain ⟨p, he⟩ := hw'
          have hwx := p.ok
          rw [← he] at hwx
          clear he p
          have HK1 := Lib.hid (HK.out.later hwx)
          clear hwx
          go_wp2_with fail
          go_roundw
          case rel => exact ⟨k + 1, by omega, by go_num, by rw [HN.out, if_neg (by simp)]; exact HK1.out⟩
          case measure => simp [intOf]; omega
        | true =>
          rw [hb] at HPART HN
          have HPA : Hid (∀ V, Calls Try.prog 32 #[.int .i64 (q : Int), .int .i64 (c : Int)] V fun e w' => e = .returned (.bool true) ∧ w' = V) := Lib.hid (fun V => by have := partZ_any (q : Int) c V; rw [HPART.out] at this; exact this)
          refine wp_region_below (by kernel_rfl) (by kernel_rfl) ?_
          refine later_row rfl 41 _ rfl w.heap.size rfl (posC t m s) HLD.out ?_
          repeat
            (with_reducible refine wpQuiet_step (fun K hK => ?_)
             go_simp
             first
               | (refine hK _ ?_; clear hK K)
               | (apply Exists.intro
                  refine ⟨fun _ => ?_, hK _ ?_⟩
                  (first | (go_at_call 33; exact later_of (HH.out _)) | (go_at_call 78; exact later_same ((nailSet_any k q _ (by omega) hpow).mono fun _ _ h => ⟨h.1, h.2.symm⟩)) | (go_at_call 32; exact later_same (HPA.out _)))
                  clear hK K))
          refine wpQuiet_nil ?_
          intro wx hw'
          obtain ⟨p, he⟩ := hw'
          have hwx := p.ok
          rw [← he] at hwx
          clear he p
          have HK1 := Lib.hid (HK.out.later hwx)
          clear hwx
          go_wp2_with (at_builtin; refine wpList_append_own _ rfl _ _ 22 rfl W.heap.size 3 i0 (.int .i64 0) 1 8 Try.underlying22 hi0 hz0 hz1 hz2 rfl (by decide) _ _ _ rfl (HK1.out.1.alloc _) ⟨wx.heap.size, 0, none⟩ 1 1 [.int .i64 ((k : Int) + 1)] rfl rfl ?c1 ?c2 ?c3 ?c4 ?c5 ?_)
          case c2 => simp [Value.oneCell']
          case c3 => unfold maxLen; omega
          case c4 => omega
          case c5 => exact Nat.le_trans HK1.out.2.2 (by simp)
          intro v' w2 hown' hgrow _
          have hR := Lib.hid (coll_push (x := (k : Int) + 1) HK1.out hown' hgrow)
          clear hown' hgrow
          go_wp2_with fail
          go_roundw
          case rel => exact ⟨k + 1, by omega, by go_num, by rw [HN.out, if_pos trivial]; exact hR.out⟩
          case measure => simp [intOf]; omega
    · obtain rfl : k = 6 := by omega
      have HR := Lib.hid hrel
      rw [nailsTo_all] at HR
      clear hrel
      go_wp2_with fail
      go_ret
      have hb := HB0.out.trans (HR.out.2.1.mono HB0.out.size)
      exact ⟨_, rfl, World.ownsRow.mono HR.out.1 HB0.out.size, hb⟩

end Go.Proofs.Ytpaijobmoddgpab
