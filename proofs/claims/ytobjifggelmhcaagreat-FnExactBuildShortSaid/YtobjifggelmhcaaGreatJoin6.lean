/- Contracts: spec.l6Join, OrWord, AndWord. Contracts: impl's product, firstJoined, OrWord, AndWord with their closures. Contracts: impl.OrWord, AndWord with their closures; both programs. Conditions: letters, lengths that fit; letters, numbers of 64 bits, lengths that fit; numbers of 64 bits, lengths that fit. -/
import Derived.Test.YtobjifggelmhcaaGreatKeyAt
import Derived.Test.YtobjifggelmhcaaGreatFor
import Derived.Test.YtobjifggelmhcaaGreatCommSpec
import Derived.Test.YtobjifggelmhcaaGreatCommImpl
import Derived.Test.YtobjifggelmhcaaGreatConjKit
import Derived.Deep.LoopGhost
import Derived.Test.YtobjifggelmhcaaGreatFamLaw
namespace Go.Proofs.YtobjifggelmhcaaGreat
open Go.ChangeShapes Go.WideShapes Go.ChangeAt Go.RowKit
set_option linter.unusedVariables false

/-- A list, a number and a report that came back. -/
def SIB (out : List Int) (n : Int) (ok : Bool) (w : World) (e : Ending) (w' : World) : Prop := ∃ v, e = .returned (.tuple #[v, .int .i64 n, .bool ok]) ∧ Res w.heap.size w' v out ∧ Below w.heap.size w w'
theorem sib_of {out out' : List Int} {n n' : Int} {ok ok' : Bool} {w w' : World} {e : Ending} (h1 : out = out') (h2 : n = n') (h3 : ok = ok') (h : SIB out n ok w e w') : SIB out' n' ok' w e w' := by subst h1 h2 h3; exact h
theorem key_at_in {T : TypeId} {fs : List Fac} {B k b c : Nat} {w wr : World} {key : List Int} (h : CollF T fs B w (.slice (some ⟨b, 0, none⟩) 145 c) wr) (hl : lists fs = Plain.keys) (hk : Plain.keys[k]? = some key) :
    ∃ fa fc, wr.cell? ⟨b, k, none⟩ = some (.slice fa key.length fc) ∧ FacOk B wr (fa, fc, key) := by
  obtain ⟨b2, c2, fa, fc, e, h1, h2⟩ := key_in h hl hk
  cases e
  exact ⟨fa, fc, h1, h2⟩
theorem collF_shape {T : TypeId} {fs : List Fac} {B : Nat} {w wr : World} {v : Value} (h : CollF T fs B w v wr) (hl : lists fs = Plain.keys) : ∃ b c, v = .slice (some ⟨b, 0, none⟩) 145 c := by
  obtain ⟨key, hk⟩ := Plain.keys_take (k := 0) (by decide)
  obtain ⟨b, c, fa, fc, e, -, -⟩ := key_in h hl hk
  exact ⟨b, c, e⟩
theorem wpList_load_if50 {ops : Array Oper} {rest : List Oper} {o : Oper} {a : Act} {w : World} {Q : Exit → Act → World → Prop} (hw : Region.wanted o (yielded ops a.tmps) = true) (x : Operand) (ho : o.op = .load 56 x)
    (g : Nat) (hx : a.eval x = .pointer (some ⟨g, 0, none⟩)) (t : Nat → Bool) (hg : Tab w g t) (h : wpList Tryz.prog ops Q rest (a.put o.dst (.agg (bools t))) w) : wpList Tryz.prog ops Q (o :: rest) a w :=
  BigFrame.wpList_want hw fun _ hK => wp_load_row 56 x ho g hx 56 (bools t) (0, 0) _ hg Tryz.underlying56 rfl info64 (hK _ _ h)
def ThreeTab (n : Nat) (W : World) (t u v : Nat → Bool) : Prop := Tab W n t ∧ Tab W (n + 1) u ∧ Tab W (n + 1 + 1) v
theorem three_rows (w : World) : ∃ W, W = (((w.alloc (.cells (bools fun _ => false) 56)).alloc (.cells (bools fun _ => false) 56)).alloc (.cells (bools fun _ => false) 56)) ∧ ThreeTab w.heap.size W (fun _ => false) (fun _ => false) (fun _ => false) ∧ Below w.heap.size w W := by
  refine ⟨_, rfl, ⟨?_, ?_, ?_⟩, (((Below.refl _ w).alloc (Nat.le_refl _) _).alloc (by simp) _).alloc (by simp; omega) _⟩
  · have h : Tab ((w.alloc (.cells (bools fun _ => false) 56)).alloc (.cells (bools fun _ => false) 56)) w.heap.size (fun _ => false) := heap_alloc2_old w _ _
    exact (Below.heap_alloc _ _ _ h.lt).trans h
  · have h : Tab ((w.alloc (.cells (bools fun _ => false) 56)).alloc (.cells (bools fun _ => false) 56)) (w.heap.size + 1) (fun _ => false) := heap_alloc2_new w _ _
    exact (Below.heap_alloc _ _ _ h.lt).trans h
  · have h := heap_alloc_new ((w.alloc (.cells (bools fun _ => false) 56)).alloc (.cells (bools fun _ => false) 56)) (.cells (bools fun _ => false) 56)
    rw [show ((w.alloc (.cells (bools fun _ => false) 56)).alloc (.cells (bools fun _ => false) 56)).heap.size = w.heap.size + 1 + 1 by simp] at h
    exact h
theorem three_set {n : Nat} {W : World} {t u v : Nat → Bool} (h : ThreeTab n W t u v) (t' u' : Nat → Bool) : ThreeTab n (W.setRow n (bools t')) t' u v ∧ ThreeTab n ((W.setRow n (bools t')).setRow (n + 1) (bools u')) t' u' v ∧ ThreeTab n (((W.setRow n (bools t')).setRow (n + 1) (bools u')).setRow (n + 1 + 1) (bools v)) t' u' v := by
  obtain ⟨h1, h2, h3⟩ := h
  have a : ThreeTab n (W.setRow n (bools t')) t' u v := ⟨tab_row h1, h2.other (by omega), h3.other (by omega)⟩
  have b : ThreeTab n ((W.setRow n (bools t')).setRow (n + 1) (bools u')) t' u' v := ⟨a.1.other (by omega), tab_row a.2.1, a.2.2.other (by omega)⟩
  exact ⟨a, b, b.1.other (by omega), b.2.1.other (by omega), tab_row b.2.2⟩
theorem ThreeTab.on {n : Nat} {w w' : World} {t u v : Nat → Bool} (h : ThreeTab n w t u v) (hb : Below w.heap.size w w') : ThreeTab n w' t u v := ⟨h.1.on hb, h.2.1.on hb, h.2.2.on hb⟩
theorem ThreeTab.put {n k : Nat} {W : World} {t u v : Nat → Bool} (h : ThreeTab n W t u (upTo v k)) (hk : k < 64) : ThreeTab n (W.setCell ⟨n + 1 + 1, k, none⟩ (.bool (v k))) t u (upTo v (k + 1)) := ⟨h.1.off (by omega), h.2.1.off (by omega), h.2.2.set hk⟩
set_option maxRecDepth 100000 in
set_option maxHeartbeats 8000000 in
theorem l6Join_any (a1 a2 : Option Addr) (c1 c2 : Nat) (xs ys : List Int) (o : Bool) (w : World) (h1 : Hid (Ints w a1 xs)) (k1 : Hid (Cap a1 xs.length c1)) (h2 : Hid (Ints w a2 ys)) (k2 : Hid (Cap a2 ys.length c2))
    (l1 : Hid (Plain.Letters xs)) (l2 : Hid (Plain.Letters ys)) (hx : xs.length ≤ 64) (hy : ys.length ≤ 64) :
    Calls Tryz.prog 32 #[.slice a1 xs.length c1, .slice a2 ys.length c2, .bool o] w (SIB (Plain.joinW o xs ys) (Plain.joinN o xs ys : Nat) (Plain.joinOk o xs ys) w) := by
  go_enter Tryz.func32, Tryz.ntmps32
  go_wp2_with fail
  refine (l3Table_any _ _ xs _ h1 l1 (by omega)).mono ?_
  rintro e w1 ⟨rfl, hb1⟩
  have HB1 := Lib.hid hb1
  have I2 := Lib.hid (h2.out.on hb1)
  clear hb1
  go_wp2_with fail
  refine (l3Table_any _ _ ys _ I2 l2 (by omega)).mono ?_
  rintro e w2 ⟨rfl, hb2⟩
  have HB2 := Lib.hid (HB1.out.trans (hb2.mono HB1.out.size))
  clear hb2 I2
  obtain ⟨W0, hW0, hT0, hBW⟩ := three_rows w2
  have hset := three_set hT0 (Plain.fallsB xs) (Plain.fallsB ys)
  have HT0 := Lib.hid hT0
  have HT1 := Lib.hid hset.1
  have HT2 := Lib.hid hset.2.1
  have HT3 := Lib.hid hset.2.2
  have HBW := Lib.hid (HB2.out.trans (hBW.mono HB2.out.size))
  have HW0 := Lib.hid hW0
  clear hset hT0 hBW hW0
  go_wp2_with (first
    | (refine wpList_store_row rfl 56 _ _ rfl w2.heap.size (bools (Plain.fallsB xs)) rfl rfl 56 (bools fun _ => false) (by rw [← bools_zero, ← HW0.out]; exact HT0.out.1) info64 rfl (bools_one _) ?_)
    | (refine wpList_store_row rfl 56 _ _ rfl (w2.heap.size + 1) (bools (Plain.fallsB ys)) rfl rfl 56 (bools fun _ => false) (by rw [← bools_zero, ← HW0.out]; exact HT1.out.2.1) info64 rfl (bools_one _) ?_)
    | (refine wpList_store_row rfl 56 _ _ rfl (w2.heap.size + 1 + 1) (bools fun _ => false) rfl (by rw [bools_zero]; rfl) 56 (bools fun _ => false) (by rw [← bools_zero, ← HW0.out]; exact HT2.out.2.2) info64 rfl (bools_one _) ?_))
  rw [← bools_zero, ← HW0.out]
  obtain ⟨W, hW⟩ : ∃ W, W = (((W0.setRow w2.heap.size (bools (Plain.fallsB xs))).setRow (w2.heap.size + 1) (bools (Plain.fallsB ys))).setRow (w2.heap.size + 1 + 1) (bools fun _ => false)) := ⟨_, rfl⟩
  have HB3 : Hid (Below w.heap.size w W) := Lib.hid (by
    rw [hW]
    have h0 := HB2.out.size
    exact below_setRow (below_setRow (below_setRow HBW.out h0 _) (by omega) _) (by omega) _)
  rw [← hW] at HT3 ⊢
  have HGE : Hid (w.heap.size ≤ w2.heap.size) := Lib.hid HB2.out.size
  clear hW HT0 HT1 HT2 HBW HW0 HB1 HB2
  obtain ⟨G, hG⟩ : ∃ G, G = w2.heap.size := ⟨_, rfl⟩
  rw [← hG] at HT3 HGE ⊢
  clear hG
  go_loopw [12] (fun i wr => ∃ k : Nat, k ≤ 64 ∧ i = .int .i64 k ∧ ThreeTab G wr (Plain.fallsB xs) (Plain.fallsB ys) (upTo (Plain.wantB o xs ys) k) ∧ Below w.heap.size w wr) (fun i _ => 64 - (intOf i).toNat)
  case atStart => exact ⟨0, Nat.zero_le _, rfl, by rw [upTo_zero]; exact HT3.out, HB3.out⟩
  case round =>
    clear HT3 HB3
    obtain ⟨k, hk, rfl, hrel, hbel⟩ := hrel
    by_cases hlt : k < 64
    · have HK := Lib.hid hrel
      have HB := Lib.hid hbel
      have hi : (k : Int) < 64 := by omega
      have hi0 : (0 : Int) ≤ (k : Int) := by omega
      have q1 := HK.out.1.cell hlt
      have q2 := HK.out.2.1.cell hlt
      have q3 := HK.out.2.2.cell hlt
      have f3 := HK.out.2.2.free k
      have hN := hrel.put hlt
      have hNB := hbel.setCell (p := ⟨G + 1 + 1, k, none⟩) (by simp; have := HGE.out; omega) (.bool (Plain.wantB o xs ys k))
      obtain ⟨x, hx0⟩ : ∃ x, x = Plain.wantB o xs ys k := ⟨_, rfl⟩
      rw [← hx0] at hN hNB
      have HN := Lib.hid (And.intro hN hNB)
      clear hrel hbel hN hNB
      cases ha : Plain.fallsB xs k with
      | true =>
        cases hb : Plain.fallsB ys k with
        | true =>
          cases o with
          | true =>
            obtain rfl : x = true := by rw [hx0]; simp [Plain.wantB, ha, hb]
            rw [ha] at q1
            rw [hb] at q2
            clear ha hb hx0
            go_wp2_with fail
            go_roundw
            case rel => exact ⟨k + 1, by omega, by go_num, HN.out⟩
            case measure => simp [intOf]; omega
          | false =>
            obtain rfl : x = true := by rw [hx0]; simp [Plain.wantB, ha, hb]
            rw [ha] at q1
            rw [hb] at q2
            clear ha hb hx0
            go_wp2_with fail
            go_roundw
            case rel => exact ⟨k + 1, by omega, by go_num, HN.out⟩
            case measure => simp [intOf]; omega
        | false =>
          cases o with
          | true =>
            obtain rfl : x = true := by rw [hx0]; simp [Plain.wantB, ha, hb]
            rw [ha] at q1
            rw [hb] at q2
            clear ha hb hx0
            go_wp2_with fail
            go_roundw
            case rel => exact ⟨k + 1, by omega, by go_num, HN.out⟩
            case measure => simp [intOf]; omega
          | false =>
            obtain rfl : x = false := by rw [hx0]; simp [Plain.wantB, ha, hb]
            rw [ha] at q1
            rw [hb] at q2
            clear ha hb hx0
            go_wp2_with fail
            go_roundw
            case rel => exact ⟨k + 1, by omega, by go_num, HN.out⟩
            case measure => simp [intOf]; omega
      | false =>
        cases hb : Plain.fallsB ys k with
        | true =>
          cases o with
          | true =>
            obtain rfl : x = true := by rw [hx0]; simp [Plain.wantB, ha, hb]
            rw [ha] at q1
            rw [hb] at q2
            clear ha hb hx0
            go_wp2_with fail
            go_roundw
            case rel => exact ⟨k + 1, by omega, by go_num, HN.out⟩
            case measure => simp [intOf]; omega
          | false =>
            obtain rfl : x = false := by rw [hx0]; simp [Plain.wantB, ha, hb]
            rw [ha] at q1
            rw [hb] at q2
            clear ha hb hx0
            go_wp2_with fail
            go_roundw
            case rel => exact ⟨k + 1, by omega, by go_num, HN.out⟩
            case measure => simp [intOf]; omega
        | false =>
          cases o with
          | true =>
            obtain rfl : x = false := by rw [hx0]; simp [Plain.wantB, ha, hb]
            rw [ha] at q1
            rw [hb] at q2
            clear ha hb hx0
            go_wp2_with fail
            go_roundw
            case rel => exact ⟨k + 1, by omega, by go_num, HN.out⟩
            case measure => simp [intOf]; omega
          | false =>
            obtain rfl : x = false := by rw [hx0]; simp [Plain.wantB, ha, hb]
            rw [ha] at q1
            rw [hb] at q2
            clear ha hb hx0
            go_wp2_with fail
            go_roundw
            case rel => exact ⟨k + 1, by omega, by go_num, HN.out⟩
            case measure => simp [intOf]; omega
    · have hk64 : k = 64 := by omega
      have hi : ¬ ((k : Int) < 64) := by omega
      rw [hk64] at hrel
      have hT : Tab wr (G + 1 + 1) (Plain.wantB o xs ys) := by
        have := hrel.2.2
        rw [Tab, upTo_all] at this
        exact this
      have HT := Lib.hid hT
      have HB := Lib.hid hbel
      clear hrel hbel hT hk64
      go_wp2_with fail
      refine (l6Keys_any _).mono ?_
      rintro e w3 ⟨v, fs, rfl, hl, hc⟩
      obtain ⟨b, cc, rfl⟩ := collF_shape hc hl
      have HC := Lib.hid (And.intro hc (And.intro (HT.out.on hc.2.2.1) (HB.out.trans (hc.2.2.1.mono HB.out.size))))
      have HL := Lib.hid hl
      have HWR := Lib.hid HB.out.size
      clear hc hl HT HB
      go_wp2_with fail
      go_loopw [14] (fun i wx => ∃ k : Nat, k ≤ 145 ∧ i = .int .i64 k ∧ (∀ j, j < k → Plain.goodAt o xs ys j = false) ∧ CollF 22 fs wr.heap.size wr (.slice (some ⟨b, 0, none⟩) 145 cc) wx ∧ Tab wx (G + 1 + 1) (Plain.wantB o xs ys) ∧ Below w.heap.size w wx) (fun i _ => 145 - (intOf i).toNat)
      case atStart => exact ⟨0, Nat.zero_le _, rfl, fun j h => by omega, HC.out⟩
      case round =>
        clear HC
        obtain ⟨k, hk, rfl, hno, hrel, htab, hbel⟩ := hrel
        by_cases hlt : k < 145
        · obtain ⟨key, hkey⟩ := Plain.keys_take hlt
          have hkk := Plain.key_at hkey
          have HJ := Lib.hid (Plain.joinAt_key (o := o) (u := xs) (v := ys) hkey)
          obtain ⟨fa, fc, hcell, hok⟩ := key_at_in hrel HL.out hkey
          have HNO := Lib.hid hno
          have HK := Lib.hid (And.intro hrel (And.intro htab hbel))
          have I1 := Lib.hid (h1.out.on hbel)
          have I2 := Lib.hid (h2.out.on hbel)
          have HF := Lib.hid hok
          have LK := Lib.hid hkk.2
          have hkl := hkk.1
          have hi : (k : Int) < 145 := by omega
          have hi0 : (0 : Int) ≤ (k : Int) := by omega
          have hcl := Plain.conj_le key ys
          have LCJ := Lib.hid (Plain.conj_letters LK.out l2.out)
          obtain ⟨cj, hcj⟩ : ∃ cj, cj = Plain.conj key ys := ⟨_, rfl⟩
          rw [← hcj] at hcl LCJ HJ
          have HCJ : Hid (cj = Plain.red (key ++ (ys ++ Plain.inv key))) := Lib.hid hcj
          clear hrel htab hbel hok hkk hno hkey hcj
          go_wp2_with fail
          clear hcell
          refine (l2Conj_any fa a2 fc c2 key ys _ (Lib.hid HF.out.1) (Lib.hid HF.out.2.1) I2 k2 LK l2 (by omega) (by omega)).mono ?_
          rw [← HCJ.out]
          rintro e w4 ⟨_, rfl, ⟨a3, c3, rfl, hi3, -, hk3⟩, hb⟩
          have HK4 := Lib.hid (And.intro (HK.out.1.later hb) (And.intro (HK.out.2.1.on hb) (HK.out.2.2.trans (hb.mono HK.out.2.2.size))))
          have I14 := Lib.hid (I1.out.on hb)
          have I3 := Lib.hid hi3
          have K3 := Lib.hid hk3
          clear hb hi3 hk3 HK I1 I2 HF
          have hcl3 : cj.length ≤ 68 := by omega
          clear hcl
          have hpl : (Plain.red (xs ++ cj)).length ≤ 132 := Nat.le_trans (Plain.red_length _) (by rw [List.length_append]; omega)
          have LPR := Lib.hid (l1.out.append LCJ.out).red
          obtain ⟨pr, hpr⟩ : ∃ pr, pr = Plain.red (xs ++ cj) := ⟨_, rfl⟩
          rw [← hpr] at hpl LPR
          have HPR := Lib.hid hpr
          clear hpr
          go_wp2_with fail
          refine (l2Join_any a1 a3 c1 c3 xs cj _ I14 k1 I3 K3 l1 LCJ (by omega)).mono ?_
          rw [← HPR.out]
          rintro e w5 ⟨_, rfl, ⟨a4, c4, rfl, hi4, ho4, hk4⟩, hb⟩
          have HK5 := Lib.hid (And.intro (HK4.out.1.later hb) (And.intro (HK4.out.2.1.on hb) (HK4.out.2.2.trans (hb.mono HK4.out.2.2.size))))
          have I15 := Lib.hid (I14.out.on hb)
          have I35 := Lib.hid (I3.out.on hb)
          have R4 := Lib.hid (And.intro hi4 (And.intro (ho4.mono HK4.out.2.2.size) hk4))
          clear hb hi4 ho4 hk4 HK4 I14 I3
          cases o with
          | false =>
            have HJ2 : Hid (Plain.joinAt false xs ys k = pr) := Lib.hid (by rw [HJ.out, HPR.out]; rfl)
            have HGA : Hid (Plain.goodAt false xs ys k = (decide (pr.length ≤ 64) && Plain.alike (Plain.fallsB pr) (Plain.wantB false xs ys))) := Lib.hid (by rw [Plain.goodAt, HJ2.out])
            clear HJ I15 I35 HPR
            by_cases hl64 : pr.length ≤ 64
            · have hd : ((pr.length : Int)) ≤ 64 := by omega
              cases hal : Plain.alike (Plain.fallsB pr) (Plain.wantB false xs ys) with
              | true =>
                have HGT : Hid (Plain.goodAt false xs ys k = true) := Lib.hid (by rw [HGA.out, hal]; simp [hl64])
                have HJH := Lib.hid (Plain.join_hit hlt HNO.out HGT.out)
                have HAL := Lib.hid hal
                clear hal hl64
                go_wp2_with (refine wpList_load_if50 rfl _ rfl (G + 1 + 1) rfl (Plain.wantB false xs ys) HK5.out.2.1 ?_)
                refine (l6For_any a4 c4 pr _ _ (Lib.hid R4.out.1) LPR (by omega)).mono ?_
                rw [HAL.out]
                rintro e w7 ⟨rfl, hb⟩
                have HFIN := Lib.hid (And.intro (R4.out.1.on hb) (And.intro (R4.out.2.1.on hb) (HK5.out.2.2.trans (hb.mono HK5.out.2.2.size))))
                clear hb
                go_wp2_with fail
                go_ret3
                exact sib_of ((HJ2.out.symm.trans HJH.out.1.symm)) (by rw [HJH.out.2.1]) HJH.out.2.2.symm ⟨_, rfl, ⟨_, _, rfl, HFIN.out.1, HFIN.out.2.1, R4.out.2.2⟩, HFIN.out.2.2⟩
              | false =>
                have HGT : Hid (∀ j, j < k + 1 → Plain.goodAt false xs ys j = false) := Lib.hid (fun j hj => by
                  by_cases e : j = k
                  · subst e; rw [HGA.out, hal]; simp
                  · exact HNO.out j (by omega))
                have HAL := Lib.hid hal
                clear hal hl64
                go_wp2_with (refine wpList_load_if50 rfl _ rfl (G + 1 + 1) rfl (Plain.wantB false xs ys) HK5.out.2.1 ?_)
                refine (l6For_any a4 c4 pr _ _ (Lib.hid R4.out.1) LPR (by omega)).mono ?_
                rw [HAL.out]
                rintro e w7 ⟨rfl, hb⟩
                have HFIN := Lib.hid (And.intro (HK5.out.1.later hb) (And.intro (HK5.out.2.1.on hb) (HK5.out.2.2.trans (hb.mono HK5.out.2.2.size))))
                clear hb
                go_wp2_with fail
                go_roundw
                case rel => exact ⟨k + 1, by omega, by go_num, HGT.out, HFIN.out⟩
                case measure => simp [intOf]; omega
            · have hd : ¬ ((pr.length : Int)) ≤ 64 := by omega
              have HGT : Hid (∀ j, j < k + 1 → Plain.goodAt false xs ys j = false) := Lib.hid (fun j hj => by
                by_cases e : j = k
                · subst e; rw [HGA.out]; simp [hl64]
                · exact HNO.out j (by omega))
              clear hl64
              go_wp2_with fail
              go_roundw
              case rel => exact ⟨k + 1, by omega, by go_num, HGT.out, HK5.out⟩
              case measure => simp [intOf]; omega
          | true =>
            have hml := Plain.comm_le xs cj
            have hml2 : (Plain.comm xs cj).length ≤ 264 := by omega
            have LCM := Lib.hid (l1.out.comm LCJ.out)
            obtain ⟨cm, hcm⟩ : ∃ cm, cm = Plain.comm xs cj := ⟨_, rfl⟩
            rw [← hcm] at hml2 LCM
            have HCM := Lib.hid hcm
            have HJ2 : Hid (Plain.joinAt true xs ys k = cm) := Lib.hid (by rw [HJ.out, hcm]; rfl)
            have HGA : Hid (Plain.goodAt true xs ys k = (decide (cm.length ≤ 64) && Plain.alike (Plain.fallsB cm) (Plain.wantB true xs ys))) := Lib.hid (by rw [Plain.goodAt, HJ2.out])
            clear HJ HPR hcm hml R4
            go_wp2_with fail
            refine (l4Commutator_any a1 a3 c1 c3 xs cj _ I15 k1 I35 K3 l1 LCJ (by omega) (by omega)).mono ?_
            rw [← HCM.out]
            rintro e w6 ⟨_, rfl, ⟨a6, c6, rfl, hi6, ho6, hk6⟩, hb⟩
            have HK6 := Lib.hid (And.intro (HK5.out.1.later hb) (And.intro (HK5.out.2.1.on hb) (HK5.out.2.2.trans (hb.mono HK5.out.2.2.size))))
            have R6 := Lib.hid (And.intro hi6 (And.intro (ho6.mono HK5.out.2.2.size) hk6))
            clear hb hi6 ho6 hk6 HK5 I15 I35
            by_cases hl64 : cm.length ≤ 64
            · have hd : ((cm.length : Int)) ≤ 64 := by omega
              cases hal : Plain.alike (Plain.fallsB cm) (Plain.wantB true xs ys) with
              | true =>
                have HGT : Hid (Plain.goodAt true xs ys k = true) := Lib.hid (by rw [HGA.out, hal]; simp [hl64])
                have HJH := Lib.hid (Plain.join_hit hlt HNO.out HGT.out)
                have HAL := Lib.hid hal
                clear hal hl64
                go_wp2_with (refine wpList_load_if50 rfl _ rfl (G + 1 + 1) rfl (Plain.wantB true xs ys) HK6.out.2.1 ?_)
                refine (l6For_any a6 c6 cm _ _ (Lib.hid R6.out.1) LCM (by omega)).mono ?_
                rw [HAL.out]
                rintro e w7 ⟨rfl, hb⟩
                have HFIN := Lib.hid (And.intro (R6.out.1.on hb) (And.intro (R6.out.2.1.on hb) (HK6.out.2.2.trans (hb.mono HK6.out.2.2.size))))
                clear hb
                go_wp2_with fail
                go_ret3
                exact sib_of ((HJ2.out.symm.trans HJH.out.1.symm)) (by rw [HJH.out.2.1]) HJH.out.2.2.symm ⟨_, rfl, ⟨_, _, rfl, HFIN.out.1, HFIN.out.2.1, R6.out.2.2⟩, HFIN.out.2.2⟩
              | false =>
                have HGT : Hid (∀ j, j < k + 1 → Plain.goodAt true xs ys j = false) := Lib.hid (fun j hj => by
                  by_cases e : j = k
                  · subst e; rw [HGA.out, hal]; simp
                  · exact HNO.out j (by omega))
                have HAL := Lib.hid hal
                clear hal hl64
                go_wp2_with (refine wpList_load_if50 rfl _ rfl (G + 1 + 1) rfl (Plain.wantB true xs ys) HK6.out.2.1 ?_)
                refine (l6For_any a6 c6 cm _ _ (Lib.hid R6.out.1) LCM (by omega)).mono ?_
                rw [HAL.out]
                rintro e w7 ⟨rfl, hb⟩
                have HFIN := Lib.hid (And.intro (HK6.out.1.later hb) (And.intro (HK6.out.2.1.on hb) (HK6.out.2.2.trans (hb.mono HK6.out.2.2.size))))
                clear hb
                go_wp2_with fail
                go_roundw
                case rel => exact ⟨k + 1, by omega, by go_num, HGT.out, HFIN.out⟩
                case measure => simp [intOf]; omega
            · have hd : ¬ ((cm.length : Int)) ≤ 64 := by omega
              have HGT : Hid (∀ j, j < k + 1 → Plain.goodAt true xs ys j = false) := Lib.hid (fun j hj => by
                by_cases e : j = k
                · subst e; rw [HGA.out]; simp [hl64]
                · exact HNO.out j (by omega))
              clear hl64
              go_wp2_with fail
              go_roundw
              case rel => exact ⟨k + 1, by omega, by go_num, HGT.out, HK6.out⟩
              case measure => simp [intOf]; omega
        · have hk145 : k = 145 := by omega
          have hi : ¬ ((k : Int) < 145) := by omega
          rw [hk145] at hno
          have HJN := Lib.hid (Plain.join_none hno)
          have HRES := Lib.hid (coll_res (coll_start wr))
          have HB := Lib.hid hbel
          clear hrel htab hbel hno hk145
          go_wp2_with fail
          go_ret3
          exact sib_of HJN.out.1.symm (by rw [HJN.out.2.1]; rfl) HJN.out.2.2.symm ⟨_, rfl, HRES.out.1.mono HB.out.size, HB.out.trans (HRES.out.2.mono HB.out.size)⟩

end Go.Proofs.YtobjifggelmhcaaGreat

namespace Go.Proofs.YtobjifggelmhcaaGreat
open Go.ChangeShapes Go.WideShapes Go.ChangeAt Go.RowKit
set_option linter.unusedVariables false

/-- What a joining does. -/
def Joins (g : Nat) (o : Bool) : Prop := ∀ (a1 a2 : Option Addr) (c1 c2 : Nat) (us cs : List Int) (W : World), Hid (Ints W a1 us) → Hid (Cap a1 us.length c1) → Hid (Ints W a2 cs) → Hid (Cap a2 cs.length c2) → Hid (Plain.Letters us) → Hid (Plain.Letters cs) → us.length ≤ 64 → cs.length ≤ 68 →
    Calls Tryz.prog g #[.slice a1 us.length c1, .slice a2 cs.length c2] W (SB (short (Plain.joinOf o us cs)) (shortB (Plain.joinOf o us cs)) W)
theorem joins_comm : Joins 61 true := fun a1 a2 c1 c2 us cs W h1 k1 h2 k2 l1 l2 n1 n2 => commutator_any a1 a2 c1 c2 us cs W h1 k1 h2 k2 l1 l2 (by omega) (by omega)
theorem good_long {o : Bool} {xs ys js : List Int} {k : Nat} (h : Plain.joinAt o xs ys k = js) (hl : ¬ js.length ≤ 64) : Plain.goodAt o xs ys k = false := by rw [Plain.goodAt, h]; simp [hl]
theorem good_miss {o : Bool} {xs ys js : List Int} {k s : Nat} (h : Plain.joinAt o xs ys k = js) (hs : s < 64) (hm : Plain.fallsB js s ≠ Plain.wantB o xs ys s) : Plain.goodAt o xs ys k = false := by
  rw [Plain.goodAt, h]
  cases ha : Plain.alike (Plain.fallsB js) (Plain.wantB o xs ys) with
  | false => simp
  | true => exact absurd ((Plain.alikeTo_iff 64).1 ha s hs) hm
theorem good_hit {o : Bool} {xs ys js : List Int} {k : Nat} (h : Plain.joinAt o xs ys k = js) (hl : js.length ≤ 64) (hs : ∀ s, s < 64 → Plain.fallsB js s = Plain.wantB o xs ys s) : Plain.goodAt o xs ys k = true := by
  rw [Plain.goodAt, h, show Plain.alike (Plain.fallsB js) (Plain.wantB o xs ys) = true from (Plain.alikeTo_iff 64).2 hs]
  simp [hl]
theorem no_more {p : Nat → Bool} {k : Nat} (h : ∀ j, j < k → p j = false) (hk : p k = false) : ∀ j, j < k + 1 → p j = false := fun j hj => by
  by_cases e : j = k
  · subst e; exact hk
  · exact h j (by omega)
set_option maxRecDepth 100000 in
theorem run_indexF (t : Nat → Bool) (k : Nat) (w : World) (hk : k < 64) : (Instr.index 68 (.agg (bools t)) (.int .i64 (k : Int))).run Tryz.prog w = .ok (.bool (t k)) w := by
  have h1 : (0 : Int) ≤ (k : Int) ∧ (k : Int) < 64 := by omega
  have h2 : (bools t)[k]? = some (.bool (t k)) := arr64_at _ hk
  simp [Instr.index, run_underlying Tryz.underlying68, asIntOf, part, go_sem, h1, h2, hk]
set_option maxRecDepth 100000 in
set_option maxHeartbeats 8000000 in
theorem firstJoined_any (g : Nat) (o : Bool) (a1 a2 : Option Addr) (c1 c2 : Nat) (xs ys : List Int) (w : World) (eg : ∀ args w, (callFunc g args).run Tryz.prog w = .ok (.enter g args) w) (HJ : Hid (Joins g o)) (h1 : Hid (Ints w a1 xs)) (k1 : Hid (Cap a1 xs.length c1)) (h2 : Hid (Ints w a2 ys)) (k2 : Hid (Cap a2 ys.length c2))
    (l1 : Hid (Plain.Letters xs)) (l2 : Hid (Plain.Letters ys)) (hx : xs.length ≤ 64) (hy : ys.length ≤ 64) :
    Calls Tryz.prog 60 #[.func (.func g) #[] #[], .slice a1 xs.length c1, .slice a2 ys.length c2, .agg (bools (Plain.wantB o xs ys))] w (SIB (Plain.joinW o xs ys) (Plain.joinN o xs ys : Nat) (Plain.joinOk o xs ys) w) := by
  have HT := Lib.hid (tabF_box w (Plain.wantB o xs ys))
  obtain ⟨t, ht⟩ : ∃ t, t = Plain.wantB o xs ys := ⟨_, rfl⟩
  rw [← ht] at HT ⊢
  have HTW := Lib.hid ht
  clear ht
  go_enter Tryz.func60, Tryz.ntmps60
  go_wp2_with fail
  go_step3
  go_wp2_with fail
  try (go_step3; go_wp2_with fail)
  obtain ⟨W, hW⟩ : ∃ W, W = w.alloc (.cells (bools t) 68) := ⟨_, rfl⟩
  rw [← hW] at HT ⊢
  clear hW
  refine (keys_any _).mono ?_
  rintro e w3 ⟨v, fs, rfl, hl, hc⟩
  obtain ⟨b, cc, rfl⟩ := collF_shape hc hl
  have HC := Lib.hid (And.intro hc (And.intro (HT.out.1.on hc.2.2.1) (HT.out.2.trans (hc.2.2.1.mono HT.out.2.size))))
  have HL := Lib.hid hl
  clear hc hl HT
  go_wp2_with fail
  go_loopg [19] 145 (fun g i wx => ∃ k : Nat, k + g = 145 ∧ i = .int .i64 k ∧ (∀ j, j < k → Plain.goodAt o xs ys j = false) ∧ CollF 22 fs W.heap.size W (.slice (some ⟨b, 0, none⟩) 145 cc) wx ∧ TabF wx w.heap.size t ∧ Below w.heap.size w wx)
  case atStart => exact ⟨0, by omega, rfl, fun j h => by omega, HC.out⟩
  case round =>
    clear HC
    obtain ⟨k, hk, rfl, hno, hrel, htab, hbel⟩ := hrel
    cases gk with
    | succ g1 =>
      have hlt : k < 145 := by omega
      obtain ⟨key, hkey⟩ := Plain.keys_take hlt
      have hkk := Plain.key_at hkey
      have HJA := Lib.hid (Plain.joinAt_key (o := o) (u := xs) (v := ys) hkey)
      obtain ⟨fa, fc, hcell, hok⟩ := key_at_in hrel HL.out hkey
      have HNO := Lib.hid hno
      have HK := Lib.hid (And.intro hrel (And.intro htab hbel))
      have I1 := Lib.hid (h1.out.on hbel)
      have I2 := Lib.hid (h2.out.on hbel)
      have HF := Lib.hid hok
      have LK := Lib.hid hkk.2
      have hkl := hkk.1
      have hi : (k : Int) < 145 := by omega
      have hi0 : (0 : Int) ≤ (k : Int) := by omega
      have hcl := Plain.conj_le key ys
      have LCJ := Lib.hid (Plain.conj_letters LK.out l2.out)
      obtain ⟨cj, hcj⟩ : ∃ cj, cj = Plain.conj key ys := ⟨_, rfl⟩
      rw [← hcj] at hcl LCJ HJA
      have HCJ : Hid (cj = Plain.red (key ++ (ys ++ Plain.inv key))) := Lib.hid hcj
      clear hrel htab hbel hok hkk hno hkey hcj
      go_wp2_with fail
      clear hcell
      refine (conjugate_any a2 fa c2 fc ys key _ I2 k2 (Lib.hid HF.out.1) (Lib.hid HF.out.2.1) l2 LK (by omega) (by omega)).mono ?_
      rw [← HCJ.out]
      rintro e w4 ⟨_, rfl, ⟨a3, c3, rfl, hi3, -, hk3⟩, hb⟩
      have HK4 := Lib.hid (And.intro (HK.out.1.later hb) (And.intro (HK.out.2.1.on hb) (HK.out.2.2.trans (hb.mono HK.out.2.2.size))))
      have I14 := Lib.hid (I1.out.on hb)
      have I3 := Lib.hid hi3
      have K3 := Lib.hid hk3
      clear hb hi3 hk3 HK I1 I2 HF
      have hcl3 : cj.length ≤ 68 := by omega
      clear hcl
      have LJS := Lib.hid (Plain.joinOf_letters (o := o) l1.out LCJ.out)
      have hcall := HJ.out a1 a3 c1 c3 xs cj w4 I14 k1 I3 K3 l1 LCJ hx hcl3
      obtain ⟨js, hjs⟩ : ∃ js, js = Plain.joinOf o xs cj := ⟨_, rfl⟩
      rw [← hjs] at LJS HJA hcall
      clear hjs
      by_cases hl64 : js.length ≤ 64
      · rw [(short_yes hl64).1, (short_yes hl64).2] at hcall
        have HCALL := Lib.hid hcall
        clear hcall
        go_wp2_with fail
        refine HCALL.out.mono ?_
        rintro e w5 ⟨_, rfl, ⟨a5, c5, rfl, hi5, ho5, hk5⟩, hb⟩
        have HK5 := Lib.hid (And.intro (HK4.out.1.later hb) (And.intro (HK4.out.2.1.on hb) (HK4.out.2.2.trans (hb.mono HK4.out.2.2.size))))
        have R5 := Lib.hid (And.intro hi5 (And.intro (ho5.mono HK4.out.2.2.size) hk5))
        clear hb hi5 ho5 hk5 HK4 HCALL I14 I3
        go_wp2_with (refine wpList_load_row rfl 68 _ rfl w.heap.size rfl 68 (bools t) (0, 0) _ HK5.out.2.1 Tryz.underlying68 rfl info64f ?_)
        go_loopg [36] 64 (fun g i wx => ∃ s : Nat, s + g = 64 ∧ i = .int .i64 s ∧ (∀ r, r < s → Plain.fallsB js r = Plain.wantB o xs ys r) ∧ (Ints wx a5 js ∧ Own w.heap.size wx a5 js.length ∧ Cap a5 js.length c5) ∧ CollF 22 fs W.heap.size W (.slice (some ⟨b, 0, none⟩) 145 cc) wx ∧ TabF wx w.heap.size t ∧ Below w.heap.size w wx)
        case atStart => exact ⟨0, by omega, rfl, fun r h => by omega, R5.out, HK5.out⟩
        case round =>
          clear HK5 R5
          obtain ⟨s, hs, rfl, hsame, hres, hrel, htab, hbel⟩ := hrel
          cases gk with
          | succ g2 =>
            have hs64 : s < 64 := by omega
            have HS := Lib.hid hsame
            have HR := Lib.hid hres
            have HK := Lib.hid (And.intro hrel (And.intro htab hbel))
            have hj : (s : Int) < 64 := by omega
            have hj0 : (0 : Int) ≤ (s : Int) := by omega
            have hidx := run_indexF t s wr hs64
            clear hsame hres hrel htab hbel
            go_wp2_with fail
            refine (falls_any a5 c5 js s _ (Lib.hid HR.out.1) LJS (by omega) hs64).mono ?_
            rintro e w6 ⟨rfl, hb⟩
            have HR6 := Lib.hid (And.intro (HR.out.1.on hb) (And.intro (HR.out.2.1.on hb) HR.out.2.2))
            have HK6 := Lib.hid (And.intro (HK.out.1.later hb) (And.intro (HK.out.2.1.on hb) (HK.out.2.2.trans (hb.mono HK.out.2.2.size))))
            have HTS : Hid (t s = Plain.wantB o xs ys s) := Lib.hid (by rw [HTW.out])
            clear hb HR HK
            cases hfv : Plain.fallsB js s with
            | true =>
              cases htv : t s with
              | true =>
                have HS2 := Lib.hid (fun r (hr : r < s + 1) => by
                  by_cases e : r = s
                  · subst e; rw [hfv, ← htv]; exact HTS.out
                  · exact HS.out r (by omega) : ∀ r, r < s + 1 → Plain.fallsB js r = Plain.wantB o xs ys r)
                clear hfv htv
                go_wp2_with fail
                go_roundg g2
                case rel => exact ⟨s + 1, by omega, by go_num, HS2.out, HR6.out, HK6.out⟩
                case measure => omega
              | false =>
                have HG := Lib.hid (no_more HNO.out (good_miss HJA.out hs64 (fun e => by rw [hfv, ← HTS.out, htv] at e; cases e)))
                clear hfv htv
                go_wp2_with fail
                go_roundg g1
                case rel => exact ⟨k + 1, by omega, by go_num, HG.out, HK6.out⟩
                case measure => omega
            | false =>
              cases htv : t s with
              | true =>
                have HG := Lib.hid (no_more HNO.out (good_miss HJA.out hs64 (fun e => by rw [hfv, ← HTS.out, htv] at e; cases e)))
                clear hfv htv
                go_wp2_with fail
                go_roundg g1
                case rel => exact ⟨k + 1, by omega, by go_num, HG.out, HK6.out⟩
                case measure => omega
              | false =>
                have HS2 := Lib.hid (fun r (hr : r < s + 1) => by
                  by_cases e : r = s
                  · subst e; rw [hfv, ← htv]; exact HTS.out
                  · exact HS.out r (by omega) : ∀ r, r < s + 1 → Plain.fallsB js r = Plain.wantB o xs ys r)
                clear hfv htv
                go_wp2_with fail
                go_roundg g2
                case rel => exact ⟨s + 1, by omega, by go_num, HS2.out, HR6.out, HK6.out⟩
                case measure => omega
          | zero =>
            obtain rfl : s = 64 := by omega
            have HG := Lib.hid (Plain.join_hit hlt HNO.out (good_hit HJA.out hl64 hsame))
            have HFIN := Lib.hid (And.intro hres hbel)
            clear hsame hres hrel htab hbel
            go_wp2_with fail
            try rw [Exit.noGoto_ret]
            go_ret3
            exact sib_of (HJA.out.symm.trans HG.out.1.symm) (by rw [HG.out.2.1]) HG.out.2.2.symm ⟨_, rfl, ⟨a5, c5, rfl, HFIN.out.1⟩, HFIN.out.2⟩
      · rw [(short_no hl64).1, (short_no hl64).2] at hcall
        have HCALL := Lib.hid hcall
        have HG := Lib.hid (no_more HNO.out (good_long HJA.out hl64))
        clear hcall hl64
        go_wp2_with fail
        refine HCALL.out.mono ?_
        rintro e w5 ⟨v5, rfl, -, hb⟩
        have HK5 := Lib.hid (And.intro (HK4.out.1.later hb) (And.intro (HK4.out.2.1.on hb) (HK4.out.2.2.trans (hb.mono HK4.out.2.2.size))))
        clear hb HK4 HCALL
        go_wp2_with fail
        go_roundg g1
        case rel => exact ⟨k + 1, by omega, by go_num, HG.out, HK5.out⟩
        case measure => omega
    | zero =>
      have hk145 : k = 145 := by omega
      have hi : ¬ ((k : Int) < 145) := by omega
      rw [hk145] at hno
      have HJN := Lib.hid (Plain.join_none hno)
      have HRES := Lib.hid (coll_res (coll_start wr))
      have HB := Lib.hid hbel
      clear hrel htab hbel hno hk145
      go_wp2_with fail
      try rw [Exit.noGoto_ret]
      go_ret3
      exact sib_of HJN.out.1.symm (by rw [HJN.out.2.1]; rfl) HJN.out.2.2.symm ⟨_, rfl, HRES.out.1.mono HB.out.size, HB.out.trans (HRES.out.2.mono HB.out.size)⟩

end Go.Proofs.YtobjifggelmhcaaGreat

namespace Go.Proofs.YtobjifggelmhcaaGreat
open Go.ChangeShapes Go.WideShapes Go.ChangeAt Go.RowKit
set_option linter.unusedVariables false

/-- What OrWord and AndWord answer. -/
def twoB (xs ys : List Int) : Bool := Plain.wordB xs && Plain.wordB ys
def orB (o : Bool) (xs ys : List Int) : Bool := twoB xs ys && Plain.joinOk o xs ys
def orW (o : Bool) (xs ys : List Int) : List Int := if twoB xs ys = true then Plain.joinW o xs ys else []
def orN (o : Bool) (xs ys : List Int) : Nat := if twoB xs ys = true then Plain.joinN o xs ys else 0
theorem or_no {o : Bool} {xs ys : List Int} (h : Plain.wordB xs = false ∨ Plain.wordB ys = false) : orW o xs ys = [] ∧ orN o xs ys = 0 ∧ orB o xs ys = false := by
  have hb : twoB xs ys = false := by rcases h with h | h <;> simp [twoB, h]
  simp [orW, orN, orB, hb]
theorem or_yes {o : Bool} {xs ys : List Int} (h1 : Plain.wordB xs = true) (h2 : Plain.wordB ys = true) : orW o xs ys = Plain.joinW o xs ys ∧ orN o xs ys = Plain.joinN o xs ys ∧ orB o xs ys = Plain.joinOk o xs ys := by simp [orW, orN, orB, twoB, h1, h2]
theorem orW_le (o : Bool) (xs ys : List Int) : (orW o xs ys).length ≤ 64 := by
  unfold orW
  split
  · exact Plain.joinW_le _ _ _
  · simp
theorem sib_later {w w1 w' : World} {out : List Int} {n : Int} {ok : Bool} {e : Ending} (hb1 : Below w.heap.size w w1) (h : SIB out n ok w1 e w') : SIB out n ok w e w' := by
  obtain ⟨v, rfl, hr, hb⟩ := h
  exact ⟨v, rfl, hr.mono hb1.size, hb1.trans (hb.mono hb1.size)⟩
set_option maxRecDepth 100000 in
set_option maxHeartbeats 800000 in
theorem or_tells (s g1 g2 : Nat) (a1 a2 : Option Addr) (c1 c2 : Nat) (xs ys : List Int) (w : World) (hs : s < 64) (q1 : Hid (At1 22 w g1 (.slice a1 xs.length c1))) (q2 : Hid (At1 22 w g2 (.slice a2 ys.length c2))) (h1 : Hid (Ints w a1 xs)) (h2 : Hid (Ints w a2 ys)) (l1 : Hid (Plain.Letters xs)) (l2 : Hid (Plain.Letters ys)) (hx : xs.length ≤ 64) (hy : ys.length ≤ 64) :
    Calls Tryz.prog 58 #[.int .i64 (s : Int), .pointer (some ⟨g1, 0, none⟩), .pointer (some ⟨g2, 0, none⟩)] w (Val (.bool (Plain.wantB true xs ys s)) w) := by
  have hc1 := q1.out.cell
  go_enter Tryz.func58, Tryz.ntmps58
  go_wp2_with fail
  clear hc1
  refine (falls_any a1 c1 xs s _ h1 l1 (by omega) hs).mono ?_
  cases hf : Plain.fallsB xs s with
  | true =>
    have HE : Hid (Plain.wantB true xs ys s = true) := Lib.hid (by simp [Plain.wantB, hf])
    clear hf
    rintro e w1 ⟨rfl, hb⟩
    have HB := Lib.hid hb
    clear hb
    go_wp2_with fail
    go_ret
    exact ⟨ret_bool HE.out.symm, HB.out⟩
  | false =>
    have HE : Hid (Plain.wantB true xs ys s = Plain.fallsB ys s) := Lib.hid (by simp [Plain.wantB, hf])
    clear hf
    rintro e w1 ⟨rfl, hb⟩
    have HB := Lib.hid hb
    have hc2 := (q2.out.on hb).cell
    clear hb
    go_wp2_with fail
    clear hc2
    refine (falls_any a2 c2 ys s _ (Lib.hid (h2.out.on HB.out)) l2 (by omega) hs).mono ?_
    rintro e w2 ⟨rfl, hb⟩
    have HB2 := Lib.hid (HB.out.trans (hb.mono HB.out.size))
    clear hb
    go_wp2_with fail
    go_ret
    exact ⟨ret_bool HE.out.symm, HB2.out⟩
set_option maxRecDepth 100000 in
set_option maxHeartbeats 4000000 in
theorem implOrWord_any (a1 a2 : Option Addr) (c1 c2 : Nat) (xs ys : List Int) (w : World) (h1 : Hid (Ints w a1 xs)) (k1 : Hid (Cap a1 xs.length c1)) (n1 : Hid (In64 xs)) (h2 : Hid (Ints w a2 ys)) (k2 : Hid (Cap a2 ys.length c2)) (n2 : Hid (In64 ys)) (hx : xs.length ≤ 1048576) (hy : ys.length ≤ 1048576) :
    Calls Tryz.prog 37 #[.slice a1 xs.length c1, .slice a2 ys.length c2] w (SIB (orW true xs ys) (orN true xs ys : Nat) (orB true xs ys) w) := by
  have hq1 : At1 22 ((w.alloc (.cells #[.slice a1 xs.length c1] 22)).alloc (.cells #[.slice a2 ys.length c2] 22)) w.heap.size (.slice a1 xs.length c1) := at1_old _ _ _
  have hq2 : At1 22 ((w.alloc (.cells #[.slice a1 xs.length c1] 22)).alloc (.cells #[.slice a2 ys.length c2] 22)) (w.heap.size + 1) (.slice a2 ys.length c2) := At1.second _ _ _
  have hcx := hq1.cell
  have H0 := Lib.hid (And.intro hq1 (And.intro hq2 (((Below.refl w.heap.size w).alloc (Nat.le_refl _) (.cells #[.slice a1 xs.length c1] 22)).alloc (by simp) (.cells #[.slice a2 ys.length c2] 22))))
  clear hq1 hq2
  cases hw1 : Plain.wordB xs with
  | false =>
    have HE := Lib.hid (or_no (o := true) (ys := ys) (.inl hw1))
    have W1 := Lib.hid hw1
    clear hw1
    go_enter Tryz.func37, Tryz.ntmps37
    go_wp2_with fail
    obtain ⟨W, hW⟩ : ∃ W, W = ((w.alloc (.cells #[.slice a1 xs.length c1] 22)).alloc (.cells #[.slice a2 ys.length c2] 22)) := ⟨_, rfl⟩
    rw [← hW] at H0 ⊢
    clear hW
    clear hcx
    refine (isWord_any _ _ xs _ (Lib.hid (h1.out.on H0.out.2.2)) n1 (by omega)).mono ?_
    rw [W1.out]
    rintro e w' ⟨rfl, rfl⟩
    have HRES := Lib.hid (coll_res (coll_start W))
    go_wp2_with fail
    go_ret3
    exact sib_of HE.out.1.symm (by rw [HE.out.2.1]; rfl) HE.out.2.2.symm ⟨_, rfl, HRES.out.1.mono H0.out.2.2.size, H0.out.2.2.trans (HRES.out.2.mono H0.out.2.2.size)⟩
  | true =>
    cases hw2 : Plain.wordB ys with
    | false =>
      have HE := Lib.hid (or_no (o := true) (xs := xs) (.inr hw2))
      have W1 := Lib.hid hw1
      have W2 := Lib.hid hw2
      clear hw1 hw2
      go_enter Tryz.func37, Tryz.ntmps37
      go_wp2_with fail
      obtain ⟨W, hW⟩ : ∃ W, W = ((w.alloc (.cells #[.slice a1 xs.length c1] 22)).alloc (.cells #[.slice a2 ys.length c2] 22)) := ⟨_, rfl⟩
      rw [← hW] at H0 ⊢
      clear hW
      clear hcx
      refine (isWord_any _ _ xs _ (Lib.hid (h1.out.on H0.out.2.2)) n1 (by omega)).mono ?_
      rw [W1.out]
      rintro e w' ⟨rfl, rfl⟩
      have hcy := H0.out.2.1.cell
      go_wp2_with fail
      clear hcy
      refine (isWord_any _ _ ys _ (Lib.hid (h2.out.on H0.out.2.2)) n2 (by omega)).mono ?_
      rw [W2.out]
      rintro e w' ⟨rfl, rfl⟩
      have HRES := Lib.hid (coll_res (coll_start W))
      go_wp2_with fail
      go_ret3
      exact sib_of HE.out.1.symm (by rw [HE.out.2.1]; rfl) HE.out.2.2.symm ⟨_, rfl, HRES.out.1.mono H0.out.2.2.size, H0.out.2.2.trans (HRES.out.2.mono H0.out.2.2.size)⟩
    | true =>
      have HE := Lib.hid (or_yes (o := true) hw1 hw2)
      have m1 := (Plain.wordB_iff.1 hw1).1
      have m2 := (Plain.wordB_iff.1 hw2).1
      have L1 := Lib.hid (Plain.wordB_iff.1 hw1).2
      have L2 := Lib.hid (Plain.wordB_iff.1 hw2).2
      have W1 := Lib.hid hw1
      have W2 := Lib.hid hw2
      obtain ⟨t, ht⟩ : ∃ t, t = Plain.wantB true xs ys := ⟨_, rfl⟩
      have HTW := Lib.hid ht
      clear hw1 hw2 ht
      go_enter Tryz.func37, Tryz.ntmps37
      go_wp2_with fail
      obtain ⟨W, hW⟩ : ∃ W, W = ((w.alloc (.cells #[.slice a1 xs.length c1] 22)).alloc (.cells #[.slice a2 ys.length c2] 22)) := ⟨_, rfl⟩
      rw [← hW] at H0 ⊢
      clear hW
      clear hcx
      refine (isWord_any _ _ xs _ (Lib.hid (h1.out.on H0.out.2.2)) n1 (by omega)).mono ?_
      rw [W1.out]
      rintro e w' ⟨rfl, rfl⟩
      have hcy := H0.out.2.1.cell
      go_wp2_with fail
      clear hcy
      refine (isWord_any _ _ ys _ (Lib.hid (h2.out.on H0.out.2.2)) n2 (by omega)).mono ?_
      rw [W2.out]
      rintro e w' ⟨rfl, rfl⟩
      go_wp2_with fail
      have hct : Tells 58 #[] #[.pointer (some ⟨w.heap.size, 0, none⟩), .pointer (some ⟨w.heap.size + 1, 0, none⟩)] t W := fun s X hs hb => by
        rw [HTW.out]
        simpa using or_tells s w.heap.size (w.heap.size + 1) a1 a2 c1 c2 xs ys X hs (Lib.hid (H0.out.1.on hb)) (Lib.hid (H0.out.2.1.on hb)) (Lib.hid (h1.out.on (H0.out.2.2.trans (hb.mono H0.out.2.2.size)))) (Lib.hid (h2.out.on (H0.out.2.2.trans (hb.mono H0.out.2.2.size)))) L1 L2 m1 m2
      refine (tableThat_any 58 #[] #[.pointer (some ⟨w.heap.size, 0, none⟩), .pointer (some ⟨w.heap.size + 1, 0, none⟩)] t _ (enters_of Tryz.func58 (by kernel_rfl) rfl) (Lib.hid hct)).mono ?_
      rintro e w4 ⟨rfl, hb⟩
      have HTN := Lib.hid (tabF_new w4 (fun _ => false))
      have HTF := Lib.hid (tabF_row (t := t) HTN.out)
      have hb5 : Below w4.heap.size w4 ((w4.alloc (.cells (bools fun _ => false) 68)).setRow w4.heap.size (bools t)) := below_setRow ((Below.refl _ w4).alloc (Nat.le_refl _) _) (Nat.le_refl _) _
      have hb6 := hb.trans (hb5.mono hb.size)
      have H5 := Lib.hid (And.intro (H0.out.1.on hb6) (And.intro (H0.out.2.1.on hb6) (H0.out.2.2.trans (hb6.mono H0.out.2.2.size))))
      have hcx5 := H5.out.1.cell
      have hcy5 := H5.out.2.1.cell
      rw [bools_zero] at hcx5 hcy5
      clear hb hct hb5 hb6
      go_wp2_with (first
        | (refine wpList_store_row rfl 68 _ _ rfl w4.heap.size (bools t) rfl rfl 68 (bools fun _ => false) (by rw [← bools_zero]; exact HTN.out) info64f rfl (bools_one _) ?_)
        | (refine wpList_load_row rfl 68 _ rfl w4.heap.size rfl 68 (bools t) (0, 0) _ (by rw [← bools_zero]; exact HTF.out) Tryz.underlying68 rfl info64f ?_))
      rw [← bools_zero]
      clear hcx5 hcy5
      obtain ⟨W5, hW5⟩ : ∃ W5, W5 = ((w4.alloc (.cells (bools fun _ => false) 68)).setRow w4.heap.size (bools t)) := ⟨_, rfl⟩
      rw [← hW5] at H5 ⊢
      clear hW5 HTN HTF
      rw [HTW.out]
      refine (firstJoined_any 61 true a1 a2 c1 c2 xs ys _ (enters_of Tryz.func61 (by kernel_rfl) rfl) (Lib.hid joins_comm) (Lib.hid (h1.out.on H5.out.2.2)) k1 (Lib.hid (h2.out.on H5.out.2.2)) k2 L1 L2 m1 m2).mono ?_
      rintro e w6 ⟨v, rfl, hr, hb⟩
      have R := Lib.hid (And.intro (hr.mono H5.out.2.2.size) (H5.out.2.2.trans (hb.mono H5.out.2.2.size)))
      clear hr hb
      go_wp2_with fail
      go_ret3
      exact sib_of HE.out.1.symm (by rw [HE.out.2.1]) HE.out.2.2.symm ⟨_, rfl, R.out.1, R.out.2⟩

end Go.Proofs.YtobjifggelmhcaaGreat
