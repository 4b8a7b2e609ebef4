/- Contracts: spec.l6Build, impl.builtInOrder; BuildWord, CostOf of both. Conditions: numbers of 64 bits, lengths that fit. -/
import Derived.Test.YtobjifggelmhcaaGreatJoin6
namespace Go.Proofs.YtobjifggelmhcaaGreat
open Go.ChangeShapes Go.WideShapes Go.ChangeAt Go.RowKit
set_option linter.unusedVariables false

theorem letters64 {xs : List Int} (h : Plain.Letters xs) : In64 xs := fun j x hx => by have := h.at hx; omega
theorem set_elem {xs : List Int} (h : Plain.setsB xs = true) {k : Nat} {x : Int} (hx : xs[k]? = some x) : ∃ s : Nat, x = (s : Int) ∧ s < 64 ∧ Plain.setAt xs k = Plain.setWord s := by
  have hr := Plain.setsB_at h hx
  obtain ⟨h1, h2⟩ := Plain.nat_of hr
  refine ⟨x.toNat, h1.symm, h2, ?_⟩
  rw [Plain.setAt, List.getD_eq_getElem?_getD, hx]; rfl
set_option maxRecDepth 100000 in
set_option maxHeartbeats 4000000 in
theorem l6Build_any (a : Option Addr) (cap : Nat) (xs : List Int) (w : World) (h : Hid (Ints w a xs)) (hs : Hid (Plain.setsB xs = true)) (hn : xs.length ≤ 1048576) :
    Calls Tryz.prog 24 #[.slice a xs.length cap] w (SB (Plain.builtW xs) (Plain.builtB xs) w) := by
  by_cases h0 : xs.length = 0
  · have HE := Lib.hid (Plain.built_nil h0)
    have HS := Lib.hid (coll_res (coll_start w))
    have hq : ((xs.length : Int) == 0) = true := by simp [h0]
    clear h0
    go_enter Tryz.func24, Tryz.ntmps24
    go_wp2_with fail
    go_ret2
    exact sb_of HE.out.1.symm HE.out.2.symm ⟨_, rfl, HS.out.1, HS.out.2⟩
  · obtain ⟨x0, hx0⟩ := at_some xs 0 (by omega)
    obtain ⟨s0, rfl, hs0, hset0⟩ := set_elem hs.out hx0
    obtain ⟨b, o, rfl, hc⟩ := h.out 0 _ hx0
    rw [Nat.add_zero] at hc
    have hq : ((xs.length : Int) == 0) = false := by simp; intro e; exact h0 (by rw [e]; rfl)
    have hl := Plain.setWord_le s0
    have HM := Lib.hid (fun W => l6Set_any s0 W hs0)
    obtain ⟨L0, hL0⟩ : ∃ L, L = Plain.setWord s0 := ⟨_, rfl⟩
    rw [← hL0] at hl HM hset0
    have HB0 : Hid (Plain.buildTo xs 0 = some L0) := Lib.hid (by rw [← hset0]; rfl)
    have hpos : 0 < xs.length := by omega
    clear hx0 hset0 hL0 h0
    go_enter Tryz.func24, Tryz.ntmps24
    go_wp2_with fail
    clear hc
    refine (HM.out _).mono ?_
    rintro e w1 ⟨_, rfl, ⟨a1, c1, rfl, hi, ho, hk⟩, hb⟩
    have H1 := Lib.hid (And.intro hi (And.intro ho (And.intro hk hb)))
    clear hi ho hk hb
    go_wp2_with fail
    go_loopw [4, 5] (fun v i wr => ∃ k : Nat, k < xs.length ∧ i = .int .i64 ((k : Int) + 1) ∧ ∃ u au cu, v = .slice au u.length cu ∧ Plain.buildTo xs k = some u ∧ Ints wr au u ∧ Own w.heap.size wr au u.length ∧ Cap au u.length cu ∧ Below w.heap.size w wr) (fun _ i _ => xs.length - (intOf i).toNat)
    case atStart => exact ⟨0, hpos, rfl, L0, a1, c1, rfl, HB0.out, H1.out⟩
    case round =>
      clear H1 HB0
      obtain ⟨k, hk, rfl, u, au, cu, rfl, hbt, hi, ho, hkc, hbel⟩ := hrel
      have HBT := Lib.hid hbt
      have hw := Plain.wordB_iff.1 (Plain.buildTo_word k u hbt)
      have hu64 := hw.1
      have LU := Lib.hid hw.2
      have HU := Lib.hid (And.intro hi (And.intro ho (And.intro hkc hbel)))
      clear hbt hi ho hkc hbel hw
      by_cases hlt : k + 1 < xs.length
      · obtain ⟨x, hx⟩ := at_some xs (k + 1) hlt
        obtain ⟨s, rfl, hs64, hset⟩ := set_elem hs.out hx
        obtain ⟨b2, o2, e2, hc⟩ := (h.out.on HU.out.2.2.2) (k + 1) _ hx
        cases e2
        have hlt2 : (k : Int) + 1 < (xs.length : Int) := by omega
        have hk0 : (0 : Int) ≤ (k : Int) := by omega
        have HSTEP := Plain.buildTo_step HBT.out
        have hsl := Plain.setWord_le s
        have LS := Lib.hid (Plain.setWord_letters s)
        have HM2 := Lib.hid (fun W => l6Set_any s W hs64)
        obtain ⟨sw, hsw⟩ : ∃ sw, sw = Plain.setWord s := ⟨_, rfl⟩
        rw [hset, ← hsw] at HSTEP
        rw [← hsw] at hsl LS HM2
        have HST := Lib.hid HSTEP
        clear hx hset hsw HSTEP HM
        go_wp2_with fail
        clear hc
        refine (HM2.out _).mono ?_
        rintro e w2 ⟨_, rfl, ⟨a3, c3, rfl, hi3, -, hk3⟩, hb⟩
        have HU2 := Lib.hid (And.intro (HU.out.1.on hb) (And.intro (HU.out.2.2.2.trans (hb.mono HU.out.2.2.2.size)) HU.out.2.2.1))
        have H3 := Lib.hid (And.intro hi3 hk3)
        clear hb hi3 hk3 HU
        go_wp2_with fail
        refine (l6Join_any au a3 cu c3 u sw true _ (Lib.hid HU2.out.1) (Lib.hid HU2.out.2.2) (Lib.hid H3.out.1) (Lib.hid H3.out.2) LU LS hu64 (by omega)).mono ?_
        cases hok : Plain.joinOk true u sw with
        | true =>
          have HBT2 : Hid (Plain.buildTo xs (k + 1) = some (Plain.joinW true u sw)) := Lib.hid (by rw [HST.out, if_pos hok])
          have hjl := Plain.joinW_le true u sw
          obtain ⟨jw, hjw⟩ : ∃ jw, jw = Plain.joinW true u sw := ⟨_, rfl⟩
          rw [← hjw] at HBT2 hjl ⊢
          clear hok hjw
          rintro e w4 ⟨_, rfl, ⟨a5, c5, rfl, hi5, ho5, hk5⟩, hb⟩
          have H5 := Lib.hid (And.intro hi5 (And.intro (ho5.mono HU2.out.2.1.size) (And.intro hk5 (HU2.out.2.1.trans (hb.mono HU2.out.2.1.size)))))
          clear hb hi5 ho5 hk5 HU2 H3
          go_wp2_with fail
          go_roundw
          case rel => exact ⟨k + 1, hlt, by go_num, jw, a5, c5, rfl, HBT2.out, H5.out⟩
          case measure => simp [intOf]; omega
        | false =>
          have HE : Hid (Plain.builtW xs = [] ∧ Plain.builtB xs = false) := Lib.hid (Plain.built_no hlt (by rw [HST.out, hok]; rfl))
          clear hok
          rintro e w4 ⟨v4, rfl, -, hb⟩
          have HB4 := Lib.hid (HU2.out.2.1.trans (hb.mono HU2.out.2.1.size))
          have HS := Lib.hid (coll_res (coll_start w4))
          clear hb HU2 H3
          go_wp2_with fail
          go_ret2
          exact sb_of HE.out.1.symm HE.out.2.symm ⟨_, rfl, HS.out.1.mono HB4.out.size, HB4.out.trans (HS.out.2.mono HB4.out.size)⟩
      · have hlt2 : ¬ ((k : Int) + 1 < (xs.length : Int)) := by omega
        have HE := Lib.hid (Plain.built_yes (by omega) HBT.out)
        go_wp2_with fail
        go_ret2
        exact sb_of HE.out.1.symm HE.out.2.symm ⟨_, rfl, ⟨_, _, rfl, HU.out.1, HU.out.2.1, HU.out.2.2.1⟩, HU.out.2.2.2⟩
set_option maxRecDepth 100000 in
set_option maxHeartbeats 4000000 in
theorem builtInOrder_any (a : Option Addr) (cap : Nat) (xs : List Int) (w : World) (h : Hid (Ints w a xs)) (hkc : Hid (Cap a xs.length cap)) (hs : Hid (Plain.setsB xs = true)) (hpos : 0 < xs.length) (hn : xs.length ≤ 1048576) :
    Calls Tryz.prog 27 #[.slice a xs.length cap] w (SB (Plain.builtW xs) (Plain.builtB xs) w) := by
  obtain ⟨x0, hx0⟩ := at_some xs 0 (by omega)
  obtain ⟨s0, rfl, hs0, hset0⟩ := set_elem hs.out hx0
  obtain ⟨b, o, rfl, hc⟩ := h.out 0 _ hx0
  rw [Nat.add_zero] at hc
  have hl := Plain.setWord_le s0
  have HM := Lib.hid (fun W => setWord_any s0 W hs0)
  obtain ⟨L0, hL0⟩ : ∃ L, L = Plain.setWord s0 := ⟨_, rfl⟩
  rw [← hL0] at hl HM hset0
  have HB0 : Hid (Plain.buildTo xs 0 = some L0) := Lib.hid (by rw [← hset0]; rfl)
  have hk1 := hkc.out.1
  have hk2 := hkc.out.2.1
  have HF := Lib.hid (h.out.from 1)
  clear hx0 hset0 hL0
  by_cases hcap : cap = 1
  · have hlen : xs.length = 1 := by omega
    have HE := Lib.hid (Plain.built_yes (k := 0) (by omega) HB0.out)
    subst hcap
    have HLEN := Lib.hid hlen
    obtain ⟨n, hnn⟩ : ∃ n, n = xs.length := ⟨_, rfl⟩
    have hn1 : n = 1 := by omega
    rw [← hnn]
    subst hn1
    clear hlen hnn hpos hn hk1
    go_enter Tryz.func27, Tryz.ntmps27
    go_wp2_with fail
    clear hc
    refine (HM.out _).mono ?_
    rintro e w1 ⟨_, rfl, ⟨a1, c1, rfl, hi, ho, hk⟩, hb⟩
    have H1 := Lib.hid (And.intro hi (And.intro ho (And.intro hk hb)))
    clear hi ho hk hb
    go_wp2_with fail
    go_loopw [4, 17] (fun v i wr => i = .int .i64 0 ∧ v = .slice a1 L0.length c1 ∧ wr = w1) (fun _ i _ => 0)
    case atStart => exact ⟨rfl, rfl, rfl⟩
    case round =>
      obtain ⟨rfl, rfl, rfl⟩ := hrel
      go_wp2_with fail
      go_ret2
      exact sb_of HE.out.1.symm HE.out.2.symm ⟨_, rfl, ⟨_, _, rfl, H1.out.1, H1.out.2.1, H1.out.2.2.1⟩, H1.out.2.2.2⟩
  · have hcap2 : (1 : Int) ≤ (xs.length : Int) := by omega
    have hcap3 : ¬ ((cap : Int) = 1) := by omega
    go_enter Tryz.func27, Tryz.ntmps27
    go_wp2_with fail
    clear hc
    refine (HM.out _).mono ?_
    rintro e w1 ⟨_, rfl, ⟨a1, c1, rfl, hi, ho, hk⟩, hb⟩
    have H1 := Lib.hid (And.intro hi (And.intro ho (And.intro hk hb)))
    clear hi ho hk hb
    go_wp2_with fail
    go_loopw [4, 17] (fun v i wr => ∃ k : Nat, k < xs.length ∧ i = .int .i64 (k : Int) ∧ ∃ u au cu, v = .slice au u.length cu ∧ Plain.buildTo xs k = some u ∧ Ints wr au u ∧ Own w.heap.size wr au u.length ∧ Cap au u.length cu ∧ Below w.heap.size w wr) (fun _ i _ => xs.length - (intOf i).toNat)
    case atStart => exact ⟨0, hpos, rfl, L0, a1, c1, rfl, HB0.out, H1.out⟩
    case round =>
      clear H1 HB0
      obtain ⟨k, hk, rfl, u, au, cu, rfl, hbt, hi, ho, hkcu, hbel⟩ := hrel
      have HBT := Lib.hid hbt
      have hw := Plain.wordB_iff.1 (Plain.buildTo_word k u hbt)
      have HUW := Lib.hid (Plain.buildTo_word k u hbt)
      have hu64 := hw.1
      have LU := Lib.hid hw.2
      have HU := Lib.hid (And.intro hi (And.intro ho (And.intro hkcu hbel)))
      clear hbt hi ho hkcu hbel hw
      by_cases hlt : k + 1 < xs.length
      · obtain ⟨x, hx⟩ := at_some xs (k + 1) hlt
        obtain ⟨s, rfl, hs64, hset⟩ := set_elem hs.out hx
        obtain ⟨b2, o2, e2, hc⟩ := (HF.out.on HU.out.2.2.2) k (s : Int) (by rw [List.getElem?_drop, Nat.add_comm]; exact hx)
        cases e2
        have hlt2 : (k : Int) < (xs.length : Int) - 1 := by omega
        have hk0 : (0 : Int) ≤ (k : Int) := by omega
        have HSTEP := Plain.buildTo_step HBT.out
        have hsl := Plain.setWord_le s
        have LS := Lib.hid (Plain.setWord_letters s)
        have HSW := Lib.hid (Plain.setWord_word s)
        have HM2 := Lib.hid (fun W => setWord_any s W hs64)
        obtain ⟨sw, hsw⟩ : ∃ sw, sw = Plain.setWord s := ⟨_, rfl⟩
        rw [hset, ← hsw] at HSTEP
        rw [← hsw] at hsl LS HM2 HSW
        have HST := Lib.hid HSTEP
        clear hx hset hsw HSTEP HM
        go_wp2_with fail
        clear hc
        refine (HM2.out _).mono ?_
        rintro e w2 ⟨_, rfl, ⟨a3, c3, rfl, hi3, -, hk3⟩, hb⟩
        have HU2 := Lib.hid (And.intro (HU.out.1.on hb) (And.intro (HU.out.2.2.2.trans (hb.mono HU.out.2.2.2.size)) HU.out.2.2.1))
        have H3 := Lib.hid (And.intro hi3 hk3)
        clear hb hi3 hk3 HU
        have HOY := Lib.hid (or_yes (o := true) HUW.out HSW.out)
        go_wp2_with fail
        refine (implOrWord_any au a3 cu c3 u sw _ (Lib.hid HU2.out.1) (Lib.hid HU2.out.2.2) (Lib.hid (letters64 LU.out)) (Lib.hid H3.out.1) (Lib.hid H3.out.2) (Lib.hid (letters64 LS.out)) (by omega) (by omega)).mono ?_
        rw [HOY.out.1, HOY.out.2.1, HOY.out.2.2]
        cases hok : Plain.joinOk true u sw with
        | true =>
          have HBT2 : Hid (Plain.buildTo xs (k + 1) = some (Plain.joinW true u sw)) := Lib.hid (by rw [HST.out, if_pos hok])
          have hjl := Plain.joinW_le true u sw
          obtain ⟨jw, hjw⟩ : ∃ jw, jw = Plain.joinW true u sw := ⟨_, rfl⟩
          rw [← hjw] at HBT2 hjl ⊢
          clear hok hjw HOY
          rintro e w4 ⟨_, rfl, ⟨a5, c5, rfl, hi5, ho5, hk5⟩, hb⟩
          have H5 := Lib.hid (And.intro hi5 (And.intro (ho5.mono HU2.out.2.1.size) (And.intro hk5 (HU2.out.2.1.trans (hb.mono HU2.out.2.1.size)))))
          clear hb hi5 ho5 hk5 HU2 H3
          go_wp2_with fail
          go_roundw
          case rel => exact ⟨k + 1, hlt, by go_num, jw, a5, c5, rfl, HBT2.out, H5.out⟩
          case measure => simp [intOf]; omega
        | false =>
          have HE : Hid (Plain.builtW xs = [] ∧ Plain.builtB xs = false) := Lib.hid (Plain.built_no hlt (by rw [HST.out, hok]; rfl))
          clear hok HOY
          rintro e w4 ⟨v4, rfl, -, hb⟩
          have HB4 := Lib.hid (HU2.out.2.1.trans (hb.mono HU2.out.2.1.size))
          have HS := Lib.hid (coll_res (coll_start w4))
          clear hb HU2 H3
          go_wp2_with fail
          go_ret2
          exact sb_of HE.out.1.symm HE.out.2.symm ⟨_, rfl, HS.out.1.mono HB4.out.size, HB4.out.trans (HS.out.2.mono HB4.out.size)⟩
      · have hlt2 : ¬ ((k : Int) < (xs.length : Int) - 1) := by omega
        have HE := Lib.hid (Plain.built_yes (by omega) HBT.out)
        go_wp2_with fail
        go_ret2
        exact sb_of HE.out.1.symm HE.out.2.symm ⟨_, rfl, ⟨_, _, rfl, HU.out.1, HU.out.2.1, HU.out.2.2.1⟩, HU.out.2.2.2⟩
/-- What BuildWord answers. -/
def bwB (fs : List Int) : Bool := Plain.famB fs && Plain.builtB fs
def bwW (fs : List Int) : List Int := if Plain.famB fs = true then Plain.builtW fs else []
theorem bw_no {fs : List Int} (h : Plain.famB fs = false) : bwW fs = [] ∧ bwB fs = false := by simp [bwW, bwB, h]
theorem bw_yes {fs : List Int} (h : Plain.famB fs = true) : bwW fs = Plain.builtW fs ∧ bwB fs = Plain.builtB fs := by simp [bwW, bwB, h]
theorem bw_nil {fs : List Int} (h : fs.length = 0) : bwW fs = [] ∧ bwB fs = false := by
  have := Plain.built_nil h
  simp [bwW, bwB, this.1, this.2]
theorem bwW_le (fs : List Int) : (bwW fs).length ≤ 64 := by
  unfold bwW
  split
  · exact (Plain.builtW_word fs).1
  · simp

end Go.Proofs.YtobjifggelmhcaaGreat
