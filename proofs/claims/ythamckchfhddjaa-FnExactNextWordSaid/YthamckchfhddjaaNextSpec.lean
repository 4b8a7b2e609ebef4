/- Contract: spec.NextWord. Conditions: numbers of 64 bits, lengths that fit. -/
import Derived.Test.YthamckchfhddjaaNext7
namespace Go.Proofs.Ythamckchfhddjaa
open Go.ChangeShapes Go.WideShapes Go.ChangeAt Go.RowKit
set_option linter.unusedVariables false

theorem own8_at (a : Option Addr) (cap n : Nat) (xs : List Int) (w : World) (hl : xs.length = n) (h : Hid (Ints w a xs)) (hcp : Hid (Cap a n cap)) (hn : n ≤ 1048576) :
    Calls Try.prog 40 #[.slice a n cap] w fun e w' => ∃ v, e = .returned v ∧ Coll xs w.heap.size w v w' ∧ v ≠ .slice none 0 0 := by
  subst hl
  exact l1Own_any a cap xs w h hcp hn
theorem l7Filled_at (a : Option Addr) (cap n : Nat) (xs : List Int) (N : Nat) (w : World) (hl : xs.length = n) (h : Hid (Ints w a xs)) (hcp : Hid (Cap a n cap)) (hn : n ≤ 100) (hN : N ≤ 100) :
    Calls Try.prog 39 #[.slice a n cap, .int .i64 (N : Int)] w (fun e w' => ∃ v, e = .returned v ∧ Coll (Plain.fillW (N - n) xs) w.heap.size w v w') := by
  subst hl
  exact l7Filled_any a cap xs N w h hcp hn hN
set_option maxRecDepth 100000 in
set_option maxHeartbeats 4000000 in
theorem specNextWord_any (a : Option Addr) (cap : Nat) (xs : List Int) (n : Int) (w : World) (h : Hid (Ints w a xs)) (hcap : Hid (Cap a xs.length cap)) (h64 : Hid (In64 xs)) (hn : xs.length ≤ 9223372036854775807) (hr : -9223372036854775808 ≤ n ∧ n ≤ 9223372036854775807) :
    Calls Try.prog 20 #[.slice a xs.length cap, .int .i64 n] w (SB (nxW xs n) (nxB xs n) w) := by
  obtain ⟨i0, hi0, hz0, hz1, hz2⟩ := info_parts infoInt
  cases hw : wordOfB xs n with
  | false =>
    have HE := Lib.hid (nx_no hw)
    have HW := Lib.hid hw
    clear hw
    go_enter Try.func20, Try.ntmps20
    go_wp2_with fail
    refine (l7Word_any _ _ xs n _ h h64 hn hr).mono ?_
    rw [HW.out]
    rintro e w1 ⟨rfl, hb⟩
    have B1 := Lib.hid hb
    have HS := Lib.hid (coll_res (coll_start w1))
    clear hb
    go_wp2_with fail
    go_ret2
    exact sb_of HE.out.1.symm HE.out.2.symm ⟨_, rfl, HS.out.1.mono B1.out.size, B1.out.trans (HS.out.2.mono B1.out.size)⟩
  | true =>
    obtain ⟨n, rfl, -, -⟩ := n6_nat (wordOf_word hw).2.2.1
    obtain ⟨hg, hl, hL, h1, h6⟩ := good_of hw
    have HW := Lib.hid hw
    have HL := Lib.hid hL
    have HG := Lib.hid hg
    have HSOME := Lib.hid (fun r => nx_some (r := r) hw)
    have HEND := Lib.hid (nx_end hw)
    have HMORE := Lib.hid (nx_more hw)
    have HFILL : Hid (∀ g W, Hid (Ints W (some ⟨g, 0, none⟩) []) → Hid (Cap (some ⟨g, 0, none⟩) 0 0) → Calls Try.prog 39 #[.slice (some ⟨g, 0, none⟩) 0 0, .int .i64 ((xs.length : Int) + 1)] W (fun e w' => ∃ v, e = .returned v ∧ Coll (Plain.fillW (xs.length + 1) []) W.heap.size W v w')) := Lib.hid (fun g W k1 k2 => by
      have := l7Filled_at (some ⟨g, 0, none⟩) 0 0 [] (xs.length + 1) W rfl k1 k2 (by omega) (by omega)
      rwa [show ((xs.length + 1 : Nat) : Int) = (xs.length : Int) + 1 by omega, Nat.sub_zero] at this)
    have hcl := hcap.out.1
    have hch := hcap.out.2.1
    have HCN := Lib.hid hcap.out.2.2
    clear hw hg hL
    go_enter Try.func20, Try.ntmps20
    go_wp2_with fail
    refine (l7Word_any _ _ xs (n : Int) _ h h64 hn hr).mono ?_
    rw [HW.out]
    rintro e w1 ⟨rfl, hb⟩
    have B1 := Lib.hid hb
    clear hb
    go_wp2_with fail
    go_loopg [6] xs.length (fun g i wr => ∃ iv : Int, i = .int .i64 iv ∧ iv = (g : Int) - 1 ∧ g ≤ xs.length ∧ Plain.nextFrom n xs g = Plain.nextFrom n xs xs.length ∧ Below w.heap.size w wr)
    case atStart => exact ⟨_, rfl, by omega, Nat.le_refl _, rfl, B1.out⟩
    case round =>
      clear B1
      obtain ⟨iv, rfl, hiv, hgl, hnf, hbw⟩ := hrel
      cases gk with
      | zero =>
        have HNF : Hid (Plain.nextFrom n xs xs.length = none) := Lib.hid hnf.symm
        have hneg : ¬ (0 : Int) ≤ iv := by omega
        have HBW := Lib.hid hbw
        clear hiv hgl hnf hbw
        by_cases h64l : xs.length = 64
        · have HE := Lib.hid (HEND.out HNF.out h64l)
          have hq : ((xs.length : Int) == 64) = true := by simp [h64l]
          have HS := Lib.hid (coll_res (coll_start wr))
          clear h64l
          go_wp2_with fail
          go_ret2
          exact sb_of HE.out.1.symm HE.out.2.symm ⟨_, rfl, HS.out.1.mono HBW.out.size, HBW.out.trans (HS.out.2.mono HBW.out.size)⟩
        · have HE := Lib.hid (HMORE.out HNF.out h64l)
          have hq : ((xs.length : Int) == 64) = false := by simp; omega
          have hb0 := (Below.refl wr.heap.size wr).alloc (Nat.le_refl _) (.cells #[] 3)
          have HS := Lib.hid (HBW.out.trans (hb0.mono HBW.out.size))
          have HCP : Hid (Cap (some ⟨wr.heap.size, 0, none⟩) 0 0) := Lib.hid ⟨Nat.le_refl _, by omega, fun e => (by cases e), fun x e => (by cases e; exact ⟨_, _, rfl⟩)⟩
          clear h64l hb0
          go_wp2_with fail
          refine (HFILL.out _ _ (Lib.hid (Ints.nil _ _)) HCP).mono ?_
          rintro e w3 ⟨v3, rfl, hC⟩
          have HR := Lib.hid (And.intro ((coll_res hC).1.mono HS.out.size) (HS.out.trans ((coll_res hC).2.mono HS.out.size)))
          clear hC
          go_wp2_with fail
          go_ret2
          exact sb_of HE.out.1.symm HE.out.2.symm ⟨_, rfl, HR.out.1, HR.out.2⟩
      | succ i =>
        have hil : i < xs.length := by omega
        obtain rfl : iv = (i : Int) := by omega
        obtain ⟨x, hx⟩ := at_some xs i hil
        obtain ⟨c, hc, hxc, hpl⟩ := Plain.place_code HG.out hx
        have hxr := HL.out.at hx
        have HCODE : Hid (Plain.codeOf x = (c : Int)) := Lib.hid (by rw [hxc, Plain.code_letter])
        have HHIT : Hid (∀ y, Plain.nextAt n (xs.take i) x = some y → nxW xs (n : Int) = Plain.fillW (xs.length - (i + 1)) (xs.take i ++ [y]) ∧ nxB xs (n : Int) = true) := Lib.hid (fun y hy => HSOME.out _ (hnf.symm.trans (Plain.next_some hx hy)))
        have HMISS : Hid (Plain.nextAt n (xs.take i) x = none → Plain.nextFrom n xs i = Plain.nextFrom n xs xs.length) := Lib.hid (fun hy => (Plain.next_none hx hy).symm.trans hnf)
        obtain ⟨b, o, rfl, hcx⟩ := (h.out.on hbw) i x hx
        have HIN := Lib.hid (h.out.on hbw)
        have HXR := Lib.hid hxr
        have HPL := Lib.hid hpl
        have HBW := Lib.hid hbw
        have hiI : (i : Int) < (xs.length : Int) := by omega
        have hi0' : (0 : Int) ≤ (i : Int) := by omega
        obtain ⟨P, hP⟩ : ∃ P, P = Plain.placeOf (xs.take i) x := ⟨_, rfl⟩
        have HP := Lib.hid hP
        clear hxc hpl hxr hbw hnf hx hiv hgl hP
        go_wp2_with fail
        refine (l2Code_any x _ HXR.out.2).mono ?_
        rw [HCODE.out]
        rintro e w' ⟨rfl, rfl⟩
        go_wp2_with fail
        clear hcx
        go_loopg [7] (2 * n - (c + 1)) (fun g v wx => ∃ k, k + g = 2 * n ∧ v = .int .i64 (k : Int) ∧ (Plain.behind (xs.take i) k).length = Plain.placeOf (xs.take i) x + 1 ∧ Below w.heap.size w wx)
        case atStart => exact ⟨c + 1, by omega, by go_num, HPL.out, HBW.out⟩
        case round =>
          rename_i wx
          obtain ⟨k, hk, rfl, hbk, hbx⟩ := hrel
          cases gk with
          | zero =>
            obtain ⟨k0, hk0⟩ : ∃ k0, k0 = k := ⟨_, rfl⟩
            have HNF := Lib.hid (HMISS.out (Plain.next_miss (by rw [← hbk, show k = 2 * n by omega])))
            have hi3 : ¬ (k : Int) < 2 * (n : Int) := by omega
            have HBX := Lib.hid hbx
            clear hk hbk hbx hk0
            go_wp2_with fail
            go_roundg i
            case measure => omega
            case rel => exact ⟨_, rfl, by omega, by omega, HNF.out, HBX.out⟩
          | succ g1 =>
            have hk12 : k < 12 := by omega
            have hi3 : (k : Int) < 2 * (n : Int) := by omega
            have hk00 : (0 : Int) ≤ (k : Int) := by omega
            have HKG := Lib.hid hk
            have HI := Lib.hid (h.out.on hbx)
            have HBX := Lib.hid hbx
            have hk2n : k < 2 * n := by omega
            have HNEXT : Hid (Plain.stays (xs.take i) (Plain.letterAt k) = true → Plain.nextAt n (xs.take i) x = some (Plain.letterAt k)) := Lib.hid (fun hs => Plain.next_hit hk2n hs hbk)
            have HSKIP : Hid (¬ Plain.stays (xs.take i) (Plain.letterAt k) = true → (Plain.behind (xs.take i) (k + 1)).length = Plain.placeOf (xs.take i) x + 1) := Lib.hid (fun hs => by rw [Plain.behind_step, if_neg hs]; exact hbk)
            have HTL : Hid ((xs.take i).length = i) := Lib.hid (by simp; omega)
            have HT := Lib.hid (ints_take (h.out.on hbx) i)
            have hci : i ≤ cap := by omega
            have HCI : Hid (Cap (some ⟨b, o, none⟩) i cap) := Lib.hid ⟨by omega, hch, HCN.out⟩
            clear hk hbk hbx
            by_cases hz : i = 0
            · have hq1 : ((i : Int) == 0) = true := by simp [hz]
              have hst : Plain.stays (xs.take i) (Plain.letterAt k) = true := by rw [hz, List.take_zero]; rfl
              have HE := Lib.hid (HHIT.out _ (HNEXT.out hst))
              clear hz hst
              go_wp2_with fail
              go_quiet (fail)
              obtain ⟨T, hT⟩ : ∃ T, T = xs.take i := ⟨_, rfl⟩
              rw [← hT] at HTL HT HE
              clear hT
              go_wp2_with fail
              refine (own8_at _ cap i T _ HTL.out (Lib.hid (HT.out.drewN _)) HCI (by omega)).mono ?_
              rintro e w3 ⟨v1, rfl, hC, -⟩
              have HC1 := Lib.hid hC
              have HB3 := Lib.hid ((below_drewN HBX.out nq).trans (hC.2.1.mono HBX.out.size))
              clear hC
              go_wp2_with fail
              refine (l7Letter_any k _ hk12).mono ?_
              obtain ⟨z, hz'⟩ : ∃ z, z = Plain.letterAt k := ⟨_, rfl⟩
              rw [← hz'] at HE ⊢
              clear hz'
              rintro e w4 ⟨rfl, rfl⟩
              go_wp2_with (at_builtin; refine wpList_append_own _ rfl _ _ 25 rfl _ 3 i0 (.int .i64 0) 1 8 Try.underlying25 hi0 hz0 hz1 hz2 rfl (by decide) _ _ _ rfl (HC1.out.1.alloc _) ⟨w4.heap.size, 0, none⟩ 1 1 [.int .i64 z] rfl rfl ?d1 ?d2 ?d3 ?d4 ?d5 ?_)
              case d1 => exact cell_one_new _ _ _
              case d2 => simp [Value.oneCell']
              case d3 => have := HTL.out; unfold maxLen; omega
              case d4 => have := HTL.out; omega
              case d5 => exact Nat.le_trans HC1.out.2.2 (by simp)
              intro v3 w5 hown3 hgrow3 _
              have hC3 := coll_push (x := z) HC1.out hown3 hgrow3
              obtain ⟨⟨a5, c5, e5, hi5, ho5, hc5⟩, hb5⟩ := coll_res hC3
              obtain ⟨zs, hzs⟩ : ∃ zs, zs = T ++ [z] := ⟨_, rfl⟩
              have HZL : Hid (zs.length = i + 1) := Lib.hid (by rw [hzs, List.length_append, HTL.out]; rfl)
              rw [← hzs] at e5 hi5 ho5 hc5 HE
              rw [HZL.out] at e5 hc5
              subst e5
              have HI5 := Lib.hid hi5
              have HC5 := Lib.hid hc5
              have HB5 := Lib.hid ((below_drewN HBX.out nq).trans (hb5.mono HBX.out.size))
              clear hown3 hgrow3 hC3 hi5 ho5 hc5 hb5 hzs
              go_wp2_with fail
              refine (l7Filled_at a5 c5 (i + 1) zs xs.length _ HZL.out HI5 HC5 (by omega) (by omega)).mono ?_
              rintro e w6 ⟨v6, rfl, hC6⟩
              have HR := Lib.hid (And.intro ((coll_res hC6).1.mono HB5.out.size) (HB5.out.trans ((coll_res hC6).2.mono HB5.out.size)))
              clear hC6
              go_wp2_with fail
              go_ret2
              exact sb_of HE.out.1.symm HE.out.2.symm ⟨_, rfl, HR.out.1, HR.out.2⟩
            · obtain ⟨i2, hi2⟩ : ∃ i2, i = i2 + 1 := ⟨i - 1, by omega⟩
              have hq1 : ((i : Int) == 0) = false := by simp [hz]
              have hmk : (i : Int) - 1 = (i2 : Int) := by omega
              have hi20 : (0 : Int) ≤ (i2 : Int) := by omega
              have hi2l : (i2 : Int) < (xs.length : Int) := by omega
              have hwk : IntKind.i64.wrap ((i : Int) - 1) = (i2 : Int) := by rw [hmk]; exact IntWalk.i64_in _ (by omega)
              obtain ⟨y, hy⟩ := at_some xs i2 (by omega)
              obtain ⟨b3, o3, e3, hcy⟩ := HI.out i2 y hy
              cases e3
              have hyr := (HL.out.at hy).2
              have hsy := Plain.stays_some (w := xs.take i) (y := y) (by rw [HTL.out, show i - 1 = i2 by omega, List.getElem?_take_of_lt (by omega)]; exact hy) (Plain.letterAt k)
              have HX := Lib.hid (rfl : Plain.letterAt k = Plain.letterAt k)
              by_cases hey : y = -Plain.letterAt k
              · have hq : (Plain.letterAt k != -y) = false := by simp; omega
                have HE := Lib.hid (HSKIP.out (by rw [hsy]; simpa using hey))
                clear hz hsy hey hy hi2
                go_wp2_with fail
                go_quiet ((go_at_call 34; exact Calls.quiet_of_same (l7Letter_any k _ hk12)))
                go_wp2_with fail
                go_roundg g1
                case measure => omega
                case rel => exact ⟨k + 1, by have := HKG.out; omega, by go_num, HE.out, below_drewN HBX.out _⟩
              · have hq : (Plain.letterAt k != -y) = true := by simp; omega
                have HE := Lib.hid (HHIT.out _ (HNEXT.out (by rw [hsy]; simpa using hey)))
                clear hz hsy hey hy hi2
                go_wp2_with fail
                go_quiet ((go_at_call 34; exact Calls.quiet_of_same (l7Letter_any k _ hk12)))
                obtain ⟨T, hT⟩ : ∃ T, T = xs.take i := ⟨_, rfl⟩
                rw [← hT] at HTL HT HE
                clear hT
                go_wp2_with fail
                refine (own8_at _ cap i T _ HTL.out (Lib.hid (HT.out.drewN _)) HCI (by omega)).mono ?_
                rintro e w3 ⟨v1, rfl, hC, -⟩
                have HC1 := Lib.hid hC
                have HB3 := Lib.hid ((below_drewN HBX.out nq).trans (hC.2.1.mono HBX.out.size))
                clear hC
                go_wp2_with fail
                refine (l7Letter_any k _ hk12).mono ?_
                obtain ⟨z, hz'⟩ : ∃ z, z = Plain.letterAt k := ⟨_, rfl⟩
                rw [← hz'] at HE ⊢
                clear hz'
                rintro e w4 ⟨rfl, rfl⟩
                go_wp2_with (at_builtin; refine wpList_append_own _ rfl _ _ 25 rfl _ 3 i0 (.int .i64 0) 1 8 Try.underlying25 hi0 hz0 hz1 hz2 rfl (by decide) _ _ _ rfl (HC1.out.1.alloc _) ⟨w4.heap.size, 0, none⟩ 1 1 [.int .i64 z] rfl rfl ?d1 ?d2 ?d3 ?d4 ?d5 ?_)
                case d1 => exact cell_one_new _ _ _
                case d2 => simp [Value.oneCell']
                case d3 => have := HTL.out; unfold maxLen; omega
                case d4 => have := HTL.out; omega
                case d5 => exact Nat.le_trans HC1.out.2.2 (by simp)
                intro v3 w5 hown3 hgrow3 _
                have hC3 := coll_push (x := z) HC1.out hown3 hgrow3
                obtain ⟨⟨a5, c5, e5, hi5, ho5, hc5⟩, hb5⟩ := coll_res hC3
                obtain ⟨zs, hzs⟩ : ∃ zs, zs = T ++ [z] := ⟨_, rfl⟩
                have HZL : Hid (zs.length = i + 1) := Lib.hid (by rw [hzs, List.length_append, HTL.out]; rfl)
                rw [← hzs] at e5 hi5 ho5 hc5 HE
                rw [HZL.out] at e5 hc5
                subst e5
                have HI5 := Lib.hid hi5
                have HC5 := Lib.hid hc5
                have HB5 := Lib.hid ((below_drewN HBX.out nq).trans (hb5.mono HBX.out.size))
                clear hown3 hgrow3 hC3 hi5 ho5 hc5 hb5 hzs
                go_wp2_with fail
                refine (l7Filled_at a5 c5 (i + 1) zs xs.length _ HZL.out HI5 HC5 (by omega) (by omega)).mono ?_
                rintro e w6 ⟨v6, rfl, hC6⟩
                have HR := Lib.hid (And.intro ((coll_res hC6).1.mono HB5.out.size) (HB5.out.trans ((coll_res hC6).2.mono HB5.out.size)))
                clear hC6
                go_wp2_with fail
                go_ret2
                exact sb_of HE.out.1.symm HE.out.2.symm ⟨_, rfl, HR.out.1, HR.out.2⟩

end Go.Proofs.Ythamckchfhddjaa
