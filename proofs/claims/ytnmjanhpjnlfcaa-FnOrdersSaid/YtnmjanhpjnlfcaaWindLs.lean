/- Contract: spec.l8Lists: all lists of some nails. Condition: at most three nails. -/
import Derived.Test.YtnmjanhpjnlfcaaBdKeys
import Derived.Test.YtnmjanhpjnlfcaaWindLM
namespace Go.Proofs.Ytnmjanhpjnlfcaa
open Go.ChangeShapes Go.WideShapes Go.ChangeAt Go.RowKit
set_option linter.unusedVariables false

theorem facs8_coll {T : TypeId} {fs : List Fac} {B : Nat} {w wr : World} {v : Value} (h : CollF T fs B w v wr) {j : Nat} {f : Fac} (hf : fs[j]? = some f) :
    ∃ b c, v = .slice (some ⟨b, 0, none⟩) fs.length c ∧ wr.cell? ⟨b, j, none⟩ = some (facVal f) ∧ FacOk B wr f := by
  have hk := h.2.1 f (List.mem_of_getElem? hf)
  obtain ⟨a, c, rfl, hfa, -, -, hs⟩ := collF_facs h
  obtain ⟨b, rfl⟩ := hs j (by rw [hf]; rfl)
  obtain ⟨⟨b2, o2, e, hc⟩, -, -⟩ := hfa j f hf
  cases e
  rw [Nat.zero_add] at hc
  exact ⟨b, c, rfl, hc, hk⟩
theorem own8_at (a : Option Addr) (cap n : Nat) (xs : List Int) (w : World) (hl : xs.length = n) (h : Hid (Ints w a xs)) (hcp : Hid (Cap a n cap)) (hn : n ≤ 1048576) :
    Calls Try.prog 52 #[.slice a n cap] w fun e w' => ∃ v, e = .returned v ∧ Coll xs w.heap.size w v w' ∧ v ≠ .slice none 0 0 := by
  subst hl
  exact l1Own_any a cap xs w h hcp hn
set_option maxRecDepth 100000 in
set_option maxHeartbeats 8000000 in
theorem l8Lists_any (n : Nat) (w : World) (h3 : n ≤ 3) :
    Calls Try.prog 32 #[.int .i64 (n : Int)] w (fun e w' => ∃ v gs, e = .returned v ∧ lists gs = Plain.listsTo n (Plain.manyL n) ∧ CollF 24 gs w.heap.size w v w') := by
  obtain ⟨i0, hi0, hz0, hz1, hz2⟩ := info_partsL infoLL
  obtain ⟨i1, hi1, hy0, hy1, hy2⟩ := info_parts infoInt
  have HT1 : 24 ≠ 3 := by decide
  have HS := Lib.hid (collF_first 24 w)
  go_enter Try.func32, Try.ntmps32
  go_wp2_with fail
  obtain ⟨W0, hW0⟩ : ∃ W0, W0 = ((w.alloc (.cells #[] 3)).alloc (.cells #[.slice (some ⟨w.heap.size, 0, none⟩) 0 0] 24)) := ⟨_, rfl⟩
  rw [← hW0] at HS ⊢
  clear hW0
  go_loopw [0, 3] (fun i v wr => ∃ r m : Nat, m + r = n ∧ i = .int .i64 r ∧ ∃ gs, lists gs = Plain.listsTo m (Plain.manyL m) ∧ CollF 24 gs w.heap.size w v wr) (fun i _ _ => (intOf i).toNat)
  case atStart => exact ⟨n, 0, by omega, rfl, [(some ⟨w.heap.size, 0, none⟩, 0, [])], rfl, HS.out⟩
  case round =>
    clear HS
    obtain ⟨r, m, hm, rfl, gs, hgs, hrel⟩ := hrel
    have hgl : gs.length = Plain.manyL m := by rw [← lists_length, hgs, Plain.listsTo_len]
    by_cases hlt : 0 < r
    · have hm2 : m ≤ 2 := by omega
      have hml := Plain.manyL_le (n := m) (by omega)
      have HGL := Lib.hid hgl
      have hgl2 : gs.length ≤ 216 := by omega
      have HGS := Lib.hid hgs
      have HB := Lib.hid hrel.2.2.1
      have HG := Lib.hid hrel
      obtain ⟨WA, hWA⟩ : ∃ WA, WA = wr := ⟨_, rfl⟩
      subst hWA
      have HS := Lib.hid (collF_start 24 WA)
      obtain ⟨ga, gc, rfl, -, -, -, -⟩ := collF_facs hrel
      have hr0 : (0 : Int) < (r : Int) := by omega
      clear hrel hgs hgl hml
      go_wp2_with fail
      go_loopw [4, 5] (fun v i wr => ∃ j : Nat, j ≤ gs.length ∧ i = .int .i64 j ∧ ∃ hs, lists hs = Plain.listsTo (m + 1) (6 * j + 0) ∧ CollF 24 hs WA.heap.size WA v wr) (fun _ i _ => gs.length - (intOf i).toNat)
      case atStart => exact ⟨0, Nat.zero_le _, rfl, [], rfl, HS.out⟩
      case round =>
        clear HS
        obtain ⟨j, hj, rfl, hs, hhs, hrel⟩ := hrel
        by_cases hlt2 : j < gs.length
        · obtain ⟨f, hf⟩ := at_some gs j hlt2
          have hjm : j < Plain.manyL m := by rw [← HGL.out]; exact hlt2
          have hfl : f.2.2 = Plain.listP (Plain.cntL m + j) := by
            have h1 := lists_at hf
            rw [HGS.out, Plain.listsTo_at hjm] at h1
            exact (Option.some.inj h1).symm
          have hcl : Plain.cntL m + j < 259 := by have := Plain.manyL_cnt m; have := Plain.cntL_le (l := m) (by omega); omega
          obtain ⟨b, c, e5, hcg, hfk⟩ := facs8_coll HG.out hf
          cases e5
          obtain ⟨fa, fc, fl⟩ := f
          dsimp only at hfl
          have hfl3 : fl.length ≤ 3 := by rw [hfl]; exact Plain.listP_len hcl
          have HFL := Lib.hid hfl
          have HFK := Lib.hid (And.intro hfk hcg)
          have HJM := Lib.hid hjm
          have HK := Lib.hid hrel
          have HL := Lib.hid hhs
          have hi2 : (j : Int) < (gs.length : Int) := by omega
          have hi20 : (0 : Int) ≤ (j : Int) := by omega
          have hcap : fl.length ≤ fc ∧ fc ≤ 9223372036854775807 := ⟨hfk.2.1.1, hfk.2.1.2.1⟩
          clear hrel hhs hf hfk hcg hfl hcl hjm
          go_wp2_with fail
          go_loopw [4, 6] (fun v i wr => ∃ t : Nat, t ≤ 6 ∧ i = .int .i64 ((t : Int) + 1) ∧ ∃ hs, lists hs = Plain.listsTo (m + 1) (6 * j + t) ∧ CollF 24 hs WA.heap.size WA v wr) (fun _ i _ => 7 - (intOf i).toNat)
          case atStart => exact ⟨0, Nat.zero_le _, rfl, hs, HL.out, HK.out⟩
          case round =>
            clear HK HL
            obtain ⟨t, ht, rfl, hs, hhs, hrel⟩ := hrel
            by_cases hlt3 : t < 6
            · have hgn : hs.length = 6 * j + t := by rw [← lists_length, hhs, Plain.listsTo_len]
              have hgn2 : hs.length ≤ 2000 := by omega
              have hcg := cell_later hrel.2.2.1 HFK.out.2
              simp only [facVal] at hcg
              have HFI := Lib.hid (HFK.out.1.1.on hrel.2.2.1)
              have HFN := Lib.hid HFK.out.1.2.1.2.2
              have HE : Hid (lists hs ++ [fl ++ [(t : Int) + 1]] = Plain.listsTo (m + 1) (6 * j + (t + 1))) := Lib.hid (by rw [hhs, HFL.out]; exact Plain.listsTo_more hm2 HJM.out hlt3)
              have HK := Lib.hid hrel
              have hi3 : (t : Int) + 1 ≤ 6 := by omega
              have hi30 : (0 : Int) ≤ (t : Int) := by omega
              clear hrel hhs hgn
              go_wp2_with fail
              refine (own8_at fa fc fl.length fl _ rfl (Lib.hid HFI.out) (Lib.hid ⟨by omega, by omega, HFN.out.1, HFN.out.2⟩) (by omega)).mono ?_
              rintro e w1 ⟨v1, rfl, hC, -⟩
              have HC1 := Lib.hid hC
              clear hC
              go_wp2_with (at_builtin; refine wpList_append_own _ rfl _ _ 24 rfl _ 3 i1 (.int .i64 0) 1 8 Try.underlying24 hi1 hy0 hy1 hy2 rfl (by decide) _ _ _ rfl (HC1.out.1.alloc _) ⟨w1.heap.size, 0, none⟩ 1 1 [.int .i64 ((t : Int) + 1)] rfl rfl ?d1 ?d2 ?d3 ?d4 ?d5 ?_)
              case d1 => exact cell_one_new _ _ _
              case d2 => simp [Value.oneCell']
              case d3 => unfold maxLen; omega
              case d4 => omega
              case d5 => exact Nat.le_trans HC1.out.2.2 (by simp)
              intro v3 w3 hown3 hgrow3 _
              have hC3 := coll_push (x := (t : Int) + 1) HC1.out hown3 hgrow3
              obtain ⟨a5, c5, rfl, hok5⟩ := facOk_coll hC3
              have HK4 := Lib.hid (And.intro (HK.out.later hC3.2.1) (hok5.mono HK.out.2.2.2))
              clear hown3 hgrow3 hC3 hok5
              obtain ⟨zs, hzs⟩ : ∃ zs, zs = fl ++ [(t : Int) + 1] := ⟨_, rfl⟩
              rw [← hzs] at HK4 HE
              rw [show (fl ++ [(t : Int) + 1]).length = zs.length by rw [hzs]]
              clear hzs
              obtain ⟨zl, hzl2⟩ : ∃ zl, zl = zs.length := ⟨_, rfl⟩
              rw [← hzl2]
              have HZ := Lib.hid hzl2
              clear hzl2
              go_wp2_with (at_builtin; refine wpList_append_own _ rfl _ _ 59 rfl WA.heap.size 24 i0 (.slice none 0 0) 1 24 Try.underlying59 hi0 hz0 hz1 hz2 rfl (by decide) _ _ _ rfl (HK4.out.1.1.alloc _) ⟨w3.heap.size, 0, none⟩ 1 1 [.slice a5 zl c5] rfl rfl ?c1 ?c2 ?c3 ?c4 ?c5 ?_)
              case c1 => exact cell_one_new _ _ _
              case c2 => simp [Value.oneCell']
              case c3 => unfold maxLen; omega
              case c4 => omega
              case c5 => exact Nat.le_trans HK4.out.1.2.2.2 (by simp)
              rw [HZ.out]
              intro v' w5 hown' hgrow _
              have hR := Lib.hid (collF_push (f := (a5, c5, zs)) HT1 HK4.out.1 HK4.out.2 hown' hgrow)
              clear hown' hgrow
              go_wp2_with fail
              go_roundw
              case rel => exact ⟨t + 1, by omega, by go_num, _, by rw [lists_append]; exact HE.out, hR.out⟩
              case measure => simp [intOf]; omega
            · obtain rfl : t = 6 := by omega
              have HK := Lib.hid hrel
              have HL : Hid (lists hs = Plain.listsTo (m + 1) (6 * (j + 1) + 0)) := Lib.hid (by rw [hhs, show 6 * (j + 1) + 0 = 6 * j + 6 by omega])
              clear hrel hhs
              go_wp2_with fail
              go_roundw
              case rel => exact ⟨j + 1, by omega, by go_num, hs, HL.out, HK.out⟩
              case measure => simp [intOf]; omega
        · have hje : j = gs.length := by omega
          have HL : Hid (lists hs = Plain.listsTo (m + 1) (Plain.manyL (m + 1))) := Lib.hid (by rw [hhs, hje, HGL.out, Plain.manyL_step]; rfl)
          have HR : Hid (CollF 24 hs w.heap.size w u4 wr) := Lib.hid (by
            obtain ⟨k1, k2, k3, k4⟩ := hrel
            have hsz := HG.out.2.2.2
            exact ⟨by
              obtain ⟨e1, e2⟩ := k1
              refine ⟨e1, ?_⟩
              rcases e2 with e2 | ⟨g, cap, cur, e3, e4, e5⟩
              · exact .inl e2
              · exact .inr ⟨g, cap, cur, e3, by omega, e5⟩, fun f hf => (k2 f hf).mono hsz, HB.out.trans (k3.mono hsz), by omega⟩)
          have hi2 : ¬ ((j : Int) < (gs.length : Int)) := by omega
          clear hrel hhs
          go_wp2_with fail
          go_roundw
          case rel => exact ⟨r - 1, m + 1, by omega, by go_num, hs, HL.out, HR.out⟩
          case measure => simp [intOf]; omega
    · obtain rfl : r = 0 := by omega
      obtain rfl : m = n := by omega
      have HK := Lib.hid hrel
      have HL := Lib.hid hgs
      clear hrel hgs hgl
      go_wp2_with fail
      go_ret
      exact ⟨_, gs, rfl, HL.out, HK.out⟩

end Go.Proofs.Ytnmjanhpjnlfcaa
