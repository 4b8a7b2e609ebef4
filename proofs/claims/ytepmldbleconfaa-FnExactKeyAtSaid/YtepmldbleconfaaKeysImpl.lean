/- Contracts: impl.withOneLetterMore, keys; KeyAt of both. Conditions: numbers of 64 bits. -/
import Derived.Test.YtepmldbleconfaaKeys
import Derived.Test.YtepmldbleconfaaConjKit
namespace Go.Proofs.Ytepmldbleconfaa
open Go.ChangeShapes Go.WideShapes Go.ChangeAt Go.RowKit
set_option linter.unusedVariables false

theorem letter_pair (t : Nat) {j : Nat} (hj : j < 2) : [(t : Int) + 1, -((t : Int) + 1)][j]? = some (Plain.letterAt (2 * t + j)) := by
  have : j = 0 ∨ j = 1 := by omega
  rcases this with rfl | rfl
  · simp only [List.getElem?_cons_zero, Plain.letterAt, Option.some.injEq]
    rw [if_pos (by omega)]; omega
  · simp only [List.getElem?_cons_succ, List.getElem?_cons_zero, Plain.letterAt, Option.some.injEq]
    rw [if_neg (by omega)]; omega
theorem letterAt_range {t j : Nat} (h : t < 6) (hj : j < 2) : -6 ≤ Plain.letterAt (2 * t + j) ∧ Plain.letterAt (2 * t + j) ≤ 6 ∧ Plain.letterAt (2 * t + j) ≠ 0 := by have := Plain.letterAt_ok (2 * t + j) (by omega); omega
set_option maxRecDepth 100000 in
set_option maxHeartbeats 24000000 in
theorem withMore_any (a : Option Addr) (cap : Nat) (fs : List Fac) (w : World) (h : Hid (Facs w a fs)) (hl : Hid (∀ f ∈ fs, Plain.Letters f.2.2 ∧ f.2.2.length ≤ 2)) (hn : fs.length ≤ 100) :
    Calls Try.prog 92 #[.slice a fs.length cap] w (fun e w' => ∃ v gs, e = .returned v ∧ lists gs = Plain.moreTo (lists fs) fs.length ∧ CollF 53 gs w.heap.size w v w') := by
  obtain ⟨i0, hi0, hz0, hz1, hz2⟩ := info_partsL infoLW
  have HT1 : 53 ≠ 3 := by decide
  have HS := Lib.hid (collF_start 53 w)
  go_enter Try.func92, Try.ntmps92
  go_wp2_with fail
  go_loopw [3, 13] (fun v i wr => ∃ k : Nat, k ≤ fs.length ∧ i = .int .i64 k ∧ ∃ gs, lists gs = Plain.moreTo (lists fs) k ∧ CollF 53 gs w.heap.size w v wr) (fun _ i _ => fs.length - (intOf i).toNat)
  case atStart => exact ⟨0, Nat.zero_le _, rfl, [], by simp [Plain.moreTo, lists], HS.out⟩
  case round =>
    obtain ⟨k, hk, rfl, gs, hgl, hrel⟩ := hrel
    by_cases hlt : k < fs.length
    · obtain ⟨f, hf⟩ := at_some fs k hlt
      obtain ⟨⟨b, o, rfl, hc⟩, hfi, hfk⟩ := (h.out.on hrel.2.2.1) k f hf
      have HN := Lib.hid (Plain.moreTo_step (lists_at hf))
      have hfl := hl.out f (List.mem_of_getElem? hf)
      have HF0 := Lib.hid (h.out k f hf).2
      obtain ⟨fa, fc, fl⟩ := f
      dsimp only at hc hfi hfk HN hfl HF0
      have HL0 := Lib.hid hfl.1
      have hfl2 := hfl.2
      have hPl : (Plain.moreTo (lists fs) k).length ≤ 1200 := by have := Plain.moreTo_len (lists fs) k; omega
      obtain ⟨P, hP⟩ : ∃ P, P = Plain.moreTo (lists fs) k := ⟨_, rfl⟩
      rw [← hP] at hPl hgl HN
      have HK := Lib.hid hrel
      have HL := Lib.hid hgl
      have hi : (k : Int) < (fs.length : Int) := by omega
      have hi0' : (0 : Int) ≤ (k : Int) := by omega
      clear hrel hgl hP hf hfi hfk hfl
      go_wp2_with fail
      clear hc
      go_loopw [3, 6] (fun v i wr => ∃ t : Nat, t ≤ 6 ∧ i = .int .i64 ((t : Int) + 1) ∧ ∃ gs, lists gs = P ++ Plain.moreRow fl (2 * t) ∧ CollF 53 gs w.heap.size w v wr) (fun _ i _ => 7 - (intOf i).toNat)
      case atStart => exact ⟨0, Nat.zero_le _, rfl, gs, HL.out.trans (by simp [Plain.moreRow]), HK.out⟩
      case round =>
        clear HK HL
        obtain ⟨t, ht, rfl, gs, hgl, hrel⟩ := hrel
        by_cases hlt2 : t < 6
        · have HK := Lib.hid hrel
          have HL := Lib.hid hgl
          have hi2 : (t : Int) + 1 ≤ 6 := by omega
          have hi2' : (0 : Int) ≤ (t : Int) := by omega
          clear hrel hgl
          go_wp2_with fail
          have hpk := (facOk_lit wr [(t : Int) + 1, -((t : Int) + 1)] (by simp)).mono HK.out.2.2.2
          have hka := HK.out.later ((Below.refl _ wr).alloc (Nat.le_refl _) (.cells (nums [(t : Int) + 1, -((t : Int) + 1)]).toArray 3))
          have HP := Lib.hid (And.intro hpk hka)
          clear hpk hka
          obtain ⟨W1, hW1⟩ : ∃ W1, W1 = wr.alloc (.cells #[.int .i64 ((t : Int) + 1), .int .i64 (-((t : Int) + 1))] 3) := ⟨_, rfl⟩
          have HP2 : Hid (FacOk w.heap.size W1 (some ⟨wr.heap.size, 0, none⟩, 2, [(t : Int) + 1, -((t : Int) + 1)]) ∧ CollF 53 gs w.heap.size w u3 W1) := Lib.hid (by rw [hW1]; exact HP.out)
          rw [← hW1]
          clear hW1 HP HK
          obtain ⟨G, hG⟩ : ∃ G, G = wr.heap.size := ⟨_, rfl⟩
          rw [← hG] at HP2 ⊢
          clear hG
          go_loopw [3, 26] (fun v i wr => ∃ j : Nat, j ≤ 2 ∧ i = .int .i64 j ∧ ∃ gs, lists gs = P ++ Plain.moreRow fl (2 * t + j) ∧ FacOk w.heap.size wr (some ⟨G, 0, none⟩, 2, [(t : Int) + 1, -((t : Int) + 1)]) ∧ CollF 53 gs w.heap.size w v wr) (fun _ i _ => 2 - (intOf i).toNat)
          case atStart => exact ⟨0, Nat.zero_le _, rfl, gs, HL.out, HP2.out⟩
          case round =>
            clear HP2 HL
            obtain ⟨j, hj, rfl, gs, hgl, hpr, hrel⟩ := hrel
            by_cases hlt3 : j < 2
            · have hrl := Plain.moreRow_len fl (2 * t + j)
              have hgn : gs.length = P.length + (Plain.moreRow fl (2 * t + j)).length := by rw [← lists_length, hgl, List.length_append]
              have hgn2 : gs.length ≤ 2000 := by omega
              have HR2 := Lib.hid (Plain.moreRow_step fl (2 * t + j))
              have hxr := letterAt_range hlt2 hlt3
              have hxa := letter_pair t hlt3
              obtain ⟨x, hx⟩ : ∃ x, x = Plain.letterAt (2 * t + j) := ⟨_, rfl⟩
              rw [← hx] at HR2 hxr hxa
              obtain ⟨bb, oo, ee, hcx⟩ := hpr.1 j x hxa
              cases ee
              rw [Nat.zero_add] at hcx
              have HK := Lib.hid hrel
              have HL := Lib.hid hgl
              have HP := Lib.hid hpr
              have HFI := Lib.hid (And.intro (HF0.out.1.on hrel.2.2.1) HF0.out.2)
              have hi3 : (j : Int) < 2 := by omega
              have hi3' : (0 : Int) ≤ (j : Int) := by omega
              clear hrel hgl hpr hx hgn hrl hxa
              go_wp2_with fail
              clear hcx
              have hlit := facOk_lit wr [x] (by simp)
              have hfs := fac_new2 (wr.alloc (.cells #[.int .i64 x] 3)) (fa, fc, fl) (some ⟨wr.heap.size, 0, none⟩, 1, [x]) 53 (HFI.out.1.on ((Below.refl _ wr).alloc (Nat.le_refl _) _)) HFI.out.2 hlit.1 hlit.2.1
              rw [show (wr.alloc (.cells #[.int .i64 x] 3)).heap.size = wr.heap.size + 1 by simp] at hfs
              have hka := (HK.out.later ((Below.refl _ wr).alloc (Nat.le_refl _) (.cells #[.int .i64 x] 3)))
              have hka2 := hka.later ((Below.refl _ (wr.alloc (.cells #[.int .i64 x] 3))).alloc (Nat.le_refl _) (.cells #[.slice fa fl.length fc, .slice (some ⟨wr.heap.size, 0, none⟩) 1 1] 53))
              have hpa := (HP.out.on ((Below.refl _ wr).alloc (Nat.le_refl _) (.cells #[.int .i64 x] 3))).on ((Below.refl _ (wr.alloc (.cells #[.int .i64 x] 3))).alloc (Nat.le_refl _) (.cells #[.slice fa fl.length fc, .slice (some ⟨wr.heap.size, 0, none⟩) 1 1] 53))
              have HFS := Lib.hid hfs
              have HKA := Lib.hid hka2
              have HPA := Lib.hid hpa
              clear hlit hfs hka hka2 hpa
              obtain ⟨W2, hW2⟩ : ∃ W2, W2 = ((wr.alloc (.cells #[.int .i64 x] 3)).alloc (.cells #[.slice fa fl.length fc, .slice (some ⟨wr.heap.size, 0, none⟩) 1 1] 53)) := ⟨_, rfl⟩
              have HFS2 : Hid (Facs W2 (some ⟨wr.heap.size + 1, 0, none⟩) [(fa, fc, fl), (some ⟨wr.heap.size, 0, none⟩, 1, [x])] ∧ CollF 53 gs w.heap.size w u3 W2 ∧ FacOk w.heap.size W2 (some ⟨G, 0, none⟩, 2, [(t : Int) + 1, -((t : Int) + 1)])) := Lib.hid (by rw [hW2]; exact ⟨HFS.out, HKA.out, HPA.out⟩)
              rw [← hW2]
              clear hW2 HFS HKA HPA HK HP HFI
              have hcc := concat_any (some ⟨wr.heap.size + 1, 0, none⟩) 2 [((fa, fc, fl) : Fac), (some ⟨wr.heap.size, 0, none⟩, 1, [x])] W2 (Lib.hid HFS2.out.1) (by simp) (by simp [flat]; omega)
              rw [show flat [((fa, fc, fl) : Fac), (some ⟨wr.heap.size, 0, none⟩, 1, [x])] = fl ++ [x] by simp [flat]] at hcc
              obtain ⟨zs, hzs⟩ : ∃ zs, zs = fl ++ [x] := ⟨_, rfl⟩
              have hzl : zs.length = fl.length + 1 := by rw [hzs]; simp
              have LZ : Hid (Plain.Letters zs) := Lib.hid (by rw [hzs]; exact HL0.out.append fun y hy => by simp at hy; subst hy; exact ⟨hxr.2.2, hxr.1, hxr.2.1⟩)
              rw [← hzs] at hcc HR2
              have HZL := Lib.hid hzl
              have hzb : zs.length ≤ 100 := by omega
              clear hzl
              refine Calls.mono hcc ?_
              clear hcc hzs
              rintro e w3 ⟨v3, rfl, hC⟩
              obtain ⟨a5, c5, rfl, hok⟩ := facOk_coll hC
              have HK3 := Lib.hid (And.intro (HFS2.out.2.1.later hC.2.1) (And.intro (HFS2.out.2.2.on hC.2.1) (hok.mono HFS2.out.2.1.2.2.2)))
              have I5 := Lib.hid hok.1
              clear hC hok HFS2
              go_wp2_with fail
              refine (reduced_any a5 c5 zs _ I5 LZ (by omega)).mono ?_
              rintro e w4 ⟨_, rfl, ⟨a6, c6, rfl, -, -, -⟩, hb⟩
              have HK4 := Lib.hid (And.intro (HK3.out.1.later hb) (And.intro (HK3.out.2.1.on hb) (HK3.out.2.2.on hb)))
              have hrl := Plain.red_length zs
              clear hb HK3
              by_cases hq : (Plain.red zs).length = fl.length + 1
              · have HE : Hid (lists gs ++ [zs] = P ++ Plain.moreRow fl (2 * t + j + 1)) := Lib.hid (by rw [HR2.out, if_pos hq, HL.out, List.append_assoc])
                have hqb : (((Plain.red zs).length : Int) == (zs.length : Int)) = true := by rw [hq, HZL.out]; simp
                obtain ⟨rl, hrlq⟩ : ∃ rl, rl = (Plain.red zs).length := ⟨_, rfl⟩
                rw [← hrlq] at hqb hrl ⊢
                clear hq hrlq
                go_wp2_with (at_builtin; refine wpList_append_own _ rfl _ _ 60 rfl w.heap.size 53 i0 (.slice none 0 0) 1 24 Try.underlying60 hi0 hz0 hz1 hz2 rfl (by decide) _ _ _ rfl (HK4.out.1.1.alloc _) ⟨w4.heap.size, 0, none⟩ 1 1 [.slice a5 zs.length c5] rfl rfl ?c1 ?c2 ?c3 ?c4 ?c5 ?_)
                case c1 => exact cell_one_new _ _ _
                case c2 => simp [Value.oneCell']
                case c3 => unfold maxLen; omega
                case c4 => omega
                case c5 => exact Nat.le_trans HK4.out.1.2.2.2 (by simp)
                intro v' w5 hown' hgrow _
                have hR := Lib.hid (And.intro (collF_push (f := (a5, c5, zs)) HT1 HK4.out.1 HK4.out.2.2 hown' hgrow) ((HK4.out.2.1.on ((Below.refl _ w4).alloc (Nat.le_refl _) _)).off HT1 (HK4.out.1.1.alloc _) hgrow))
                clear hown' hgrow
                go_wp2_with fail
                go_roundw
                case rel => exact ⟨j + 1, by omega, by go_num, _, by rw [lists_append]; exact HE.out, hR.out.2, hR.out.1⟩
                case measure => simp [intOf]; omega
              · have HE : Hid (lists gs = P ++ Plain.moreRow fl (2 * t + j + 1)) := Lib.hid (by rw [HR2.out, if_neg hq, HL.out])
                have hqb : (((Plain.red zs).length : Int) == (zs.length : Int)) = false := by rw [HZL.out]; simp; omega
                obtain ⟨rl, hrlq⟩ : ∃ rl, rl = (Plain.red zs).length := ⟨_, rfl⟩
                rw [← hrlq] at hqb hrl ⊢
                clear hq hrlq
                go_wp2_with fail
                go_roundw
                case rel => exact ⟨j + 1, by omega, by go_num, gs, HE.out, HK4.out.2.1, HK4.out.1⟩
                case measure => simp [intOf]; omega
            · obtain rfl : j = 2 := by omega
              have HK := Lib.hid hrel
              have HE : Hid (lists gs = P ++ Plain.moreRow fl (2 * (t + 1))) := Lib.hid (by rw [hgl]; rfl)
              clear hrel hgl hpr
              go_wp2_with fail
              go_roundw
              case rel => exact ⟨t + 1, by omega, by go_num, gs, HE.out, HK.out⟩
              case measure => simp [intOf]; omega
        · obtain rfl : t = 6 := by omega
          have HK := Lib.hid hrel
          have HE : Hid (lists gs = Plain.moreTo (lists fs) (k + 1)) := Lib.hid (by rw [HN.out, hgl])
          have hi2 : ¬ (((6 : Nat) : Int) + 1 ≤ 6) := by omega
          clear hrel hgl
          go_wp2_with fail
          go_roundw
          case rel => exact ⟨k + 1, by omega, by go_num, gs, HE.out, HK.out⟩
          case measure => simp [intOf]; omega
    · obtain rfl : k = fs.length := by omega
      have HK := Lib.hid hrel
      have HL := Lib.hid hgl
      clear hrel hgl
      go_wp2_with fail
      go_ret
      exact ⟨_, gs, rfl, HL.out, HK.out⟩

end Go.Proofs.Ytepmldbleconfaa
