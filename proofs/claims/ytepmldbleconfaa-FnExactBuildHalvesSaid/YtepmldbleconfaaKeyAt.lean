/- Contracts: impl.withOneLetterMore, keys; KeyAt of both. Contracts: impl.keys; KeyAt of both. Conditions: numbers of 64 bits. -/
import Derived.Test.YtepmldbleconfaaKeys
import Derived.Test.YtepmldbleconfaaConjKit
namespace Go.Proofs.Ytepmldbleconfaa
open Go.ChangeShapes Go.WideShapes Go.ChangeAt Go.RowKit
set_option linter.unusedVariables false

theorem letter_pair (t : Nat) {j : Nat} (hj : j < 2) : [(t : Int) + 1, -((t : Int) + 1)][j]? = some (Plain.letterAt (2 * t + j)) := by
  have : j = 0 ∨ j = 1 := by omega
  rcases this with rfl | rfl
  · simp only [List.getElem?_cons_zero, Plain.letterAt, Option.some.injEq]
    rw [if_pos (by omega)]; omega
  · simp only [List.getElem?_cons_succ, List.getElem?_cons_zero, Plain.letterAt, Option.some.injEq]
    rw [if_neg (by omega)]; omega
theorem letterAt_range {t j : Nat} (h : t < 6) (hj : j < 2) : -6 ≤ Plain.letterAt (2 * t + j) ∧ Plain.letterAt (2 * t + j) ≤ 6 ∧ Plain.letterAt (2 * t + j) ≠ 0 := by have := Plain.letterAt_ok (2 * t + j) (by omega); omega
set_option maxRecDepth 100000 in
set_option maxHeartbeats 24000000 in
theorem withMore_any (a : Option Addr) (cap : Nat) (fs : List Fac) (w : World) (h : Hid (Facs w a fs)) (hl : Hid (∀ f ∈ fs, Plain.Letters f.2.2 ∧ f.2.2.length ≤ 2)) (hn : fs.length ≤ 100) :
    Calls Try.prog 92 #[.slice a fs.length cap] w (fun e w' => ∃ v gs, e = .returned v ∧ lists gs = Plain.moreTo (lists fs) fs.length ∧ CollF 53 gs w.heap.size w v w') := by
  obtain ⟨i0, hi0, hz0, hz1, hz2⟩ := info_partsL infoLW
  have HT1 : 53 ≠ 3 := by decide
  have HS := Lib.hid (collF_start 53 w)
  go_enter Try.func92, Try.ntmps92
  go_wp2_with fail
  go_loopw [3, 13] (fun v i wr => ∃ k : Nat, k ≤ fs.length ∧ i = .int .i64 k ∧ ∃ gs, lists gs = Plain.moreTo (lists fs) k ∧ CollF 53 gs w.heap.size w v wr) (fun _ i _ => fs.length - (intOf i).toNat)
  case atStart => exact ⟨0, Nat.zero_le _, rfl, [], by simp [Plain.moreTo, lists], HS.out⟩
  case round =>
    obtain ⟨k, hk, rfl, gs, hgl, hrel⟩ := hrel
    by_cases hlt : k < fs.length
    · obtain ⟨f, hf⟩ := at_some fs k hlt
      obtain ⟨⟨b, o, rfl, hc⟩, hfi, hfk⟩ := (h.out.on hrel.2.2.1) k f hf
      have HN := Lib.hid (Plain.moreTo_step (lists_at hf))
      have hfl := hl.out f (List.mem_of_getElem? hf)
      have HF0 := Lib.hid (h.out k f hf).2
      obtain ⟨fa, fc, fl⟩ := f
      dsimp only at hc hfi hfk HN hfl HF0
      have HL0 := Lib.hid hfl.1
      have hfl2 := hfl.2
      have hPl : (Plain.moreTo (lists fs) k).length ≤ 1200 := by have := Plain.moreTo_len (lists fs) k; omega
      obtain ⟨P, hP⟩ : ∃ P, P = Plain.moreTo (lists fs) k := ⟨_, rfl⟩
      rw [← hP] at hPl hgl HN
      have HK := Lib.hid hrel
      have HL := Lib.hid hgl
      have hi : (k : Int) < (fs.length : Int) := by omega
      have hi0' : (0 : Int) ≤ (k : Int) := by omega
      clear hrel hgl hP hf hfi hfk hfl
      go_wp2_with fail
      clear hc
      go_loopw [3, 6] (fun v i wr => ∃ t : Nat, t ≤ 6 ∧ i = .int .i64 ((t : Int) + 1) ∧ ∃ gs, lists gs = P ++ Plain.moreRow fl (2 * t) ∧ CollF 53 gs w.heap.size w v wr) (fun _ i _ => 7 - (intOf i).toNat)
      case atStart => exact ⟨0, Nat.zero_le _, rfl, gs, HL.out.trans (by simp [Plain.moreRow]), HK.out⟩
      case round =>
        clear HK HL
        obtain ⟨t, ht, rfl, gs, hgl, hrel⟩ := hrel
        by_cases hlt2 : t < 6
        · have HK := Lib.hid hrel
          have HL := Lib.hid hgl
          have hi2 : (t : Int) + 1 ≤ 6 := by omega
          have hi2' : (0 : Int) ≤ (t : Int) := by omega
          clear hrel hgl
          go_wp2_with fail
          have hpk := (facOk_lit wr [(t : Int) + 1, -((t : Int) + 1)] (by simp)).mono HK.out.2.2.2
          have hka := HK.out.later ((Below.refl _ wr).alloc (Nat.le_refl _) (.cells (nums [(t : Int) + 1, -((t : Int) + 1)]).toArray 3))
          have HP := Lib.hid (And.intro hpk hka)
          clear hpk hka
          obtain ⟨W1, hW1⟩ : ∃ W1, W1 = wr.alloc (.cells #[.int .i64 ((t : Int) + 1), .int .i64 (-((t : Int) + 1))] 3) := ⟨_, rfl⟩
          have HP2 : Hid (FacOk w.heap.size W1 (some ⟨wr.heap.size, 0, none⟩, 2, [(t : Int) + 1, -((t : Int) + 1)]) ∧ CollF 53 gs w.heap.size w u3 W1) := Lib.hid (by rw [hW1]; exact HP.out)
          rw [← hW1]
          clear hW1 HP HK
          obtain ⟨G, hG⟩ : ∃ G, G = wr.heap.size := ⟨_, rfl⟩
          rw [← hG] at HP2 ⊢
          clear hG
          go_loopw [3, 26] (fun v i wr => ∃ j : Nat, j ≤ 2 ∧ i = .int .i64 j ∧ ∃ gs, lists gs = P ++ Plain.moreRow fl (2 * t + j) ∧ FacOk w.heap.size wr (some ⟨G, 0, none⟩, 2, [(t : Int) + 1, -((t : Int) + 1)]) ∧ CollF 53 gs w.heap.size w v wr) (fun _ i _ => 2 - (intOf i).toNat)
          case atStart => exact ⟨0, Nat.zero_le _, rfl, gs, HL.out, HP2.out⟩
          case round =>
            clear HP2 HL
            obtain ⟨j, hj, rfl, gs, hgl, hpr, hrel⟩ := hrel
            by_cases hlt3 : j < 2
            · have hrl := Plain.moreRow_len fl (2 * t + j)
              have hgn : gs.length = P.length + (Plain.moreRow fl (2 * t + j)).length := by rw [← lists_length, hgl, List.length_append]
              have hgn2 : gs.length ≤ 2000 := by omega
              have HR2 := Lib.hid (Plain.moreRow_step fl (2 * t + j))
              have hxr := letterAt_range hlt2 hlt3
              have hxa := letter_pair t hlt3
              obtain ⟨x, hx⟩ : ∃ x, x = Plain.letterAt (2 * t + j) := ⟨_, rfl⟩
              rw [← hx] at HR2 hxr hxa
              obtain ⟨bb, oo, ee, hcx⟩ := hpr.1 j x hxa
              cases ee
              rw [Nat.zero_add] at hcx
              have HK := Lib.hid hrel
              have HL := Lib.hid hgl
              have HP := Lib.hid hpr
              have HFI := Lib.hid (And.intro (HF0.out.1.on hrel.2.2.1) HF0.out.2)
              have hi3 : (j : Int) < 2 := by omega
              have hi3' : (0 : Int) ≤ (j : Int) := by omega
              clear hrel hgl hpr hx hgn hrl hxa
              go_wp2_with fail
              clear hcx
              have hlit := facOk_lit wr [x] (by simp)
              have hfs := fac_new2 (wr.alloc (.cells #[.int .i64 x] 3)) (fa, fc, fl) (some ⟨wr.heap.size, 0, none⟩, 1, [x]) 53 (HFI.out.1.on ((Below.refl _ wr).alloc (Nat.le_refl _) _)) HFI.out.2 hlit.1 hlit.2.1
              rw [show (wr.alloc (.cells #[.int .i64 x] 3)).heap.size = wr.heap.size + 1 by simp] at hfs
              have hka := (HK.out.later ((Below.refl _ wr).alloc (Nat.le_refl _) (.cells #[.int .i64 x] 3)))
              have hka2 := hka.later ((Below.refl _ (wr.alloc (.cells #[.int .i64 x] 3))).alloc (Nat.le_refl _) (.cells #[.slice fa fl.length fc, .slice (some ⟨wr.heap.size, 0, none⟩) 1 1] 53))
              have hpa := (HP.out.on ((Below.refl _ wr).alloc (Nat.le_refl _) (.cells #[.int .i64 x] 3))).on ((Below.refl _ (wr.alloc (.cells #[.int .i64 x] 3))).alloc (Nat.le_refl _) (.cells #[.slice fa fl.length fc, .slice (some ⟨wr.heap.size, 0, none⟩) 1 1] 53))
              have HFS := Lib.hid hfs
              have HKA := Lib.hid hka2
              have HPA := Lib.hid hpa
              clear hlit hfs hka hka2 hpa
              obtain ⟨W2, hW2⟩ : ∃ W2, W2 = ((wr.alloc (.cells #[.int .i64 x] 3)).alloc (.cells #[.slice fa fl.length fc, .slice (some ⟨wr.heap.size, 0, none⟩) 1 1] 53)) := ⟨_, rfl⟩
              have HFS2 : Hid (Facs W2 (some ⟨wr.heap.size + 1, 0, none⟩) [(fa, fc, fl), (some ⟨wr.heap.size, 0, none⟩, 1, [x])] ∧ CollF 53 gs w.heap.size w u3 W2 ∧ FacOk w.heap.size W2 (some ⟨G, 0, none⟩, 2, [(t : Int) + 1, -((t : Int) + 1)])) := Lib.hid (by rw [hW2]; exact ⟨HFS.out, HKA.out, HPA.out⟩)
              rw [← hW2]
              clear hW2 HFS HKA HPA HK HP HFI
              have hcc := concat_any (some ⟨wr.heap.size + 1, 0, none⟩) 2 [((fa, fc, fl) : Fac), (some ⟨wr.heap.size, 0, none⟩, 1, [x])] W2 (Lib.hid HFS2.out.1) (by simp) (by simp [flat]; omega)
              rw [show flat [((fa, fc, fl) : Fac), (some ⟨wr.heap.size, 0, none⟩, 1, [x])] = fl ++ [x] by simp [flat]] at hcc
              obtain ⟨zs, hzs⟩ : ∃ zs, zs = fl ++ [x] := ⟨_, rfl⟩
              have hzl : zs.length = fl.length + 1 := by rw [hzs]; simp
              have LZ : Hid (Plain.Letters zs) := Lib.hid (by rw [hzs]; exact HL0.out.append fun y hy => by simp at hy; subst hy; exact ⟨hxr.2.2, hxr.1, hxr.2.1⟩)
              rw [← hzs] at hcc HR2
              have HZL := Lib.hid hzl
              have hzb : zs.length ≤ 100 := by omega
              clear hzl
              refine Calls.mono hcc ?_
              clear hcc hzs
              rintro e w3 ⟨v3, rfl, hC⟩
              obtain ⟨a5, c5, rfl, hok⟩ := facOk_coll hC
              have HK3 := Lib.hid (And.intro (HFS2.out.2.1.later hC.2.1) (And.intro (HFS2.out.2.2.on hC.2.1) (hok.mono HFS2.out.2.1.2.2.2)))
              have I5 := Lib.hid hok.1
              clear hC hok HFS2
              go_wp2_with fail
              refine (reduced_any a5 c5 zs _ I5 LZ (by omega)).mono ?_
              rintro e w4 ⟨_, rfl, ⟨a6, c6, rfl, -, -, -⟩, hb⟩
              have HK4 := Lib.hid (And.intro (HK3.out.1.later hb) (And.intro (HK3.out.2.1.on hb) (HK3.out.2.2.on hb)))
              have hrl := Plain.red_length zs
              clear hb HK3
              by_cases hq : (Plain.red zs).length = fl.length + 1
              · have HE : Hid (lists gs ++ [zs] = P ++ Plain.moreRow fl (2 * t + j + 1)) := Lib.hid (by rw [HR2.out, if_pos hq, HL.out, List.append_assoc])
                have hqb : (((Plain.red zs).length : Int) == (zs.length : Int)) = true := by rw [hq, HZL.out]; simp
                obtain ⟨rl, hrlq⟩ : ∃ rl, rl = (Plain.red zs).length := ⟨_, rfl⟩
                rw [← hrlq] at hqb hrl ⊢
                clear hq hrlq
                go_wp2_with (at_builtin; refine wpList_append_own _ rfl _ _ 60 rfl w.heap.size 53 i0 (.slice none 0 0) 1 24 Try.underlying60 hi0 hz0 hz1 hz2 rfl (by decide) _ _ _ rfl (HK4.out.1.1.alloc _) ⟨w4.heap.size, 0, none⟩ 1 1 [.slice a5 zs.length c5] rfl rfl ?c1 ?c2 ?c3 ?c4 ?c5 ?_)
                case c1 => exact cell_one_new _ _ _
                case c2 => simp [Value.oneCell']
                case c3 => unfold maxLen; omega
                case c4 => omega
                case c5 => exact Nat.le_trans HK4.out.1.2.2.2 (by simp)
                intro v' w5 hown' hgrow _
                have hR := Lib.hid (And.intro (collF_push (f := (a5, c5, zs)) HT1 HK4.out.1 HK4.out.2.2 hown' hgrow) ((HK4.out.2.1.on ((Below.refl _ w4).alloc (Nat.le_refl _) _)).off HT1 (HK4.out.1.1.alloc _) hgrow))
                clear hown' hgrow
                go_wp2_with fail
                go_roundw
                case rel => exact ⟨j + 1, by omega, by go_num, _, by rw [lists_append]; exact HE.out, hR.out.2, hR.out.1⟩
                case measure => simp [intOf]; omega
              · have HE : Hid (lists gs = P ++ Plain.moreRow fl (2 * t + j + 1)) := Lib.hid (by rw [HR2.out, if_neg hq, HL.out])
                have hqb : (((Plain.red zs).length : Int) == (zs.length : Int)) = false := by rw [HZL.out]; simp; omega
                obtain ⟨rl, hrlq⟩ : ∃ rl, rl = (Plain.red zs).length := ⟨_, rfl⟩
                rw [← hrlq] at hqb hrl ⊢
                clear hq hrlq
                go_wp2_with fail
                go_roundw
                case rel => exact ⟨j + 1, by omega, by go_num, gs, HE.out, HK4.out.2.1, HK4.out.1⟩
                case measure => simp [intOf]; omega
            · obtain rfl : j = 2 := by omega
              have HK := Lib.hid hrel
              have HE : Hid (lists gs = P ++ Plain.moreRow fl (2 * (t + 1))) := Lib.hid (by rw [hgl]; rfl)
              clear hrel hgl hpr
              go_wp2_with fail
              go_roundw
              case rel => exact ⟨t + 1, by omega, by go_num, gs, HE.out, HK.out⟩
              case measure => simp [intOf]; omega
        · obtain rfl : t = 6 := by omega
          have HK := Lib.hid hrel
          have HE : Hid (lists gs = Plain.moreTo (lists fs) (k + 1)) := Lib.hid (by rw [HN.out, hgl])
          have hi2 : ¬ (((6 : Nat) : Int) + 1 ≤ 6) := by omega
          clear hrel hgl
          go_wp2_with fail
          go_roundw
          case rel => exact ⟨k + 1, by omega, by go_num, gs, HE.out, HK.out⟩
          case measure => simp [intOf]; omega
    · obtain rfl : k = fs.length := by omega
      have HK := Lib.hid hrel
      have HL := Lib.hid hgl
      clear hrel hgl
      go_wp2_with fail
      go_ret
      exact ⟨_, gs, rfl, HL.out, HK.out⟩

end Go.Proofs.Ytepmldbleconfaa

namespace Go.Proofs.Ytepmldbleconfaa
open Go.ChangeShapes Go.WideShapes Go.ChangeAt Go.RowKit
set_option linter.unusedVariables false

/-- The keys so far, and the longest of them. -/
def keyPre : Nat → List (List Int)
  | 0 => [[]]
  | 1 => [[]] ++ Plain.keys1
  | _ => Plain.keys
def keyLast : Nat → List (List Int)
  | 0 => [[]]
  | 1 => Plain.keys1
  | _ => Plain.keys2
theorem keyLast_step {k : Nat} (h : k < 2) : Plain.moreTo (keyLast k) (keyLast k).length = keyLast (k + 1) := by
  have : k = 0 ∨ k = 1 := by omega
  rcases this with rfl | rfl
  · rfl
  · show Plain.moreTo Plain.keys1 Plain.keys1.length = Plain.keys2
    rw [Plain.keys1_len]; rfl
theorem keyPre_step {k : Nat} (h : k < 2) : keyPre k ++ keyLast (k + 1) = keyPre (k + 1) := by
  have : k = 0 ∨ k = 1 := by omega
  rcases this with rfl | rfl
  · rfl
  · exact Plain.keys_made
theorem keyLast_len {k : Nat} (h : k ≤ 2) : 0 < (keyLast k).length ∧ (keyLast k).length ≤ 132 ∧ (keyPre k).length ≤ 145 := by
  have : k = 0 ∨ k = 1 ∨ k = 2 := by omega
  rcases this with rfl | rfl | rfl
  · decide
  · exact ⟨by show 0 < Plain.keys1.length; rw [Plain.keys1_len]; decide, by show Plain.keys1.length ≤ _; rw [Plain.keys1_len]; decide, by show ([[]] ++ Plain.keys1).length ≤ _; rw [List.length_append, Plain.keys1_len]; decide⟩
  · exact ⟨by show 0 < Plain.keys2.length; rw [Plain.keys2_len]; decide, by show Plain.keys2.length ≤ _; rw [Plain.keys2_len]; decide, by show Plain.keys.length ≤ _; rw [Plain.keys_len]; decide⟩
theorem keyLast_ok {k : Nat} (h : k < 2) : (keyLast k).length ≤ 100 ∧ ∀ xs ∈ keyLast k, Plain.Letters xs ∧ xs.length ≤ 2 := by
  have : k = 0 ∨ k = 1 := by omega
  rcases this with rfl | rfl
  · exact ⟨by decide, fun xs hx => by obtain rfl := List.mem_singleton.1 hx; exact ⟨Plain.Letters.nil, by simp⟩⟩
  · refine ⟨by show Plain.keys1.length ≤ _; rw [Plain.keys1_len]; decide, fun xs hx => ?_⟩
    have := List.all_eq_true.1 Plain.keys1_ok xs hx
    simp only [Bool.and_eq_true, decide_eq_true_eq, List.all_eq_true, Plain.letterB_iff] at this
    exact ⟨this.2, by omega⟩
theorem facs_off {w w' : World} {a : Option Addr} {fs : List Fac} {row : Option Nat} (h : Facs w a fs) (hok : ∀ f ∈ fs, Ints w' f.1 f.2.2) (hg : w.grownBy w' row) (hne : ∀ b o, a = some ⟨b, o, none⟩ → some b ≠ row) : Facs w' a fs := fun j f hf => by
  obtain ⟨⟨b, o, e, hc⟩, hi, hk⟩ := h j f hf
  exact ⟨⟨b, o, e, hg.cell hc (hne b o e)⟩, hok f (List.mem_of_getElem? hf), hk⟩
set_option maxRecDepth 100000 in
set_option maxHeartbeats 2000000 in
theorem keys_any (w : World) : Calls Try.prog 59 #[] w (fun e w' => ∃ v fs, e = .returned v ∧ lists fs = Plain.keys ∧ CollF 53 fs w.heap.size w v w') := by
  obtain ⟨i0, hi0, hz0, hz1, hz2⟩ := info_partsL infoLW
  have HT1 : 53 ≠ 3 := by decide
  have HS := Lib.hid (collF_first 53 w)
  go_enter Try.func59, Try.ntmps59
  go_wp2_with fail
  obtain ⟨W0, hW0⟩ : ∃ W0, W0 = ((w.alloc (.cells #[] 3)).alloc (.cells #[.slice (some ⟨w.heap.size, 0, none⟩) 0 0] 53)) := ⟨_, rfl⟩
  rw [← hW0] at HS ⊢
  clear hW0
  go_loopw [1, 2, 6] (fun va vl i wr => ∃ k : Nat, k ≤ 2 ∧ i = .int .i64 k ∧ ∃ gs ls al cl, vl = .slice al ls.length cl ∧ lists gs = keyPre k ∧ lists ls = keyLast k ∧ CollF 53 gs w.heap.size w va wr ∧ Facs wr al ls) (fun _ _ i _ => 2 - (intOf i).toNat)
  case atStart =>
    obtain ⟨a, c, e, hf, -, -⟩ := collF_facs HS.out
    cases e
    exact ⟨0, Nat.zero_le _, rfl, [(some ⟨w.heap.size, 0, none⟩, 0, [])], [(some ⟨w.heap.size, 0, none⟩, 0, [])], _, _, rfl, rfl, rfl, HS.out, hf⟩
  case round =>
    obtain ⟨k, hk, rfl, gs, ls, al, cl, rfl, hgs, hls, hrel, hfa⟩ := hrel
    by_cases hlt : k < 2
    · have HK := Lib.hid hrel
      have HG := Lib.hid hgs
      have HFA := Lib.hid hfa
      have hok := keyLast_ok hlt
      have hlen := keyLast_len hk
      have hlen2 := keyLast_len (k := k + 1) (by omega)
      have hlsl : ls.length = (keyLast k).length := by rw [← lists_length, hls]
      have hgsl : gs.length = (keyPre k).length := by rw [← lists_length, hgs]
      have HSTEP : Hid (Plain.moreTo (lists ls) ls.length = keyLast (k + 1)) := Lib.hid (by rw [hls, hlsl, keyLast_step hlt])
      have HOK : Hid (∀ f ∈ ls, Plain.Letters f.2.2 ∧ f.2.2.length ≤ 2) := Lib.hid (fun f hf => hok.2 f.2.2 (by rw [← hls]; exact List.mem_map.2 ⟨f, hf, rfl⟩))
      have HPRE := Lib.hid (keyPre_step hlt)
      have hgl : gs.length ≤ 145 := by omega
      have hll : ls.length ≤ 100 := by omega
      have HLN := Lib.hid hlen2
      have hi : (k : Int) < 2 := by omega
      have hi0' : (0 : Int) ≤ (k : Int) := by omega
      clear hrel hgs hfa hok hlen hlen2 hlsl hgsl hls
      go_wp2_with fail
      refine (withMore_any al cl ls _ HFA HOK hll).mono ?_
      rw [HSTEP.out]
      rintro e w1 ⟨v1, hs, rfl, hhs, hc1⟩
      have HK1 := Lib.hid (HK.out.later hc1.2.2.1)
      have HOKS : Hid (∀ f ∈ hs, FacOk w.heap.size w1 f) := Lib.hid (fun f hf => (hc1.2.1 f hf).mono HK.out.2.2.2)
      have hhl : hs.length = (keyLast (k + 1)).length := by rw [← lists_length, hhs]
      have hhl2 := HLN.out
      obtain ⟨a1, c1, rfl, hf1, hcap1, hbb, hsome⟩ := collF_facs hc1
      obtain ⟨x0, hx0⟩ := at_some hs 0 (by omega)
      obtain ⟨b1, rfl⟩ := hsome 0 (by rw [hx0]; rfl)
      have HNE : Hid (∀ b o, (some ⟨b1, 0, none⟩ : Option Addr) = some ⟨b, o, none⟩ → some b ≠ u1.ownBlock) := Lib.hid (fun b o e he => by
        have h1 := (hbb b o e).1
        have h2 := (HK.out.1.lt b he.symm).2
        omega)
      have HF1 := Lib.hid hf1
      have HHS := Lib.hid hhs
      have HE : Hid (lists gs ++ lists hs = keyPre (k + 1)) := Lib.hid (by rw [HG.out, hhs, HPRE.out])
      have HM := Lib.hid hcap1
      obtain ⟨m, hm⟩ : ∃ m, m = hs.length := ⟨_, rfl⟩
      have hm132 : m ≤ 132 := by omega
      rw [← hm]
      have HMM := Lib.hid hm
      clear hc1 hhl hhl2 hf1 hcap1 hbb hsome hx0 hhs hm
      go_wp2_with (at_builtin; refine wpList_append_own _ rfl _ _ 60 rfl w.heap.size 53 i0 (.slice none 0 0) 1 24 Try.underlying60 hi0 hz0 hz1 hz2 rfl (by decide) _ _ _ rfl HK1.out.1 ⟨b1, 0, none⟩ m c1 (rowOf hs) rfl ?c0 ?c1 ?c2 ?c3 ?c4 ?c5 ?_)
      case c0 => rw [rowOf_length, HMM.out]; simp
      case c1 =>
        intro j u hu
        rw [rowOf, List.getElem?_map] at hu
        rcases hj : hs[j]? with _ | f
        · rw [hj] at hu; cases hu
        · rw [hj] at hu
          obtain rfl : facVal f = u := by simpa using hu
          obtain ⟨⟨b, o, e, hc⟩, -, -⟩ := HF1.out j f hj
          cases e
          rw [add_plain]
          exact hc
      case c2 => exact rowOf_one hs
      case c3 => unfold maxLen; omega
      case c4 => omega
      case c5 => exact HK1.out.2.2.2
      intro v' w2 hown hgrow _
      have hR := collF_more HT1 HK1.out HOKS.out HMM.out.symm hown hgrow
      have hF2 := facs_off HF1.out (fun f hf => ((HOKS.out f hf).off HT1 HK1.out.1 hgrow).1) hgrow HNE.out
      have HR := Lib.hid (And.intro hR hF2)
      clear hown hgrow hR hF2
      go_wp2_with fail
      go_roundw
      case rel => exact ⟨k + 1, by omega, by go_num, gs ++ hs, hs, _, _, by rw [← HMM.out], by rw [lists_append]; exact HE.out, HHS.out, HR.out.1, HR.out.2⟩
      case measure => simp [intOf]; omega
    · obtain rfl : k = 2 := by omega
      have HK := Lib.hid hrel
      have HL : Hid (lists gs = Plain.keys) := Lib.hid hgs
      clear hrel hgs hls hfa
      go_wp2_with fail
      go_ret
      exact ⟨_, gs, rfl, HL.out, HK.out⟩
/-- What KeyAt answers. -/
def keyB (n : Int) : Bool := decide (0 ≤ n ∧ n ≤ 144)
def keyW (n : Int) : List Int := if keyB n = true then Plain.keys.getD n.toNat [] else []
theorem key_no {n : Int} (h : keyB n = false) : keyW n = [] := if_neg (by rw [h]; simp)
theorem key_yes {k : Nat} {key : List Int} (h : keyB (k : Int) = true) (hk : Plain.keys[k]? = some key) : keyW (k : Int) = key := by rw [keyW, if_pos h, Int.toNat_natCast, Plain.key_getD hk]
theorem keyW_le (n : Int) : (keyW n).length ≤ 2 := by
  cases h : keyB n with
  | false => rw [key_no h]; simp
  | true =>
    simp only [keyB, decide_eq_true_eq] at h
    obtain ⟨k, rfl⟩ : ∃ k : Nat, n = (k : Int) := ⟨n.toNat, by omega⟩
    obtain ⟨key, hk⟩ := Plain.keys_take (k := k) (by omega)
    rw [key_yes (by simp [keyB]; omega) hk]
    exact (Plain.key_at hk).1
theorem key_nat {n : Int} (h : keyB n = true) : ∃ (k : Nat) (key : List Int), n = (k : Int) ∧ k < 145 ∧ Plain.keys[k]? = some key := by
  simp only [keyB, decide_eq_true_eq] at h
  obtain ⟨k, rfl⟩ : ∃ k : Nat, n = (k : Int) := ⟨n.toNat, by omega⟩
  obtain ⟨key, hk⟩ := Plain.keys_take (k := k) (by omega)
  exact ⟨k, key, rfl, by omega, hk⟩
/-- One list of a row of all keys. -/
theorem key_in {T : TypeId} {fs : List Fac} {B k : Nat} {w wr : World} {v : Value} {key : List Int} (h : CollF T fs B w v wr) (hl : lists fs = Plain.keys) (hk : Plain.keys[k]? = some key) :
    ∃ b c fa fc, v = .slice (some ⟨b, 0, none⟩) 145 c ∧ wr.cell? ⟨b, k, none⟩ = some (.slice fa key.length fc) ∧ FacOk B wr (fa, fc, key) := by
  have hn : fs.length = 145 := by rw [← lists_length, hl, Plain.keys_len]
  have hkl := at_lt hk
  rw [Plain.keys_len] at hkl
  obtain ⟨f, hf⟩ := at_some fs k (by omega)
  have hfe := lists_at hf
  rw [hl, hk] at hfe
  have hfk := h.2.1 f (List.mem_of_getElem? hf)
  obtain ⟨a, c, rfl, hfa, -, -, hs⟩ := collF_facs h
  obtain ⟨b, rfl⟩ := hs k (by rw [hf]; rfl)
  obtain ⟨⟨b2, o2, e, hc⟩, -, -⟩ := hfa k f hf
  cases e
  obtain ⟨fa, fc, fl⟩ := f
  obtain rfl : key = fl := by simpa using hfe
  rw [Nat.zero_add] at hc
  exact ⟨b, c, fa, fc, by rw [hn], hc, hfk⟩
set_option maxRecDepth 100000 in
set_option maxHeartbeats 800000 in
theorem specKeyAt_any (n : Int) (w : World) (hr : -9223372036854775808 ≤ n ∧ n ≤ 9223372036854775807) :
    Calls Try.prog 25 #[.int .i64 n] w (SB (keyW n) (keyB n) w) := by
  have HS := Lib.hid (coll_res (coll_start w))
  cases hs : keyB n with
  | false =>
    have HE := Lib.hid (key_no hs)
    have HR := Lib.hid hr
    have HN := Lib.hid hs
    clear hs hr
    go_enter Try.func25, Try.ntmps25
    go_wp2_with fail
    refine (l1In_any n 0 144 _ HR.out).mono ?_
    rw [show decide (0 ≤ n ∧ n ≤ 144) = _ from HN.out]
    rintro e w' ⟨rfl, rfl⟩
    go_wp2_with fail
    go_ret2
    exact sb_of HE.out.symm rfl ⟨_, rfl, HS.out.1, HS.out.2⟩
  | true =>
    obtain ⟨k, key, rfl, hk, hkey⟩ := key_nat hs
    have HE := Lib.hid (key_yes hs hkey)
    have HN := Lib.hid hs
    have HR := Lib.hid hr
    have HY := Lib.hid hkey
    have hk0 : (0 : Int) ≤ (k : Int) := by omega
    have hk1 : (k : Int) < 145 := by omega
    clear hs hr hkey
    go_enter Try.func25, Try.ntmps25
    go_wp2_with fail
    refine (l1In_any (k : Int) 0 144 _ HR.out).mono ?_
    rw [show decide (0 ≤ (k : Int) ∧ (k : Int) ≤ 144) = _ from HN.out]
    rintro e w' ⟨rfl, rfl⟩
    go_wp2_with fail
    refine (l6Keys_any _).mono ?_
    rintro e w1 ⟨v, fs, rfl, hl, hc⟩
    obtain ⟨b, c, fa, fc, rfl, hcell, hok⟩ := key_in hc hl HY.out
    have HO := Lib.hid (And.intro hok hc.2.2.1)
    clear hc hl hok
    go_wp2_with fail
    go_ret2
    exact sb_of HE.out.symm rfl ⟨_, rfl, ⟨fa, fc, rfl, HO.out.1.1, HO.out.1.2.2.2, HO.out.1.2.1⟩, HO.out.2⟩
set_option maxRecDepth 100000 in
set_option maxHeartbeats 800000 in
theorem implKeyAt_any (n : Int) (w : World) (hr : -9223372036854775808 ≤ n ∧ n ≤ 9223372036854775807) :
    Calls Try.prog 26 #[.int .i64 n] w (SB (keyW n) (keyB n) w) := by
  have HS := Lib.hid (coll_res (coll_start w))
  cases hs : keyB n with
  | false =>
    have HE := Lib.hid (key_no hs)
    have HR := Lib.hid hr
    have hn : n < 0 ∨ (0 ≤ n ∧ 145 ≤ n) := by simp only [keyB, decide_eq_false_iff_not] at hs; omega
    clear hs hr
    rcases hn with hn | ⟨hn0, hn1⟩
    · skip
      go_enter Try.func26, Try.ntmps26
      go_wp2_with fail
      go_ret2
      exact sb_of HE.out.symm rfl ⟨_, rfl, HS.out.1, HS.out.2⟩
    · skip
      go_enter Try.func26, Try.ntmps26
      go_wp2_with fail
      go_ret2
      exact sb_of HE.out.symm rfl ⟨_, rfl, HS.out.1, HS.out.2⟩
  | true =>
    obtain ⟨k, key, rfl, hk, hkey⟩ := key_nat hs
    have HE := Lib.hid (key_yes hs hkey)
    have HN := Lib.hid hs
    have HR := Lib.hid hr
    have HY := Lib.hid hkey
    have hk0 : (0 : Int) ≤ (k : Int) := by omega
    have hk1 : (k : Int) < 145 := by omega
    clear hs hr hkey
    go_enter Try.func26, Try.ntmps26
    go_wp2_with fail
    refine (keys_any _).mono ?_
    rintro e w1 ⟨v, fs, rfl, hl, hc⟩
    obtain ⟨b, c, fa, fc, rfl, hcell, hok⟩ := key_in hc hl HY.out
    have HO := Lib.hid (And.intro hok hc.2.2.1)
    clear hc hl hok
    go_wp2_with fail
    go_ret2
    exact sb_of HE.out.symm rfl ⟨_, rfl, ⟨fa, fc, rfl, HO.out.1.1, HO.out.1.2.2.2, HO.out.1.2.1⟩, HO.out.2⟩
theorem bothKeyAt (n : Int) (h1 : -9223372036854775808 ≤ n) (h2 : n ≤ 9223372036854775807) : ∃ (out : List Int) (ok : Bool), out.length ≤ 1048576 ∧
    (∀ w, Calls Try.prog 25 #[.int .i64 n] w (SB out ok w)) ∧
    (∀ w, Calls Try.prog 26 #[.int .i64 n] w (SB out ok w)) :=
  ⟨_, _, Nat.le_trans (keyW_le n) (by decide), fun w => specKeyAt_any n w ⟨h1, h2⟩, fun w => implKeyAt_any n w ⟨h1, h2⟩⟩

end Go.Proofs.Ytepmldbleconfaa
