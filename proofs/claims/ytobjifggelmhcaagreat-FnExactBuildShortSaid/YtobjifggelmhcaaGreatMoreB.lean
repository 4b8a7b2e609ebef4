/- Contract: impl.withOneLetterMore. Conditions: letters, at most 100000 lists of at most 100 letters, at most six nails. -/
import Derived.Test.YtobjifggelmhcaaGreatBehind
import Derived.Test.YtobjifggelmhcaaGreatKeys
import Derived.ArgAppend
namespace Go.Proofs.YtobjifggelmhcaaGreat
open Go.ChangeShapes Go.WideShapes Go.ChangeAt Go.RowKit
set_option linter.unusedVariables false

set_option maxRecDepth 100000 in
set_option maxHeartbeats 8000000 in
theorem moreB_any (a : Option Addr) (cap : Nat) (fs : List Fac) (n : Nat) (w : World) (h : Hid (Facs w a fs)) (hl : Hid (∀ f ∈ fs, Plain.Letters f.2.2 ∧ f.2.2.length ≤ 100)) (hn : fs.length ≤ 100000) (h6 : n ≤ 6) :
    Calls Tryz.prog 92 #[.slice a fs.length cap, .int .i64 (n : Int)] w (fun e w' => ∃ v gs, e = .returned v ∧ lists gs = Plain.moreB (2 * n) (lists fs) fs.length ∧ CollF 22 gs w.heap.size w v w') := by
  obtain ⟨i0, hi0, hz0, hz1, hz2⟩ := info_partsL infoLL
  obtain ⟨i1, hi1, hy0, hy1, hy2⟩ := info_parts infoInt
  have HT1 : 22 ≠ 3 := by decide
  have HS := Lib.hid (collF_start 22 w)
  go_enter Tryz.func92, Tryz.ntmps92
  go_wp2_with fail
  go_loopw [5, 13] (fun v i wr => ∃ k : Nat, k ≤ fs.length ∧ i = .int .i64 k ∧ ∃ gs, lists gs = Plain.moreB (2 * n) (lists fs) k ∧ CollF 22 gs w.heap.size w v wr) (fun _ i _ => fs.length - (intOf i).toNat)
  case atStart => exact ⟨0, Nat.zero_le _, rfl, [], by simp [Plain.moreB, lists], HS.out⟩
  case round =>
    obtain ⟨k, hk, rfl, gs, hgl, hrel⟩ := hrel
    by_cases hlt : k < fs.length
    · obtain ⟨f, hf⟩ := at_some fs k hlt
      obtain ⟨⟨b, o, rfl, hc⟩, hfi, hfk⟩ := (h.out.on hrel.2.2.1) k f hf
      have HN := Lib.hid (Plain.moreB_step (m := 2 * n) (lists_at hf))
      have hfl := hl.out f (List.mem_of_getElem? hf)
      have HF0 := Lib.hid (h.out k f hf).2
      obtain ⟨fa, fc, fl⟩ := f
      dsimp only at hc hfi hfk HN hfl HF0
      have HL0 := Lib.hid hfl.1
      have hfl2 := hfl.2
      have hPl := Plain.moreB_len (2 * n) (lists fs) k
      have hPl2 : 2 * n * k ≤ 12 * k := Nat.mul_le_mul_right _ (by omega)
      obtain ⟨P, hP⟩ : ∃ P, P = Plain.moreB (2 * n) (lists fs) k := ⟨_, rfl⟩
      rw [← hP] at hPl hgl HN
      have hPL : P.length ≤ 1200000 := by omega
      have HK := Lib.hid hrel
      have HL := Lib.hid hgl
      have hi : (k : Int) < (fs.length : Int) := by omega
      have hi0' : (0 : Int) ≤ (k : Int) := by omega
      have HFI := Lib.hid hfi
      clear hrel hgl hP hf hfi hfk hfl hPl hPl2
      go_wp2_with fail
      clear hc
      refine (behindC_any fa fl.length fc fl n _ HFI HL0 (Lib.hid rfl) (by omega) h6).mono ?_
      have hll := Plain.behind_le fl (2 * n)
      have HLR : Hid (∀ x ∈ Plain.behind fl (2 * n), x ≠ 0 ∧ -6 ≤ x ∧ x ≤ 6) := Lib.hid (fun x hx => Plain.behind_range (by omega) hx)
      obtain ⟨ls, hls⟩ : ∃ ls, ls = Plain.behind fl (2 * n) := ⟨_, rfl⟩
      rw [← hls] at HLR HN hll ⊢
      have hll2 : ls.length ≤ 12 := by omega
      clear hls hll
      rintro e w1 ⟨v1, rfl, hC⟩
      obtain ⟨la, lc, rfl, hok⟩ := facOk_coll hC
      have HK1 := Lib.hid (And.intro (HK.out.later hC.2.1) (hok.mono HK.out.2.2.2))
      clear hC hok HK
      go_wp2_with fail
      go_loopw [5, 21] (fun v i wr => ∃ j : Nat, j ≤ ls.length ∧ i = .int .i64 j ∧ ∃ gs, lists gs = P ++ Plain.rowB fl (ls.take j) ∧ FacOk w.heap.size wr (la, lc, ls) ∧ CollF 22 gs w.heap.size w v wr) (fun _ i _ => ls.length - (intOf i).toNat)
      case atStart => exact ⟨0, Nat.zero_le _, rfl, gs, HL.out.trans (by simp [Plain.rowB]), HK1.out.2, HK1.out.1⟩
      case round =>
        clear HK1 HL
        obtain ⟨j, hj, rfl, gs, hgl, hpr, hrel⟩ := hrel
        by_cases hlt3 : j < ls.length
        · have hgn : gs.length = P.length + j := by rw [← lists_length, hgl, List.length_append, Plain.rowB_len, List.length_take, Nat.min_eq_left (by omega)]
          have hgn2 : gs.length ≤ 1300000 := by omega
          obtain ⟨x, hx⟩ := at_some ls j hlt3
          have hxr := HLR.out x (List.mem_of_getElem? hx)
          have HR2 : Hid (Plain.rowB fl (ls.take (j + 1)) = Plain.rowB fl (ls.take j) ++ [fl ++ [x]]) := Lib.hid (by rw [Plain.rowB, Plain.rowB, Plain.take_snoc hx, List.map_append]; rfl)
          obtain ⟨bb, oo, rfl, hcx⟩ := hpr.1 j x hx
          have HK := Lib.hid hrel
          have HL := Lib.hid hgl
          have HP := Lib.hid hpr
          have HFJ := Lib.hid (HF0.out.1.on hrel.2.2.1)
          have hcp := HF0.out.2
          have hi3 : (j : Int) < (ls.length : Int) := by omega
          have hi3' : (0 : Int) ≤ (j : Int) := by omega
          obtain ⟨m, hm⟩ : ∃ m, m = fl.length := ⟨_, rfl⟩
          rw [← hm] at hcp hfl2 ⊢
          have HM := Lib.hid hm
          have hcc1 := hcp.1
          have hcc2 := hcp.2.1
          have HCN := Lib.hid hcp.2.2.1
          have HCS := Lib.hid hcp.2.2.2
          clear hrel hgl hpr hx hgn hcp hm
          go_wp2_with (at_builtin; refine wpList_append_grows _ rfl _ _ 22 rfl 3 i1 (.int .i64 0) 1 8 Tryz.underlying22 hi1 hy0 hy1 hy2 rfl (by decide) fa m m (nums fl) rfl ?d1 ?d2 ?d3 ⟨wr.heap.size, 0, none⟩ 1 1 [.int .i64 x] rfl rfl ?d4 ?d5 ?d6 ?d7 ?d8 ?_)
          case d1 => intro e; have := HCN.out e; omega
          case d2 => rw [nums_length, HM.out]; simp
          case d3 =>
            intro b1 hb1 q u hu
            obtain ⟨y, hy⟩ := at_some fl q (by have := at_lt hu; simpa [nums] using this)
            rw [nums_at hy] at hu
            obtain ⟨b2, o2, e2, hcy⟩ := (HFJ.out.on ((Below.refl _ wr).alloc (Nat.le_refl _) (.cells #[.int .i64 x] 3))) q y hy
            rw [hb1] at e2
            cases e2
            cases hu
            rw [add_plain]
            exact hcy
          case d4 => exact cell_one_new _ _ _
          case d5 => simp [Value.oneCell']
          case d6 => omega
          case d7 => unfold maxLen; omega
          case d8 => omega
          intro v3 w3 hown3 hgrow3
          have hC : Coll (fl ++ [x]) (wr.alloc (.cells #[.int .i64 x] 3)).heap.size (wr.alloc (.cells #[.int .i64 x] 3)) v3 w3 :=
            ⟨by simpa [nums, HM.out] using hown3, (Below.refl _ _).grown hgrow3 (Nat.le_refl _) (fun q hq => by cases hq), hgrow3.size⟩
          obtain ⟨a5, c5, rfl, hok⟩ := facOk_coll hC
          have hba : Below wr.heap.size wr w3 := ((Below.refl _ wr).alloc (Nat.le_refl _) (.cells #[.int .i64 x] 3)).trans (hC.2.1.mono (by simp))
          have HK4 := Lib.hid (And.intro (HK.out.later hba) (And.intro (HP.out.on hba) (hok.mono (Nat.le_trans HK.out.2.2.2 (by simp)))))
          have HE : Hid (lists gs ++ [fl ++ [x]] = P ++ Plain.rowB fl (ls.take (j + 1))) := Lib.hid (by rw [HR2.out, HL.out, List.append_assoc])
          obtain ⟨zs, hzs⟩ : ∃ zs, zs = fl ++ [x] := ⟨_, rfl⟩
          rw [← hzs] at HK4 HE ⊢
          clear hown3 hgrow3 hC hok hba hcx hzs
          obtain ⟨zl, hzl⟩ : ∃ zl, zl = zs.length := ⟨_, rfl⟩
          rw [← hzl]
          have HZ := Lib.hid hzl
          clear hzl
          go_wp2_with (at_builtin; refine wpList_append_own _ rfl _ _ 39 rfl w.heap.size 22 i0 (.slice none 0 0) 1 24 Tryz.underlying39 hi0 hz0 hz1 hz2 rfl (by decide) _ _ _ rfl (HK4.out.1.1.alloc _) ⟨w3.heap.size, 0, none⟩ 1 1 [.slice a5 zl c5] rfl rfl ?c1 ?c2 ?c3 ?c4 ?c5 ?_)
          case c1 => exact cell_one_new _ _ _
          case c2 => simp [Value.oneCell']
          case c3 => unfold maxLen; omega
          case c4 => omega
          case c5 => exact Nat.le_trans HK4.out.1.2.2.2 (by simp)
          rw [HZ.out]
          intro v' w5 hown' hgrow _
          have hR := Lib.hid (And.intro (collF_push (f := (a5, c5, zs)) HT1 HK4.out.1 HK4.out.2.2 hown' hgrow) ((HK4.out.2.1.on ((Below.refl _ w3).alloc (Nat.le_refl _) _)).off HT1 (HK4.out.1.1.alloc _) hgrow))
          clear hown' hgrow
          go_wp2_with fail
          go_roundw
          case rel => exact ⟨j + 1, by omega, by go_num, _, by rw [lists_append]; exact HE.out, hR.out.2, hR.out.1⟩
          case measure => simp [intOf]; omega
        · obtain rfl : j = ls.length := by omega
          have HK := Lib.hid hrel
          have HE : Hid (lists gs = Plain.moreB (2 * n) (lists fs) (k + 1)) := Lib.hid (by rw [HN.out, hgl, List.take_length])
          clear hrel hgl hpr
          go_wp2_with fail
          go_roundw
          case rel => exact ⟨k + 1, by omega, by go_num, gs, HE.out, HK.out⟩
          case measure => simp [intOf]; omega
    · obtain rfl : k = fs.length := by omega
      have HK := Lib.hid hrel
      have HL := Lib.hid hgl
      clear hrel hgl
      go_wp2_with fail
      go_ret
      exact ⟨_, gs, rfl, HL.out, HK.out⟩

end Go.Proofs.YtobjifggelmhcaaGreat
