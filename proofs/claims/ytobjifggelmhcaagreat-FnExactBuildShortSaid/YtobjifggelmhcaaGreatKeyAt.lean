/- Contracts: impl.keys; KeyAt of both. Conditions: numbers of 64 bits. -/
import Derived.Test.YtobjifggelmhcaaGreatMoreB
import Derived.Test.YtobjifggelmhcaaGreatConjKit
namespace Go.Proofs.YtobjifggelmhcaaGreat
open Go.ChangeShapes Go.WideShapes Go.ChangeAt Go.RowKit
set_option linter.unusedVariables false

/-- The keys so far, and the longest of them. -/
def keyPre : Nat → List (List Int)
  | 0 => [[]]
  | 1 => [[]] ++ Plain.allB 12 1
  | _ => Plain.keys
def keyLast : Nat → List (List Int)
  | 0 => [[]]
  | 1 => Plain.allB 12 1
  | _ => Plain.allB 12 2
theorem keyLast_step {k : Nat} (h : k < 2) : Plain.moreB 12 (keyLast k) (keyLast k).length = keyLast (k + 1) := by
  have : k = 0 ∨ k = 1 := by omega
  rcases this with rfl | rfl <;> rfl
theorem keyPre_step {k : Nat} (h : k < 2) : keyPre k ++ keyLast (k + 1) = keyPre (k + 1) := by
  have : k = 0 ∨ k = 1 := by omega
  rcases this with rfl | rfl
  · rfl
  · exact Plain.all_made
theorem keyLast_len {k : Nat} (h : k ≤ 2) : 0 < (keyLast k).length ∧ (keyLast k).length ≤ 132 ∧ (keyPre k).length ≤ 145 := by
  have : k = 0 ∨ k = 1 ∨ k = 2 := by omega
  rcases this with rfl | rfl | rfl
  · decide
  · exact ⟨by show 0 < (Plain.allB 12 1).length; rw [Plain.all1_len]; decide, by show (Plain.allB 12 1).length ≤ _; rw [Plain.all1_len]; decide, by show ([[]] ++ Plain.allB 12 1).length ≤ _; rw [List.length_append, Plain.all1_len]; decide⟩
  · exact ⟨by show 0 < (Plain.allB 12 2).length; rw [Plain.all2_len]; decide, by show (Plain.allB 12 2).length ≤ _; rw [Plain.all2_len]; decide, by show Plain.keys.length ≤ _; rw [Plain.keys_len]; decide⟩
theorem keyLast_ok {k : Nat} (h : k < 2) : (keyLast k).length ≤ 100 ∧ ∀ xs ∈ keyLast k, Plain.Letters xs ∧ xs.length ≤ 2 := by
  have : k = 0 ∨ k = 1 := by omega
  rcases this with rfl | rfl
  · exact ⟨by decide, fun xs hx => by obtain rfl := List.mem_singleton.1 hx; exact ⟨Plain.Letters.nil, by simp⟩⟩
  · refine ⟨by show (Plain.allB 12 1).length ≤ _; rw [Plain.all1_len]; decide, fun xs hx => ?_⟩
    have := Plain.allB_mem (m := 12) (by decide) (k := 1) hx
    exact ⟨this.2, by omega⟩
theorem facs_off {w w' : World} {a : Option Addr} {fs : List Fac} {row : Option Nat} (h : Facs w a fs) (hok : ∀ f ∈ fs, Ints w' f.1 f.2.2) (hg : w.grownBy w' row) (hne : ∀ b o, a = some ⟨b, o, none⟩ → some b ≠ row) : Facs w' a fs := fun j f hf => by
  obtain ⟨⟨b, o, e, hc⟩, hi, hk⟩ := h j f hf
  exact ⟨⟨b, o, e, hg.cell hc (hne b o e)⟩, hok f (List.mem_of_getElem? hf), hk⟩
set_option maxRecDepth 100000 in
set_option maxHeartbeats 2000000 in
theorem keys_any (w : World) : Calls Tryz.prog 78 #[] w (fun e w' => ∃ v fs, e = .returned v ∧ lists fs = Plain.keys ∧ CollF 22 fs w.heap.size w v w') := by
  obtain ⟨i0, hi0, hz0, hz1, hz2⟩ := info_partsL infoLL
  have HT1 : 22 ≠ 3 := by decide
  have HS := Lib.hid (collF_first 22 w)
  go_enter Tryz.func78, Tryz.ntmps78
  go_wp2_with fail
  obtain ⟨W0, hW0⟩ : ∃ W0, W0 = ((w.alloc (.cells #[] 3)).alloc (.cells #[.slice (some ⟨w.heap.size, 0, none⟩) 0 0] 22)) := ⟨_, rfl⟩
  rw [← hW0] at HS ⊢
  clear hW0
  go_loopw [1, 2, 6] (fun va vl i wr => ∃ k : Nat, k ≤ 2 ∧ i = .int .i64 k ∧ ∃ gs ls al cl, vl = .slice al ls.length cl ∧ lists gs = keyPre k ∧ lists ls = keyLast k ∧ CollF 22 gs w.heap.size w va wr ∧ Facs wr al ls) (fun _ _ i _ => 2 - (intOf i).toNat)
  case atStart =>
    obtain ⟨a, c, e, hf, -, -⟩ := collF_facs HS.out
    cases e
    exact ⟨0, Nat.zero_le _, rfl, [(some ⟨w.heap.size, 0, none⟩, 0, [])], [(some ⟨w.heap.size, 0, none⟩, 0, [])], _, _, rfl, rfl, rfl, HS.out, hf⟩
  case round =>
    obtain ⟨k, hk, rfl, gs, ls, al, cl, rfl, hgs, hls, hrel, hfa⟩ := hrel
    by_cases hlt : k < 2
    · have HK := Lib.hid hrel
      have HG := Lib.hid hgs
      have HFA := Lib.hid hfa
      have hok := keyLast_ok hlt
      have hlen := keyLast_len hk
      have hlen2 := keyLast_len (k := k + 1) (by omega)
      have hlsl : ls.length = (keyLast k).length := by rw [← lists_length, hls]
      have hgsl : gs.length = (keyPre k).length := by rw [← lists_length, hgs]
      have HSTEP : Hid (Plain.moreB 12 (lists ls) ls.length = keyLast (k + 1)) := Lib.hid (by rw [hls, hlsl, keyLast_step hlt])
      have HOK : Hid (∀ f ∈ ls, Plain.Letters f.2.2 ∧ f.2.2.length ≤ 100) := Lib.hid (fun f hf => have h2 := hok.2 f.2.2 (by rw [← hls]; exact List.mem_map.2 ⟨f, hf, rfl⟩); ⟨h2.1, by omega⟩)
      have HPRE := Lib.hid (keyPre_step hlt)
      have hgl : gs.length ≤ 145 := by omega
      have hll : ls.length ≤ 100 := by omega
      have HLN := Lib.hid hlen2
      have hi : (k : Int) < 2 := by omega
      have hi0' : (0 : Int) ≤ (k : Int) := by omega
      clear hrel hgs hfa hok hlen hlen2 hlsl hgsl hls
      go_wp2_with fail
      refine (moreB_any al cl ls 6 _ HFA HOK (by omega) (by decide)).mono ?_
      rw [show 2 * 6 = 12 from rfl]
      rw [HSTEP.out]
      rintro e w1 ⟨v1, hs, rfl, hhs, hc1⟩
      have HK1 := Lib.hid (HK.out.later hc1.2.2.1)
      have HOKS : Hid (∀ f ∈ hs, FacOk w.heap.size w1 f) := Lib.hid (fun f hf => (hc1.2.1 f hf).mono HK.out.2.2.2)
      have hhl : hs.length = (keyLast (k + 1)).length := by rw [← lists_length, hhs]
      have hhl2 := HLN.out
      obtain ⟨a1, c1, rfl, hf1, hcap1, hbb, hsome⟩ := collF_facs hc1
      obtain ⟨x0, hx0⟩ := at_some hs 0 (by omega)
      obtain ⟨b1, rfl⟩ := hsome 0 (by rw [hx0]; rfl)
      have HNE : Hid (∀ b o, (some ⟨b1, 0, none⟩ : Option Addr) = some ⟨b, o, none⟩ → some b ≠ u1.ownBlock) := Lib.hid (fun b o e he => by
        have h1 := (hbb b o e).1
        have h2 := (HK.out.1.lt b he.symm).2
        omega)
      have HF1 := Lib.hid hf1
      have HHS := Lib.hid hhs
      have HE : Hid (lists gs ++ lists hs = keyPre (k + 1)) := Lib.hid (by rw [HG.out, hhs, HPRE.out])
      have HM := Lib.hid hcap1
      obtain ⟨m, hm⟩ : ∃ m, m = hs.length := ⟨_, rfl⟩
      have hm132 : m ≤ 132 := by omega
      rw [← hm]
      have HMM := Lib.hid hm
      clear hc1 hhl hhl2 hf1 hcap1 hbb hsome hx0 hhs hm
      go_wp2_with (at_builtin; refine wpList_append_own _ rfl _ _ 39 rfl w.heap.size 22 i0 (.slice none 0 0) 1 24 Tryz.underlying39 hi0 hz0 hz1 hz2 rfl (by decide) _ _ _ rfl HK1.out.1 ⟨b1, 0, none⟩ m c1 (rowOf hs) rfl ?c0 ?c1 ?c2 ?c3 ?c4 ?c5 ?_)
      case c0 => rw [rowOf_length, HMM.out]; simp
      case c1 =>
        intro j u hu
        rw [rowOf, List.getElem?_map] at hu
        rcases hj : hs[j]? with _ | f
        · rw [hj] at hu; cases hu
        · rw [hj] at hu
          obtain rfl : facVal f = u := by simpa using hu
          obtain ⟨⟨b, o, e, hc⟩, -, -⟩ := HF1.out j f hj
          cases e
          rw [add_plain]
          exact hc
      case c2 => exact rowOf_one hs
      case c3 => unfold maxLen; omega
      case c4 => omega
      case c5 => exact HK1.out.2.2.2
      intro v' w2 hown hgrow _
      have hR := collF_more HT1 HK1.out HOKS.out HMM.out.symm hown hgrow
      have hF2 := facs_off HF1.out (fun f hf => ((HOKS.out f hf).off HT1 HK1.out.1 hgrow).1) hgrow HNE.out
      have HR := Lib.hid (And.intro hR hF2)
      clear hown hgrow hR hF2
      go_wp2_with fail
      go_roundw
      case rel => exact ⟨k + 1, by omega, by go_num, gs ++ hs, hs, _, _, by rw [← HMM.out], by rw [lists_append]; exact HE.out, HHS.out, HR.out.1, HR.out.2⟩
      case measure => simp [intOf]; omega
    · obtain rfl : k = 2 := by omega
      have HK := Lib.hid hrel
      have HL : Hid (lists gs = Plain.keys) := Lib.hid hgs
      clear hrel hgs hls hfa
      go_wp2_with fail
      go_ret
      exact ⟨_, gs, rfl, HL.out, HK.out⟩
/-- What KeyAt answers. -/
def keyB (n : Int) : Bool := decide (0 ≤ n ∧ n ≤ 144)
def keyW (n : Int) : List Int := if keyB n = true then Plain.keys.getD n.toNat [] else []
theorem key_no {n : Int} (h : keyB n = false) : keyW n = [] := if_neg (by rw [h]; simp)
theorem key_yes {k : Nat} {key : List Int} (h : keyB (k : Int) = true) (hk : Plain.keys[k]? = some key) : keyW (k : Int) = key := by rw [keyW, if_pos h, Int.toNat_natCast, Plain.key_getD hk]
theorem keyW_le (n : Int) : (keyW n).length ≤ 2 := by
  cases h : keyB n with
  | false => rw [key_no h]; simp
  | true =>
    simp only [keyB, decide_eq_true_eq] at h
    obtain ⟨k, rfl⟩ : ∃ k : Nat, n = (k : Int) := ⟨n.toNat, by omega⟩
    obtain ⟨key, hk⟩ := Plain.keys_take (k := k) (by omega)
    rw [key_yes (by simp [keyB]; omega) hk]
    exact (Plain.key_at hk).1
theorem key_nat {n : Int} (h : keyB n = true) : ∃ (k : Nat) (key : List Int), n = (k : Int) ∧ k < 145 ∧ Plain.keys[k]? = some key := by
  simp only [keyB, decide_eq_true_eq] at h
  obtain ⟨k, rfl⟩ : ∃ k : Nat, n = (k : Int) := ⟨n.toNat, by omega⟩
  obtain ⟨key, hk⟩ := Plain.keys_take (k := k) (by omega)
  exact ⟨k, key, rfl, by omega, hk⟩
/-- One list of a row of all keys. -/
theorem key_in {T : TypeId} {fs : List Fac} {B k : Nat} {w wr : World} {v : Value} {key : List Int} (h : CollF T fs B w v wr) (hl : lists fs = Plain.keys) (hk : Plain.keys[k]? = some key) :
    ∃ b c fa fc, v = .slice (some ⟨b, 0, none⟩) 145 c ∧ wr.cell? ⟨b, k, none⟩ = some (.slice fa key.length fc) ∧ FacOk B wr (fa, fc, key) := by
  have hn : fs.length = 145 := by rw [← lists_length, hl, Plain.keys_len]
  have hkl := at_lt hk
  rw [Plain.keys_len] at hkl
  obtain ⟨f, hf⟩ := at_some fs k (by omega)
  have hfe := lists_at hf
  rw [hl, hk] at hfe
  have hfk := h.2.1 f (List.mem_of_getElem? hf)
  obtain ⟨a, c, rfl, hfa, -, -, hs⟩ := collF_facs h
  obtain ⟨b, rfl⟩ := hs k (by rw [hf]; rfl)
  obtain ⟨⟨b2, o2, e, hc⟩, -, -⟩ := hfa k f hf
  cases e
  obtain ⟨fa, fc, fl⟩ := f
  obtain rfl : key = fl := by simpa using hfe
  rw [Nat.zero_add] at hc
  exact ⟨b, c, fa, fc, by rw [hn], hc, hfk⟩

end Go.Proofs.YtobjifggelmhcaaGreat
