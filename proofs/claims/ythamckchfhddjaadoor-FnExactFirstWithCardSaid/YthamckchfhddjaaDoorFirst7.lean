/- Contract: impl.firstWordThat with whatever function value judges words. Conditions: the table of greatest lengths lies as the program's text lays it; numbers of 64 bits, lengths that fit. -/
import Derived.Test.YthamckchfhddjaaDoorRule7
namespace Go.Proofs.YthamckchfhddjaaDoor
open Go.ChangeShapes Go.WideShapes Go.ChangeAt Go.RowKit
set_option linter.unusedVariables false

set_option maxRecDepth 100000 in
set_option maxHeartbeats 4000000 in
theorem firstThat_any (g : Nat) (bs cs : Array Value) (p : List Int → Bool) (n : Nat) (w : World) (eg : ∀ args w, (callFunc g args).run Tryd.prog w = .ok (.enter g args) w) (hp : Hid (Judges g bs cs p w)) (hg : Hid (Listed w)) (h1 : 1 ≤ n) (h3 : n ≤ 3) :
    Calls Tryd.prog 52 #[.int .i64 (n : Int), .func (.func g) bs cs] w (SB ((firstOf p n).getD []) (firstOf p n).isSome w) := by
  obtain ⟨B, hB, hB8, hpow⟩ := long_at h1 h3
  have HPW := Lib.hid hpow
  have HHIT : Hid (∀ l k x, l ≤ B → (wordsTo n l).find? p = none → ((Plain.allB (2 * n) l).take k).find? p = none → (Plain.allB (2 * n) l)[k]? = some x → p x = true → firstOf p n = some x) := Lib.hid (fun l k x hl => first_hit (by rw [hB]; simpa using hl))
  have HEND : Hid ((wordsTo n (B + 1)).find? p = none → firstOf p n = none) := Lib.hid (fun h => by rw [firstOf, hB, Int.toNat_natCast]; exact h)
  have HS := Lib.hid (coll_res (coll_start w))
  have hcell : (w.alloc (.cells #[] 3)).cell? ⟨0, n, none⟩ = some (.int .i64 (B : Int)) := by
    have hg2 := hg.out.on ((Below.refl _ w).alloc (Nat.le_refl _) (.cells #[] 3))
    rw [← hB]
    have hh : n = 1 ∨ n = 2 ∨ n = 3 := by omega
    rcases hh with rfl | rfl | rfl
    · exact hg2.1
    · exact hg2.2.1
    · exact hg2.2.2
  have hn4 : (n : Int) < 4 := by omega
  have hn0 : (0 : Int) ≤ (n : Int) := by omega
  clear hpow hB
  go_enter Tryd.func52, Tryd.ntmps52
  go_wp2_with fail
  go_step3
  go_wp2_with fail
  try (go_step3; go_wp2_with fail)
  obtain ⟨W, hW⟩ : ∃ W, W = w.alloc (.cells #[] 3) := ⟨_, rfl⟩
  rw [← hW] at HS hcell ⊢
  have HP := Lib.hid (hp.out.on HS.out.2)
  clear hW hcell hp
  go_loopg [6, 7, 16] (B + 1) (fun g v6 v7 i wx => ∃ l : Nat, l + g = B + 1 ∧ i = .int .i64 (l : Int) ∧ v6 = .slice (some ⟨w.heap.size, 0, none⟩) 0 0 ∧ v7 = .bool false ∧ (wordsTo n l).find? p = none ∧ Below W.heap.size W wx)
  case atStart => exact ⟨0, by omega, rfl, rfl, rfl, rfl, Below.refl _ _⟩
  case round =>
    obtain ⟨l, hl, rfl, rfl, rfl, hno, hbw⟩ := hrel
    cases gk with
    | zero =>
      obtain rfl : l = B + 1 := by omega
      have HE := Lib.hid (HEND.out hno)
      have HBW := Lib.hid (And.intro (HS.out.1.on hbw) (HS.out.2.trans (hbw.mono HS.out.2.size)))
      have hi : ¬ (((B + 1 : Nat) : Int) < (B : Int) + 1) := by omega
      clear hno hbw
      go_wp2_with fail
      try rw [Exit.noGoto_ret]
      go_ret2
      exact sb_of (by rw [HE.out]; rfl) (by rw [HE.out]; rfl) ⟨_, rfl, HBW.out.1, HBW.out.2⟩
    | succ g1 =>
      have hlt : l ≤ B := by omega
      have hi : (l : Int) < (B : Int) + 1 := by omega
      have hi0 : (0 : Int) ≤ (l : Int) := by omega
      have hpl := HPW.out l hlt
      have HOK : Hid (∀ xs ∈ Plain.allB (2 * n) l, Plain.Letters xs ∧ xs.length ≤ 8) := Lib.hid (fun xs hx => by
        have h2 := Plain.allB_mem (m := 2 * n) (by omega) hx
        exact ⟨h2.2, by omega⟩)
      have hall : (Plain.allB (2 * n) l).length ≤ 100000 := Nat.le_trans (allB_len _ _) hpl
      have HNEXT : Hid ((Plain.allB (2 * n) l).find? p = none → (wordsTo n (l + 1)).find? p = none) := Lib.hid (first_next hno)
      have HH := Lib.hid (fun k x => HHIT.out l k x hlt hno)
      have HALL := Lib.hid (listedWords_any n l)
      have HBW := Lib.hid hbw
      clear hno hbw
      go_wp2_with fail
      refine (HALL.out _ h1 h3 (by omega) hpl).mono ?_
      obtain ⟨A, hA⟩ : ∃ A, A = Plain.allB (2 * n) l := ⟨_, rfl⟩
      rw [← hA] at hall HOK HNEXT HH ⊢
      clear hA HALL
      rintro e w1 ⟨v1, gs, rfl, hgs, hC⟩
      have hgl : gs.length = A.length := by rw [← lists_length, hgs]
      have hgm : gs.length ≤ 100000 := by omega
      have HC := Lib.hid hC
      have HGS := Lib.hid hgs
      have HB1 := Lib.hid (HBW.out.trans (hC.2.2.1.mono HBW.out.size))
      have HWS := Lib.hid (Nat.le_trans HS.out.2.size HBW.out.size)
      obtain ⟨a, c, rfl, -, -, -, -⟩ := collF_facs hC
      clear hC hgs
      go_wp2_with fail
      go_loopg [6, 7, 23] gs.length (fun g v6 v7 i wx => ∃ k : Nat, k + g = gs.length ∧ i = .int .i64 k ∧ v6 = .slice (some ⟨w.heap.size, 0, none⟩) 0 0 ∧ v7 = .bool false ∧ (A.take k).find? p = none ∧ Below w1.heap.size w1 wx)
      case atStart => exact ⟨0, by omega, rfl, rfl, rfl, rfl, Below.refl _ _⟩
      case round =>
        obtain ⟨k, hk, rfl, rfl, rfl, hno, hbw⟩ := hrel
        cases gk with
        | zero =>
          obtain rfl : k = gs.length := by omega
          have HE := Lib.hid (HNEXT.out (by rw [← hno, hgl, List.take_length]))
          have HB2 := Lib.hid (HB1.out.trans (hbw.mono HB1.out.size))
          have hi2 : ¬ (gs.length : Int) < (gs.length : Int) := by omega
          clear hno hbw
          go_wp2_with fail
          go_roundg g1
          case measure => omega
          case rel => exact ⟨l + 1, by omega, by go_num, rfl, rfl, HE.out, HB2.out⟩
        | succ g2 =>
          have hlt2 : k < gs.length := by omega
          obtain ⟨f, hf⟩ := at_some gs k hlt2
          obtain ⟨b, c', e5, hcg, hfk⟩ := facs_coll HC.out hf
          cases e5
          have hfa := lists_at hf
          rw [HGS.out] at hfa
          obtain ⟨fa, fc, fl⟩ := f
          dsimp only at hfa
          have hok := HOK.out fl (List.mem_of_getElem? hfa)
          have hc := cell_later hbw hcg
          simp only [facVal] at hc
          have HFK := Lib.hid (hfk.mono HWS.out)
          have hcall := HP.out fa fc fl wr (HB1.out.trans (hbw.mono HB1.out.size)) (hfk.1.on hbw) hok.1 hok.2
          have HBX := Lib.hid hbw
          have HFA := Lib.hid hfa
          have HN2 := Lib.hid hno
          have hi2 : (k : Int) < (gs.length : Int) := by omega
          have hi20 : (0 : Int) ≤ (k : Int) := by omega
          clear hf hcg hfk hfa hok hbw hno
          go_wp2_with fail
          clear hc
          refine hcall.mono ?_
          clear hcall
          cases hpx : p fl with
          | true =>
            rintro e w2 ⟨rfl, hb⟩
            have hb2 := HBX.out.trans (hb.mono HBX.out.size)
            have HE := Lib.hid (HH.out k fl HN2.out HFA.out hpx)
            have HRES := Lib.hid (show SB fl true w (.returned (.tuple #[.slice fa fl.length fc, .bool true])) w2 from ⟨_, rfl, ⟨fa, fc, rfl, HFK.out.1.on hb2, HFK.out.2.2.2.on hb2, HFK.out.2.1⟩, HS.out.2.trans ((HB1.out.trans (hb2.mono HB1.out.size)).mono HS.out.2.size)⟩)
            clear hb hb2 hpx
            go_wp2_with fail
            try rw [Exit.noGoto_ret]
            go_ret2
            exact sb_of (by rw [HE.out]; rfl) (by rw [HE.out]; rfl) HRES.out
          | false =>
            rintro e w2 ⟨rfl, hb⟩
            have HB2 := Lib.hid (HBX.out.trans (hb.mono HBX.out.size))
            have HE := Lib.hid (find_more HN2.out HFA.out hpx)
            clear hb hpx
            go_wp2_with fail
            go_roundg g2
            case measure => omega
            case rel => exact ⟨k + 1, by omega, by go_num, rfl, rfl, HE.out, HB2.out⟩
theorem wordsTo_mem {n k : Nat} {x : List Int} (h : x ∈ wordsTo n k) : ∃ l, l < k ∧ x ∈ Plain.allB (2 * n) l := by
  induction k with
  | zero => cases h
  | succ k ih =>
    rcases List.mem_append.1 h with h | h
    · obtain ⟨l, h1, h2⟩ := ih h; exact ⟨l, by omega, h2⟩
    · exact ⟨k, by omega, h⟩
theorem firstOf_le {p : List Int → Bool} {n : Nat} (h1 : 1 ≤ n) (h3 : n ≤ 3) : ((firstOf p n).getD []).length ≤ 8 := by
  obtain ⟨B, hB, hB8, -⟩ := long_at h1 h3
  cases hf : firstOf p n with
  | none => simp
  | some x =>
    obtain ⟨l, hl, hx⟩ := wordsTo_mem (List.mem_of_find?_eq_some hf)
    rw [hB, Int.toNat_natCast] at hl
    have := (Plain.allB_mem (m := 2 * n) (by omega) hx).1
    simp only [Option.getD_some]
    omega

end Go.Proofs.YthamckchfhddjaaDoor
