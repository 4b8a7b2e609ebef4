/- Contracts: impl.countWordsThat with whatever function value judges words; CountClasses of both. Conditions: the table of greatest lengths lies as the program's text lays it; numbers of 64 bits. -/
import Derived.Test.YthamckchfhddjaaDoorListed
import Derived.Test.YthamckchfhddjaaDoorConjWalks
import Derived.Shelf.Abstract
import Derived.Deep.DeepCutAuto
import Derived.Deep.CutRange
namespace Go.Proofs.YthamckchfhddjaaDoor
open Go.ChangeShapes Go.WideShapes Go.ChangeAt Go.RowKit
set_option linter.unusedVariables false

/-- What a function value judges of the words, in every world that leaves alone what lay before. -/
def Judges (g : Nat) (bs cs : Array Value) (p : List Int → Bool) (w : World) : Prop :=
  ∀ (a : Option Addr) (cap : Nat) (xs : List Int) (W : World), Below w.heap.size w W → Ints W a xs → Plain.Letters xs → xs.length ≤ 8 → Calls Tryd.prog g (bs ++ #[.slice a xs.length cap] ++ cs) W (Val (.bool (p xs)) W)
theorem Judges.on {g : Nat} {bs cs : Array Value} {p : List Int → Bool} {w w' : World} (h : Judges g bs cs p w) (hb : Below w.heap.size w w') : Judges g bs cs p w' :=
  fun a cap xs W hW => h a cap xs W (hb.trans (hW.mono hb.size))
theorem countP_step {xs : List (List Int)} {k : Nat} {x : List Int} (p : List Int → Bool) (h : xs[k]? = some x) : (xs.take (k + 1)).countP p = (xs.take k).countP p + if p x = true then 1 else 0 := by
  rw [List.take_add_one, h, List.countP_append]; simp [List.countP_cons]
set_option maxRecDepth 100000 in
set_option maxHeartbeats 2000000 in
theorem countThat_any (g : Nat) (bs cs : Array Value) (p : List Int → Bool) (n L : Nat) (w : World) (eg : ∀ args w, (callFunc g args).run Tryd.prog w = .ok (.enter g args) w) (hp : Hid (Judges g bs cs p w)) (h1 : 1 ≤ n) (h3 : n ≤ 3) (hL : L ≤ 8) (hpow : (2 * n) ^ L ≤ 100000) :
    Calls Tryd.prog 38 #[.int .i64 (n : Int), .int .i64 (L : Int), .func (.func g) bs cs] w (Val (.int .i64 (((Plain.allB (2 * n) L).countP p : Nat) : Int)) w) := by
  go_enter Tryd.func38, Tryd.ntmps38
  go_wp2_with fail
  refine (listedWords_any n L _ h1 h3 hL hpow).mono ?_
  have hall : (Plain.allB (2 * n) L).length ≤ 100000 := Nat.le_trans (allB_len _ _) hpow
  have HOK : Hid (∀ xs ∈ Plain.allB (2 * n) L, Plain.Letters xs ∧ xs.length ≤ 8) := Lib.hid (fun xs hx => by
    have h2 := Plain.allB_mem (m := 2 * n) (by omega) hx
    exact ⟨h2.2, by omega⟩)
  obtain ⟨A, hA⟩ : ∃ A, A = Plain.allB (2 * n) L := ⟨_, rfl⟩
  rw [← hA] at hall HOK ⊢
  have HA := Lib.hid hA
  clear hA hpow
  rintro e w1 ⟨v1, gs, rfl, hgs, hC⟩
  have hgl : gs.length = A.length := by rw [← lists_length, hgs]
  have hgm : gs.length ≤ 100000 := by omega
  have HC := Lib.hid hC
  have HGS := Lib.hid hgs
  obtain ⟨a, c, rfl, -, -, -, -⟩ := collF_facs hC
  clear hC hgs
  go_wp2_with fail
  go_loopw [7, 14] (fun m i wr => ∃ k q : Nat, k ≤ gs.length ∧ i = .int .i64 k ∧ m = .int .i64 (q : Int) ∧ q = (A.take k).countP p ∧ q ≤ k ∧ Below w1.heap.size w1 wr) (fun _ i _ => gs.length - (intOf i).toNat)
  case atStart => exact ⟨0, 0, Nat.zero_le _, rfl, rfl, rfl, Nat.le_refl _, Below.refl _ _⟩
  case round =>
    obtain ⟨k, q, hk, rfl, rfl, hq, hqk, hbw⟩ := hrel
    by_cases hlt : k < gs.length
    · obtain ⟨f, hf⟩ := at_some gs k hlt
      obtain ⟨b, c', e5, hcg, hfk⟩ := facs_coll HC.out hf
      cases e5
      have hfa := lists_at hf
      rw [HGS.out] at hfa
      obtain ⟨fa, fc, fl⟩ := f
      dsimp only at hfa
      have hST := countP_step p hfa
      have hok := HOK.out fl (List.mem_of_getElem? hfa)
      rw [← hq] at hST
      have HST := Lib.hid hST
      have hc := cell_later hbw hcg
      simp only [facVal] at hc
      have hcall := hp.out fa fc fl wr (HC.out.2.2.1.trans (hbw.mono HC.out.2.2.1.size)) (hfk.1.on hbw) hok.1 hok.2
      have HBW := Lib.hid hbw
      have hi : (k : Int) < (gs.length : Int) := by omega
      have hi0 : (0 : Int) ≤ (k : Int) := by omega
      clear hf hcg hfk hfa hST hok hq hbw
      go_wp2_with fail
      clear hc
      refine hcall.mono ?_
      clear hcall
      cases hpx : p fl with
      | true =>
        rw [hpx] at HST
        rintro e w2 ⟨rfl, hb⟩
        have HB2 := Lib.hid (HBW.out.trans (hb.mono HBW.out.size))
        clear hb hpx
        go_wp2_with fail
        go_roundw
        case rel => exact ⟨k + 1, q + 1, by omega, by go_num, by go_num, by rw [HST.out]; rfl, by omega, HB2.out⟩
        case measure => simp [intOf]; omega
      | false =>
        rw [hpx] at HST
        rintro e w2 ⟨rfl, hb⟩
        have HB2 := Lib.hid (HBW.out.trans (hb.mono HBW.out.size))
        clear hb hpx
        go_wp2_with fail
        go_roundw
        case rel => exact ⟨k + 1, q, by omega, by go_num, rfl, by rw [HST.out]; rfl, by omega, HB2.out⟩
        case measure => simp [intOf]; omega
    · obtain rfl : k = gs.length := by omega
      have HE : Hid (q = A.countP p) := Lib.hid (by rw [hq, hgl, List.take_length])
      have HB := Lib.hid (HC.out.2.2.1.trans (hbw.mono HC.out.2.2.1.size))
      have hi : ¬ (gs.length : Int) < (gs.length : Int) := by omega
      clear hq hbw
      go_wp2_with fail
      go_ret
      exact ⟨ret_int (by rw [← HA.out, ← HE.out]), HB.out⟩
/-- What counts among words. -/
def cntThat (p : List Int → Bool) (n L : Int) : Int := if listB n L = true then (((Plain.allB (2 * n.toNat) L.toNat).countP p : Nat) : Int) else 0
theorem cntThat_no {p : List Int → Bool} {n L : Int} (h : listB n L = false) : cntThat p n L = 0 := if_neg (by rw [h]; simp)
theorem cntThat_yes {p : List Int → Bool} {n L : Nat} (h : listB (n : Int) (L : Int) = true) : cntThat p (n : Int) (L : Int) = (((Plain.allB (2 * n) L).countP p : Nat) : Int) := by rw [cntThat, if_pos h, Int.toNat_natCast, Int.toNat_natCast]
def classP (xs : List Int) : Bool := decide (leastOf xs = xs)
theorem classJudge (w : World) : Judges 39 #[] #[] classP w := fun a cap xs W hb hi hl hn => by
  have HI := Lib.hid hi
  have HL := Lib.hid hl
  have hle := leastOf_le xs
  have HPX : Hid (classP xs = decide (leastOf xs = xs)) := Lib.hid rfl
  obtain ⟨ls, hls⟩ : ∃ ls, ls = leastOf xs := ⟨_, rfl⟩
  rw [← hls] at HPX hle
  have HLS := Lib.hid hls
  clear hi hl hb hls
  show Calls Tryd.prog 39 #[.slice a xs.length cap] W _
  go_enter Tryd.func39, Tryd.ntmps39
  go_wp2_with fail
  refine (leastTurn_any a cap xs _ HI HL (by omega)).mono ?_
  rw [← HLS.out]
  rintro e w1 ⟨v1, rfl, ⟨a1, c1, rfl, hi1, -, -⟩, hb⟩
  have HI1 := Lib.hid hi1
  have HI2 := Lib.hid (HI.out.on hb)
  have HB := Lib.hid hb
  clear hi1 hb
  go_wp2_with fail
  refine (slicesEqual_any a1 a c1 cap ls xs _ HI1 HI2 (by omega)).mono ?_
  rintro e w2 ⟨rfl, m, rfl⟩
  go_wp2_with fail
  go_ret
  exact ⟨ret_bool HPX.out.symm, below_drewN HB.out _⟩
set_option maxHeartbeats 800000 in
theorem implCountClasses_any (n L : Int) (w : World) (hg : Hid (Listed w)) (hn : -9223372036854775808 ≤ n ∧ n ≤ 9223372036854775807) (hL : -9223372036854775808 ≤ L ∧ L ≤ 9223372036854775807) :
    Calls Tryd.prog 15 #[.int .i64 n, .int .i64 L] w (Val (.tuple #[.int .i64 (cntThat classP n L), .bool (listB n L)]) w) := by
  cases hb : listB n L with
  | false =>
    have HE := Lib.hid (cntThat_no (p := classP) hb)
    have HB := Lib.hid hb
    clear hb
    go_enter Tryd.func15, Tryd.ntmps15
    go_wp2_with fail
    refine (isListed_any n L _ hg hn hL).mono ?_
    rw [HB.out]
    rintro e w' ⟨rfl, rfl⟩
    go_wp2_with fail
    go_ret2
    exact ⟨ret_ib7 HE.out.symm rfl, Below.refl _ _⟩
  | true =>
    obtain ⟨n, L, rfl, rfl, h1, h3, h8, hpow⟩ := list_nat hb
    have HE := Lib.hid (cntThat_yes (p := classP) hb)
    have HB := Lib.hid hb
    have HPW := Lib.hid hpow
    clear hb hpow
    go_enter Tryd.func15, Tryd.ntmps15
    go_wp2_with fail
    refine (isListed_any (n : Int) (L : Int) _ hg hn hL).mono ?_
    rw [HB.out]
    rintro e w' ⟨rfl, rfl⟩
    go_wp2_with fail
    refine (countThat_any 39 #[] #[] classP n L _ (enters_of Tryd.func39 (by kernel_rfl) rfl) (Lib.hid (classJudge _)) h1 h3 h8 HPW.out).mono ?_
    rintro e w1 ⟨rfl, hb⟩
    have HB1 := Lib.hid hb
    clear hb
    go_wp2_with fail
    go_ret2
    exact ⟨ret_ib7 HE.out.symm rfl, HB1.out⟩
set_option maxRecDepth 100000 in
set_option maxHeartbeats 4000000 in
theorem specCountClasses_any (n L : Int) (w : World) (hn : -9223372036854775808 ≤ n ∧ n ≤ 9223372036854775807) (hL : -9223372036854775808 ≤ L ∧ L ≤ 9223372036854775807) :
    Calls Tryd.prog 14 #[.int .i64 n, .int .i64 L] w (Val (.tuple #[.int .i64 (cntThat classP n L), .bool (listB n L)]) w) := by
  cases hb : listB n L with
  | false =>
    have HE := Lib.hid (cntThat_no (p := classP) hb)
    have HB := Lib.hid hb
    clear hb
    go_enter Tryd.func14, Tryd.ntmps14
    go_wp2_with fail
    refine (l7Search_any n L _ hn hL).mono ?_
    rw [HB.out]
    rintro e w' ⟨rfl, rfl⟩
    go_wp2_with fail
    go_ret2
    exact ⟨ret_ib7 HE.out.symm rfl, Below.refl _ _⟩
  | true =>
    obtain ⟨n, L, rfl, rfl, h1, h3, h8, hpow⟩ := list_nat hb
    have HE0 := Lib.hid (cntThat_yes (p := classP) hb)
    have HB := Lib.hid hb
    have hall : (Plain.allB (2 * n) L).length ≤ 100000 := Nat.le_trans (allB_len _ _) hpow
    have HOK : Hid (∀ xs ∈ Plain.allB (2 * n) L, Plain.Letters xs ∧ xs.length ≤ 8) := Lib.hid (fun xs hx => by
      have h2 := Plain.allB_mem (m := 2 * n) (by omega) hx
      exact ⟨h2.2, by omega⟩)
    have HALL := Lib.hid (l7All_any n L)
    clear hb
    go_enter Tryd.func14, Tryd.ntmps14
    go_wp2_with fail
    refine (l7Search_any (n : Int) (L : Int) _ hn hL).mono ?_
    rw [HB.out]
    rintro e w' ⟨rfl, rfl⟩
    go_wp2_with fail
    refine (HALL.out _ h1 h3 h8 hpow).mono ?_
    obtain ⟨A, hA⟩ : ∃ A, A = Plain.allB (2 * n) L := ⟨_, rfl⟩
    rw [← hA] at hall HOK HE0 ⊢
    clear hA hpow HALL
    rintro e w1 ⟨v1, gs, rfl, hgs, hC⟩
    have hgl : gs.length = A.length := by rw [← lists_length, hgs]
    have hgm : gs.length ≤ 100000 := by omega
    have HC := Lib.hid hC
    have HGS := Lib.hid hgs
    obtain ⟨a, c, rfl, -, -, -, -⟩ := collF_facs hC
    clear hC hgs
    go_wp2_with fail
    go_loopw [6, 8] (fun m i wr => ∃ k q : Nat, k ≤ gs.length ∧ i = .int .i64 k ∧ m = .int .i64 (q : Int) ∧ q = (A.take k).countP classP ∧ q ≤ k ∧ Below w1.heap.size w1 wr) (fun _ i _ => gs.length - (intOf i).toNat)
    case atStart => exact ⟨0, 0, Nat.zero_le _, rfl, rfl, rfl, Nat.le_refl _, Below.refl _ _⟩
    case round =>
      obtain ⟨k, q, hk, rfl, rfl, hq, hqk, hbw⟩ := hrel
      by_cases hlt : k < gs.length
      · obtain ⟨f, hf⟩ := at_some gs k hlt
        obtain ⟨b, c', e5, hcg, hfk⟩ := facs_coll HC.out hf
        cases e5
        have hfa := lists_at hf
        rw [HGS.out] at hfa
        obtain ⟨fa, fc, fl⟩ := f
        dsimp only at hfa
        have hST := countP_step classP hfa
        have hok := HOK.out fl (List.mem_of_getElem? hfa)
        rw [← hq] at hST
        have HST := Lib.hid hST
        have hc := cell_later hbw hcg
        simp only [facVal] at hc
        have hd : wr.drew.cell? ⟨b, k, none⟩ = some (.slice fa fl.length fc) := hc
        have HFI := Lib.hid (hfk.1.on hbw)
        have HFD : Hid (Ints wr.drew fa fl) := Lib.hid HFI.out
        have HL := Lib.hid hok.1
        have h8' := hok.2
        have HBW := Lib.hid hbw
        have HBD : Hid (Below wr.heap.size wr wr.drew) := Lib.hid (Below.refl _ _).drew
        have HCD := Lib.hid hd
        have hle := leastOf_le fl
        have HPX : Hid (classP fl = decide (leastOf fl = fl)) := Lib.hid rfl
        obtain ⟨ls, hls⟩ : ∃ ls, ls = leastOf fl := ⟨_, rfl⟩
        rw [← hls] at HPX hle
        have HLS := Lib.hid hls
        have hi : (k : Int) < (gs.length : Int) := by omega
        have hi0 : (0 : Int) ≤ (k : Int) := by omega
        clear hf hcg hfk hfa hST hok hq hbw hls
        go_wp2_with fail
        go_cut [31] from 22 to 31 (fun s wx => s = .bool (classP fl) ∧ Below wr.heap.size wr wx)
        case first =>
          go_region_law (go_simp; first
            | (go_at_call 37; refine (l2Least_any fa fc fl _ HFD HL (by omega)).mono ?_; rw [← HLS.out]; rintro e w2 ⟨v2, rfl, ⟨a2, c2, rfl, hi2, -, -⟩, hb2⟩; have hc2 := cell_later hb2 HCD.out; have HI2 := Lib.hid hi2; have HF2 := Lib.hid (HFD.out.on hb2); have HB2 := Lib.hid (HBD.out.trans (hb2.mono HBD.out.size)); clear hi2 hb2)
            | (go_at_call 36; refine (l1Same_any a2 fa c2 fc ls fl _ HI2 HF2 (by omega)).mono ?_; rw [← HPX.out]; rintro e w3 ⟨rfl, m3, rfl⟩))
          all_goals
            go_wp2_with fail
            go_meet
            case rel => exact ⟨rfl, below_drewN HB2.out _⟩
        case rest =>
          obtain ⟨rfl, hb⟩ := hcut
          have HB2 := Lib.hid (HBW.out.trans (hb.mono HBW.out.size))
          clear hb hc hd
          cases hpx : classP fl with
          | true =>
            rw [hpx] at HST
            clear hpx HPX
            go_wp2_with fail
            go_roundw
            case rel => exact ⟨k + 1, q + 1, by omega, by go_num, by go_num, by rw [HST.out]; rfl, by omega, HB2.out⟩
            case measure => simp [intOf]; omega
          | false =>
            rw [hpx] at HST
            clear hpx HPX
            go_wp2_with fail
            go_roundw
            case rel => exact ⟨k + 1, q, by omega, by go_num, rfl, by rw [HST.out]; rfl, by omega, HB2.out⟩
            case measure => simp [intOf]; omega
      · obtain rfl : k = gs.length := by omega
        have HE : Hid (cntThat classP (n : Int) (L : Int) = (q : Int)) := Lib.hid (by rw [HE0.out, hq, hgl, List.take_length])
        have HB3 := Lib.hid (HC.out.2.2.1.trans (hbw.mono HC.out.2.2.1.size))
        have hi : ¬ (gs.length : Int) < (gs.length : Int) := by omega
        clear hq hbw
        go_wp2_with fail
        go_ret2
        exact ⟨ret_ib7 HE.out.symm rfl, HB3.out⟩
theorem bothCountClasses (n : Int) (h1 : -9223372036854775808 ≤ n) (h2 : n ≤ 9223372036854775807) (L : Int) (h3 : -9223372036854775808 ≤ L) (h4 : L ≤ 9223372036854775807) : ∃ (m : Int) (b : Bool),
    (∀ w, Hid (Listed w) → Calls Tryd.prog 14 #[.int .i64 n, .int .i64 L] w (Val (.tuple #[.int .i64 m, .bool b]) w)) ∧
    (∀ w, Hid (Listed w) → Calls Tryd.prog 15 #[.int .i64 n, .int .i64 L] w (Val (.tuple #[.int .i64 m, .bool b]) w)) :=
  ⟨_, _, fun w _ => specCountClasses_any n L w ⟨h1, h2⟩ ⟨h3, h4⟩, fun w hg => implCountClasses_any n L w hg ⟨h1, h2⟩ ⟨h3, h4⟩⟩

end Go.Proofs.YthamckchfhddjaaDoor
