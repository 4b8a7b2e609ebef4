/- Contract: impl.countWordsThat with whatever function value judges words. Conditions: the table of greatest lengths lies as the program's text lays it; numbers of 64 bits. -/
import Derived.Test.YthamckchfhddjaaDoorListed
import Derived.Shelf.Abstract
import Derived.Deep.DeepCutAuto
import Derived.Deep.CutRange
namespace Go.Proofs.YthamckchfhddjaaDoor
open Go.ChangeShapes Go.WideShapes Go.ChangeAt Go.RowKit
set_option linter.unusedVariables false

/-- What a function value judges of the words, in every world that leaves alone what lay before. -/
def Judges (g : Nat) (bs cs : Array Value) (p : List Int → Bool) (w : World) : Prop :=
  ∀ (a : Option Addr) (cap : Nat) (xs : List Int) (W : World), Below w.heap.size w W → Ints W a xs → Plain.Letters xs → xs.length ≤ 8 → Calls Tryd.prog g (bs ++ #[.slice a xs.length cap] ++ cs) W (Val (.bool (p xs)) W)
theorem Judges.on {g : Nat} {bs cs : Array Value} {p : List Int → Bool} {w w' : World} (h : Judges g bs cs p w) (hb : Below w.heap.size w w') : Judges g bs cs p w' :=
  fun a cap xs W hW => h a cap xs W (hb.trans (hW.mono hb.size))
theorem countP_step {xs : List (List Int)} {k : Nat} {x : List Int} (p : List Int → Bool) (h : xs[k]? = some x) : (xs.take (k + 1)).countP p = (xs.take k).countP p + if p x = true then 1 else 0 := by
  rw [List.take_add_one, h, List.countP_append]; simp [List.countP_cons]
set_option maxRecDepth 100000 in
set_option maxHeartbeats 2000000 in
theorem countThat_any (g : Nat) (bs cs : Array Value) (p : List Int → Bool) (n L : Nat) (w : World) (eg : ∀ args w, (callFunc g args).run Tryd.prog w = .ok (.enter g args) w) (hp : Hid (Judges g bs cs p w)) (h1 : 1 ≤ n) (h3 : n ≤ 3) (hL : L ≤ 8) (hpow : (2 * n) ^ L ≤ 100000) :
    Calls Tryd.prog 38 #[.int .i64 (n : Int), .int .i64 (L : Int), .func (.func g) bs cs] w (Val (.int .i64 (((Plain.allB (2 * n) L).countP p : Nat) : Int)) w) := by
  go_enter Tryd.func38, Tryd.ntmps38
  go_wp2_with fail
  refine (listedWords_any n L _ h1 h3 hL hpow).mono ?_
  have hall : (Plain.allB (2 * n) L).length ≤ 100000 := Nat.le_trans (allB_len _ _) hpow
  have HOK : Hid (∀ xs ∈ Plain.allB (2 * n) L, Plain.Letters xs ∧ xs.length ≤ 8) := Lib.hid (fun xs hx => by
    have h2 := Plain.allB_mem (m := 2 * n) (by omega) hx
    exact ⟨h2.2, by omega⟩)
  obtain ⟨A, hA⟩ : ∃ A, A = Plain.allB (2 * n) L := ⟨_, rfl⟩
  rw [← hA] at hall HOK ⊢
  have HA := Lib.hid hA
  clear hA hpow
  rintro e w1 ⟨v1, gs, rfl, hgs, hC⟩
  have hgl : gs.length = A.length := by rw [← lists_length, hgs]
  have hgm : gs.length ≤ 100000 := by omega
  have HC := Lib.hid hC
  have HGS := Lib.hid hgs
  obtain ⟨a, c, rfl, -, -, -, -⟩ := collF_facs hC
  clear hC hgs
  go_wp2_with fail
  go_loopw [7, 14] (fun m i wr => ∃ k q : Nat, k ≤ gs.length ∧ i = .int .i64 k ∧ m = .int .i64 (q : Int) ∧ q = (A.take k).countP p ∧ q ≤ k ∧ Below w1.heap.size w1 wr) (fun _ i _ => gs.length - (intOf i).toNat)
  case atStart => exact ⟨0, 0, Nat.zero_le _, rfl, rfl, rfl, Nat.le_refl _, Below.refl _ _⟩
  case round =>
    obtain ⟨k, q, hk, rfl, rfl, hq, hqk, hbw⟩ := hrel
    by_cases hlt : k < gs.length
    · obtain ⟨f, hf⟩ := at_some gs k hlt
      obtain ⟨b, c', e5, hcg, hfk⟩ := facs_coll HC.out hf
      cases e5
      have hfa := lists_at hf
      rw [HGS.out] at hfa
      obtain ⟨fa, fc, fl⟩ := f
      dsimp only at hfa
      have hST := countP_step p hfa
      have hok := HOK.out fl (List.mem_of_getElem? hfa)
      rw [← hq] at hST
      have HST := Lib.hid hST
      have hc := cell_later hbw hcg
      simp only [facVal] at hc
      have hcall := hp.out fa fc fl wr (HC.out.2.2.1.trans (hbw.mono HC.out.2.2.1.size)) (hfk.1.on hbw) hok.1 hok.2
      have HBW := Lib.hid hbw
      have hi : (k : Int) < (gs.length : Int) := by omega
      have hi0 : (0 : Int) ≤ (k : Int) := by omega
      clear hf hcg hfk hfa hST hok hq hbw
      go_wp2_with fail
      clear hc
      refine hcall.mono ?_
      clear hcall
      cases hpx : p fl with
      | true =>
        rw [hpx] at HST
        rintro e w2 ⟨rfl, hb⟩
        have HB2 := Lib.hid (HBW.out.trans (hb.mono HBW.out.size))
        clear hb hpx
        go_wp2_with fail
        go_roundw
        case rel => exact ⟨k + 1, q + 1, by omega, by go_num, by go_num, by rw [HST.out]; rfl, by omega, HB2.out⟩
        case measure => simp [intOf]; omega
      | false =>
        rw [hpx] at HST
        rintro e w2 ⟨rfl, hb⟩
        have HB2 := Lib.hid (HBW.out.trans (hb.mono HBW.out.size))
        clear hb hpx
        go_wp2_with fail
        go_roundw
        case rel => exact ⟨k + 1, q, by omega, by go_num, rfl, by rw [HST.out]; rfl, by omega, HB2.out⟩
        case measure => simp [intOf]; omega
    · obtain rfl : k = gs.length := by omega
      have HE : Hid (q = A.countP p) := Lib.hid (by rw [hq, hgl, List.take_length])
      have HB := Lib.hid (HC.out.2.2.1.trans (hbw.mono HC.out.2.2.1.size))
      have hi : ¬ (gs.length : Int) < (gs.length : Int) := by omega
      clear hq hbw
      go_wp2_with fail
      go_ret
      exact ⟨ret_int (by rw [← HA.out, ← HE.out]), HB.out⟩
/-- What counts among words. -/
def cntThat (p : List Int → Bool) (n L : Int) : Int := if listB n L = true then (((Plain.allB (2 * n.toNat) L.toNat).countP p : Nat) : Int) else 0
theorem cntThat_no {p : List Int → Bool} {n L : Int} (h : listB n L = false) : cntThat p n L = 0 := if_neg (by rw [h]; simp)
theorem cntThat_yes {p : List Int → Bool} {n L : Nat} (h : listB (n : Int) (L : Int) = true) : cntThat p (n : Int) (L : Int) = (((Plain.allB (2 * n) L).countP p : Nat) : Int) := by rw [cntThat, if_pos h, Int.toNat_natCast, Int.toNat_natCast]

end Go.Proofs.YthamckchfhddjaaDoor
