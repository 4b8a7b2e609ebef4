/- Contract: slices.Equal at lists of int. Contracts: maps.Keys of a map from int to bool, and slices.Sorted of what it hands back, by the library's contracts laid at this program. Contracts: impl.FamilyOf, IsFamily, HasMember. Conditions: lengths that fit; a map of at most 2^20 entries; numbers of 64 bits, lengths that fit. -/
import Derived.Test.YtobjifggelmhcaaGreatLawKit
import Derived.Test.YtobjifggelmhcaaGreatShelfM
import Derived.Maps.Own
import Derived.Maps.Views
import Derived.Shelf.AbstractIn
import Derived.CallsIn
import Derived.Test.YtobjifggelmhcaaGreatHasImpl
import Derived.Test.YtobjifggelmhcaaGreatPass
import Derived.Test.YtobjifggelmhcaaGreatFamSpec
namespace Go.Proofs.YtobjifggelmhcaaGreat
open Go.ChangeShapes Go.WideShapes Go.ChangeAt Go.RowKit
set_option linter.unusedVariables false

set_option maxHeartbeats 400000 in
theorem slicesEqI_any (a b : Option Addr) (ca cb : Nat) (xs ys : List Int) (w : World) (ha : Hid (Ints w a xs)) (hb : Hid (Ints w b ys)) (hn : xs.length ≤ 9223372036854775807) :
    Calls Tryz.prog 34 #[.slice a xs.length ca, .slice b ys.length cb] w (EqPost (decide (xs = ys)) w) := by
  by_cases hl : xs.length = ys.length
  · have HL := Lib.hid hl
    have hll : ((xs.length : Int) != (ys.length : Int)) = false := by rw [hl]; simp
    have hll2 : ((xs.length : Int) == (ys.length : Int)) = true := by rw [hl]; simp
    clear hl
    go_enter Tryz.func34, Tryz.ntmps34
    go_wp2_with fail
    go_loopw [13] (fun i wr => ∃ k : Nat, k ≤ xs.length ∧ i = .int .i64 k ∧ Agree xs ys k ∧ ∃ n, wr = w.drewN n) (fun i _ => xs.length - (intOf i).toNat)
    case atStart => exact ⟨0, Nat.zero_le _, rfl, agree_zero _ _, 0, rfl⟩
    case round =>
      obtain ⟨k, hk, rfl, hag, n, rfl⟩ := hrel
      have HA := Lib.hid hag
      clear hag
      by_cases hlt : k < xs.length
      · obtain ⟨x, hx⟩ := at_some xs k hlt
        obtain ⟨y, hy⟩ := at_some ys k (by have := HL.out; omega)
        obtain ⟨b, o, rfl, hc⟩ := ha.out k x hx
        obtain ⟨b2, o2, rfl, hd⟩ := hb.out k y hy
        have HX := Lib.hid hx
        have HY := Lib.hid hy
        have hlt2 : k < ys.length := at_lt hy
        have hi : (k : Int) < (xs.length : Int) := by omega
        have hi2 : (k : Int) < (ys.length : Int) := by omega
        have hi0 : (0 : Int) ≤ (k : Int) := by omega
        clear hx hy
        by_cases he : x = y
        · subst he
          go_wp2
          go_quiet (fail)
          go_wp2
          go_roundw
          case rel => exact ⟨k + 1, by omega, by go_num, agree_succ HA.out HX.out HY.out, _, rfl⟩
          case measure => simp [intOf]; omega
        · have hne : (x == y) = false := by simpa using he
          have hne2 : (x != y) = true := by simpa using he
          have HD := Lib.hid (eq_differ HX.out HY.out he)
          clear he
          go_wp2
          go_quiet (fail)
          go_wp2
          go_ret
          exact ⟨ret_bool HD.out.symm, _, World.drewN_drewN _ _ _⟩
      · have HD := Lib.hid (eq_agree HL.out (fun j x y hj => HA.out j x y (by omega)))
        have hi : ¬ (k : Int) < (xs.length : Int) := by omega
        go_wp2
        go_ret
        exact ⟨ret_bool HD.out.symm, n, rfl⟩
  · have hll : ((xs.length : Int) != (ys.length : Int)) = true := by simp; omega
    have hll2 : ((xs.length : Int) == (ys.length : Int)) = false := by simp; omega
    have HD : Hid (decide (xs = ys) = false) := Lib.hid (by rw [decide_eq_false_iff_not]; rintro rfl; exact hl rfl)
    clear hl
    go_enter Tryz.func34, Tryz.ntmps34
    go_wp2_with fail
    go_ret
    exact ⟨ret_bool HD.out.symm, 0, rfl⟩

end Go.Proofs.YtobjifggelmhcaaGreat

namespace Go.Proofs.YtobjifggelmhcaaGreat
open Go.ChangeShapes Go.WideShapes Go.ChangeAt Go.RowKit Go.Maps Go.Sort Go.Shelf
set_option linter.unusedVariables false

theorem sortsA (m : Nat) : AnyZI.SortsIn Tryz.prog Tryz.sortedA_ren Fence.wide m :=
  ⟨fun blk off cap ss W hH hblk hsz => callsIn_wide.2 (AnyM.slices_Sort_int Tryz.sortA blk off cap ss W hH hblk hsz),
   fun p cap W => callsIn_wide.2 (AnyM.slices_Sort_int_none Tryz.sortA p cap W)⟩
theorem mapsKeys_any (mb : Option Nat) (W : World) :
    Calls Tryz.prog 52 #[.map mb] W fun e w' => e = .returned (.func (.func 70) #[] #[.pointer (some ⟨W.heap.size, 0, none⟩)]) ∧ w' = W.alloc (.cells #[.map mb] 61) :=
  (callsIn_wide (n := 5)).1 (AnyZI.keys_in Tryz.keysA Fence.wide 5 trivial rfl mb W)
set_option maxHeartbeats 1000000 in
theorem sortedKeys_any {H : Type} (b nn : Nat) (D0 : DataW H) (R : Value → Option (DataW H × List MemPlace)) (w : World) (hown : w.ownsMap Tryz.prog 3 R b nn D0) (hmax : nn ≤ 1048576) :
    Calls Tryz.prog 51 #[.func (.func 70) #[] #[.pointer (some ⟨w.heap.size, 0, none⟩)]] (w.alloc (.cells #[.map (some b)] 61)) fun e w' => ∃ (v : Value) (ss : List Int), e = .returned v ∧ ss.Perm (intKeys D0) ∧
      Res (w.heap.size + 1) w' v (ss.mergeSort (fun x y => decide (x ≤ y))) ∧ Below (w.heap.size + 1) (w.alloc (.cells #[.map (some b)] 61)) w' := by
  have hbl := hown.lt
  have hsz := hown.size_le
  have hsz0 : (w.alloc (.cells #[.map (some b)] 61)).heap.size = w.heap.size + 1 := by simp
  have hseq : SeqGives Fence.wide 2 Tryz.prog 70 #[.pointer (some ⟨w.heap.size, 0, none⟩)] encZ (fun ss => ss.Perm (intKeys D0)) (Maps.size D0) (w.alloc (.cells #[.map (some b)] 61)) :=
    AnyZI.keys_gives (ρ := Tryz.keysA_ren) { Tryz.keysA with } Fence.wide _ trivial rfl (by omega) w.heap.size b nn D0 _ (by simp) (by simp) (by
      obtain ⟨es, clock, hb, Ft, hs, hD⟩ := hown
      exact ⟨es, clock, (Below.heap_alloc _ _ b hbl).trans hb, Ft, hs, hD⟩)
  have cS := AnyZI.sorted_in Tryz.sortedA Fence.wide 5 trivial trivial trivial trivial rfl (by omega) (sortsA _) (enters_of Tryz.func69 (by kernel_rfl) rfl) 70 #[.pointer (some ⟨w.heap.size, 0, none⟩)] trivial (enters_of Tryz.func70 (by kernel_rfl) rfl) _ _ (by unfold maxLen; omega) (by omega) _ hseq
  change CallsIn _ _ Tryz.prog 51 _ _ _ at cS
  refine ((callsIn_wide (n := 5)).1 cS).mono ?_
  rintro e w' ⟨v, ss, rfl, hS, hrow, hnil, hb⟩
  rw [hsz0] at hrow hb
  have hl : (ss.mergeSort (fun x y => decide (x ≤ y))).length = ss.length := List.length_mergeSort _
  exact ⟨v, ss, rfl, hS, owns_ints (by rw [← hl] at hrow; exact hrow), hb⟩

/-- What a map's keys are. -/
def KeysAre {H : Type} (D : DataW H) (xs : List Int) : Prop := ∀ x : Int, Maps.has D (.int .i64 x) = true ↔ x ∈ xs
theorem keysAre_start {H : Type} : KeysAre (H := H) (.map []) [] := fun x => by simp [Maps.has]
theorem keysAre_put {H : Type} {D d : DataW H} {xs : List Int} {x : Int} (h : KeysAre D xs) (hm : IsMap D) : KeysAre (D.put (.int .i64 x) d) (xs ++ [x]) := fun y => by
  by_cases e : y = x
  · subst e
    rw [has_put_same hm (by simp [WideAt.IsKeyLit])]
    simp
  · rw [has_put_other (by simpa using e), h y]
    simp [e]
/-- The keys, sorted, of a map whose keys are the numbers of a list of sets. -/
theorem keys_among {H : Type} {D : DataW H} {xs ss : List Int} {w : World} {R : Value → Option (DataW H × List MemPlace)} {b n : Nat} (h : KeysAre D xs) (hown : w.ownsMap Tryz.prog 3 R b n D) (hx : ∀ x ∈ xs, 0 ≤ x ∧ x ≤ 63) (hs : ss.Perm (intKeys D)) (x : Int) :
    x ∈ ss.mergeSort (fun x y => decide (x ≤ y)) ↔ x ∈ xs := by
  have hc : CollectedI D (fun _ => false) (((List.range 64).map (fun n : Nat => (n : Int))).filter (fun y => decide (y ∈ xs))) := by
    refine ⟨?_, fun y => ?_⟩
    · refine List.Pairwise.filter _ (List.pairwise_map.2 ?_)
      exact List.nodup_range.imp fun h e => h (by exact_mod_cast e)
    · rw [h y]
      simp only [List.mem_filter, List.mem_map, List.mem_range, decide_eq_true_eq, and_true]
      constructor
      · exact fun h => h.2
      · intro hy
        have := hx y hy
        exact ⟨⟨y.toNat, by omega, by omega⟩, hy⟩
  have hp := hc.perm hown (int_keyed Tryz.underlying3) Tryz.underlying3 (fun _ => rfl)
  rw [(List.mergeSort_perm ss _).mem_iff, hs.mem_iff, ← hp.mem_iff]
  simp only [List.mem_filter, List.mem_map, List.mem_range, decide_eq_true_eq]
  constructor
  · exact fun h => h.2
  · intro hy
    have := hx x hy
    exact ⟨⟨x.toNat, by omega, by omega⟩, hy⟩

end Go.Proofs.YtobjifggelmhcaaGreat

namespace Go.Proofs.YtobjifggelmhcaaGreat
open Go.ChangeShapes Go.WideShapes Go.ChangeAt Go.RowKit Go.Maps Go.Shelf
set_option linter.unusedVariables false

/-- What FamilyOf answers. -/
def ofW (xs : List Int) : List Int := if Plain.setsB xs = true then Plain.leastOf xs else []
theorem ofW_yes {xs : List Int} (h : Plain.setsB xs = true) : ofW xs = Plain.leastOf xs ∧ Plain.setsB xs = true := ⟨if_pos h, h⟩
theorem ofW_no {xs : List Int} (h : Plain.setsB xs = false) : ofW xs = [] ∧ Plain.setsB xs = false := ⟨if_neg (by rw [h]; simp), h⟩
theorem ofW_le (xs : List Int) : (ofW xs).length ≤ 64 := by
  unfold ofW
  split
  · exact Plain.leastOf_le xs
  · simp
theorem leastOf_congr {xs ys : List Int} (h : ∀ x, x ∈ ys ↔ x ∈ xs) : Plain.edges (Plain.hasB ys) true = Plain.leastOf xs := by rw [Plain.hasB_congr h]; rfl
/-- The map of the sets that were told, in making: block B; the result's variable below. -/
def Told (xs : List Int) (k : Nat) (w wr : World) : Prop :=
  (∃ D : DataW Unit, wr.ownsMap Tryz.prog 3 (plainElem Tryz.prog 4) (w.heap.size + 1) k D ∧ IsMap D ∧ KeysAre D (xs.take k)) ∧ (∀ x ∈ xs.take k, 0 ≤ x ∧ x ≤ 63) ∧ FamAt wr w.heap.size (.slice none 0 0) ∧ Below w.heap.size w wr

theorem FamAt.grown {w w' : World} {G b : Nat} {u : Value} (h : FamAt w G u) (hg : w.grownBy w' (some b)) (hne : G < b) : FamAt w' G u := (hg.block G h.lt (by simp; omega)).trans h
theorem isMap_put {H : Type} (D : DataW H) (k : Lit) (d : DataW H) (h : IsMap D) : IsMap (D.put k d) := by
  obtain ⟨es, rfl⟩ := h
  exact ⟨_, rfl⟩
set_option maxRecDepth 100000 in
set_option maxHeartbeats 2000000 in
theorem implFamilyOf_any (a : Option Addr) (cap : Nat) (xs : List Int) (w : World) (h : Hid (Ints w a xs)) (h64 : Hid (In64 xs)) (hn : xs.length ≤ 1048576) :
    Calls Tryz.prog 33 #[.slice a xs.length cap] w (FB (ofW xs) (Plain.setsB xs) w) := by
  have hmm := @run_makeMap Tryz.prog
  have law : Keyed Tryz.prog 3 := int_keyed Tryz.underlying3
  have HT0 : Hid (Told xs 0 w ((w.alloc (.cells #[.slice none 0 0] 28)).alloc (.map #[] 0))) := Lib.hid (by
    have h1 := World.ownsMap_made (H := Unit) (w.alloc (.cells #[.slice none 0 0] 28)) Tryz.prog 3 (plainElem Tryz.prog 4)
    rw [show (w.alloc (.cells #[.slice none 0 0] 28)).heap.size = w.heap.size + 1 by simp] at h1
    exact ⟨⟨_, h1, ⟨[], rfl⟩, by simpa using keysAre_start⟩, by simp, (famAt_new w _).alloc _, ((Below.refl _ _).alloc (Nat.le_refl _) _).alloc (by simp) _⟩)
  go_enter Tryz.func33, Tryz.ntmps33
  go_wp2_with fail
  obtain ⟨W, hW⟩ : ∃ W, W = (w.alloc (.cells #[.slice none 0 0] 28)).alloc (.map #[] 0) := ⟨_, rfl⟩
  rw [← hW] at HT0 ⊢
  clear hW
  go_loopw [6, 11] (fun _ i wr => ∃ k : Nat, k ≤ xs.length ∧ i = .int .i64 (k : Int) ∧ Told xs k w wr) (fun _ i _ => xs.length - (intOf i).toNat)
  case atStart => exact ⟨0, Nat.zero_le _, rfl, HT0.out⟩
  case round =>
    obtain ⟨k, hk, rfl, hrel⟩ := hrel
    have HK := Lib.hid hrel
    clear hrel
    by_cases hlt : k < xs.length
    · obtain ⟨x, hx0⟩ := at_some xs k hlt
      obtain ⟨b, o, e, hc⟩ := (h.out.on HK.out.2.2.2) k x hx0
      subst e
      have HR := Lib.hid (h64.out k x hx0)
      have HX := Lib.hid hx0
      have hi : (k : Int) < (xs.length : Int) := by omega
      have hi0 : (0 : Int) ≤ (k : Int) := by omega
      clear hx0
      cases hs : setB x with
      | false =>
        have HE := Lib.hid (ofW_no (Plain.setsB_bad HX.out hs))
        have HS := Lib.hid hs
        have hB := HK.out.2.2.2.setCell (p := ⟨w.heap.size, 0, none⟩) (Nat.le_refl _) (.slice none 0 0)
        have hF := HK.out.2.2.1.set (.slice none 0 0)
        have hcr := HK.out.2.2.1.cell
        have hfr := HK.out.2.2.1.free
        have HB9 := Lib.hid (And.intro hB hF)
        clear hB hF hs
        go_wp2_with fail
        refine (isSet_any x _ HR.out).mono ?_
        rw [HS.out]
        rintro e w' ⟨rfl, rfl⟩
        go_wp2_with fail
        refine bodyPost_ret (results_fam2 rfl _ _ w.heap.size _ (.bool false) rfl rfl HB9.out.2) rfl (fb_of HE.out.1.symm HE.out.2.symm (fb_nil HB9.out.1))
      | true =>
        have HS := Lib.hid hs
        have hx63 := set_range hs
        obtain ⟨⟨D, hown, hmap, hkeys⟩, hsets, hfam, hbel⟩ := HK.out
        have HM := Lib.hid (And.intro hmap hkeys)
        have HO := Lib.hid hown
        have hsnoc : xs.take (k + 1) = xs.take k ++ [x] := Plain.take_snoc HX.out
        have HN := Lib.hid hsnoc
        have HKD := Lib.hid (keysAre_put (x := x) (d := .lit (.bool true)) hkeys hmap)
        clear hs hmap hkeys hown hsets hfam hbel hsnoc
        go_wp2_with fail
        refine (isSet_any x _ HR.out).mono ?_
        rw [HS.out]
        rintro e w' ⟨rfl, rfl⟩
        go_wp2_with (at_mapUpdate; refine wpList_mapUpdate_own _ rfl _ _ _ 61 rfl 3 4 law Tryz.underlying61 _ (w.heap.size + 1) k _ rfl HO.out (by unfold maxLen; omega) _ _ _ rfl rfl (keyOf_int_mk Tryz.underlying3 (WalkArith.wf_i64 (by omega))) _ [] (plainElem_bool Tryz.underlying4 _) ?_; intro w1 hown1 hgrow1)
        have HT1 : Hid (Told xs (k + 1) w w1) := Lib.hid ⟨⟨_, hown1, isMap_put _ _ _ HM.out.1, by rw [HN.out]; exact HKD.out⟩, fun y hy => by
            rw [HN.out] at hy
            rcases List.mem_append.1 hy with hy | hy
            · exact HK.out.2.1 y hy
            · simp only [List.mem_singleton] at hy; subst hy; exact hx63, HK.out.2.2.1.grown hgrow1 (by omega), HK.out.2.2.2.grown hgrow1 HK.out.2.2.2.size (fun j hj => by cases hj; omega)⟩
        clear hown1 hgrow1
        go_roundw
        case rel => exact ⟨k + 1, by omega, by go_num, HT1.out⟩
        case measure => simp [intOf]; omega
    · obtain rfl : k = xs.length := by omega
      obtain ⟨⟨D, hown, hmap, hkeys⟩, hsets, hfam, hbel⟩ := HK.out
      rw [List.take_length] at hkeys hsets
      have hsb : Plain.setsB xs = true := Plain.setsB_good fun j x hj => by
        have := hsets x (List.mem_of_getElem? hj)
        simpa [Plain.isSet] using this
      have hE := ofW_yes hsb
      obtain ⟨M, hM⟩ : ∃ M, M = Plain.leastOf xs := ⟨_, rfl⟩
      rw [← hM] at hE
      have HE := Lib.hid hE
      have HM := Lib.hid hM
      have HO := Lib.hid hown
      have HKY := Lib.hid hkeys
      have HSS := Lib.hid hsets
      have HF := Lib.hid hfam
      have HB := Lib.hid hbel
      clear hE hM hown hkeys hsets hfam hbel hmap
      go_wp2_with fail
      refine (mapsKeys_any (some (w.heap.size + 1)) _).mono ?_
      rintro e w' ⟨rfl, rfl⟩
      go_wp2_with fail
      refine (sortedKeys_any (w.heap.size + 1) xs.length D _ wr HO.out hn).mono ?_
      rintro e w3 ⟨v, ss, rfl, hperm, hres, hb3⟩
      have hmem := keys_among HKY.out HO.out HSS.out hperm
      obtain ⟨ys, hys⟩ : ∃ ys, ys = ss.mergeSort (fun x y => decide (x ≤ y)) := ⟨_, rfl⟩
      rw [← hys] at hres hmem
      obtain ⟨a2, c2, rfl, hi2, ho2, hcp2⟩ := hres
      have hyn : ys.length ≤ 9223372036854775807 := Nat.le_trans hcp2.1 hcp2.2.1
      have HY := Lib.hid (leastOf_congr hmem)
      have HSY : Hid (Plain.setsB ys = true) := Lib.hid (Plain.setsB_good fun j x hj => by
        have := HSS.out x ((hmem x).1 (List.mem_of_getElem? hj))
        simpa [Plain.isSet] using this)
      have hB3 : Below w.heap.size w w3 := HB.out.trans (((Below.refl wr.heap.size wr).alloc (Nat.le_refl _) (.cells #[.map (some (w.heap.size + 1))] 61)).trans (hb3.mono (by omega)) |>.mono HB.out.size)
      have hF3 : FamAt w3 w.heap.size (.slice none 0 0) := HF.out.on (((Below.refl wr.heap.size wr).alloc (Nat.le_refl _) (.cells #[.map (some (w.heap.size + 1))] 61)).trans (hb3.mono (by omega)))
      have HI3 := Lib.hid hi2
      have H3 := Lib.hid (And.intro hB3 hF3)
      clear hperm hmem hi2 ho2 hcp2 hb3 hB3 hF3 hys
      have hnw := famAt_new w3 (.slice a2 ys.length c2)
      have hbw := (Below.refl w3.heap.size w3).alloc (Nat.le_refl _) (.cells #[.slice a2 ys.length c2] 28)
      have H4 := Lib.hid (And.intro hnw hbw)
      clear hnw hbw
      go_wp2_with fail
      obtain ⟨W4, hW4⟩ : ∃ W4, W4 = w3.alloc (.cells #[.slice a2 ys.length c2] 28) := ⟨_, rfl⟩
      rw [← hW4] at H4 ⊢
      clear hW4
      have hct : Tells 54 #[.agg #[.slice a2 ys.length c2]] #[] (Plain.hasB ys) W4 := fun s X hs hb => by
        simpa using has_any a2 c2 ys s X (Lib.hid ((HI3.out.on H4.out.2).on hb)) HSY hyn hs
      refine (familyThat_any 54 #[.agg #[.slice a2 ys.length c2]] #[] (Plain.hasB ys) _ (enters_of Tryz.func54 (by kernel_rfl) rfl) (Lib.hid hct)).mono ?_
      rw [HY.out, ← HM.out]
      rintro e w5 ⟨ma, mc, rfl, hi, ho, hcp, hb⟩
      have HS := Lib.hid (fam_stored (W := W4) (B := W4.heap.size) (G := w.heap.size) (H3.out.1.trans (H4.out.2.mono H3.out.1.size)) (Nat.le_refl _) (Nat.lt_of_lt_of_le H3.out.2.lt H4.out.2.size) (Nat.le_refl _) (H3.out.2.on H4.out.2) hi ho hcp hb)
      have hcr := ((H3.out.2.on H4.out.2).on hb).cell
      have hfr := ((H3.out.2.on H4.out.2).on hb).free
      clear hi ho hcp hb hct
      go_wp2_with fail
      refine bodyPost_ret (results_fam2 rfl _ _ w.heap.size _ (.bool true) rfl rfl HS.out.1) rfl (fb_of HE.out.1.symm HE.out.2.symm HS.out.2)
set_option maxHeartbeats 800000 in
theorem implIsFamily_any (a : Option Addr) (cap : Nat) (xs : List Int) (w : World) (h : Hid (Ints w a xs)) (h64 : Hid (In64 xs)) (hn : xs.length ≤ 1048576) :
    Calls Tryz.prog 20 #[.agg #[.slice a xs.length cap]] w (Val (.bool (Plain.famB xs)) w) := by
  have hb0 := (Below.refl w.heap.size w).alloc (Nat.le_refl _) (.cells #[.slice a xs.length cap] 28)
  have H0 := Lib.hid (And.intro hb0 (And.intro (h.out.on hb0) (famAt_new w (.slice a xs.length cap))))
  clear hb0
  go_enter Tryz.func20, Tryz.ntmps20
  go_wp2_with fail
  obtain ⟨W, hW⟩ : ∃ W, W = w.alloc (.cells #[.slice a xs.length cap] 28) := ⟨_, rfl⟩
  rw [← hW] at H0 ⊢
  clear hW
  refine (implFamilyOf_any a cap xs _ (Lib.hid H0.out.2.1) h64 hn).mono ?_
  have hle := ofW_le xs
  obtain ⟨M, hM⟩ : ∃ M, M = ofW xs := ⟨_, rfl⟩
  rw [← hM] at hle ⊢
  have HM := Lib.hid hM
  clear hM
  cases hs : Plain.setsB xs with
  | false =>
    have HE : Hid (Plain.famB xs = false) := Lib.hid (by rw [Plain.famB, hs]; rfl)
    clear hs
    rintro e w1 ⟨ma, mc, rfl, hi, ho, hcp, hb⟩
    have hB := Lib.hid ((H0.out.1.trans (hb.mono H0.out.1.size)).alloc (Nat.le_trans H0.out.1.size hb.size) (.cells #[.slice ma M.length mc] 28))
    clear hi ho hcp hb
    go_wp2_with fail
    go_ret
    exact ⟨ret_bool HE.out.symm, hB.out⟩
  | true =>
    have HE : Hid (Plain.famB xs = decide (M = xs)) := Lib.hid (by rw [Plain.famB, hs, Bool.true_and, HM.out, (ofW_yes hs).1])
    clear hs
    rintro e w1 ⟨ma, mc, rfl, hi, ho, hcp, hb⟩
    have hbw := (Below.refl w1.heap.size w1).alloc (Nat.le_refl _) (.cells #[.slice ma M.length mc] 28)
    have hcb := ((H0.out.2.2.on hb).alloc (.cells #[.slice ma M.length mc] 28)).cell
    have hcn := (famAt_new w1 (.slice ma M.length mc)).cell
    have HI := Lib.hid (And.intro (hi.on hbw) (And.intro ((H0.out.2.1.on hb).on hbw) (H0.out.1.trans ((hb.trans (hbw.mono hb.size)).mono H0.out.1.size))))
    clear hi ho hcp hb hbw
    go_wp2_with fail
    refine (slicesEqI_any _ _ _ _ M xs _ (Lib.hid HI.out.1) (Lib.hid HI.out.2.1) (by omega)).mono ?_
    rw [← HE.out]
    rintro e w2 he
    obtain ⟨rfl, hb2⟩ := he.on
    have HB2 := Lib.hid (HI.out.2.2.trans (hb2.mono HI.out.2.2.size))
    clear hb2 he
    go_wp2_with fail
    go_ret
    exact ⟨rfl, HB2.out⟩

end Go.Proofs.YtobjifggelmhcaaGreat
