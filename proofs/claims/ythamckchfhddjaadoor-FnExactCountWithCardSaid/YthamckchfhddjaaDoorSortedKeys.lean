/- Contracts: maps.Keys of a map from int to bool, and slices.Sorted of what it hands back, by the library's contracts laid at this program. Condition: a map of at most 2^20 entries. -/
import Derived.Test.YthamckchfhddjaaDoorShelfM
import Derived.Test.YthamckchfhddjaaDoorLawKit
import Derived.Maps.Own
import Derived.Maps.Views
import Derived.Shelf.AbstractIn
import Derived.CallsIn
namespace Go.Proofs.YthamckchfhddjaaDoor
open Go.ChangeShapes Go.WideShapes Go.ChangeAt Go.RowKit Go.Maps Go.Sort Go.Shelf
set_option linter.unusedVariables false

theorem sortsA (m : Nat) : AnyZI.SortsIn Tryd.prog Tryd.sortedA_ren Fence.wide m :=
  ⟨fun blk off cap ss W hH hblk hsz => callsIn_wide.2 (AnyM.slices_Sort_int Tryd.sortA blk off cap ss W hH hblk hsz),
   fun p cap W => callsIn_wide.2 (AnyM.slices_Sort_int_none Tryd.sortA p cap W)⟩
theorem mapsKeys_any (mb : Option Nat) (W : World) :
    Calls Tryd.prog 98 #[.map mb] W fun e w' => e = .returned (.func (.func 112) #[] #[.pointer (some ⟨W.heap.size, 0, none⟩)]) ∧ w' = W.alloc (.cells #[.map mb] 84) :=
  (callsIn_wide (n := 5)).1 (AnyZI.keys_in Tryd.keysA Fence.wide 5 trivial rfl mb W)
set_option maxHeartbeats 1000000 in
theorem sortedKeys_any {H : Type} (b nn : Nat) (D0 : DataW H) (R : Value → Option (DataW H × List MemPlace)) (w : World) (hown : w.ownsMap Tryd.prog 3 R b nn D0) (hmax : nn ≤ 1048576) :
    Calls Tryd.prog 97 #[.func (.func 112) #[] #[.pointer (some ⟨w.heap.size, 0, none⟩)]] (w.alloc (.cells #[.map (some b)] 84)) fun e w' => ∃ (v : Value) (ss : List Int), e = .returned v ∧ ss.Perm (intKeys D0) ∧
      Res (w.heap.size + 1) w' v (ss.mergeSort (fun x y => decide (x ≤ y))) ∧ Below (w.heap.size + 1) (w.alloc (.cells #[.map (some b)] 84)) w' := by
  have hbl := hown.lt
  have hsz := hown.size_le
  have hsz0 : (w.alloc (.cells #[.map (some b)] 84)).heap.size = w.heap.size + 1 := by simp
  have hseq : SeqGives Fence.wide 2 Tryd.prog 112 #[.pointer (some ⟨w.heap.size, 0, none⟩)] encZ (fun ss => ss.Perm (intKeys D0)) (Maps.size D0) (w.alloc (.cells #[.map (some b)] 84)) :=
    AnyZI.keys_gives (ρ := Tryd.keysA_ren) { Tryd.keysA with } Fence.wide _ trivial rfl (by omega) w.heap.size b nn D0 _ (by simp) (by simp) (by
      obtain ⟨es, clock, hb, Ft, hs, hD⟩ := hown
      exact ⟨es, clock, (Below.heap_alloc _ _ b hbl).trans hb, Ft, hs, hD⟩)
  have cS := AnyZI.sorted_in Tryd.sortedA Fence.wide 5 trivial trivial trivial trivial rfl (by omega) (sortsA _) (enters_of Tryd.func111 (by kernel_rfl) rfl) 112 #[.pointer (some ⟨w.heap.size, 0, none⟩)] trivial (enters_of Tryd.func112 (by kernel_rfl) rfl) _ _ (by unfold maxLen; omega) (by omega) _ hseq
  change CallsIn _ _ Tryd.prog 97 _ _ _ at cS
  refine ((callsIn_wide (n := 5)).1 cS).mono ?_
  rintro e w' ⟨v, ss, rfl, hS, hrow, hnil, hb⟩
  rw [hsz0] at hrow hb
  have hl : (ss.mergeSort (fun x y => decide (x ≤ y))).length = ss.length := List.length_mergeSort _
  exact ⟨v, ss, rfl, hS, owns_ints (by rw [← hl] at hrow; exact hrow), hb⟩

/-- What a map's keys are. -/
def KeysAre {H : Type} (D : DataW H) (xs : List Int) : Prop := ∀ x : Int, Maps.has D (.int .i64 x) = true ↔ x ∈ xs
theorem keysAre_start {H : Type} : KeysAre (H := H) (.map []) [] := fun x => by simp [Maps.has]
theorem keysAre_put {H : Type} {D d : DataW H} {xs : List Int} {x : Int} (h : KeysAre D xs) (hm : IsMap D) : KeysAre (D.put (.int .i64 x) d) (xs ++ [x]) := fun y => by
  by_cases e : y = x
  · subst e
    rw [has_put_same hm (by simp [WideAt.IsKeyLit])]
    simp
  · rw [has_put_other (by simpa using e), h y]
    simp [e]
/-- The keys, sorted, of a map whose keys are the numbers of a list of sets. -/
theorem keys_among {H : Type} {D : DataW H} {xs ss : List Int} {w : World} {R : Value → Option (DataW H × List MemPlace)} {b n : Nat} (h : KeysAre D xs) (hown : w.ownsMap Tryd.prog 3 R b n D) (hx : ∀ x ∈ xs, 0 ≤ x ∧ x ≤ 63) (hs : ss.Perm (intKeys D)) (x : Int) :
    x ∈ ss.mergeSort (fun x y => decide (x ≤ y)) ↔ x ∈ xs := by
  have hc : CollectedI D (fun _ => false) (((List.range 64).map (fun n : Nat => (n : Int))).filter (fun y => decide (y ∈ xs))) := by
    refine ⟨?_, fun y => ?_⟩
    · refine List.Pairwise.filter _ (List.pairwise_map.2 ?_)
      exact List.nodup_range.imp fun h e => h (by exact_mod_cast e)
    · rw [h y]
      simp only [List.mem_filter, List.mem_map, List.mem_range, decide_eq_true_eq, and_true]
      constructor
      · exact fun h => h.2
      · intro hy
        have := hx y hy
        exact ⟨⟨y.toNat, by omega, by omega⟩, hy⟩
  have hp := hc.perm hown (int_keyed Tryd.underlying3) Tryd.underlying3 (fun _ => rfl)
  rw [(List.mergeSort_perm ss _).mem_iff, hs.mem_iff, ← hp.mem_iff]
  simp only [List.mem_filter, List.mem_map, List.mem_range, decide_eq_true_eq]
  constructor
  · exact fun h => h.2
  · intro hy
    have := hx x hy
    exact ⟨⟨x.toNat, by omega, by omega⟩, hy⟩

end Go.Proofs.YthamckchfhddjaaDoor
