/- Contracts: impl's position.safeNails, SafeNails. Conditions: numbers of 64 bits, lengths that fit. -/
import Derived.Test.YtpaijobmoddgpabGamePos
namespace Go.Proofs.Ytpaijobmoddgpab
open Go.ChangeShapes Go.WideShapes Go.ChangeAt Go.RowKit
set_option linter.unusedVariables false

theorem keepL_nailZ (f : Int → Bool) (g : Nat → Bool) (l : List Nat) (h : ∀ p ∈ l, f ((p : Int) + 1) = !g p) : keepL f (nailZ l) = nailZ (l.filter g) := by
  unfold keepL nailZ
  rw [List.filter_map]
  congr 1
  refine List.filter_congr fun p hp => ?_
  simp only [Function.comp]
  rw [h p hp, Bool.not_not]
theorem mem_nailZ {l : List Nat} {x : Int} (h : x ∈ nailZ l) : ∃ p ∈ l, x = (p : Int) + 1 := by
  unfold nailZ at h
  obtain ⟨p, hp, rfl⟩ := List.mem_map.1 h
  exact ⟨p, hp, rfl⟩
theorem nailZ_le (l : List Nat) : (nailZ l).length = l.length := by simp [nailZ]
theorem moves_le (t : Nat → Bool) (m : Nat) (k : Bool) (s : Nat) : (Plain.movesG t m k s).length ≤ 6 := by
  have h := Plain.cnt_le m s
  unfold Plain.movesG
  split
  · exact Nat.zero_le _
  · split
    · exact h
    · exact Nat.le_trans (List.length_filter_le _ _) h
theorem safe_moves (t : Nat → Bool) (m s : Nat) : (Plain.movesG t m true s).filter (fun p => !t (s ||| 2 ^ p)) = Plain.movesG t m false s := by
  unfold Plain.movesG
  cases h : t s <;> simp
theorem grown_none {w w' : World} (h : Below w.heap.size w w') : w.grownBy w' none := ⟨h.os, h.tape, h.output, h.size, fun k hk _ => h.block k hk⟩
set_option maxRecDepth 100000 in
set_option maxHeartbeats 800000 in
theorem unsafe_any (t : Nat → Bool) (m s p G : Nat) (w : World) (hs : s < 64) (hp : p < 6) (hG : Hid (PosAt w G t m s)) :
    Calls Try.prog 80 #[.int .i64 ((p : Int) + 1), .pointer (some ⟨G, 0, none⟩)] w (Val (.bool (t (s ||| 2 ^ p))) w) := by
  have hu := Plain.or_lt hs hp
  obtain ⟨u, hu2⟩ : ∃ u, u = s ||| 2 ^ p := ⟨_, rfl⟩
  have HB : Hid (∀ V, Calls Try.prog 71 #[.agg (posC t m s), .int .i64 ((p : Int) + 1)] V (Val (.agg (posC t m u)) V)) := Lib.hid (fun V => by rw [hu2]; exact behind_any t m s p V hs hp)
  rw [← hu2] at hu ⊢
  clear hu2
  go_enter Try.func80, Try.ntmps80
  go_wp2_with (first | (refine wpList_load_row rfl 41 _ rfl G rfl 41 (posC t m s) (0, 0) _ hG.out Try.underlying41 rfl (infoPosC _ _ _) ?_))
  refine (HB.out _).mono ?_
  rintro e w1 ⟨rfl, hb1⟩
  have HB1 := Lib.hid hb1
  clear hb1
  go_wp2_with fail
  refine (hangs_any t m u _ hu).mono ?_
  rintro e w2 ⟨rfl, hb2⟩
  have HB2 := Lib.hid (HB1.out.trans (hb2.mono HB1.out.size))
  clear hb2
  go_wp2_with fail
  go_ret
  exact ⟨ret_bool (by simp), HB2.out⟩
set_option maxRecDepth 100000 in
set_option maxHeartbeats 800000 in
theorem safeNails_any (t : Nat → Bool) (m s : Nat) (w : World) (hm : m < 64) (hs : s < 64) :
    Calls Try.prog 70 #[.agg (posC t m s)] w (OwnL (nailZ (Plain.movesG t m false s)) w) := by
  obtain ⟨W, hW⟩ : ∃ W, W = w.alloc (.cells (posC t m s) 41) := ⟨_, rfl⟩
  have HP : Hid (PosAt W w.heap.size t m s) := Lib.hid (by rw [hW]; exact posAt_new w t m s)
  have HB : Hid (Below w.heap.size w W) := Lib.hid (by rw [hW]; exact (Below.refl _ _).alloc (Nat.le_refl _) _)
  go_enter Try.func70, Try.ntmps70
  go_wp2_with (first | (refine wpList_load_row rfl 41 _ rfl w.heap.size rfl 41 (posC t m s) (0, 0) _ (posAt_new w t m s) Try.underlying41 rfl (infoPosC _ _ _) ?_))
  rw [← hW]
  clear hW
  have hle := moves_le t m true s
  refine (nailsIn_any t m s _ hm hs).mono ?_
  rintro e w1 ⟨v, rfl, hown, hb1⟩
  have HO := Lib.hid hown
  have HB1 := Lib.hid hb1
  have HP1 := Lib.hid (HP.out.on hb1)
  have HA : Hid (Asks 80 #[] #[.pointer (some ⟨w.heap.size, 0, none⟩)] (fun x => t (s ||| 2 ^ (x.toNat - 1))) (nailZ (Plain.movesG t m true s)) W.heap.size (fun W' => Below W.heap.size W W')) := Lib.hid {
    enters := enters_of Try.func80 (by kernel_rfl) rfl
    call := fun x V hx hV => by
      obtain ⟨p, hp, rfl⟩ := mem_nailZ hx
      have hp6 := (Plain.mem_inP.1 (Plain.movesG_in hp)).1
      have e : (((p : Int) + 1).toNat - 1) = p := by omega
      refine Calls.mono (unsafe_any t m s p w.heap.size V hs hp6 (Lib.hid (HP.out.past hV HP.out.lt))) ?_
      rintro e' V' ⟨rfl, hb⟩
      refine ⟨by rw [e], hV.trans (hb.mono hV.size), none, grown_none hb, fun j hj => by cases hj⟩
    set := fun V b o v hb hV => hV.setCell (p := ⟨b, o, none⟩) hb v }
  clear hown hb1
  go_wp2_with fail
  refine (deleteI_any 80 #[] #[.pointer (some ⟨w.heap.size, 0, none⟩)] _ W.heap.size _ v _ _ HO.out (by rw [nailZ_le]; omega) HA (Lib.hid HB1.out)).mono ?_
  rintro e w2 ⟨v2, rfl, hown2, hb2⟩
  rw [keepL_nailZ _ (fun p => !t (s ||| 2 ^ p)) _ (fun p hp => by simp only [Bool.not_not]; rw [show ((p : Int) + 1).toNat - 1 = p by omega]), safe_moves] at hown2
  have HO2 := Lib.hid hown2
  have HB2 := Lib.hid hb2
  clear hown2 hb2
  go_wp2_with fail
  go_ret
  exact ⟨v2, rfl, World.ownsRow.mono HO2.out HB.out.size, HB.out.trans (HB2.out.mono HB.out.size)⟩
/-- What SafeNails answers. -/
def safeW (xs : List Int) (n s : Int) : List Int := if gameB xs n s = true then nailZ (Plain.movesG (Plain.fallsB xs) (2 ^ n.toNat - 1) false s.toNat) else []
theorem safeW_yes {xs : List Int} {n s : Int} (h : gameB xs n s = true) : safeW xs n s = nailZ (Plain.movesG (Plain.fallsB xs) (2 ^ n.toNat - 1) false s.toNat) := if_pos h
theorem safeW_no {xs : List Int} {n s : Int} (h : gameB xs n s = false) : safeW xs n s = [] := if_neg (by rw [h]; simp)
theorem posV2_yes {xs : List Int} {n s : Int} (h : gameB xs n s = true) : posV2 xs n s = .tuple #[.agg (posC (Plain.fallsB xs) (2 ^ n.toNat - 1) s.toNat), .bool true] := if_pos h
theorem posV2_no {xs : List Int} {n s : Int} (h : gameB xs n s = false) : posV2 xs n s = .tuple #[.agg (posC (fun _ => false) 0 0), .bool false] := if_neg (by rw [h]; simp)
theorem game_small {xs : List Int} {n s : Int} (h : gameB xs n s = true) : 2 ^ n.toNat - 1 < 64 ∧ s.toNat < 64 ∧ 1 ≤ n ∧ n ≤ 6 ∧ 0 ≤ s ∧ s.toNat ≤ 2 ^ n.toNat - 1 ∧ Plain.wordB xs = true ∧ Plain.fallsB xs (2 ^ n.toNat - 1) = true ∧ Plain.fallsB xs s.toNat = false := by
  unfold gameB goodB at h
  simp only [Bool.and_eq_true, decide_eq_true_eq, Bool.not_eq_true'] at h
  obtain ⟨⟨⟨⟨h1, h2⟩, h3⟩, h4⟩, h5⟩ := h
  have h6 : 2 ^ n.toNat ≤ 2 ^ 6 := Nat.pow_le_pow_right (by omega) (by omega)
  have h7 : (2 : Int) ^ n.toNat = ((2 ^ n.toNat : Nat) : Int) := pow_nat _
  rw [h7] at h3
  exact ⟨by omega, by omega, h2.1, h2.2, h3.1, by omega, h1, h4, h5⟩
theorem res_nil (B : Nat) (w : World) (g : Nat) : Res B w (.slice (some ⟨g, 0, none⟩) 0 0) [] := ⟨_, 0, rfl, Ints.nil _ _, .inl rfl, cap_copy g (n := 0) (Nat.zero_le _)⟩
theorem pos_box (w w1 : World) (t : Nat → Bool) (m s : Nat) (hb : Below w.heap.size w w1) : PosAt ((w1.alloc (.cells (posC (fun _ => false) 0 0) 41)).setRow w1.heap.size (posC t m s)) w1.heap.size t m s ∧
    Below w.heap.size w ((w1.alloc (.cells (posC (fun _ => false) 0 0) 41)).setRow w1.heap.size (posC t m s)) :=
  ⟨posAt_row (heap_alloc_new _ _), below_setRow (hb.alloc hb.size _) hb.size _⟩

end Go.Proofs.Ytpaijobmoddgpab
