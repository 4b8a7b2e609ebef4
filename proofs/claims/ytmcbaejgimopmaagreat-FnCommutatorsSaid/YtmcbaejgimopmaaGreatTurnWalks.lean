/- Contracts: spec.l2Turn and (impl.word).turned begin a list at its place k. Conditions: a place in the list, a length that fits. -/
import Derived.Test.YtmcbaejgimopmaaGreatInvWalks
import Derived.Deep.RegionLaw
namespace Go.Proofs.YtmcbaejgimopmaaGreat
open Go.ChangeShapes Go.WideShapes Go.ChangeAt Go.RowKit
set_option linter.unusedVariables false

def turn (xs : List Int) (k : Nat) : List Int := xs.drop k ++ xs.take k
theorem turn_length (xs : List Int) (k : Nat) : (turn xs k).length = xs.length := by simp [turn]; omega
theorem l1Own_at (a : Option Addr) (cap n : Nat) (xs : List Int) (w : World) (hl : xs.length = n) (h : Hid (Ints w a xs)) (hcp : Hid (Cap a n cap)) (hn : n ≤ 1048576) :
    Calls Tryz.prog 65 #[.slice a n cap] w fun e w' => ∃ v, e = .returned v ∧ Coll xs w.heap.size w v w' ∧ v ≠ .slice none 0 0 := by
  subst hl
  exact l1Own_any a cap xs w h hcp hn
theorem Coll.undrew {L : List Int} {B : Nat} {w wr : World} {v : Value} (h : Coll L B w.drew v wr) : Coll L B w v wr := ⟨h.1, (Below.refl _ w).drew.trans h.2.1, h.2.2⟩

set_option maxRecDepth 100000 in
set_option maxHeartbeats 800000 in
theorem l2Turn_some (b o cap : Nat) (xs : List Int) (k : Nat) (w : World) (h : Hid (Ints w (some ⟨b, o, none⟩) xs)) (hcp : Hid (Cap (some ⟨b, o, none⟩) xs.length cap)) (hk : k < xs.length) (hn : xs.length ≤ 1048576) :
    Calls Tryz.prog 63 #[.slice (some ⟨b, o, none⟩) xs.length cap, .int .i64 (k : Int)] w (ListPost (turn xs k) w) := by
  obtain ⟨i0, hi0, hz0, hz1, hz2⟩ := info_parts infoInt
  have hc1 := hcp.out.1
  have hc2 := hcp.out.2.1
  have I1 := Lib.hid (h.out.from k)
  have I2 := Lib.hid (h.out.upto k)
  have K1 := Lib.hid (cap_from hcp.out (k := k) (by omega))
  have K2 := Lib.hid (cap_upto hcp.out (k := k) (by omega))
  have l1 := Lib.hid (show (xs.drop k).length = xs.length - k by simp)
  have l2 := Lib.hid (show (xs.take k).length = k by simp; omega)
  have hne : ¬ cap = k := by omega
  have hk1 : (k : Int) ≤ (xs.length : Int) := by omega
  have hk2 : (0 : Int) ≤ (k : Int) := by omega
  have hk3 : (k : Int) ≤ (cap : Int) := by omega
  have hk4 : (xs.length : Int) ≤ (cap : Int) := by omega
  go_enter Tryz.func63, Tryz.ntmps63
  go_wp2
  go_region_law (first
    | (refine step_append_ints rfl (.tmp 8) (.tmp 11) 24 i0 rfl Tryz.underlying24 hi0 hz0 hz1 hz2 w.heap.size v1 (xs.length - k) (xs.drop k) (by simp [Act.eval]) (by have := HC.out.1; rwa [l1.out] at this) (some ⟨b, o, none⟩) k cap (xs.take k) (by simp [Act.eval]) l2.out (J2.out) K2.out (by omega) HC.out.2.2 ?_; intro v' w2 hown hgrow hnil; have HR := Lib.hid (coll_more HC.out l2.out (by rw [l1.out]; exact hown) hgrow); clear hown hgrow hnil)
    | (go_simp; go_at_call 65; refine (l1Own_at _ _ _ (xs.drop k) w.drew l1.out I1 K1 (by omega)).mono ?_; rintro e w1 ⟨v1, rfl, hC, hv1⟩; have HC := Lib.hid hC.undrew; have J2 := Lib.hid (I2.out.on HC.out.2.1); clear hC hv1))
  all_goals
    go_wp2
    go_ret
    exact ⟨_, rfl, (coll_res HR.out).1, (coll_res HR.out).2⟩

set_option maxRecDepth 100000 in
set_option maxHeartbeats 800000 in
theorem turned_some (b o cap : Nat) (xs : List Int) (k : Nat) (w : World) (h : Hid (Ints w (some ⟨b, o, none⟩) xs)) (hcp : Hid (Cap (some ⟨b, o, none⟩) xs.length cap)) (hk : k < xs.length) (hn : xs.length ≤ 1048576) :
    Calls Tryz.prog 59 #[.slice (some ⟨b, o, none⟩) xs.length cap, .int .i64 (k : Int)] w (ListPost (turn xs k) w) := by
  obtain ⟨i0, hi0, hz0, hz1, hz2⟩ := info_parts infoInt
  have hc1 := hcp.out.1
  have hc2 := hcp.out.2.1
  have I1 := Lib.hid (h.out.from k)
  have I2 := Lib.hid (h.out.upto k)
  have K1 := Lib.hid (cap_from hcp.out (k := k) (by omega))
  have K2 := Lib.hid (cap_upto hcp.out (k := k) (by omega))
  have l1 := Lib.hid (show (xs.drop k).length = xs.length - k by simp)
  have l2 := Lib.hid (show (xs.take k).length = k by simp; omega)
  have hne : ¬ cap = k := by omega
  have hk1 : (k : Int) ≤ (xs.length : Int) := by omega
  have hk2 : (0 : Int) ≤ (k : Int) := by omega
  have hk3 : (k : Int) ≤ (cap : Int) := by omega
  have hk4 : (xs.length : Int) ≤ (cap : Int) := by omega
  go_enter Tryz.func59, Tryz.ntmps59
  go_wp2_with (first
    | (at_make; refine wpList_make_own _ rfl _ _ 64 rfl w.heap.size 3 i0 (.int .i64 0) 1 Tryz.underlying64 hi0 hz0 hz1 .i64 .i64 _ xs.length rfl rfl rfl (by rw [hz2]; omega) (by unfold maxLen; omega) (Nat.le_refl _) ?_; intro w1 hown hg; have HC : Hid (Coll [] w.heap.size w (.slice (some ⟨w.heap.size, 0, none⟩) 0 xs.length) w1) := Lib.hid ⟨hown, (Below.refl _ w).grown hg (Nat.le_refl _) (fun j hj => by cases hj), hg.size⟩; have J1 := Lib.hid (I1.out.on HC.out.2.1); have J2 := Lib.hid (I2.out.on HC.out.2.1); clear hown hg)
    | (at_builtin; (refine wpList_append_ints rfl (.tmp 9) (.tmp 12) 64 i0 rfl Tryz.underlying64 hi0 hz0 hz1 hz2 w.heap.size _ 0 [] rfl HC.out.1 (some ⟨b, o + k, none⟩) (xs.length - k) (cap - k) (xs.drop k) rfl l1.out J1.out K1.out (by omega) HC.out.2.2 ?_; intro v' w2 hown hgrow hnil; have HC2 := Lib.hid (coll_more HC.out l1.out hown hgrow); clear hown hgrow hnil))
    | (at_builtin; (refine wpList_append_ints rfl (.tmp 14) (.tmp 17) 64 i0 rfl Tryz.underlying64 hi0 hz0 hz1 hz2 w.heap.size _ (xs.length - k) (xs.drop k) rfl (by have := HC2.out.1; rwa [List.nil_append, l1.out] at this) (some ⟨b, o, none⟩) k cap (xs.take k) rfl l2.out (I2.out.on HC2.out.2.1) K2.out (by omega) HC2.out.2.2 ?_; intro v3 w3 hown hgrow hnil; have HC3 := Lib.hid (coll_more HC2.out l2.out (by rw [List.nil_append, l1.out]; exact hown) hgrow); clear hown hgrow hnil)))
  go_ret
  exact ⟨_, rfl, (coll_res HC3.out).1, (coll_res HC3.out).2⟩
set_option maxRecDepth 100000 in
theorem l2Turn_none  (w : World) :
    Calls Tryz.prog 63 #[.slice none 0 0, .int .i64 0] w (ListPost [] w) := by
  obtain ⟨i0, hi0, hz0, hz1, hz2⟩ := info_parts infoInt
  have K1 : Hid (Cap none 0 0) := Lib.hid ⟨by omega, by omega, fun _ => rfl, fun x h => by cases h⟩
  go_enter Tryz.func63, Tryz.ntmps63
  go_wp2
  go_region_law (first
    | (refine step_append_ints rfl (.tmp 8) (.tmp 11) 24 i0 rfl Tryz.underlying24 hi0 hz0 hz1 hz2 w.heap.size v1 0 [] (by simp [Act.eval]) HC.out.1 none 0 0 [] (by simp [Act.eval]) rfl (Ints.nil _ _) K1.out (by omega) HC.out.2.2 ?_; intro v' w2 hown hgrow hnil; have HR := Lib.hid (coll_more HC.out (ys := []) rfl hown hgrow); clear hown hgrow hnil)
    | (go_simp; go_at_call 65; refine (l1Own_at _ _ 0 [] w.drew rfl (Lib.hid (Ints.nil _ _)) K1 (by omega)).mono ?_; rintro e w1 ⟨v1, rfl, hC, hv1⟩; have HC := Lib.hid hC.undrew; clear hC hv1))
  all_goals
    go_wp2
    go_ret
    exact ⟨_, rfl, (coll_res HR.out).1, (coll_res HR.out).2⟩
set_option maxRecDepth 100000 in
theorem l2Turn_flat (b o : Nat) (w : World) :
    Calls Tryz.prog 63 #[.slice (some ⟨b, o, none⟩) 0 0, .int .i64 0] w (ListPost [] w) := by
  obtain ⟨i0, hi0, hz0, hz1, hz2⟩ := info_parts infoInt
  have K1 : Hid (Cap (some ⟨b, o, none⟩) 0 0) := Lib.hid ⟨by omega, by omega, fun _ => rfl, fun x h => ⟨b, o, by cases h; rfl⟩⟩
  go_enter Tryz.func63, Tryz.ntmps63
  go_wp2
  go_region_law (first
    | (refine step_append_ints rfl (.tmp 8) (.tmp 11) 24 i0 rfl Tryz.underlying24 hi0 hz0 hz1 hz2 w.heap.size v1 0 [] (by simp [Act.eval]) HC.out.1 (some ⟨b, o, none⟩) 0 0 [] (by simp [Act.eval]) rfl (Ints.nil _ _) K1.out (by omega) HC.out.2.2 ?_; intro v' w2 hown hgrow hnil; have HR := Lib.hid (coll_more HC.out (ys := []) rfl hown hgrow); clear hown hgrow hnil)
    | (go_simp; go_at_call 65; refine (l1Own_at _ _ 0 [] w.drew rfl (Lib.hid (Ints.nil _ _)) K1 (by omega)).mono ?_; rintro e w1 ⟨v1, rfl, hC, hv1⟩; have HC := Lib.hid hC.undrew; clear hC hv1))
  all_goals
    go_wp2
    go_ret
    exact ⟨_, rfl, (coll_res HR.out).1, (coll_res HR.out).2⟩
set_option maxRecDepth 100000 in
theorem l2Turn_room (b o cap : Nat) (hc : 0 < cap) (hm : cap ≤ 9223372036854775807) (w : World) :
    Calls Tryz.prog 63 #[.slice (some ⟨b, o, none⟩) 0 cap, .int .i64 0] w (ListPost [] w) := by
  obtain ⟨i0, hi0, hz0, hz1, hz2⟩ := info_parts infoInt
  have K1 : Hid (Cap (some ⟨b, o, none⟩) 0 cap) := Lib.hid ⟨by omega, by omega, fun h => (by cases h), fun x h => ⟨b, o, by cases h; rfl⟩⟩
  have hne : ¬ cap = 0 := by omega
  have hk4 : (0 : Int) ≤ (cap : Int) := by omega
  go_enter Tryz.func63, Tryz.ntmps63
  go_wp2
  go_region_law (first
    | (refine step_append_ints rfl (.tmp 8) (.tmp 11) 24 i0 rfl Tryz.underlying24 hi0 hz0 hz1 hz2 w.heap.size v1 0 [] (by simp [Act.eval]) HC.out.1 (some ⟨b, o, none⟩) 0 cap [] (by simp [Act.eval]) rfl (Ints.nil _ _) K1.out (by omega) HC.out.2.2 ?_; intro v' w2 hown hgrow hnil; have HR := Lib.hid (coll_more HC.out (ys := []) rfl hown hgrow); clear hown hgrow hnil)
    | (go_simp; go_at_call 65; refine (l1Own_at _ _ 0 [] w.drew rfl (Lib.hid (Ints.nil _ _)) K1 (by omega)).mono ?_; rintro e w1 ⟨v1, rfl, hC, hv1⟩; have HC := Lib.hid hC.undrew; clear hC hv1))
  all_goals
    go_wp2
    go_ret
    exact ⟨_, rfl, (coll_res HR.out).1, (coll_res HR.out).2⟩
set_option maxRecDepth 100000 in
theorem turned_none  (w : World) :
    Calls Tryz.prog 59 #[.slice none 0 0, .int .i64 0] w (ListPost [] w) := by
  obtain ⟨i0, hi0, hz0, hz1, hz2⟩ := info_parts infoInt
  have K1 : Hid (Cap none 0 0) := Lib.hid ⟨by omega, by omega, fun _ => rfl, fun x h => by cases h⟩
  go_enter Tryz.func59, Tryz.ntmps59
  go_wp2_with (first
    | (at_make; refine wpList_make_own _ rfl _ _ 64 rfl w.heap.size 3 i0 (.int .i64 0) 1 Tryz.underlying64 hi0 hz0 hz1 .i64 .i64 _ 0 rfl rfl rfl (by rw [hz2]; omega) (by unfold maxLen; omega) (Nat.le_refl _) ?_; intro w1 hown hg; have HC : Hid (Coll [] w.heap.size w (.slice (some ⟨w.heap.size, 0, none⟩) 0 0) w1) := Lib.hid ⟨hown, (Below.refl _ w).grown hg (Nat.le_refl _) (fun j hj => by cases hj), hg.size⟩; clear hown hg)
    | (at_builtin; (refine wpList_append_ints rfl (.tmp 9) (.tmp 12) 64 i0 rfl Tryz.underlying64 hi0 hz0 hz1 hz2 w.heap.size _ 0 [] rfl HC.out.1 none 0 0 [] rfl rfl (Ints.nil _ _) K1.out (by omega) HC.out.2.2 ?_; intro v' w2 hown hgrow hnil; have HC2 := Lib.hid (coll_more HC.out (ys := []) rfl hown hgrow); clear hown hgrow hnil))
    | (at_builtin; (refine wpList_append_ints rfl (.tmp 14) (.tmp 17) 64 i0 rfl Tryz.underlying64 hi0 hz0 hz1 hz2 w.heap.size _ 0 [] rfl HC2.out.1 none 0 0 [] rfl rfl (Ints.nil _ _) K1.out (by omega) HC2.out.2.2 ?_; intro v3 w3 hown hgrow hnil; have HC3 := Lib.hid (coll_more HC2.out (ys := []) rfl hown hgrow); clear hown hgrow hnil)))
  go_ret
  exact ⟨_, rfl, (coll_res HC3.out).1, (coll_res HC3.out).2⟩
set_option maxRecDepth 100000 in
theorem turned_flat (b o : Nat) (w : World) :
    Calls Tryz.prog 59 #[.slice (some ⟨b, o, none⟩) 0 0, .int .i64 0] w (ListPost [] w) := by
  obtain ⟨i0, hi0, hz0, hz1, hz2⟩ := info_parts infoInt
  have K1 : Hid (Cap (some ⟨b, o, none⟩) 0 0) := Lib.hid ⟨by omega, by omega, fun _ => rfl, fun x h => ⟨b, o, by cases h; rfl⟩⟩
  go_enter Tryz.func59, Tryz.ntmps59
  go_wp2_with (first
    | (at_make; refine wpList_make_own _ rfl _ _ 64 rfl w.heap.size 3 i0 (.int .i64 0) 1 Tryz.underlying64 hi0 hz0 hz1 .i64 .i64 _ 0 rfl rfl rfl (by rw [hz2]; omega) (by unfold maxLen; omega) (Nat.le_refl _) ?_; intro w1 hown hg; have HC : Hid (Coll [] w.heap.size w (.slice (some ⟨w.heap.size, 0, none⟩) 0 0) w1) := Lib.hid ⟨hown, (Below.refl _ w).grown hg (Nat.le_refl _) (fun j hj => by cases hj), hg.size⟩; clear hown hg)
    | (at_builtin; (refine wpList_append_ints rfl (.tmp 9) (.tmp 12) 64 i0 rfl Tryz.underlying64 hi0 hz0 hz1 hz2 w.heap.size _ 0 [] rfl HC.out.1 (some ⟨b, o, none⟩) 0 0 [] rfl rfl (Ints.nil _ _) K1.out (by omega) HC.out.2.2 ?_; intro v' w2 hown hgrow hnil; have HC2 := Lib.hid (coll_more HC.out (ys := []) rfl hown hgrow); clear hown hgrow hnil))
    | (at_builtin; (refine wpList_append_ints rfl (.tmp 14) (.tmp 17) 64 i0 rfl Tryz.underlying64 hi0 hz0 hz1 hz2 w.heap.size _ 0 [] rfl HC2.out.1 (some ⟨b, o, none⟩) 0 0 [] rfl rfl (Ints.nil _ _) K1.out (by omega) HC2.out.2.2 ?_; intro v3 w3 hown hgrow hnil; have HC3 := Lib.hid (coll_more HC2.out (ys := []) rfl hown hgrow); clear hown hgrow hnil)))
  go_ret
  exact ⟨_, rfl, (coll_res HC3.out).1, (coll_res HC3.out).2⟩
set_option maxRecDepth 100000 in
theorem turned_room (b o cap : Nat) (hc : 0 < cap) (hm : cap ≤ 9223372036854775807) (w : World) :
    Calls Tryz.prog 59 #[.slice (some ⟨b, o, none⟩) 0 cap, .int .i64 0] w (ListPost [] w) := by
  obtain ⟨i0, hi0, hz0, hz1, hz2⟩ := info_parts infoInt
  have K1 : Hid (Cap (some ⟨b, o, none⟩) 0 cap) := Lib.hid ⟨by omega, by omega, fun h => (by cases h), fun x h => ⟨b, o, by cases h; rfl⟩⟩
  have hne : ¬ cap = 0 := by omega
  have hk4 : (0 : Int) ≤ (cap : Int) := by omega
  go_enter Tryz.func59, Tryz.ntmps59
  go_wp2_with (first
    | (at_make; refine wpList_make_own _ rfl _ _ 64 rfl w.heap.size 3 i0 (.int .i64 0) 1 Tryz.underlying64 hi0 hz0 hz1 .i64 .i64 _ 0 rfl rfl rfl (by rw [hz2]; omega) (by unfold maxLen; omega) (Nat.le_refl _) ?_; intro w1 hown hg; have HC : Hid (Coll [] w.heap.size w (.slice (some ⟨w.heap.size, 0, none⟩) 0 0) w1) := Lib.hid ⟨hown, (Below.refl _ w).grown hg (Nat.le_refl _) (fun j hj => by cases hj), hg.size⟩; clear hown hg)
    | (at_builtin; (refine wpList_append_ints rfl (.tmp 9) (.tmp 12) 64 i0 rfl Tryz.underlying64 hi0 hz0 hz1 hz2 w.heap.size _ 0 [] rfl HC.out.1 (some ⟨b, o, none⟩) 0 cap [] rfl rfl (Ints.nil _ _) K1.out (by omega) HC.out.2.2 ?_; intro v' w2 hown hgrow hnil; have HC2 := Lib.hid (coll_more HC.out (ys := []) rfl hown hgrow); clear hown hgrow hnil))
    | (at_builtin; (refine wpList_append_ints rfl (.tmp 14) (.tmp 17) 64 i0 rfl Tryz.underlying64 hi0 hz0 hz1 hz2 w.heap.size _ 0 [] rfl HC2.out.1 (some ⟨b, o, none⟩) 0 cap [] rfl rfl (Ints.nil _ _) K1.out (by omega) HC2.out.2.2 ?_; intro v3 w3 hown hgrow hnil; have HC3 := Lib.hid (coll_more HC2.out (ys := []) rfl hown hgrow); clear hown hgrow hnil)))
  go_ret
  exact ⟨_, rfl, (coll_res HC3.out).1, (coll_res HC3.out).2⟩
theorem l2Turn_any (a : Option Addr) (cap : Nat) (xs : List Int) (k : Nat) (w : World) (h : Hid (Ints w a xs)) (hcp : Hid (Cap a xs.length cap)) (hk : k ≤ xs.length - 1) (hn : xs.length ≤ 1048576) :
    Calls Tryz.prog 63 #[.slice a xs.length cap, .int .i64 (k : Int)] w (ListPost (turn xs k) w) := by
  by_cases h0 : xs.length = 0
  · obtain rfl : xs = [] := List.eq_nil_of_length_eq_zero h0
    obtain rfl : k = 0 := by omega
    cases a with
    | none => obtain rfl := hcp.out.2.2.1 rfl; exact l2Turn_none w
    | some x =>
      obtain ⟨b, o, rfl⟩ := hcp.out.2.2.2 x rfl
      by_cases hc : cap = 0
      · subst hc; exact l2Turn_flat b o w
      · exact l2Turn_room b o cap (by omega) hcp.out.2.1 w
  · obtain ⟨x, hx⟩ := at_some xs 0 (by omega)
    obtain ⟨b, o, rfl, _⟩ := h.out 0 x hx
    exact l2Turn_some b o cap xs k w h hcp (by omega) hn
theorem turned_any (a : Option Addr) (cap : Nat) (xs : List Int) (k : Nat) (w : World) (h : Hid (Ints w a xs)) (hcp : Hid (Cap a xs.length cap)) (hk : k ≤ xs.length - 1) (hn : xs.length ≤ 1048576) :
    Calls Tryz.prog 59 #[.slice a xs.length cap, .int .i64 (k : Int)] w (ListPost (turn xs k) w) := by
  by_cases h0 : xs.length = 0
  · obtain rfl : xs = [] := List.eq_nil_of_length_eq_zero h0
    obtain rfl : k = 0 := by omega
    cases a with
    | none => obtain rfl := hcp.out.2.2.1 rfl; exact turned_none w
    | some x =>
      obtain ⟨b, o, rfl⟩ := hcp.out.2.2.2 x rfl
      by_cases hc : cap = 0
      · subst hc; exact turned_flat b o w
      · exact turned_room b o cap (by omega) hcp.out.2.1 w
  · obtain ⟨x, hx⟩ := at_some xs 0 (by omega)
    obtain ⟨b, o, rfl, _⟩ := h.out 0 x hx
    exact turned_some b o cap xs k w h hcp (by omega) hn
end Go.Proofs.YtmcbaejgimopmaaGreat
