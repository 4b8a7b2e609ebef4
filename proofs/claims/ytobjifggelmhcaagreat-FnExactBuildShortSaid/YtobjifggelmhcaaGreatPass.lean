/- Contract: impl.familyThat with whatever function value tells of each set. No condition but what the function tells. -/
import Derived.Test.YtobjifggelmhcaaGreatTell
import Derived.Test.YtobjifggelmhcaaGreatFamKit
namespace Go.Proofs.YtobjifggelmhcaaGreat
open Go.ChangeShapes Go.WideShapes Go.ChangeAt Go.RowKit
set_option linter.unusedVariables false

set_option maxRecDepth 100000 in
set_option maxHeartbeats 800000 in
theorem familyThat_any (g : Nat) (bs cs : Array Value) (t : Nat → Bool) (w : World) (eg : ∀ args w, (callFunc g args).run Tryz.prog w = .ok (.enter g args) w) (hp : Hid (Tells g bs cs t w)) :
    Calls Tryz.prog 53 #[.func (.func g) bs cs] w (FamPost (Plain.edges t true) w) := by
  have hb0 := (Below.refl w.heap.size w).alloc (Nat.le_refl _) (.cells #[.slice none 0 0] 28)
  have H0 := Lib.hid (And.intro hb0 (And.intro (famAt_new w (.slice none 0 0)) (show (w.alloc (.cells #[.slice none 0 0] 28)).heap.size = w.heap.size + 1 by simp)))
  have hle := Plain.edges_le t true
  obtain ⟨L, hL⟩ : ∃ L, L = Plain.edges t true := ⟨_, rfl⟩
  rw [← hL] at hle ⊢
  have HL := Lib.hid hL
  clear hb0 hL
  go_enter Tryz.func53, Tryz.ntmps53
  go_wp2_with fail
  obtain ⟨W, hW⟩ : ∃ W, W = w.alloc (.cells #[.slice none 0 0] 28) := ⟨_, rfl⟩
  rw [← hW] at H0 ⊢
  clear hW
  refine (tableThat_any g bs cs t _ eg (Lib.hid (hp.out.on H0.out.1))).mono ?_
  rintro e w1 ⟨rfl, hb1⟩
  have H1 := Lib.hid (And.intro (H0.out.1.trans (hb1.mono H0.out.1.size)) (H0.out.2.1.on hb1))
  clear hb1
  go_wp2_with fail
  refine (setsThat_isLeast t _).mono ?_
  rw [← HL.out]
  rintro e w2 ⟨v, rfl, ⟨a, c, rfl, hi, ho, hcp⟩, hb⟩
  have hc := (H1.out.2.on hb).cell
  have hfz := (H1.out.2.on hb).free
  have g1 := (H1.out.2.on hb).set (.slice a L.length c)
  have s1 := set_low (G := w.heap.size) (i := 0) (v := .slice a L.length c) hi ho H1.out.2.lt
  have hB := (H1.out.1.trans (hb.mono H1.out.1.size)).setCell (p := ⟨w.heap.size, 0, none⟩) (Nat.le_refl _) (.slice a L.length c)
  have HE := Lib.hid (And.intro g1 (And.intro s1 (And.intro hB hcp)))
  have hwle := H1.out.1.size
  clear g1 s1 hB hb hi ho hcp
  go_wp2_with fail
  refine bodyPost_ret (results_fam rfl _ _ w.heap.size _ rfl HE.out.1) rfl ⟨_, _, rfl, HE.out.2.1.1, HE.out.2.1.2.mono hwle, HE.out.2.2.2, HE.out.2.2.1⟩

end Go.Proofs.YtobjifggelmhcaaGreat
