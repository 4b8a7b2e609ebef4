/- Contracts: spec.l6For, spec.IsWordFor, impl.IsWordFor. Conditions: numbers of 64 bits, lengths that fit. -/
import Derived.Test.YtobjifggelmhcaaGreatTabKit
import Derived.Test.YtobjifggelmhcaaGreatFalls
import Derived.Test.YtobjifggelmhcaaGreatTab
import Derived.Test.YtobjifggelmhcaaGreatFamMore
import Derived.Test.YtobjifggelmhcaaGreatFamTable
import Derived.Test.YtobjifggelmhcaaGreatBuildMath
import Derived.Test.YtobjifggelmhcaaGreatLater
namespace Go.Proofs.YtobjifggelmhcaaGreat
open Go.ChangeShapes Go.WideShapes Go.ChangeAt Go.RowKit
set_option linter.unusedVariables false

set_option maxRecDepth 100000 in
set_option maxHeartbeats 800000 in
theorem l6For_any (a : Option Addr) (cap : Nat) (xs : List Int) (t : Nat → Bool) (w : World) (h : Hid (Ints w a xs)) (hl : Hid (Plain.Letters xs)) (hn : xs.length ≤ 1048576) :
    Calls Tryz.prog 49 #[.slice a xs.length cap, .agg (bools t)] w (Val (.bool (Plain.alike (Plain.fallsB xs) t)) w) := by
  have HT := Lib.hid (tab_new w t)
  have HB := Lib.hid ((Below.refl w.heap.size w).alloc (Nat.le_refl _) (.cells (bools t) 56))
  have HI := Lib.hid (h.out.on HB.out)
  go_enter Tryz.func49, Tryz.ntmps49
  go_wp2_with fail
  obtain ⟨W, hW⟩ : ∃ W, W = w.alloc (.cells (bools t) 56) := ⟨_, rfl⟩
  rw [← hW] at HT HB HI ⊢
  clear hW
  have hload : ∀ p : Later W, (loadVar 56 ⟨w.heap.size, 0, none⟩).run Tryz.prog p.W = .ok (.agg (bools t)) p.W := fun p => tab_load (HT.out.on p.ok)
  have HLD := Lib.hid hload
  have hrun : ∀ p : Later W, Sem.run Tryz.prog (Op.equalIn 10000 56 (.agg (bools (Plain.fallsB xs))) (.agg (bools t))) p.W = .ok (Plain.alike (Plain.fallsB xs) t) p.W := fun p => run_tabs p.W _ _
  clear hload
  refine wp_region_below (by kernel_rfl) (by kernel_rfl) ?_
  repeat (first
    | (refine later_row rfl 56 _ rfl w.heap.size rfl (bools t) HLD.out ?_)
    | quiet_step ((go_at_call 44; exact later_of (l3Table_any _ _ xs _ (Lib.hid (HI.out.on (Later.ok _))) hl hn))))
  refine wpQuiet_nil ?_
  intro _ hw'
  obtain ⟨⟨wx, hwx⟩, rfl⟩ := hw'
  go_wp2_with fail
  go_ret
  exact ⟨rfl, HB.out.trans (hwx.mono HB.out.size)⟩
/-- What IsWordFor answers. -/
def forB (xs fs : List Int) : Bool := Plain.wordB xs && Plain.famB fs
def forV (xs fs : List Int) : Bool := forB xs fs && Plain.alike (Plain.fallsB xs) (Plain.hasB fs)
theorem for_no {xs fs : List Int} (h : Plain.wordB xs = false ∨ Plain.famB fs = false) : forV xs fs = false ∧ forB xs fs = false := by
  have hb : forB xs fs = false := by rcases h with h | h <;> simp [forB, h]
  simp [forV, hb]
theorem for_yes {xs fs : List Int} (h1 : Plain.wordB xs = true) (h2 : Plain.famB fs = true) : forV xs fs = Plain.alike (Plain.fallsB xs) (Plain.hasB fs) ∧ forB xs fs = true := by simp [forV, forB, h1, h2]

end Go.Proofs.YtobjifggelmhcaaGreat
