/- Contract: impl.parseTree. Condition: a text that fits. -/
import Derived.Test.YtoikehpnpealpaaReadTree
namespace Go.Proofs.Ytoikehpnpealpaa
open Go.ChangeShapes Go.WideShapes Go.ChangeAt Go.RowKit
set_option linter.unusedVariables false

/-- Behind parseTree. -/
def ParsePost (s : ByteArray) (w : World) (e : Ending) (w' : World) : Prop :=
  (∃ v, e = .returned (.tuple #[v, .bool (parsedB s)]) ∧ (parsedB s = true → ∃ p, v = .pointer (some ⟨p, 0, none⟩) ∧ PTree 0 w' (treeOf s) p)) ∧ Below w.heap.size w w'
theorem grew_below {W W' : World} {o : Obj} (h : (W.alloc o).grownBy W' (some W.heap.size)) : Below W.heap.size W W' := by
  have hb := (Below.refl _ W).alloc (Nat.le_refl _) o
  have hs : (W.alloc o).heap.size = W.heap.size + 1 := by show (W.heap.push o).size = _; simp
  refine ⟨h.os.trans hb.os, h.tape.trans hb.tape, h.output.trans hb.output, Nat.le_trans hb.size h.size, fun j hj => ?_⟩
  rw [h.block j (by omega) (by simp; omega), hb.block j hj]
set_option maxRecDepth 100000 in
set_option maxHeartbeats 1000000 in
theorem parseTree_any (s : ByteArray) (w : World) (hs : s.size ≤ 9223372036854775807) :
    Calls Try.prog 65 #[.string s] w (ParsePost s w) := by
  by_cases h80 : s.size ≤ 80
  · have hsi : (s.size : Int) ≤ 80 := by omega
    have HP : Hid (parsedB s = (!(parseP s.size s.data.toList false).2.2 && (parseP s.size s.data.toList false).2.1.isEmpty)) := Lib.hid (by simp [parsedB, h80])
    have HT : Hid (treeOf s = (parseP s.size s.data.toList false).1) := Lib.hid rfl
    have C1 := Lib.hid (fun R W (hr : Hid (Reader W R s.data.toList false)) => readTree_any s.size R s.data.toList false W (by simp) (by simpa using h80) hr)
    have HS := Lib.hid (bytesOf_self s)
    obtain ⟨T, rr, rF, hr⟩ : ∃ T rr rF, parseP s.size s.data.toList false = (T, rr, rF) := ⟨_, _, _, rfl⟩
    rw [hr] at HP HT C1
    simp only at HP HT
    have HR0 : Hid (Reader (w.alloc (.cells #[.string s, .bool false] 94)) w.heap.size s.data.toList false) := Lib.hid (by
      unfold Reader
      rw [HS.out]
      exact heap_alloc_new w _)
    clear hr
    go_enter Try.func65, Try.ntmps65
    go_wp2_with fail
    refine (C1.out w.heap.size _ HR0).mono ?_
    rintro e w1 ⟨p, rfl, h1, h2, h3⟩
    have HB := Lib.hid (grew_below h3)
    have HPT := Lib.hid (PTree.mono (Nat.zero_le _) h1)
    obtain ⟨c0, c1, -⟩ := Reader.cells h2
    have hem : (bytesOf rr).toList.isEmpty = rr.isEmpty := by rw [ByteArray.toList_eq, bytesOf_list]
    clear h1 h2 h3
    cases rF with
    | true =>
      have HQ : Hid (parsedB s = false) := Lib.hid (by rw [HP.out]; rfl)
      go_wp2_with fail
      go_ret2
      exact ⟨⟨_, by rw [HQ.out]; rfl, fun h => by rw [HQ.out] at h; cases h⟩, HB.out⟩
    | false =>
      cases hz : rr.isEmpty with
      | true =>
        rw [hz] at hem
        have HQ : Hid (parsedB s = true) := Lib.hid (by rw [HP.out, hz]; rfl)
        clear hz
        go_wp2_with fail
        go_ret2
        exact ⟨⟨_, by rw [HQ.out]; rfl, fun _ => ⟨p, rfl, by rw [HT.out]; exact HPT.out⟩⟩, HB.out⟩
      | false =>
        rw [hz] at hem
        have HQ : Hid (parsedB s = false) := Lib.hid (by rw [HP.out, hz]; rfl)
        clear hz
        go_wp2_with fail
        go_ret2
        exact ⟨⟨_, by rw [HQ.out]; rfl, fun h => by rw [HQ.out] at h; cases h⟩, HB.out⟩
  · have hsi : 80 < (s.size : Int) := by omega
    have HQ : Hid (parsedB s = false) := Lib.hid (by simp [parsedB, h80])
    go_enter Try.func65, Try.ntmps65
    go_wp2_with fail
    go_ret2
    exact ⟨⟨_, by rw [HQ.out]; rfl, fun h => by rw [HQ.out] at h; cases h⟩, by first | exact Below.refl _ _ | exact (Below.refl _ _).alloc (Nat.le_refl _) _⟩

end Go.Proofs.Ytoikehpnpealpaa
