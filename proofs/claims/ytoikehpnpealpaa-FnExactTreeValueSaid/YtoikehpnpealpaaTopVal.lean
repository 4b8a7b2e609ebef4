/- Contract: impl.TreeValue answers as spec's. Condition: a text that fits. -/
import Derived.Test.YtoikehpnpealpaaTops
import Derived.Test.YtoikehpnpealpaaValueImpl
import Derived.Test.YtoikehpnpealpaaTreeValue
namespace Go.Proofs.Ytoikehpnpealpaa
open Go.ChangeShapes Go.WideShapes Go.ChangeAt Go.RowKit
set_option linter.unusedVariables false

theorem val_tree : ∀ (T : PT) (f : Nat) (s : ByteArray), T.good → s.data.toList = T.txt → T.txt.length < f → valS f s = T.val
  | .leaf ws, 0, s, _, _, h => by omega
  | .leaf ws, f + 1, s, hg, hl, _ => by
    have h0 : ¬ s.data.toList[0]? = some 91 := by rw [hl]; exact leaf_head hg
    have h64 : ws.length ≤ 64 := by simpa [PT.few] using hg.2
    obtain ⟨h1, h2⟩ := word_parse hg.1.2 h64
    have e : s = bytesOf (textB ws) := by rw [← bytesOf_self s, hl]; rfl
    rw [valS, if_neg h0, e, h1, h2]
    rfl
  | .node l r, 0, s, _, _, h => by omega
  | .node l r, f + 1, s, hg, hl, hf => by
    obtain ⟨h1, h2, h3, h4, h5⟩ := node_cut hl
    have hlen : (PT.node l r).txt.length = 3 + l.txt.length + r.txt.length := by simp [PT.txt]; omega
    have hr : readT f (s.data.toList.drop 1) = some (l.txt.length, l.depth, l.leaves, l.raw) := by
      rw [h2]
      exact read_tree l f _ hg.1.1 (noL_cons b44) (by omega)
    have i1 := val_tree l f (bytesOf l.txt) (PT.good_l hg) (bytesOf_list _) (by omega)
    have i2 := val_tree r f (bytesOf r.txt) (PT.good_r hg) (bytesOf_list _) (by omega)
    rw [valS, if_pos h1, hr]
    simp only
    rw [h3, h4, i1, i2]
    rfl
theorem treeV_yes {s : ByteArray} (h : wholeB s = true) : treeV s = (treeOf s).val := by
  obtain ⟨hg, hl, -⟩ := whole_facts h
  have hz : s.data.toList.length = s.size := by simp
  rw [treeV, if_pos h]
  exact val_tree _ _ s hg hl (by rw [← hl, hz]; omega)
theorem treeV_no {s : ByteArray} (h : wholeB s = false) : treeV s = ([], false) := if_neg (by rw [h]; simp)
set_option maxRecDepth 100000 in
set_option maxHeartbeats 400000 in
theorem implTreeValue_any (s : ByteArray) (w : World) (hs : s.size ≤ 9223372036854775807) : Calls Try.prog 27 #[.string s] w (SB (treeV s).1 (treeV s).2 w) := by
  have HC := Lib.hid (parse_is s w hs)
  cases hb : wholeB s with
  | false =>
    rw [treeV_no hb]
    rw [hb] at HC
    clear hb
    go_enter Try.func27, Try.ntmps27
    go_wp2_with fail
    refine HC.out.mono ?_
    rintro e w1 ⟨⟨v, rfl, -⟩, hb⟩
    go_wp2_with fail
    go_ret2
    exact ⟨_, rfl, (coll_res (coll_start w1)).1.mono hb.size, hb.trans ((coll_start w1).2.1.mono hb.size)⟩
  | true =>
    have hg := (whole_facts hb).1
    rw [treeV_yes hb]
    rw [hb] at HC
    generalize treeOf s = T at HC hg ⊢
    have HT := Lib.hid (fun q W (hh : Hid (PTree 0 W T q)) => treeValue_any T 0 q W hg hh)
    obtain ⟨us, uo⟩ : ∃ u, u = T.val := ⟨_, rfl⟩
    generalize T.val = u at HT ⊢
    obtain ⟨vs, vo⟩ := u
    simp only at HT ⊢
    clear hb hg
    go_enter Try.func27, Try.ntmps27
    go_wp2_with fail
    refine HC.out.mono ?_
    rintro e w1 ⟨⟨v, rfl, hv⟩, hb⟩
    obtain ⟨p, rfl, hp⟩ := hv (by trivial)
    have HP := Lib.hid hp
    have HB := Lib.hid hb
    clear hv hp hb
    go_wp2_with fail
    refine (HT.out _ _ HP).mono ?_
    rintro e w2 ⟨v, rfl, hr, hb⟩
    have R := Lib.hid (hr.mono HB.out.size)
    have B2 := Lib.hid (HB.out.trans (hb.mono HB.out.size))
    clear hr hb
    go_wp2_with fail
    go_ret2
    exact ⟨_, rfl, R.out, B2.out⟩

end Go.Proofs.Ytoikehpnpealpaa
