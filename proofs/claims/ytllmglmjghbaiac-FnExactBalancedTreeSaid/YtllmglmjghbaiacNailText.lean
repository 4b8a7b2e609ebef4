/- Contract: impl.BalancedTree answers as spec's. Conditions: numbers of 64 bits, lengths that fit. -/
import Derived.Test.YtllmglmjghbaiacNailTree
import Derived.Test.YtllmglmjghbaiacNailImpl
import Derived.Test.YtllmglmjghbaiacTextImpl
import Derived.Test.YtllmglmjghbaiacTreeText
namespace Go.Proofs.Ytllmglmjghbaiac
open Go.ChangeShapes Go.WideShapes Go.ChangeAt Go.RowKit
set_option linter.unusedVariables false

theorem leaf_text (ws : List Int) : bytesOf (PT.leaf ws).txt = textOf ws := rfl
theorem balT_text (f : Nat) : ∀ {ns : List Int}, 1 ≤ ns.length → ns.length ≤ 2 ^ f → bytesOf (balT f ns).txt = balText f ns := by
  induction f with
  | zero =>
    intro ns h1 h2
    simp at h2
    rw [balT, balText, leaf_text, List.take_of_length_le (by omega)]
  | succ f ih =>
    intro ns h1 h2
    rw [Nat.pow_succ] at h2
    rw [balT, balText]
    split
    · rename_i h
      rw [leaf_text, List.take_of_length_le (by omega)]
    · rw [node_text, ih (by simp; omega) (by simp; omega), ih (by simp; omega) (by simp; omega)]

set_option maxRecDepth 100000 in
set_option maxHeartbeats 1000000 in
theorem implBalancedTree_any (a : Option Addr) (cap : Nat) (ns : List Int) (w : World) (h : Hid (Ints w a ns)) (hcp : Hid (Cap a ns.length cap)) (h64 : Hid (In64 ns)) (hn : ns.length ≤ 1048576) :
    Calls Try.prog 7 #[.slice a ns.length cap] w (Val (.tuple #[.string (treeText ns), .bool (Plain.nailsOk ns)]) w) := by
  have HD := Lib.hid (different_any a cap ns w h h64 hn)
  cases hw : Plain.nailsOk ns with
  | false =>
    have HE := Lib.hid (treeText_no hw)
    rw [hw] at HD
    clear hw
    go_enter Try.func7, Try.ntmps7
    go_wp2_with fail
    refine HD.out.mono ?_
    rintro e w1 ⟨rfl, rfl⟩
    go_wp2_with fail
    go_ret2
    exact val_sb HE.out.symm ⟨rfl, Below.refl _ _⟩
  | true =>
    obtain ⟨hlen1, hlen6⟩ := (Plain.nailsOk_iff.1 hw).1
    have hmem := (Plain.nailsOk_letters hw).2
    have HE : Hid (treeText ns = bytesOf (balT 3 ns).txt) := Lib.hid (by rw [treeText_yes hw, balT_text 3 hlen1 (by omega)])
    rw [hw] at HD
    have hg := balT_good 3 (ns := ns) hlen1 (by omega) hmem
    have hz : (balT 3 ns).txt.length ≤ 1048576 := by
      have h1 := balText_le 3 ns (by omega)
      rw [← balT_text 3 hlen1 (by omega), bytesOf_size] at h1
      exact Nat.le_trans h1 (by decide)
    have HL := Lib.hid (balancedTree_any 3 a cap ns.length ns w (by omega) rfl hlen1 (by omega) h hcp)
    have HT := Lib.hid (fun q W (hh : Hid (PTree 0 W (balT 3 ns) q)) => treeText_any (balT 3 ns) 0 q W hg hz hh)
    rw [HE.out]
    generalize balT 3 ns = T at HL HT ⊢
    generalize bytesOf T.txt = x at HT ⊢
    clear hw hmem hg hz HE
    go_enter Try.func7, Try.ntmps7
    go_wp2_with fail
    refine HD.out.mono ?_
    rintro e w1 ⟨rfl, rfl⟩
    go_wp2_with fail
    refine HL.out.mono ?_
    rintro e w2 ⟨p, rfl, h1, h2⟩
    have HP := Lib.hid h1
    have HB := Lib.hid h2
    clear h1 h2
    go_wp2_with fail
    refine (HT.out _ _ HP).mono ?_
    rintro e w3 ⟨rfl, hb⟩
    go_wp2_with fail
    go_ret2
    exact ⟨rfl, HB.out.trans (hb.mono HB.out.size)⟩

end Go.Proofs.Ytllmglmjghbaiac
