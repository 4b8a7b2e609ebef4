/- Contracts: impl.LeftWord, BalancedWord answer as spec's. Conditions: numbers of 64 bits, lengths that fit. -/
import Derived.Test.YtmcbaejgimopmaaGreatBdTopsZ
import Derived.Test.YtmcbaejgimopmaaGreatNailImpl
import Derived.Test.YtmcbaejgimopmaaGreatNailTree
namespace Go.Proofs.YtmcbaejgimopmaaGreat
open Go.ChangeShapes Go.WideShapes Go.ChangeAt Go.RowKit
set_option linter.unusedVariables false

theorem leftT_good {ns : List Int} (h : ∀ x ∈ ns, 1 ≤ x ∧ x ≤ 6) : ∀ k, k < ns.length → (leftT ns k).good
  | 0, hk => by
    obtain ⟨x, h1, h2⟩ := take_one_some (ns := ns) (by omega)
    rw [leftT, h1]
    exact single_good (h x (List.mem_of_getElem? h2))
  | k + 1, hk => by
    obtain ⟨x, hx⟩ := at_some ns (k + 1) hk
    rw [leftT, Letters_at hx]
    exact node_good (leftT_good h k (by omega)) (single_good (h x (List.mem_of_getElem? hx)))
theorem leftT_val {ns : List Int} (h : ∀ x ∈ ns, 1 ≤ x ∧ x ≤ 6) : ∀ k, k < ns.length → k ≤ 5 → (leftT ns k).val = (short (Plain.leftTo ns k), shortB (Plain.leftTo ns k))
  | 0, hk, _ => by
    obtain ⟨x, h1, h2⟩ := take_one_some (ns := ns) (by omega)
    rw [leftT, Plain.leftTo, h1]
    rfl
  | k + 1, hk, h5 => by
    obtain ⟨x, hx⟩ := at_some ns (k + 1) hk
    have hle := Plain.leftTo_le ns k
    have hll : Plain.leftLen k ≤ 46 := by
      have h1 := Plain.leftLen_pow k
      have h2 : 2 ^ k ≤ 2 ^ 4 := Nat.pow_le_pow_right (by decide) (by omega)
      omega
    obtain ⟨e1, e2⟩ := short_yes (xs := Plain.leftTo ns k) (by omega)
    rw [leftT, PT.val, leftT_val h k (by omega) (by omega), e1, e2, Letters_at hx, Plain.leftTo, Letters_at hx]
    rfl
theorem balT_val (f : Nat) (hf : f ≤ 4) : ∀ {ns : List Int}, 1 ≤ ns.length → ns.length ≤ 2 ^ f → (balT f ns).val = (short (Plain.bal f ns), shortB (Plain.bal f ns)) := by
  induction f with
  | zero =>
    intro ns h1 h2
    obtain ⟨x, e1, e2⟩ := take_one_some h1
    rw [balT, Plain.bal, e1]
    rfl
  | succ f ih =>
    intro ns h1 h2
    rw [Nat.pow_succ] at h2
    rw [balT, Plain.bal]
    split
    · obtain ⟨x, e1, e2⟩ := take_one_some h1
      rw [e1]
      rfl
    · have i1 := ih (by omega) (ns := ns.take ((ns.length + 1) / 2)) (by simp; omega) (by simp; omega)
      have i2 := ih (by omega) (ns := ns.drop ((ns.length + 1) / 2)) (by simp; omega) (by simp; omega)
      have b1 := Plain.bal_le f (ns.take ((ns.length + 1) / 2))
      have b2 := Plain.bal_le f (ns.drop ((ns.length + 1) / 2))
      have h4 : 4 ^ f ≤ 4 ^ 3 := Nat.pow_le_pow_right (by decide) (by omega)
      have h64 : (4 : Nat) ^ 3 = 64 := by decide
      obtain ⟨e1, e2⟩ := short_yes (xs := Plain.bal f (ns.take ((ns.length + 1) / 2))) (by omega)
      obtain ⟨e3, e4⟩ := short_yes (xs := Plain.bal f (ns.drop ((ns.length + 1) / 2))) (by omega)
      rw [PT.val, i1, i2, e1, e2, e3, e4]
      rfl

set_option maxRecDepth 100000 in
set_option maxHeartbeats 1000000 in
theorem implLeftWord_any (a : Option Addr) (cap : Nat) (ns : List Int) (w : World) (h : Hid (Ints w a ns)) (hcp : Hid (Cap a ns.length cap)) (h64 : Hid (In64 ns)) (hn : ns.length ≤ 1048576) :
    Calls Tryz.prog 10 #[.slice a ns.length cap] w (SB (nailW ns (Plain.leftTo ns (ns.length - 1))) (nailW_B ns (Plain.leftTo ns (ns.length - 1))) w) := by
  have HD := Lib.hid (different_any a cap ns w h h64 hn)
  cases hw : Plain.nailsOk ns with
  | false =>
    have HE := Lib.hid (nailW_no (out := Plain.leftTo ns (ns.length - 1)) hw)
    rw [hw] at HD
    clear hw
    go_enter Tryz.func10, Tryz.ntmps10
    go_wp2_with fail
    refine HD.out.mono ?_
    rintro e w1 ⟨rfl, rfl⟩
    go_wp2_with fail
    go_ret2
    exact sb_eq HE.out.1 HE.out.2 ⟨_, rfl, (coll_res (coll_start w)).1, (coll_start w).2.1⟩
  | true =>
    have HE := Lib.hid (nailW_yes (out := Plain.leftTo ns (ns.length - 1)) hw)
    obtain ⟨hlen1, hlen6⟩ := (Plain.nailsOk_iff.1 hw).1
    have hmem := (Plain.nailsOk_letters hw).2
    rw [hw] at HD
    have HV := Lib.hid (leftT_val hmem (ns.length - 1) (by omega) (by omega))
    have hg := leftT_good hmem (ns.length - 1) (by omega)
    have HL := Lib.hid (leftTree_any a cap ns w hlen1 hn h hcp)
    have HT := Lib.hid (fun q W (hh : Hid (PTree 0 W (leftT ns (ns.length - 1)) q)) => treeValue_any (leftT ns (ns.length - 1)) 0 q W hg hh)
    rw [HV.out] at HT
    simp only at HT
    generalize leftT ns (ns.length - 1) = T at HL HT
    generalize Plain.leftTo ns (ns.length - 1) = zs at HE HT ⊢
    clear hw hmem hg HV
    go_enter Tryz.func10, Tryz.ntmps10
    go_wp2_with fail
    refine HD.out.mono ?_
    rintro e w1 ⟨rfl, rfl⟩
    go_wp2_with fail
    refine HL.out.mono ?_
    rintro e w2 ⟨p, rfl, h1, h2⟩
    have HP := Lib.hid h1
    have HB := Lib.hid h2
    clear h1 h2
    go_wp2_with fail
    refine (HT.out _ _ HP).mono ?_
    rintro e w3 ⟨v, rfl, hr, hb⟩
    have R := Lib.hid (hr.mono HB.out.size)
    have B3 := Lib.hid (HB.out.trans (hb.mono HB.out.size))
    clear hr hb
    go_wp2_with fail
    go_ret2
    exact sb_eq HE.out.1 HE.out.2 ⟨_, rfl, R.out, B3.out⟩

set_option maxRecDepth 100000 in
set_option maxHeartbeats 1000000 in
theorem implBalancedWord_any (a : Option Addr) (cap : Nat) (ns : List Int) (w : World) (h : Hid (Ints w a ns)) (hcp : Hid (Cap a ns.length cap)) (h64 : Hid (In64 ns)) (hn : ns.length ≤ 1048576) :
    Calls Tryz.prog 12 #[.slice a ns.length cap] w (SB (nailW ns (Plain.bal 3 ns)) (nailW_B ns (Plain.bal 3 ns)) w) := by
  have HD := Lib.hid (different_any a cap ns w h h64 hn)
  cases hw : Plain.nailsOk ns with
  | false =>
    have HE := Lib.hid (nailW_no (out := Plain.bal 3 ns) hw)
    rw [hw] at HD
    clear hw
    go_enter Tryz.func12, Tryz.ntmps12
    go_wp2_with fail
    refine HD.out.mono ?_
    rintro e w1 ⟨rfl, rfl⟩
    go_wp2_with fail
    go_ret2
    exact sb_eq HE.out.1 HE.out.2 ⟨_, rfl, (coll_res (coll_start w)).1, (coll_start w).2.1⟩
  | true =>
    have HE := Lib.hid (nailW_yes (out := Plain.bal 3 ns) hw)
    obtain ⟨hlen1, hlen6⟩ := (Plain.nailsOk_iff.1 hw).1
    have hmem := (Plain.nailsOk_letters hw).2
    rw [hw] at HD
    have HV := Lib.hid (balT_val 3 (by omega) (ns := ns) hlen1 (by omega))
    have hg := balT_good 3 (ns := ns) hlen1 (by omega) hmem
    have HL := Lib.hid (balancedTree_any 3 a cap ns.length ns w (by omega) rfl hlen1 (by omega) h hcp)
    have HT := Lib.hid (fun q W (hh : Hid (PTree 0 W (balT 3 ns) q)) => treeValue_any (balT 3 ns) 0 q W hg hh)
    rw [HV.out] at HT
    simp only at HT
    generalize balT 3 ns = T at HL HT
    generalize Plain.bal 3 ns = zs at HE HT ⊢
    clear hw hmem hg HV
    go_enter Tryz.func12, Tryz.ntmps12
    go_wp2_with fail
    refine HD.out.mono ?_
    rintro e w1 ⟨rfl, rfl⟩
    go_wp2_with fail
    refine HL.out.mono ?_
    rintro e w2 ⟨p, rfl, h1, h2⟩
    have HP := Lib.hid h1
    have HB := Lib.hid h2
    clear h1 h2
    go_wp2_with fail
    refine (HT.out _ _ HP).mono ?_
    rintro e w3 ⟨v, rfl, hr, hb⟩
    have R := Lib.hid (hr.mono HB.out.size)
    have B3 := Lib.hid (HB.out.trans (hb.mono HB.out.size))
    clear hr hb
    go_wp2_with fail
    go_ret2
    exact sb_eq HE.out.1 HE.out.2 ⟨_, rfl, R.out, B3.out⟩

end Go.Proofs.YtmcbaejgimopmaaGreat
