/- Contracts: spec.l4Text, BalancedTree. Conditions: numbers of 64 bits, lengths that fit. -/
import Derived.Test.YtmcbaejgimopmaaGreatBdPTree
import Derived.Test.YtmcbaejgimopmaaGreatBdTextSpec
import Derived.Test.YtmcbaejgimopmaaGreatBdTextWalks
import Derived.Test.YtmcbaejgimopmaaGreatNailImpl
import Derived.Test.YtmcbaejgimopmaaGreatNailList
import Derived.Test.YtmcbaejgimopmaaGreatNailTree
import Derived.Deep.RegionWith
namespace Go.Proofs.YtmcbaejgimopmaaGreat
open Go.ChangeShapes Go.WideShapes Go.ChangeAt Go.RowKit
set_option linter.unusedVariables false

/-- The text of the tree of a balanced word. -/
def balText : Nat → List Int → ByteArray
  | 0, ns => textOf ns
  | f + 1, ns => if ns.length = 1 then textOf ns else ⟨#[91]⟩ ++ balText f (ns.take ((ns.length + 1) / 2)) ++ ⟨#[44]⟩ ++ balText f (ns.drop ((ns.length + 1) / 2)) ++ ⟨#[93]⟩
theorem balText_le (f : Nat) : ∀ ns : List Int, ns.length ≤ 2 ^ f → (balText f ns).size ≤ 5 * 4 ^ f := by
  induction f with
  | zero => intro ns h; rw [balText, textOf_size]; simp at h ⊢; omega
  | succ f ih =>
    intro ns h
    have h3 : 0 < 4 ^ f := Nat.pow_pos (by decide)
    rw [Nat.pow_succ] at h
    have h1 := ih (ns.take ((ns.length + 1) / 2)) (by simp; omega)
    have h2 := ih (ns.drop ((ns.length + 1) / 2)) (by simp; omega)
    rw [balText, Nat.pow_succ]
    split
    · rw [textOf_size]; omega
    · simp only [ByteArray.size_append]
      have e : ∀ x : UInt8, (ByteArray.mk #[x]).size = 1 := fun x => rfl
      rw [e, e, e]
      omega

set_option maxRecDepth 100000 in
set_option maxHeartbeats 2000000 in
theorem l4Text_any (f : Nat) : ∀ (a : Option Addr) (cap n : Nat) (ns : List Int) (w : World), f ≤ 3 → ns.length = n → 1 ≤ n → n ≤ 2 ^ f → Hid (Ints w a ns) → Hid (Cap a n cap) → Hid (Plain.Letters ns) →
    Calls Tryz.prog 48 #[.slice a n cap] w fun e w' => e = .returned (.string (balText f ns)) ∧ ∃ m, w' = w.drewN m := by
  induction f with
  | zero =>
    intro a cap n ns w _ hn h1 h2 h hcp hl
    obtain rfl : n = 1 := by simp at h2; omega
    have HE : Hid (balText 0 ns = textOf ns) := Lib.hid rfl
    have hc : Calls Tryz.prog 85 #[.slice a ns.length cap] w _ := l2Text_any a cap ns w h hl (by omega)
    rw [hn] at hc
    have HC := Lib.hid hc
    clear hc hn
    go_enter Tryz.func48, Tryz.ntmps48
    go_wp2_with fail
    refine HC.out.mono ?_
    rintro e w' ⟨rfl, rfl⟩
    go_wp2_with fail
    go_ret
    exact ⟨rfl, 0, rfl⟩
  | succ f ih =>
    intro a cap n ns w hf hn h1 h2 h hcp hl
    by_cases he : n = 1
    · subst he
      have HE : Hid (balText (f + 1) ns = textOf ns) := Lib.hid (by rw [balText, if_pos hn])
      have hc : Calls Tryz.prog 85 #[.slice a ns.length cap] w _ := l2Text_any a cap ns w h hl (by omega)
      rw [hn] at hc
      have HC := Lib.hid hc
      clear hc hn ih
      go_enter Tryz.func48, Tryz.ntmps48
      go_wp2_with fail
      refine HC.out.mono ?_
      rintro e w' ⟨rfl, rfl⟩
      go_wp2_with fail
      go_ret
      exact ⟨by rw [HE.out]; rfl, 0, rfl⟩
    · obtain ⟨x, hx⟩ := at_some ns 0 (by omega)
      obtain ⟨b, o, rfl, -⟩ := h.out 0 x hx
      clear hx
      obtain ⟨k, hk⟩ : ∃ k, k = (n + 1) / 2 := ⟨_, rfl⟩
      have hpow : n ≤ 2 * 2 ^ f := by rw [Nat.pow_succ] at h2; omega
      have hkn : k < n := by omega
      have hk1 : 1 ≤ k := by omega
      have hkp : k ≤ 2 ^ f := by omega
      have hmp : n - k ≤ 2 ^ f := by omega
      have hn8 : n ≤ 16 := by
        have : 2 ^ f ≤ 2 ^ 3 := Nat.pow_le_pow_right (by decide) (by omega)
        omega
      have hc1 := hcp.out.1
      have hc2 := hcp.out.2.1
      have ht : (ns.take k).length = k := by simp; omega
      have hd : (ns.drop k).length = n - k := by simp; omega
      have HI1 := Lib.hid (h.out.upto k)
      have HI2 := Lib.hid (h.out.from k)
      have HK1 := Lib.hid (cap_upto hcp.out (k := k) (by omega))
      have HK2 := Lib.hid (cap_from hcp.out (k := k) (by omega))
      have HL1 : Hid (Plain.Letters (ns.take k)) := Lib.hid (hl.out.sub fun x hx => List.mem_of_mem_take hx)
      have HL2 : Hid (Plain.Letters (ns.drop k)) := Lib.hid (hl.out.sub fun x hx => List.mem_of_mem_drop hx)
      have hE : balText (f + 1) ns = ⟨#[91]⟩ ++ balText f (ns.take k) ++ ⟨#[44]⟩ ++ balText f (ns.drop k) ++ ⟨#[93]⟩ := by rw [balText, if_neg (by omega), hn, ← hk]
      have hb1 := balText_le f (ns.take k) (by omega)
      have hb2 := balText_le f (ns.drop k) (by omega)
      have h4 : 4 ^ f ≤ 64 := Nat.le_trans (Nat.pow_le_pow_right (by decide) (by omega : f ≤ 3)) (by decide)
      have c1 := fun W (hh : Hid (Ints W (some ⟨b, o, none⟩) (ns.take k))) => ih (some ⟨b, o, none⟩) cap k (ns.take k) W (by omega) ht hk1 hkp hh HK1 HL1
      have c2 := fun W (hh : Hid (Ints W (some ⟨b, o + k, none⟩) (ns.drop k))) => ih (some ⟨b, o + k, none⟩) (cap - k) (n - k) (ns.drop k) W (by omega) hd (by omega) hmp hh HK2 HL2
      obtain ⟨us, hus⟩ : ∃ z, z = balText f (ns.take k) := ⟨_, rfl⟩
      obtain ⟨vs, hvs⟩ : ∃ z, z = balText f (ns.drop k) := ⟨_, rfl⟩
      rw [← hus] at c1 hE hb1
      rw [← hvs] at c2 hE hb2
      have C1 := Lib.hid c1
      have C2 := Lib.hid c2
      have HE := Lib.hid hE
      have hul : us.size ≤ 320 := by omega
      have hvl : vs.size ≤ 320 := by omega
      have hne : ¬ cap = k := by omega
      have hq1 : (k : Int) ≤ (n : Int) := by omega
      have hq2 : (0 : Int) ≤ (k : Int) := by omega
      have hq3 : (k : Int) ≤ (cap : Int) := by omega
      have hq4 : (n : Int) ≤ (cap : Int) := by omega
      have hdv : ((n : Int) + 1) / 2 = (k : Int) := by omega
      have hneq : ((n : Int) == 1) = false := by simp; omega
      clear ih c1 c2 hE hus hvs ht hd hb1 hb2 h4 hpow hk hn hkp hmp h2 h
      go_enter Tryz.func48, Tryz.ntmps48
      go_wp2_with fail
      go_quiet ((first | (go_at_call_of 48 (some (⟨b, o, none⟩ : Addr)); exact Calls.quiet_of (C1.out _ (Lib.hid (HI1.out.drewN _)))) | (go_at_call_of 48 (some (⟨b, o + k, none⟩ : Addr)); exact Calls.quiet_of (C2.out _ (Lib.hid (HI2.out.drewN _))))))
      go_wp2_with fail
      go_ret
      exact ⟨by rw [HE.out]; rfl, _, rfl⟩

def treeText (ns : List Int) : ByteArray := if Plain.nailsOk ns = true then balText 3 ns else ⟨#[]⟩
theorem treeText_yes {ns : List Int} (h : Plain.nailsOk ns = true) : treeText ns = balText 3 ns := if_pos h
theorem treeText_no {ns : List Int} (h : Plain.nailsOk ns = false) : treeText ns = ⟨#[]⟩ := if_neg (by rw [h]; simp)
theorem val_sb {a a' : ByteArray} {c : Bool} {w w' : World} {e : Ending} (h1 : a = a') (h : Val (.tuple #[.string a, .bool c]) w e w') : Val (.tuple #[.string a', .bool c]) w e w' := by subst h1; exact h
set_option maxRecDepth 100000 in
set_option maxHeartbeats 400000 in
theorem specBalancedTree_any (a : Option Addr) (cap : Nat) (ns : List Int) (w : World) (h : Hid (Ints w a ns)) (hcp : Hid (Cap a ns.length cap)) (h64 : Hid (In64 ns)) (hn : ns.length ≤ 9223372036854775807) :
    Calls Tryz.prog 15 #[.slice a ns.length cap] w (Val (.tuple #[.string (treeText ns), .bool (Plain.nailsOk ns)]) w) := by
  cases hw : Plain.nailsOk ns with
  | false =>
    have HE := Lib.hid (treeText_no hw)
    have HW := Lib.hid hw
    clear hw
    go_enter Tryz.func15, Tryz.ntmps15
    go_wp2_with fail
    refine (l4Nails_any _ _ ns _ h hcp h64 hn).mono ?_
    rw [HW.out]
    rintro e w1 ⟨rfl, hb⟩
    have HB := Lib.hid hb
    clear hb
    go_wp2_with fail
    go_ret2
    exact val_sb HE.out.symm ⟨rfl, HB.out⟩
  | true =>
    have HE := Lib.hid (treeText_yes hw)
    have HW := Lib.hid hw
    obtain ⟨hlen1, hlen6⟩ := (Plain.nailsOk_iff.1 hw).1
    have HL := Lib.hid (Plain.nailsOk_letters hw).1
    clear hw
    go_enter Tryz.func15, Tryz.ntmps15
    go_wp2_with fail
    refine (l4Nails_any _ _ ns _ h hcp h64 hn).mono ?_
    rw [HW.out]
    rintro e w1 ⟨rfl, hb⟩
    have HB := Lib.hid hb
    have HI := Lib.hid (h.out.on hb)
    clear hb
    go_wp2_with fail
    refine (l4Text_any 3 a cap ns.length ns _ (by omega) rfl hlen1 (by omega) HI hcp HL).mono ?_
    rintro e w2 ⟨rfl, m, rfl⟩
    have HB2 := Lib.hid (below_drewN HB.out m)
    go_wp2_with fail
    go_ret2
    exact val_sb HE.out.symm ⟨rfl, HB2.out⟩

end Go.Proofs.YtmcbaejgimopmaaGreat

/- Contract: (*impl.tree).text returns a tree's text. Condition: words of letters, a length that fits. -/
namespace Go.Proofs.YtmcbaejgimopmaaGreat
open Go.ChangeShapes Go.WideShapes Go.ChangeAt Go.RowKit
set_option linter.unusedVariables false

theorem pt_in64 {L : List Int} (h : Plain.Letters L) : In64 L := fun j x hx => by have := h.at hx; omega
theorem node_text (l r : PT) : bytesOf (PT.node l r).txt = ⟨#[91]⟩ ++ bytesOf l.txt ++ ⟨#[44]⟩ ++ bytesOf r.txt ++ ⟨#[93]⟩ := by
  apply ByteArray.ext
  simp [bytesOf, PT.txt]
set_option maxRecDepth 100000 in
set_option maxHeartbeats 2000000 in
theorem treeText_any (T : PT) : ∀ (B p : Nat) (w : World), T.good → T.txt.length ≤ 1048576 → Hid (PTree B w T p) →
    Calls Tryz.prog 47 #[.pointer (some ⟨p, 0, none⟩)] w fun e w' => e = .returned (.string (bytesOf T.txt)) ∧ Below w.heap.size w w' := by
  induction T with
  | leaf ws =>
    intro B p w hg hm h
    obtain ⟨a, cap, c0, c1, c2, hi, hk⟩ := h.out.leaf_cells
    have h64 : ws.length ≤ 64 := by simpa [PT.few] using hg.2
    have hw : Plain.wordB ws = true := Plain.wordB_iff.2 ⟨h64, hg.1.2⟩
    have HC := Lib.hid (implText_any a cap ws w (Lib.hid hi) (Lib.hid (pt_in64 hg.1.2)) (by omega))
    have HE : Hid (bytesOf (PT.leaf ws).txt = textOf ws) := Lib.hid rfl
    rw [hw, wordText_yes hw] at HC
    clear hw hg hi hk
    go_enter Tryz.func47, Tryz.ntmps47
    go_wp2_with fail
    refine (isLeaf_yes p _ c1).mono ?_
    rintro e w' ⟨rfl, rfl⟩
    go_wp2_with fail
    refine HC.out.mono ?_
    rintro e w1 ⟨rfl, hb⟩
    go_wp2_with fail
    go_ret
    exact ⟨by rw [HE.out]; rfl, hb⟩
  | node l r ihl ihr =>
    intro B p w hg hm h
    obtain ⟨pl, pr, c1, c2, hl, hr⟩ := h.out.node_cells
    have HE := Lib.hid (node_text l r)
    have hlen : (PT.node l r).txt.length = 3 + l.txt.length + r.txt.length := by simp [PT.txt]; omega
    have I1 := Lib.hid (fun W (hh : Hid (PTree B W l pl)) => ihl B pl W (PT.good_l hg) (by omega) hh)
    have I2 := Lib.hid (fun W (hh : Hid (PTree B W r pr)) => ihr B pr W (PT.good_r hg) (by omega) hh)
    have hz1 := bytesOf_size l.txt
    have hz2 := bytesOf_size r.txt
    obtain ⟨x, hx⟩ : ∃ x, x = bytesOf l.txt := ⟨_, rfl⟩
    obtain ⟨y, hy⟩ : ∃ y, y = bytesOf r.txt := ⟨_, rfl⟩
    rw [← hx] at I1 hz1 HE
    rw [← hy] at I2 hz2 HE
    have hxs : x.size ≤ 1048576 := by omega
    have hys : y.size ≤ 1048576 := by omega
    have hxy : x.size + y.size ≤ 1048576 := by omega
    rw [HE.out]
    have HL : Hid (PTree B w.drew l pl) := Lib.hid (PTree.on (Below.refl _ _).drew hl)
    have HR : Hid (PTree B w.drew r pr) := Lib.hid (PTree.on (Below.refl _ _).drew hr)
    have c3 : w.drew.cell? ⟨p, 2, none⟩ = some (.pointer (some ⟨pr, 0, none⟩)) := c2
    clear ihl ihr hl hr hx hy hg hz1 hz2 hlen hm
    go_enter Tryz.func47, Tryz.ntmps47
    go_wp2_with fail
    refine (isLeaf_no p pl _ c1).mono ?_
    rintro e w' ⟨rfl, rfl⟩
    go_wp2_with fail
    go_region_with (first
      | (refine (I1.out _ HL).mono ?_; rintro e w1 ⟨rfl, hb⟩; have B1 := Lib.hid ((Below.refl w.heap.size w).drew.trans hb); have R1 := Lib.hid (PTree.on hb HR.out); have c4 := cell_later hb c3; clear hb HL HR)
      | (refine (I2.out _ R1).mono ?_; rintro e w2 ⟨rfl, hb⟩; have B2 := Lib.hid (B1.out.trans (hb.mono B1.out.size)); clear hb R1))
    all_goals
      go_wp2_with fail
      go_ret
      exact ⟨rfl, B2.out⟩

end Go.Proofs.YtmcbaejgimopmaaGreat

/- Contract: impl.BalancedTree answers as spec's. Conditions: numbers of 64 bits, lengths that fit. -/
namespace Go.Proofs.YtmcbaejgimopmaaGreat
open Go.ChangeShapes Go.WideShapes Go.ChangeAt Go.RowKit
set_option linter.unusedVariables false

theorem leaf_text (ws : List Int) : bytesOf (PT.leaf ws).txt = textOf ws := rfl
theorem balT_text (f : Nat) : ∀ {ns : List Int}, 1 ≤ ns.length → ns.length ≤ 2 ^ f → bytesOf (balT f ns).txt = balText f ns := by
  induction f with
  | zero =>
    intro ns h1 h2
    simp at h2
    rw [balT, balText, leaf_text, List.take_of_length_le (by omega)]
  | succ f ih =>
    intro ns h1 h2
    rw [Nat.pow_succ] at h2
    rw [balT, balText]
    split
    · rename_i h
      rw [leaf_text, List.take_of_length_le (by omega)]
    · rw [node_text, ih (by simp; omega) (by simp; omega), ih (by simp; omega) (by simp; omega)]

set_option maxRecDepth 100000 in
set_option maxHeartbeats 1000000 in
theorem implBalancedTree_any (a : Option Addr) (cap : Nat) (ns : List Int) (w : World) (h : Hid (Ints w a ns)) (hcp : Hid (Cap a ns.length cap)) (h64 : Hid (In64 ns)) (hn : ns.length ≤ 1048576) :
    Calls Tryz.prog 14 #[.slice a ns.length cap] w (Val (.tuple #[.string (treeText ns), .bool (Plain.nailsOk ns)]) w) := by
  have HD := Lib.hid (different_any a cap ns w h h64 hn)
  cases hw : Plain.nailsOk ns with
  | false =>
    have HE := Lib.hid (treeText_no hw)
    rw [hw] at HD
    clear hw
    go_enter Tryz.func14, Tryz.ntmps14
    go_wp2_with fail
    refine HD.out.mono ?_
    rintro e w1 ⟨rfl, rfl⟩
    go_wp2_with fail
    go_ret2
    exact val_sb HE.out.symm ⟨rfl, Below.refl _ _⟩
  | true =>
    obtain ⟨hlen1, hlen6⟩ := (Plain.nailsOk_iff.1 hw).1
    have hmem := (Plain.nailsOk_letters hw).2
    have HE : Hid (treeText ns = bytesOf (balT 3 ns).txt) := Lib.hid (by rw [treeText_yes hw, balT_text 3 hlen1 (by omega)])
    rw [hw] at HD
    have hg := balT_good 3 (ns := ns) hlen1 (by omega) hmem
    have hz : (balT 3 ns).txt.length ≤ 1048576 := by
      have h1 := balText_le 3 ns (by omega)
      rw [← balT_text 3 hlen1 (by omega), bytesOf_size] at h1
      exact Nat.le_trans h1 (by decide)
    have HL := Lib.hid (balancedTree_any 3 a cap ns.length ns w (by omega) rfl hlen1 (by omega) h hcp)
    have HT := Lib.hid (fun q W (hh : Hid (PTree 0 W (balT 3 ns) q)) => treeText_any (balT 3 ns) 0 q W hg hz hh)
    rw [HE.out]
    generalize balT 3 ns = T at HL HT ⊢
    generalize bytesOf T.txt = x at HT ⊢
    clear hw hmem hg hz HE
    go_enter Tryz.func14, Tryz.ntmps14
    go_wp2_with fail
    refine HD.out.mono ?_
    rintro e w1 ⟨rfl, rfl⟩
    go_wp2_with fail
    refine HL.out.mono ?_
    rintro e w2 ⟨p, rfl, h1, h2⟩
    have HP := Lib.hid h1
    have HB := Lib.hid h2
    clear h1 h2
    go_wp2_with fail
    refine (HT.out _ _ HP).mono ?_
    rintro e w3 ⟨rfl, hb⟩
    go_wp2_with fail
    go_ret2
    exact ⟨rfl, HB.out.trans (hb.mono HB.out.size)⟩

end Go.Proofs.YtmcbaejgimopmaaGreat
