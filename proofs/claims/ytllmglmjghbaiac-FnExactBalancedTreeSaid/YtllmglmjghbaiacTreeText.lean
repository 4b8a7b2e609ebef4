/- Contracts: spec.l4Text, BalancedTree. Conditions: numbers of 64 bits, lengths that fit. -/
import Derived.Test.YtllmglmjghbaiacNailList
import Derived.Test.YtllmglmjghbaiacTextSpec
import Derived.Deep.RegionWith
namespace Go.Proofs.Ytllmglmjghbaiac
open Go.ChangeShapes Go.WideShapes Go.ChangeAt Go.RowKit
set_option linter.unusedVariables false

/-- The text of the tree of a balanced word. -/
def balText : Nat → List Int → ByteArray
  | 0, ns => textOf ns
  | f + 1, ns => if ns.length = 1 then textOf ns else ⟨#[91]⟩ ++ balText f (ns.take ((ns.length + 1) / 2)) ++ ⟨#[44]⟩ ++ balText f (ns.drop ((ns.length + 1) / 2)) ++ ⟨#[93]⟩
theorem balText_le (f : Nat) : ∀ ns : List Int, ns.length ≤ 2 ^ f → (balText f ns).size ≤ 5 * 4 ^ f := by
  induction f with
  | zero => intro ns h; rw [balText, textOf_size]; simp at h ⊢; omega
  | succ f ih =>
    intro ns h
    have h3 : 0 < 4 ^ f := Nat.pow_pos (by decide)
    rw [Nat.pow_succ] at h
    have h1 := ih (ns.take ((ns.length + 1) / 2)) (by simp; omega)
    have h2 := ih (ns.drop ((ns.length + 1) / 2)) (by simp; omega)
    rw [balText, Nat.pow_succ]
    split
    · rw [textOf_size]; omega
    · simp only [ByteArray.size_append]
      have e : ∀ x : UInt8, (ByteArray.mk #[x]).size = 1 := fun x => rfl
      rw [e, e, e]
      omega

set_option maxRecDepth 100000 in
set_option maxHeartbeats 2000000 in
theorem l4Text_any (f : Nat) : ∀ (a : Option Addr) (cap n : Nat) (ns : List Int) (w : World), f ≤ 3 → ns.length = n → 1 ≤ n → n ≤ 2 ^ f → Hid (Ints w a ns) → Hid (Cap a n cap) → Hid (Plain.Letters ns) →
    Calls Try.prog 14 #[.slice a n cap] w fun e w' => e = .returned (.string (balText f ns)) ∧ ∃ m, w' = w.drewN m := by
  induction f with
  | zero =>
    intro a cap n ns w _ hn h1 h2 h hcp hl
    obtain rfl : n = 1 := by simp at h2; omega
    have HE : Hid (balText 0 ns = textOf ns) := Lib.hid rfl
    have hc : Calls Try.prog 30 #[.slice a ns.length cap] w _ := l2Text_any a cap ns w h hl (by omega)
    rw [hn] at hc
    have HC := Lib.hid hc
    clear hc hn
    go_enter Try.func14, Try.ntmps14
    go_wp2_with fail
    refine HC.out.mono ?_
    rintro e w' ⟨rfl, rfl⟩
    go_wp2_with fail
    go_ret
    exact ⟨rfl, 0, rfl⟩
  | succ f ih =>
    intro a cap n ns w hf hn h1 h2 h hcp hl
    by_cases he : n = 1
    · subst he
      have HE : Hid (balText (f + 1) ns = textOf ns) := Lib.hid (by rw [balText, if_pos hn])
      have hc : Calls Try.prog 30 #[.slice a ns.length cap] w _ := l2Text_any a cap ns w h hl (by omega)
      rw [hn] at hc
      have HC := Lib.hid hc
      clear hc hn ih
      go_enter Try.func14, Try.ntmps14
      go_wp2_with fail
      refine HC.out.mono ?_
      rintro e w' ⟨rfl, rfl⟩
      go_wp2_with fail
      go_ret
      exact ⟨by rw [HE.out]; rfl, 0, rfl⟩
    · obtain ⟨x, hx⟩ := at_some ns 0 (by omega)
      obtain ⟨b, o, rfl, -⟩ := h.out 0 x hx
      clear hx
      obtain ⟨k, hk⟩ : ∃ k, k = (n + 1) / 2 := ⟨_, rfl⟩
      have hpow : n ≤ 2 * 2 ^ f := by rw [Nat.pow_succ] at h2; omega
      have hkn : k < n := by omega
      have hk1 : 1 ≤ k := by omega
      have hkp : k ≤ 2 ^ f := by omega
      have hmp : n - k ≤ 2 ^ f := by omega
      have hn8 : n ≤ 16 := by
        have : 2 ^ f ≤ 2 ^ 3 := Nat.pow_le_pow_right (by decide) (by omega)
        omega
      have hc1 := hcp.out.1
      have hc2 := hcp.out.2.1
      have ht : (ns.take k).length = k := by simp; omega
      have hd : (ns.drop k).length = n - k := by simp; omega
      have HI1 := Lib.hid (h.out.upto k)
      have HI2 := Lib.hid (h.out.from k)
      have HK1 := Lib.hid (cap_upto hcp.out (k := k) (by omega))
      have HK2 := Lib.hid (cap_from hcp.out (k := k) (by omega))
      have HL1 : Hid (Plain.Letters (ns.take k)) := Lib.hid (hl.out.sub fun x hx => List.mem_of_mem_take hx)
      have HL2 : Hid (Plain.Letters (ns.drop k)) := Lib.hid (hl.out.sub fun x hx => List.mem_of_mem_drop hx)
      have hE : balText (f + 1) ns = ⟨#[91]⟩ ++ balText f (ns.take k) ++ ⟨#[44]⟩ ++ balText f (ns.drop k) ++ ⟨#[93]⟩ := by rw [balText, if_neg (by omega), hn, ← hk]
      have hb1 := balText_le f (ns.take k) (by omega)
      have hb2 := balText_le f (ns.drop k) (by omega)
      have h4 : 4 ^ f ≤ 64 := Nat.le_trans (Nat.pow_le_pow_right (by decide) (by omega : f ≤ 3)) (by decide)
      have c1 := fun W (hh : Hid (Ints W (some ⟨b, o, none⟩) (ns.take k))) => ih (some ⟨b, o, none⟩) cap k (ns.take k) W (by omega) ht hk1 hkp hh HK1 HL1
      have c2 := fun W (hh : Hid (Ints W (some ⟨b, o + k, none⟩) (ns.drop k))) => ih (some ⟨b, o + k, none⟩) (cap - k) (n - k) (ns.drop k) W (by omega) hd (by omega) hmp hh HK2 HL2
      obtain ⟨us, hus⟩ : ∃ z, z = balText f (ns.take k) := ⟨_, rfl⟩
      obtain ⟨vs, hvs⟩ : ∃ z, z = balText f (ns.drop k) := ⟨_, rfl⟩
      rw [← hus] at c1 hE hb1
      rw [← hvs] at c2 hE hb2
      have C1 := Lib.hid c1
      have C2 := Lib.hid c2
      have HE := Lib.hid hE
      have hul : us.size ≤ 320 := by omega
      have hvl : vs.size ≤ 320 := by omega
      have hne : ¬ cap = k := by omega
      have hq1 : (k : Int) ≤ (n : Int) := by omega
      have hq2 : (0 : Int) ≤ (k : Int) := by omega
      have hq3 : (k : Int) ≤ (cap : Int) := by omega
      have hq4 : (n : Int) ≤ (cap : Int) := by omega
      have hdv : ((n : Int) + 1) / 2 = (k : Int) := by omega
      have hneq : ((n : Int) == 1) = false := by simp; omega
      clear ih c1 c2 hE hus hvs ht hd hb1 hb2 h4 hpow hk hn hkp hmp h2 h
      go_enter Try.func14, Try.ntmps14
      go_wp2_with fail
      go_quiet ((first | (go_at_call_of 14 (some (⟨b, o, none⟩ : Addr)); exact Calls.quiet_of (C1.out _ (Lib.hid (HI1.out.drewN _)))) | (go_at_call_of 14 (some (⟨b, o + k, none⟩ : Addr)); exact Calls.quiet_of (C2.out _ (Lib.hid (HI2.out.drewN _))))))
      go_wp2_with fail
      go_ret
      exact ⟨by rw [HE.out]; rfl, _, rfl⟩

def treeText (ns : List Int) : ByteArray := if Plain.nailsOk ns = true then balText 3 ns else ⟨#[]⟩
theorem treeText_yes {ns : List Int} (h : Plain.nailsOk ns = true) : treeText ns = balText 3 ns := if_pos h
theorem treeText_no {ns : List Int} (h : Plain.nailsOk ns = false) : treeText ns = ⟨#[]⟩ := if_neg (by rw [h]; simp)
theorem val_sb {a a' : ByteArray} {c : Bool} {w w' : World} {e : Ending} (h1 : a = a') (h : Val (.tuple #[.string a, .bool c]) w e w') : Val (.tuple #[.string a', .bool c]) w e w' := by subst h1; exact h
set_option maxRecDepth 100000 in
set_option maxHeartbeats 400000 in
theorem specBalancedTree_any (a : Option Addr) (cap : Nat) (ns : List Int) (w : World) (h : Hid (Ints w a ns)) (hcp : Hid (Cap a ns.length cap)) (h64 : Hid (In64 ns)) (hn : ns.length ≤ 9223372036854775807) :
    Calls Try.prog 5 #[.slice a ns.length cap] w (Val (.tuple #[.string (treeText ns), .bool (Plain.nailsOk ns)]) w) := by
  cases hw : Plain.nailsOk ns with
  | false =>
    have HE := Lib.hid (treeText_no hw)
    have HW := Lib.hid hw
    clear hw
    go_enter Try.func5, Try.ntmps5
    go_wp2_with fail
    refine (l4Nails_any _ _ ns _ h hcp h64 hn).mono ?_
    rw [HW.out]
    rintro e w1 ⟨rfl, hb⟩
    have HB := Lib.hid hb
    clear hb
    go_wp2_with fail
    go_ret2
    exact val_sb HE.out.symm ⟨rfl, HB.out⟩
  | true =>
    have HE := Lib.hid (treeText_yes hw)
    have HW := Lib.hid hw
    obtain ⟨hlen1, hlen6⟩ := (Plain.nailsOk_iff.1 hw).1
    have HL := Lib.hid (Plain.nailsOk_letters hw).1
    clear hw
    go_enter Try.func5, Try.ntmps5
    go_wp2_with fail
    refine (l4Nails_any _ _ ns _ h hcp h64 hn).mono ?_
    rw [HW.out]
    rintro e w1 ⟨rfl, hb⟩
    have HB := Lib.hid hb
    have HI := Lib.hid (h.out.on hb)
    clear hb
    go_wp2_with fail
    refine (l4Text_any 3 a cap ns.length ns _ (by omega) rfl hlen1 (by omega) HI hcp HL).mono ?_
    rintro e w2 ⟨rfl, m, rfl⟩
    have HB2 := Lib.hid (below_drewN HB.out m)
    go_wp2_with fail
    go_ret2
    exact val_sb HE.out.symm ⟨rfl, HB2.out⟩

end Go.Proofs.Ytllmglmjghbaiac
