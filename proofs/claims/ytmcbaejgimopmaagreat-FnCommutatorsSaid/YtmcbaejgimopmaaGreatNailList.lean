/- Contracts: spec.l1Has, l4Nails, LeftWord, LeftLength, l4Length, BalancedLength. Conditions: numbers of 64 bits, lengths that fit. -/
import Derived.Test.YtmcbaejgimopmaaGreatBdCommSpec
namespace Go.Proofs.YtmcbaejgimopmaaGreat
open Go.ChangeShapes Go.WideShapes Go.ChangeAt Go.RowKit
set_option linter.unusedVariables false

theorem hasB_take {l : List Int} {k : Nat} {x y : Int} (h : l[k]? = some y) : Plain.memB (l.take (k + 1)) x = (Plain.memB (l.take k) x || decide (y = x)) := by
  rw [Plain.take_snoc h]
  simp [Plain.memB]
theorem hasB_hit {l : List Int} {k : Nat} {x : Int} (h : l[k]? = some x) : Plain.memB l x = true := by
  rw [Plain.memB, List.any_eq_true]
  exact ⟨x, List.mem_of_getElem? h, by simp⟩
set_option maxHeartbeats 400000 in
theorem l1Has_any (a : Option Addr) (cap n : Nat) (l : List Int) (x : Int) (w : World) (hl : l.length = n) (h : Hid (Ints w a l)) (hn : n ≤ 9223372036854775807) :
    Calls Tryz.prog 82 #[.slice a n cap, .int .i64 x] w fun e w' => e = .returned (.bool (Plain.memB l x)) ∧ w = w' := by
  subst hl
  go_enter Tryz.func82, Tryz.ntmps82
  go_wp2_with fail
  go_loop [5] (fun i => ∃ k : Nat, k ≤ l.length ∧ i = .int .i64 (k : Int) ∧ Plain.memB (l.take k) x = false) (fun i => l.length - (intOf i).toNat)
  case atStart => exact ⟨0, Nat.zero_le _, rfl, by simp [Plain.memB]⟩
  case round =>
    obtain ⟨k, hk, rfl, hrel⟩ := hrel
    have HR := Lib.hid hrel
    clear hrel
    by_cases hlt : k < l.length
    · obtain ⟨y, hy⟩ := at_some l k hlt
      obtain ⟨b, o, rfl, hc⟩ := h.out k y hy
      have hi : (k : Int) < (l.length : Int) := by omega
      have hi0 : (0 : Int) ≤ (k : Int) := by omega
      by_cases he : y = x
      · subst he
        have HH := Lib.hid (hasB_hit hy)
        clear hy
        go_wp2_with fail
        go_ret
        exact ⟨ret_bool HH.out.symm, rfl⟩
      · have hq : (y == x) = false := by simpa using he
        have HN : Hid (Plain.memB (l.take (k + 1)) x = false) := Lib.hid (by rw [hasB_take hy, HR.out]; simpa using he)
        clear hy he
        go_wp2_with fail
        go_round
        case rel => exact ⟨k + 1, by omega, by go_num, HN.out⟩
        case measure => simp [intOf]; omega
    · obtain rfl : k = l.length := by omega
      have HH : Hid (Plain.memB l x = false) := Lib.hid (by have := HR.out; rwa [List.take_length] at this)
      go_wp2_with fail
      go_ret
      exact ⟨ret_bool HH.out.symm, rfl⟩

theorem quiet_of_left {f : FuncId} {args : Array Value} {w : World} {n : Nat} {v : Value} (h : Calls Tryz.prog f args (w.drewN n) fun e w' => e = .returned v ∧ w.drewN n = w') : Calls Tryz.prog f args (w.drewN n) fun e w'' => e = .returned v ∧ ∃ m, w'' = w.drewN m :=
  h.mono fun _ _ ⟨he, hm⟩ => ⟨he, n, hm.symm⟩
theorem nailAt_of {ns : List Int} {k : Nat} {x : Int} (h : ns[k]? = some x) : Plain.nailAt ns k = (decide (1 ≤ x ∧ x ≤ 6) && !Plain.memB (ns.take k) x) := by
  rw [Plain.nailAt, List.getD_eq_getElem?_getD, h]
  rfl
theorem nailsOk_bad {ns : List Int} {k : Nat} (hk : k < ns.length) (h : Plain.nailAt ns k = false) : Plain.nailsOk ns = false := by
  rw [Plain.nailsOk, Plain.goodTo_no h _ hk, Bool.and_false]
set_option maxRecDepth 100000 in
set_option maxHeartbeats 1000000 in
theorem l4Nails_any (a : Option Addr) (cap : Nat) (ns : List Int) (w : World) (h : Hid (Ints w a ns)) (hcp : Hid (Cap a ns.length cap)) (h64 : Hid (In64 ns)) (hn : ns.length ≤ 9223372036854775807) :
    Calls Tryz.prog 44 #[.slice a ns.length cap] w (Val (.bool (Plain.nailsOk ns)) w) := by
  have hc1 := hcp.out.1
  have hc2 := hcp.out.2.1
  go_enter Tryz.func44, Tryz.ntmps44
  go_wp2_with fail
  go_loopw [3] (fun i wr => ∃ k : Nat, k ≤ ns.length ∧ k ≤ 7 ∧ i = .int .i64 (k : Int) ∧ Plain.goodTo ns k = true ∧ Ints wr a ns ∧ Below w.heap.size w wr) (fun i _ => ns.length - (intOf i).toNat)
  case atStart => exact ⟨0, Nat.zero_le _, by omega, rfl, rfl, h.out, Below.refl _ _⟩
  case round =>
    obtain ⟨k, hk, hk7, rfl, hg, hI, hB⟩ := hrel
    have HG := Lib.hid hg
    have HI := Lib.hid hI
    have HB := Lib.hid hB
    clear hg hI hB
    have hend : k = ns.length ∨ k = 7 → Hid (Plain.nailsOk ns = decide (1 ≤ (ns.length : Int) ∧ (ns.length : Int) ≤ 6)) := fun hh => Lib.hid (by
      rcases hh with rfl | rfl
      · rw [Plain.nailsOk, HG.out, Bool.and_true]
        rw [decide_eq_decide]
        omega
      · have h1 : ¬ (1 ≤ ns.length ∧ ns.length ≤ 6) := by omega
        have h2 : ¬ (1 ≤ (ns.length : Int) ∧ (ns.length : Int) ≤ 6) := by omega
        simp only [Plain.nailsOk, h1, h2, decide_false, Bool.false_and])
    have HEnd := Lib.hid hend
    clear hend
    by_cases hlt : k < ns.length
    · have hi : (k : Int) < (ns.length : Int) := by omega
      have hi0 : (0 : Int) ≤ (k : Int) := by omega
      by_cases hk6 : k ≤ 6
      · have hi6 : (k : Int) ≤ 6 := by omega
        obtain ⟨x, hx⟩ := at_some ns k hlt
        have HR := Lib.hid (h64.out k x hx)
        have hAt := nailAt_of hx
        obtain ⟨b, o, rfl, hc⟩ := HI.out k x hx
        have htl : (ns.take k).length = k := by simp; omega
        have HTL := Lib.hid htl
        have HTI := Lib.hid (HI.out.upto k)
        have hik : (k : Int) ≤ (cap : Int) := by omega
        have hcall1 := fun W => l1In_any x 1 6 W HR.out
        have hcall2 := fun W (hh : Hid (Ints W (some ⟨b, o, none⟩) (ns.take k))) => l1Has_any (some ⟨b, o, none⟩) cap k (ns.take k) x W HTL.out hh (by omega)
        clear hx htl
        cases hd : decide (1 ≤ x ∧ x ≤ 6) with
        | false =>
          rw [hd] at hAt hcall1
          have HC1 := Lib.hid hcall1
          have HN := Lib.hid (nailsOk_bad hlt (by rw [hAt]; rfl))
          clear hAt hd hcall1 hcall2
          go_wp2_with fail
          go_quiet ((go_at_call 50; exact quiet_of_left (HC1.out _)))
          go_wp2_with fail
          go_ret
          exact ⟨ret_bool HN.out.symm, below_drewN HB.out _⟩
        | true =>
          rw [hd] at hAt hcall1
          have HC1 := Lib.hid hcall1
          cases hh : Plain.memB (ns.take k) x with
          | true =>
            rw [hh] at hAt hcall2
            have HC2 := Lib.hid hcall2
            have HN := Lib.hid (nailsOk_bad hlt (by rw [hAt]; rfl))
            clear hAt hd hcall1 hcall2 hh
            go_wp2_with fail
            go_quiet ((first | (go_at_call 50; exact quiet_of_left (HC1.out _)) | (go_at_call 82; exact quiet_of_left (HC2.out _ (Lib.hid (HTI.out.drewN _))))))
            go_wp2_with fail
            go_ret
            exact ⟨ret_bool HN.out.symm, below_drewN HB.out _⟩
          | false =>
            rw [hh] at hAt hcall2
            have HC2 := Lib.hid hcall2
            have HN : Hid (Plain.goodTo ns (k + 1) = true) := Lib.hid (by rw [Plain.goodTo, HG.out, hAt]; rfl)
            clear hAt hd hcall1 hcall2 hh
            go_wp2_with fail
            go_quiet ((first | (go_at_call 50; exact quiet_of_left (HC1.out _)) | (go_at_call 82; exact quiet_of_left (HC2.out _ (Lib.hid (HTI.out.drewN _))))))
            go_wp2_with fail
            go_roundw
            case rel => exact ⟨k + 1, by omega, by omega, by go_num, HN.out, HI.out.drewN _, below_drewN HB.out _⟩
            case measure => simp [intOf]; omega
      · have hi6 : ¬ (k : Int) ≤ 6 := by omega
        have HE := HEnd.out (.inr (by omega))
        have HR : Hid (-9223372036854775808 ≤ (ns.length : Int) ∧ (ns.length : Int) ≤ 9223372036854775807) := Lib.hid ⟨by omega, by omega⟩
        clear HEnd
        go_wp2_with fail
        refine (l1In_any (ns.length : Int) 1 6 _ HR.out).mono ?_
        rintro e w' ⟨rfl, rfl⟩
        go_wp2_with fail
        go_ret
        exact ⟨ret_bool (by rw [HE.out]; simp), HB.out⟩
    · have hi : ¬ (k : Int) < (ns.length : Int) := by omega
      have HE := HEnd.out (.inl (by omega))
      have HR : Hid (-9223372036854775808 ≤ (ns.length : Int) ∧ (ns.length : Int) ≤ 9223372036854775807) := Lib.hid ⟨by omega, by omega⟩
      clear HEnd
      go_wp2_with fail
      refine (l1In_any (ns.length : Int) 1 6 _ HR.out).mono ?_
      rintro e w' ⟨rfl, rfl⟩
      go_wp2_with fail
      go_ret
      exact ⟨ret_bool (by rw [HE.out]; simp), HB.out⟩

end Go.Proofs.YtmcbaejgimopmaaGreat
