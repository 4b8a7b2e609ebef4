/- Contracts: impl.NextWord; NextWord of both. Conditions: numbers of 64 bits, lengths that fit. -/
import Derived.Test.YthamckchfhddjaaNextImpl
namespace Go.Proofs.Ythamckchfhddjaa
open Go.ChangeShapes Go.WideShapes Go.ChangeAt Go.RowKit
set_option linter.unusedVariables false

set_option maxRecDepth 100000 in
set_option maxHeartbeats 2000000 in
theorem implNextWord_any (a : Option Addr) (cap : Nat) (xs : List Int) (n : Int) (w : World) (h : Hid (Ints w a xs)) (hcap : Hid (Cap a xs.length cap)) (h64 : Hid (In64 xs)) (hn : xs.length ≤ 9223372036854775807) (hr : -9223372036854775808 ≤ n ∧ n ≤ 9223372036854775807) :
    Calls Try.prog 21 #[.slice a xs.length cap, .int .i64 n] w (SB (nxW xs n) (nxB xs n) w) := by
  cases hw : wordOfB xs n with
  | false =>
    have HE := Lib.hid (nx_no hw)
    have HW := Lib.hid hw
    clear hw
    go_enter Try.func21, Try.ntmps21
    go_wp2_with fail
    refine (isWordOf_any _ _ xs n _ h h64 hn hr).mono ?_
    rw [HW.out]
    rintro e w1 ⟨rfl, hb⟩
    have B1 := Lib.hid hb
    have HS := Lib.hid (coll_res (coll_start w1))
    clear hb
    go_wp2_with fail
    go_ret2
    exact sb_of HE.out.1.symm HE.out.2.symm ⟨_, rfl, HS.out.1.mono B1.out.size, B1.out.trans (HS.out.2.mono B1.out.size)⟩
  | true =>
    obtain ⟨n, rfl, -, -⟩ := n6_nat (wordOf_word hw).2.2.1
    obtain ⟨hg, hl, hL, h1, h6⟩ := good_of hw
    have HW := Lib.hid hw
    have HL := Lib.hid hL
    have HG := Lib.hid hg
    cases hnf : Plain.nextFrom n xs xs.length with
    | some r =>
      have HE := Lib.hid (nx_some hw hnf)
      have HNF := Lib.hid hnf
      have hrl : r.length ≤ 64 := by have := Plain.nextFrom_len (Nat.le_refl _) hnf; omega
      clear hw hg hL hnf
      go_enter Try.func21, Try.ntmps21
      go_wp2_with fail
      refine (isWordOf_any _ _ xs (n : Int) _ h h64 hn hr).mono ?_
      rw [HW.out]
      rintro e w1 ⟨rfl, hb⟩
      have B1 := Lib.hid hb
      have H1 := Lib.hid (h.out.on hb)
      clear hb
      go_wp2_with fail
      refine (nextOf_any a cap xs n _ H1 hcap HG HL hl h1 h6).mono ?_
      rw [HNF.out]
      rintro e w2 ⟨v, rfl, ⟨av, cv, rfl, k1, k2, k3⟩, hb⟩
      have HR := Lib.hid (And.intro k1 (And.intro k2 (And.intro k3 (B1.out.trans (hb.mono B1.out.size)))))
      have HB1 := Lib.hid B1.out.size
      have hq : ¬ (64 : Int) < (r.length : Int) := by omega
      clear k1 k2 k3 hb
      simp only [Option.isSome_some, Option.getD_some]
      go_wp2_with fail
      go_ret2
      exact sb_of HE.out.1.symm HE.out.2.symm ⟨_, rfl, ⟨_, _, rfl, HR.out.1, HR.out.2.1.mono HB1.out, HR.out.2.2.1⟩, HR.out.2.2.2⟩
    | none =>
      have HEND := Lib.hid (nx_end hw hnf)
      have HMORE := Lib.hid (nx_more hw hnf)
      have HNF := Lib.hid hnf
      have HFILL : Hid (∀ W0 W v, Hid (Coll [] W0.heap.size W0 v W) → Calls Try.prog 42 #[v, .int .i64 (n : Int), .int .i64 ((xs.length : Int) + 1)] W (fun e w' => ∃ v, e = .returned v ∧ Coll (Plain.fillW (xs.length + 1) []) W0.heap.size W0 v w')) := Lib.hid (fun W0 W v hC => by
        have := firstBegun_any [] n (xs.length + 1) W0.heap.size W0 W v hC (Lib.hid (fun x hx => by cases hx)) h1 h6 (by simp) (by omega)
        rwa [show ((xs.length + 1 : Nat) : Int) = (xs.length : Int) + 1 by omega, List.length_nil, Nat.sub_zero] at this)
      have HFL : Hid ((Plain.fillW (xs.length + 1) []).length = xs.length + 1) := Lib.hid (by rw [Plain.fill_len]; simp)
      clear hw hg hL hnf
      go_enter Try.func21, Try.ntmps21
      go_wp2_with fail
      refine (isWordOf_any _ _ xs (n : Int) _ h h64 hn hr).mono ?_
      rw [HW.out]
      rintro e w1 ⟨rfl, hb⟩
      have B1 := Lib.hid hb
      have H1 := Lib.hid (h.out.on hb)
      clear hb
      go_wp2_with fail
      refine (nextOf_any a cap xs n _ H1 hcap HG HL hl h1 h6).mono ?_
      rw [HNF.out]
      rintro e w2 ⟨v, rfl, -, hb⟩
      have B2 := Lib.hid (B1.out.trans (hb.mono B1.out.size))
      clear hb
      have HS := Lib.hid (coll_start w2)
      simp only [Option.isSome_none]
      go_wp2_with fail
      refine (HFILL.out _ _ _ HS).mono ?_
      rintro e w3 ⟨v3, rfl, hC⟩
      obtain ⟨⟨av, cv, e3, k1, k2, k3⟩, hb⟩ := coll_res hC
      rw [HFL.out] at e3
      subst e3
      have HR := Lib.hid (show Res w.heap.size w3 (.slice av (xs.length + 1) cv) (Plain.fillW (xs.length + 1) []) from ⟨av, cv, by rw [HFL.out], k1, k2.mono B2.out.size, k3⟩)
      have B3 := Lib.hid (B2.out.trans (hb.mono B2.out.size))
      clear k1 k2 k3 hb hC
      by_cases h64l : xs.length = 64
      · have HE := Lib.hid (HEND.out h64l)
        have hq : (64 : Int) < (xs.length : Int) + 1 := by omega
        have HS3 := Lib.hid (coll_res (coll_start w3))
        clear h64l
        go_wp2_with fail
        go_ret2
        exact sb_of HE.out.1.symm HE.out.2.symm ⟨_, rfl, HS3.out.1.mono B3.out.size, B3.out.trans (HS3.out.2.mono B3.out.size)⟩
      · have HE := Lib.hid (HMORE.out h64l)
        have hq : ¬ (64 : Int) < (xs.length : Int) + 1 := by omega
        clear h64l
        go_wp2_with fail
        go_ret2
        exact sb_of HE.out.1.symm HE.out.2.symm ⟨_, rfl, HR.out, B3.out⟩
theorem bothNextWord (xs : List Int) (h64 : Hid (In64 xs)) (hn : xs.length ≤ 1048576) (n : Int) (h1 : -9223372036854775808 ≤ n) (h2 : n ≤ 9223372036854775807) : ∃ (out : List Int) (ok : Bool), out.length ≤ 1048576 ∧
    (∀ a cap w, Hid (Ints w a xs) → Hid (Cap a xs.length cap) → Calls Try.prog 20 #[.slice a xs.length cap, .int .i64 n] w (SB out ok w)) ∧
    (∀ a cap w, Hid (Ints w a xs) → Hid (Cap a xs.length cap) → Calls Try.prog 21 #[.slice a xs.length cap, .int .i64 n] w (SB out ok w)) :=
  ⟨_, _, Nat.le_trans nx_le (by decide), fun a cap w h hc => specNextWord_any a cap xs n w h hc h64 (by omega) ⟨h1, h2⟩, fun a cap w h hc => implNextWord_any a cap xs n w h hc h64 (by omega) ⟨h1, h2⟩⟩

end Go.Proofs.Ythamckchfhddjaa
