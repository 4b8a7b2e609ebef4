/- Contracts: spec.l2Join, l2Short; what products come to. Conditions: letters, lengths that fit. -/
import Derived.Test.YtnmjanhpjnlfcaaInvWalks
import Derived.Test.YtnmjanhpjnlfcaaLawKit
import Derived.Test.YtnmjanhpjnlfcaaWordWalks
namespace Go.Proofs.Ytnmjanhpjnlfcaa
open Go.ChangeShapes Go.WideShapes Go.ChangeAt Go.RowKit
set_option linter.unusedVariables false

theorem ListPost.of {xs : List Int} {w w' : World} {e : Ending} (h : RedPost xs w e w') : ListPost (Plain.red xs) w e w' := h

set_option maxRecDepth 100000 in
set_option maxHeartbeats 400000 in
theorem l2Join_any (a1 a2 : Option Addr) (c1 c2 : Nat) (xs ys : List Int) (w : World) (h1 : Hid (Ints w a1 xs)) (k1 : Hid (Cap a1 xs.length c1)) (h2 : Hid (Ints w a2 ys)) (k2 : Hid (Cap a2 ys.length c2))
    (l1 : Hid (Plain.Letters xs)) (l2 : Hid (Plain.Letters ys)) (hn : xs.length + ys.length ≤ 1048576) :
    Calls Try.prog 36 #[.slice a1 xs.length c1, .slice a2 ys.length c2] w (ListPost (Plain.red (xs ++ ys)) w) := by
  obtain ⟨i0, hi0, hz0, hz1, hz2⟩ := info_parts infoInt
  go_enter Try.func36, Try.ntmps36
  go_wp2_with fail
  refine (l1Own_any _ _ xs _ h1 k1 (by omega)).mono ?_
  rintro e w1 ⟨v1, rfl, hC, hne⟩
  have HC := Lib.hid hC
  have HY := Lib.hid (h2.out.on hC.2.1)
  clear hC hne
  go_wp2_with (at_builtin; refine wpList_append_ints rfl _ _ 24 i0 rfl Try.underlying24 hi0 hz0 hz1 hz2 w.heap.size _ xs.length xs rfl HC.out.1 a2 ys.length c2 ys rfl rfl HY.out k2.out (by omega) HC.out.2.2 ?_)
  intro v' w2 hown hgrow hnil
  have hR := coll_more HC.out rfl hown hgrow
  obtain ⟨zs, hzs⟩ : ∃ zs, zs = xs ++ ys := ⟨_, rfl⟩
  have hl3 : zs.length ≤ 1048576 := by rw [hzs]; simpa using hn
  have L3 : Hid (Plain.Letters zs) := Lib.hid (by rw [hzs]; exact l1.out.append l2.out)
  have HZ := Lib.hid hzs
  rw [← hzs] at hR
  have HR := Lib.hid hR
  clear hown hgrow hnil hzs hR
  obtain ⟨⟨a3, c3, rfl, hi3, -, -⟩, hb3⟩ := coll_res HR.out
  have I3 := Lib.hid hi3
  have B3 := Lib.hid hb3
  clear hi3 hb3 HR
  go_wp2_with fail
  refine (l2Reduce_any _ _ zs _ I3 L3 hl3).mono ?_
  rintro e w3 ⟨v, rfl, hr, hb⟩
  have R := Lib.hid (hr.mono B3.out.size)
  have B4 := Lib.hid (B3.out.trans (hb.mono B3.out.size))
  clear hr hb
  go_wp2
  go_ret
  exact ⟨_, rfl, by rw [← HZ.out]; exact R.out, B4.out⟩

/-- A product of at most 64 letters, or none. -/
def shortB (xs : List Int) : Bool := decide (xs.length ≤ 64)
def short (xs : List Int) : List Int := if xs.length ≤ 64 then xs else []
theorem short_yes {xs : List Int} (h : xs.length ≤ 64) : short xs = xs ∧ shortB xs = true := ⟨if_pos h, by simp [shortB, h]⟩
theorem short_no {xs : List Int} (h : ¬ xs.length ≤ 64) : short xs = [] ∧ shortB xs = false := ⟨if_neg h, by simp [shortB, h]⟩
theorem short_le (xs : List Int) : (short xs).length ≤ 64 := by
  by_cases h : xs.length ≤ 64
  · rw [(short_yes h).1]; exact h
  · rw [(short_no h).1]; exact Nat.zero_le _
theorem sb_eq {out out' : List Int} {ok ok' : Bool} {w w' : World} {e : Ending} (h1 : out = out') (h2 : ok = ok') (h : SB out' ok' w e w') : SB out ok w e w' := by subst h1 h2; exact h


/-- Both are words. -/
def bothB (xs ys : List Int) : Bool := Plain.wordB xs && Plain.wordB ys
/-- What a product comes to. -/
def prodOut (xs ys zs : List Int) : List Int := if bothB xs ys = true then short (Plain.red zs) else []
def prodOk (xs ys zs : List Int) : Bool := bothB xs ys && shortB (Plain.red zs)
theorem prod_yes {xs ys zs : List Int} (h1 : Plain.wordB xs = true) (h2 : Plain.wordB ys = true) : prodOut xs ys zs = short (Plain.red zs) ∧ prodOk xs ys zs = shortB (Plain.red zs) := by simp [prodOut, prodOk, bothB, h1, h2]
theorem prod_no1 {xs ys zs : List Int} (h1 : Plain.wordB xs = false) : prodOut xs ys zs = [] ∧ prodOk xs ys zs = false := by simp [prodOut, prodOk, bothB, h1]
theorem prod_no2 {xs ys zs : List Int} (h2 : Plain.wordB ys = false) : prodOut xs ys zs = [] ∧ prodOk xs ys zs = false := by simp [prodOut, prodOk, bothB, h2]
theorem prod_le (xs ys zs : List Int) : (prodOut xs ys zs).length ≤ 1048576 := by
  have := short_le (Plain.red zs)
  unfold prodOut
  split
  · omega
  · simp

end Go.Proofs.Ytnmjanhpjnlfcaa
