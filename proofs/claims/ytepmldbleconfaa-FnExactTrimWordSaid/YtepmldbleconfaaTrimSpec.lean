/- Contracts: spec.l6Without, impl's word.trimmedOnce; TrimWord of both. Conditions: numbers of 64 bits, lengths that fit. -/
import Derived.Test.YtepmldbleconfaaFor
import Derived.Test.YtepmldbleconfaaConjKit
import Derived.Test.YtepmldbleconfaaWord
import Derived.Deep.RegionLaw
namespace Go.Proofs.Ytepmldbleconfaa
open Go.ChangeShapes Go.WideShapes Go.ChangeAt Go.RowKit
set_option linter.unusedVariables false

theorem Plain.falls_red (xs : List Int) : Plain.fallsB (Plain.red xs) = Plain.fallsB xs := by
  funext s
  rw [Plain.fallsB, Plain.fallsB, Plain.takeOut, Plain.takeOut, Plain.red_without]
theorem Plain.alike_refl (t : Nat → Bool) : Plain.alike t t = true := (Plain.alikeTo_iff 64).2 fun _ _ => rfl
theorem Plain.spares_same {t u : Nat → Bool} (h : Plain.alike t u = true) (xs : List Int) : Plain.sparesB t xs = Plain.sparesB u xs := by
  funext i
  exact Plain.alike_left h _
/-- What trimmedOnce answers. -/
def onceI (xs : List Int) : Option Nat := Plain.seek (Plain.sparesB (Plain.fallsB xs) xs) xs.length
def onceW (xs : List Int) : List Int := match onceI xs with
  | some i => Plain.dropAt xs i
  | none => []
def onceB (xs : List Int) : Bool := (onceI xs).isSome
theorem once_hit {xs : List Int} {i : Nat} (hi : i < xs.length) (h : ∀ j, j < i → Plain.sparesB (Plain.fallsB xs) xs j = false) (hg : Plain.sparesB (Plain.fallsB xs) xs i = true) : onceW xs = Plain.dropAt xs i ∧ onceB xs = true := by
  have e : onceI xs = some i := Plain.seek_hit hi h hg
  simp [onceW, onceB, e]
theorem once_none {xs : List Int} (h : ∀ j, j < xs.length → Plain.sparesB (Plain.fallsB xs) xs j = false) : onceW xs = [] ∧ onceB xs = false := by
  have e : onceI xs = none := Plain.seek_none h
  simp [onceW, onceB, e]
/-- What TrimWord answers. -/
def trimV (xs : List Int) : List Int := Plain.trimTo (Plain.fallsB xs) 64 (Plain.red xs)
def trimW (xs : List Int) : List Int := if Plain.wordB xs = true then trimV xs else []
theorem trim_no {xs : List Int} (h : Plain.wordB xs = false) : trimW xs = [] := if_neg (by rw [h]; simp)
theorem trim_yes {xs : List Int} (h : Plain.wordB xs = true) : trimW xs = trimV xs := if_pos h
theorem trimW_le (xs : List Int) : (trimW xs).length ≤ 64 := by
  cases h : Plain.wordB xs with
  | false => rw [trim_no h]; simp
  | true =>
    rw [trim_yes h]
    have h1 := (Plain.wordB_iff.1 h).1
    exact Nat.le_trans (Plain.trimTo_le _ _ _) (Nat.le_trans (Plain.red_length _) h1)
/-- What the loops hold: a list from which the rest is to be taken. -/
def Trims (xs u : List Int) : Prop := Plain.trimTo (Plain.fallsB xs) 64 u = trimV xs ∧ Plain.alike (Plain.fallsB u) (Plain.fallsB xs) = true ∧ Plain.Letters u ∧ u.length ≤ 64
theorem trims_start {xs : List Int} (h : Plain.wordB xs = true) : Trims xs (Plain.red xs) :=
  ⟨rfl, by rw [Plain.falls_red]; exact Plain.alike_refl _, (Plain.wordB_iff.1 h).2.red, Nat.le_trans (Plain.red_length _) (Plain.wordB_iff.1 h).1⟩
theorem Trims.next {xs u : List Int} {i : Nat} (h : Trims xs u) (hi : i < u.length) (hno : ∀ j, j < i → Plain.sparesB (Plain.fallsB xs) u j = false) (hg : Plain.sparesB (Plain.fallsB xs) u i = true) : Trims xs (Plain.dropAt u i) ∧ (Plain.dropAt u i).length < u.length :=
  ⟨⟨(Plain.trim_hit hi hno hg h.2.2.2).symm.trans h.1, hg, Plain.dropAt_letters h.2.2.1 i, by have := Plain.dropAt_len hi; have := h.2.2.2; omega⟩, Plain.dropAt_len hi⟩
theorem Trims.done {xs u : List Int} (h : Trims xs u) (hno : ∀ j, j < u.length → Plain.sparesB (Plain.fallsB xs) u j = false) : u = trimV xs := (Plain.trim_none hno h.2.2.2).symm.trans h.1
def lenV : Value → Nat
  | .slice _ n _ => n
  | _ => 0
theorem l2Join_at (a1 a2 : Option Addr) (c1 c2 n1 n2 : Nat) (xs ys : List Int) (w : World) (e1 : xs.length = n1) (e2 : ys.length = n2) (h1 : Hid (Ints w a1 xs)) (k1 : Hid (Cap a1 n1 c1)) (h2 : Hid (Ints w a2 ys)) (k2 : Hid (Cap a2 n2 c2))
    (l1 : Hid (Plain.Letters xs)) (l2 : Hid (Plain.Letters ys)) (hn : n1 + n2 ≤ 1048576) :
    Calls Try.prog 93 #[.slice a1 n1 c1, .slice a2 n2 c2] w (ListPost (Plain.red (xs ++ ys)) w) := by
  subst e1 e2
  exact l2Join_any a1 a2 c1 c2 xs ys w h1 k1 h2 k2 l1 l2 hn
/-- The parts ahead of a place and behind it. -/
structure Cut (w : World) (b o cap n i o2 : Nat) (xs : List Int) : Prop where
  i1 : Ints w (some ⟨b, o, none⟩) (xs.take i)
  i2 : Ints w (some ⟨b, o2, none⟩) (xs.drop (i + 1))
  k1 : Cap (some ⟨b, o, none⟩) i cap
  k2 : Cap (some ⟨b, o2, none⟩) (n - (i + 1)) (cap - (i + 1))
  e1 : (xs.take i).length = i
  e2 : (xs.drop (i + 1)).length = n - (i + 1)
theorem cut_mid {w : World} {b o cap i : Nat} {xs : List Int} (h : Ints w (some ⟨b, o, none⟩) xs) (k : Cap (some ⟨b, o, none⟩) xs.length cap) (hi : i < xs.length) : Cut w b o cap xs.length i (o + (i + 1)) xs :=
  ⟨h.upto i, h.from (i + 1), cap_upto k (by omega), cap_from k (by omega), by simp; omega, by simp⟩
theorem cut_end {w : World} {b o cap i : Nat} {xs : List Int} (h : Ints w (some ⟨b, o, none⟩) xs) (k : Cap (some ⟨b, o, none⟩) xs.length cap) (hi : i < xs.length) (hc : cap = i + 1) : Cut w b o cap xs.length i o xs := by
  have := k.1
  have e : xs.drop (i + 1) = [] := List.drop_eq_nil_of_le (by omega)
  exact ⟨h.upto i, by rw [e]; exact Ints.nil _ _, cap_upto k (by omega), ⟨by omega, by have := k.2.1; omega, fun h => (by cases h), fun x h => ⟨b, o, by cases h; rfl⟩⟩, by simp; omega, by simp⟩
theorem Cut.on {w w' : World} {b o cap n i o2 : Nat} {xs : List Int} (h : Cut w b o cap n i o2 xs) (hb : Below w.heap.size w w') : Cut w' b o cap n i o2 xs := ⟨h.i1.on hb, h.i2.on hb, h.k1, h.k2, h.e1, h.e2⟩
set_option maxRecDepth 100000 in
set_option maxHeartbeats 2000000 in
theorem l6Without_any (a : Option Addr) (cap : Nat) (xs : List Int) (i : Nat) (w : World) (h : Hid (Ints w a xs)) (hcp : Hid (Cap a xs.length cap)) (hl : Hid (Plain.Letters xs)) (hi : i < xs.length) (hn : xs.length ≤ 1000) :
    Calls Try.prog 74 #[.slice a xs.length cap, .int .i64 (i : Int)] w (ListPost (Plain.dropAt xs i) w) := by
  obtain ⟨x, hx⟩ := at_some xs i hi
  obtain ⟨b, o, rfl, -⟩ := h.out i x hx
  have hc1 := hcp.out.1
  have hc2 := hcp.out.2.1
  have LA := Lib.hid (hl.out.sub fun y hy => List.mem_of_mem_take hy : Plain.Letters (xs.take i))
  have LB := Lib.hid (hl.out.sub fun y hy => List.mem_of_mem_drop hy : Plain.Letters (xs.drop (i + 1)))
  have hk0 : (i : Int) + 1 ≤ (xs.length : Int) := by omega
  have hk1 : (i : Int) ≤ (cap : Int) := by omega
  have hk2 : (0 : Int) ≤ (i : Int) := by omega
  have hk3 : (i : Int) + 1 ≤ (cap : Int) := by omega
  have hk4 : (xs.length : Int) ≤ (cap : Int) := by omega
  have hk5 : (0 : Int) ≤ (i : Int) + 1 := by omega
  have hwi : IntKind.i64.wrap ((i : Int) + 1) = (i : Int) + 1 := IntWalk.i64_in _ (by omega)
  have hnt : ((i : Int) + 1).toNat = i + 1 := by omega
  by_cases hcap : cap = i + 1
  · have HC := Lib.hid (cut_end h.out hcp.out hi hcap)
    subst hcap
    have hk6 : (i : Int) ≤ (i : Int) + 1 := by omega
    have hk7 : (xs.length : Int) ≤ (i : Int) + 1 := by omega
    have HK0 : Hid (Cap (some ⟨b, o, none⟩) 0 0) := Lib.hid ⟨Nat.le_refl _, by omega, fun h => (by cases h), fun x h => ⟨b, o, by cases h; rfl⟩⟩
    have HE0 : Hid ((xs.drop (i + 1)).length = 0) := Lib.hid (by rw [List.length_drop]; omega)
    clear hx
    go_enter Try.func74, Try.ntmps74
    go_wp2_with fail
    go_region_law (go_simp; first
      | (go_at_call 93; refine (l2Join_at _ _ _ _ i 0 (xs.take i) (xs.drop (i + 1)) w.drew HC.out.e1 HE0.out (Lib.hid HC.out.i1) (Lib.hid HC.out.k1) (Lib.hid HC.out.i2) HK0 LA LB (by omega)).mono ?_; rintro e w1 ⟨v, rfl, hr, hb⟩; have R := Lib.hid (And.intro hr ((Below.refl w.heap.size w).drew.trans hb)); clear hr hb))
    all_goals
      go_wp2_with fail
      go_ret
      exact ⟨_, rfl, R.out.1, R.out.2⟩
  · have HC := Lib.hid (cut_mid h.out hcp.out hi)
    clear hx
    go_enter Try.func74, Try.ntmps74
    go_wp2_with fail
    go_region_law (go_simp; first
      | (go_at_call 93; refine (l2Join_at _ _ _ _ i (xs.length - (i + 1)) (xs.take i) (xs.drop (i + 1)) w.drew HC.out.e1 HC.out.e2 (Lib.hid HC.out.i1) (Lib.hid HC.out.k1) (Lib.hid HC.out.i2) (Lib.hid HC.out.k2) LA LB (by omega)).mono ?_; rintro e w1 ⟨v, rfl, hr, hb⟩; have R := Lib.hid (And.intro hr ((Below.refl w.heap.size w).drew.trans hb)); clear hr hb))
    all_goals
      go_wp2_with fail
      go_ret
      exact ⟨_, rfl, R.out.1, R.out.2⟩
set_option maxRecDepth 100000 in
set_option maxHeartbeats 4000000 in
theorem specTrimWord_any (a : Option Addr) (cap : Nat) (xs : List Int) (w : World) (h : Hid (Ints w a xs)) (h64 : Hid (In64 xs)) (hn : xs.length ≤ 1048576) :
    Calls Try.prog 36 #[.slice a xs.length cap] w (SB (trimW xs) (Plain.wordB xs) w) := by
  cases hw : Plain.wordB xs with
  | false =>
    have HE := Lib.hid (trim_no hw)
    have HS := Lib.hid (coll_res (coll_start w))
    have HW := Lib.hid hw
    clear hw
    go_enter Try.func36, Try.ntmps36
    go_wp2_with fail
    refine (l2Word_any _ _ xs _ h h64 (by omega)).mono ?_
    rw [HW.out]
    rintro e w' ⟨rfl, rfl⟩
    go_wp2_with fail
    go_ret2
    exact sb_of HE.out.symm rfl ⟨_, rfl, HS.out.1, HS.out.2⟩
  | true =>
    have HE := Lib.hid (trim_yes hw)
    have HW := Lib.hid hw
    have HL := Lib.hid (Plain.wordB_iff.1 hw).2
    have h64' := (Plain.wordB_iff.1 hw).1
    have HT0 := Lib.hid (trims_start hw)
    obtain ⟨r, hr⟩ : ∃ r, r = Plain.red xs := ⟨_, rfl⟩
    rw [← hr] at HT0
    have HRR := Lib.hid hr
    obtain ⟨t, ht⟩ : ∃ t, t = Plain.fallsB xs := ⟨_, rfl⟩
    have HTT := Lib.hid ht
    clear hw hr ht
    go_enter Try.func36, Try.ntmps36
    go_wp2_with fail
    refine (l2Word_any _ _ xs _ h h64 (by omega)).mono ?_
    rw [HW.out]
    rintro e w' ⟨rfl, rfl⟩
    go_wp2_with fail
    refine (l2Reduce_any a cap xs _ h HL (by omega)).mono ?_
    rintro e w1 ⟨_, rfl, ⟨a1, c1, rfl, hi1, ho1, hk1⟩, hb⟩
    rw [← HRR.out] at hi1 ho1 hk1 ⊢
    have H1 := Lib.hid (And.intro hi1 (And.intro ho1 (And.intro hk1 hb)))
    have I1 := Lib.hid (h.out.on hb)
    clear hi1 ho1 hk1 hb
    go_wp2_with fail
    refine (l3Table_any a cap xs _ I1 HL (by omega)).mono ?_
    rw [← HTT.out]
    rintro e w2 ⟨rfl, hb⟩
    have H2 := Lib.hid (And.intro (H1.out.1.on hb) (And.intro (H1.out.2.1.on hb) (And.intro H1.out.2.2.1 (H1.out.2.2.2.trans (hb.mono H1.out.2.2.2.size)))))
    clear hb H1 I1
    have HTN := Lib.hid (tab_new w2 (fun _ => false))
    have HTF := Lib.hid (tab_row (t := t) HTN.out)
    have hb5 : Below w2.heap.size w2 ((w2.alloc (.cells (bools fun _ => false) 50)).setRow w2.heap.size (bools t)) := below_setRow ((Below.refl _ w2).alloc (Nat.le_refl _) _) (Nat.le_refl _) _
    have H5 := Lib.hid (And.intro (H2.out.1.on hb5) (And.intro (H2.out.2.1.on hb5) (And.intro H2.out.2.2.1 (H2.out.2.2.2.trans (hb5.mono H2.out.2.2.2.size)))))
    clear hb5
    go_wp2_with (refine wpList_store_row rfl 50 _ _ rfl w2.heap.size (bools t) rfl rfl 50 (bools fun _ => false) (by rw [← bools_zero]; exact HTN.out) info64 rfl (bools_one _) ?_)
    rw [← bools_zero]
    obtain ⟨W5, hW5⟩ : ∃ W5, W5 = ((w2.alloc (.cells (bools fun _ => false) 50)).setRow w2.heap.size (bools t)) := ⟨_, rfl⟩
    rw [← hW5] at H5 HTF ⊢
    clear hW5 HTN
    obtain ⟨G, hG⟩ : ∃ G, G = w2.heap.size := ⟨_, rfl⟩
    rw [← hG] at HTF ⊢
    clear hG H2
    go_loopw [4, 6] (fun v i wr => ∃ k : Nat, i = .int .i64 (k : Int) ∧ ∃ u au cu, v = .slice au u.length cu ∧ k ≤ u.length ∧ Trims xs u ∧ (∀ j, j < k → Plain.sparesB t u j = false) ∧ (Ints wr au u ∧ Own w.heap.size wr au u.length ∧ Cap au u.length cu ∧ Below w.heap.size w wr) ∧ Tab wr G t) (fun v i _ => 65 * lenV v + 64 - (intOf i).toNat)
    case atStart => exact ⟨0, rfl, r, a1, c1, rfl, Nat.zero_le _, HT0.out, fun j h => by omega, H5.out, HTF.out⟩
    case round =>
      clear H5 HTF HT0
      obtain ⟨k, rfl, u, au, cu, rfl, hk, htr, hno, hmem, htab⟩ := hrel
      have HTR := Lib.hid htr
      have HNO := Lib.hid hno
      have HM := Lib.hid hmem
      have HTB := Lib.hid htab
      have hu64 := htr.2.2.2
      have LU := Lib.hid htr.2.2.1
      clear htr hno hmem htab
      by_cases hlt : k < u.length
      · have hi : (k : Int) < (u.length : Int) := by omega
        have hi0 : (0 : Int) ≤ (k : Int) := by omega
        have hdl := Plain.dropAt_len hlt
        have LD := Lib.hid (Plain.dropAt_letters LU.out k)
        have HSP : Hid (Plain.sparesB t u k = Plain.alike (Plain.fallsB (Plain.dropAt u k)) t) := Lib.hid rfl
        have HNX := Lib.hid (fun hg => HTR.out.next hlt (by rw [← HTT.out]; exact HNO.out) (by rw [← HTT.out]; exact hg) : Plain.sparesB t u k = true → Trims xs (Plain.dropAt u k) ∧ (Plain.dropAt u k).length < u.length)
        have HCALL := Lib.hid (fun W hh => l6Without_any au cu u k W hh (Lib.hid HM.out.2.2.1) LU hlt (by omega))
        obtain ⟨d, hd⟩ : ∃ d, d = Plain.dropAt u k := ⟨_, rfl⟩
        rw [← hd] at hdl LD HSP HNX HCALL
        clear hd
        go_wp2_with fail
        refine (HCALL.out _ (Lib.hid HM.out.1)).mono ?_
        rintro e w6 ⟨_, rfl, ⟨a6, c6, rfl, hi6, ho6, hk6⟩, hb⟩
        have HM6 := Lib.hid (And.intro (HM.out.1.on hb) (And.intro (HM.out.2.1.on hb) (And.intro HM.out.2.2.1 (HM.out.2.2.2.trans (hb.mono HM.out.2.2.2.size)))))
        have HTB6 := Lib.hid (HTB.out.on hb)
        have H6 := Lib.hid (And.intro hi6 (And.intro (ho6.mono HM.out.2.2.2.size) hk6))
        clear hi6 ho6 hk6 hb HM HTB
        go_wp2_with (refine wpList_load_row rfl 50 _ rfl G rfl 50 (bools t) (0, 0) _ HTB6.out Try.underlying50 rfl info64 ?_)
        refine (l6For_any a6 c6 d t _ (Lib.hid H6.out.1) LD (by omega)).mono ?_
        cases hal : Plain.alike (Plain.fallsB d) t with
        | true =>
          have HN2 := Lib.hid (HNX.out (by rw [HSP.out]; exact hal))
          clear hal
          rintro e w7 ⟨rfl, hb⟩
          have HM7 := Lib.hid (And.intro (H6.out.1.on hb) (And.intro (H6.out.2.1.on hb) (And.intro H6.out.2.2 (HM6.out.2.2.2.trans (hb.mono HM6.out.2.2.2.size)))))
          have HTB7 := Lib.hid (HTB6.out.on hb)
          clear hb HM6 HTB6 H6
          go_wp2_with fail
          go_roundw
          case rel => exact ⟨0, rfl, d, a6, c6, rfl, Nat.zero_le _, HN2.out.1, fun j h => by omega, HM7.out, HTB7.out⟩
          case measure => simp [intOf, lenV]; omega
        | false =>
          have HN2 : Hid (∀ j, j < k + 1 → Plain.sparesB t u j = false) := Lib.hid (fun j hj => by
            by_cases e : j = k
            · subst e; rw [HSP.out]; exact hal
            · exact HNO.out j (by omega))
          clear hal
          rintro e w7 ⟨rfl, hb⟩
          have HM7 := Lib.hid (And.intro (HM6.out.1.on hb) (And.intro (HM6.out.2.1.on hb) (And.intro HM6.out.2.2.1 (HM6.out.2.2.2.trans (hb.mono HM6.out.2.2.2.size)))))
          have HTB7 := Lib.hid (HTB6.out.on hb)
          clear hb HM6 HTB6 H6
          go_wp2_with fail
          go_roundw
          case rel => exact ⟨k + 1, by go_num, u, au, cu, rfl, hlt, HTR.out, HN2.out, HM7.out, HTB7.out⟩
          case measure => simp [intOf, lenV]; omega
      · have hke : k = u.length := by omega
        have HD : Hid (u = trimV xs) := Lib.hid (HTR.out.done (by rw [← HTT.out, ← hke]; exact HNO.out))
        have hi : ¬ ((k : Int) < (u.length : Int)) := by omega
        clear hke
        go_wp2_with fail
        go_ret2
        exact sb_of (HD.out.trans HE.out.symm) rfl ⟨_, rfl, ⟨_, _, rfl, HM.out.1, HM.out.2.1, HM.out.2.2.1⟩, HM.out.2.2.2⟩

end Go.Proofs.Ytepmldbleconfaa
