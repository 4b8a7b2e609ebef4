/- Contracts: slices.Clone at impl's words, impl.WicksParts. Conditions: numbers of 64 bits, lengths that fit. -/
import Derived.Test.YtmcbaejgimopmaaGreatWicksImpl
import Derived.Laws.IdiomCopy
import Derived.Lib.SliceRun
import Derived.Deep.RegionWith
namespace Go.Proofs.YtmcbaejgimopmaaGreat
open Go.ChangeShapes Go.WideShapes Go.ChangeAt Go.RowKit
set_option linter.unusedVariables false

/-- What a made slice owns. -/
def RowPost (xs : List Int) (w : World) (e : Ending) (w' : World) : Prop := ∃ v, e = .returned v ∧ w'.ownsRow w.heap.size 3 1 v xs.length (nums xs) ∧ Below w.heap.size w w'
set_option maxHeartbeats 400000 in
theorem cloneRow_any (a : Option Addr) (cap : Nat) (xs : List Int) (w : World) (h : Hid (Ints w a xs)) (hn : xs.length ≤ 1048576) :
    Calls Tryz.prog 61 #[.slice a xs.length cap] w (RowPost xs w) := by
  obtain ⟨i0, hi0, hz0, hz1, hz2⟩ := info_parts infoInt
  cases a with
  | none =>
    have hx : xs = [] := by
      cases xs with
      | nil => rfl
      | cons y t => obtain ⟨b, o, e, _⟩ := h.out 0 y rfl; cases e
    subst hx
    have hq : ∀ W, (binOp .eql 64 (.slice none 0 cap) (.slice none 0 0)).run Tryz.prog W = .ok (.bool true) W := fun W => Lib.run_eql_slice_nil W _ _ none _ _ _ _ Tryz.underlying64
    go_enter Tryz.func61, Tryz.ntmps61
    go_wp2_with fail
    go_ret
    exact ⟨_, rfl, World.ownsRow_nil _ _ _ _, Below.refl _ _⟩
  | some ad =>
    have hcell : Hid (∀ j u, (nums xs)[j]? = some u → (w.alloc (.cells #[] 3)).cell? (ad.add j) = some u) := Lib.hid fun j u hj => by
      obtain ⟨y, hy⟩ := at_some xs j (by have := at_lt hj; simpa [nums] using this)
      rw [nums_at hy] at hj
      cases hj
      obtain ⟨b, o, e, hc⟩ := h.out j y hy
      cases e
      rw [add_plain]
      exact Lib.cell?_alloc_some _ hc
    have HL := Lib.hid (nums_length xs)
    have hq : ∀ W, (binOp .eql 64 (.slice (some ad) xs.length cap) (.slice none 0 0)).run Tryz.prog W = .ok (.bool false) W := fun W => Lib.run_eql_slice_nil W _ _ (some ad) _ _ _ _ Tryz.underlying64
    have HO : Hid ((w.alloc (.cells #[] 3)).ownsRow w.heap.size 3 1 (.slice (some ⟨w.heap.size, 0, none⟩) 0 0) 0 (nums [])) := Lib.hid (World.ownsRow_made w #[] 0 (Nat.le_refl _) (Nat.zero_le _) rfl)
    go_enter Tryz.func61, Tryz.ntmps61
    go_wp2_with (at_builtin; refine wpList_append_own _ rfl _ _ 64 rfl w.heap.size 3 i0 (.int .i64 0) 1 8 Tryz.underlying64 hi0 hz0 hz1 hz2 rfl (by decide) _ 0 (nums []) rfl HO.out ad xs.length _ (nums xs) rfl ?c0 hcell.out (nums_one xs) ?c3 ?c4 ?c5 ?_)
    case c0 => rw [HL.out, Nat.mul_one]
    case c3 => unfold maxLen; omega
    case c4 => omega
    case c5 => simp
    intro v' w1 hown hgrow _
    have HR : Hid (w1.ownsRow w.heap.size 3 1 v' xs.length (nums xs)) := Lib.hid (by simpa [nums] using hown)
    have HB : Hid (Below w.heap.size w w1) := Lib.hid (((Below.refl _ w).alloc (Nat.le_refl _) _).grown hgrow (by simp) (fun j hj => by cases hj; exact Nat.le_refl _))
    clear hown hgrow
    go_wp2_with fail
    go_ret
    exact ⟨_, rfl, HR.out, HB.out⟩

theorem cloneRes_any (a : Option Addr) (cap n : Nat) (xs : List Int) (w : World) (hl : xs.length = n) (h : Hid (Ints w a xs)) (hn : n ≤ 1048576) :
    Calls Tryz.prog 61 #[.slice a n cap] w fun e w' => ∃ a2 c2, e = .returned (.slice a2 n c2) ∧ Ints w' a2 xs ∧ Own w.heap.size w' a2 n ∧ Cap a2 n c2 ∧ Below w.heap.size w w' := by
  subst hl
  refine (cloneRow_any a cap xs w h hn).mono ?_
  rintro e w' ⟨v, rfl, ho, hb⟩
  obtain ⟨a2, c2, rfl, h1, h2, h3⟩ := owns_ints ho
  exact ⟨a2, c2, rfl, h1, h2, h3, hb⟩
theorem tC_hit {c : List Int} {j f i k : Nat} (h : iC (turn c j) (c.length / 2) (c.length / 2 + 1) 0 = some (i, k)) : tC c (f + 1) j = some (j, i, k) := by rw [tC, h]
theorem tC_miss {c : List Int} {j f : Nat} (h : iC (turn c j) (c.length / 2) (c.length / 2 + 1) 0 = none) : tC c (f + 1) j = tC c f (j + 1) := by rw [tC, h]

set_option maxRecDepth 100000 in
set_option maxHeartbeats 4000000 in
theorem implWicks_any (a : Option Addr) (cap : Nat) (xs : List Int) (w : World) (h : Hid (Ints w a xs)) (h64 : Hid (In64 xs)) (hn : xs.length ≤ 9223372036854775807) :
    Calls Tryz.prog 23 #[.slice a xs.length cap] w (SSSIB (wicksA xs) (wicksB xs) (wicksC xs) (wicksK xs) (wicksOk xs) w) := by
  cases hw : Plain.wordB xs with
  | false =>
    have HE := Lib.hid (wicks_none (xs := xs) (by rw [wicksAt, if_neg (by rw [hw]; simp)]))
    have HW := Lib.hid hw
    clear hw
    go_enter Tryz.func23, Tryz.ntmps23
    go_wp2_with fail
    refine (isWord_any _ _ xs _ h h64 hn).mono ?_
    rw [HW.out]
    rintro e w' ⟨rfl, rfl⟩
    go_wp2_with fail
    refine bodyPost_ret (v := .tuple #[.slice (some ⟨w.heap.size, 0, none⟩) 0 0, .slice (some ⟨w.heap.size + 1, 0, none⟩) 0 0, .slice (some ⟨w.heap.size + 1 + 1, 0, none⟩) 0 0, .int .i64 0, .bool false]) ?_ rfl ?_
    · simp [results, Tryz.results23, go_sem]
    · exact sssib_of HE.out.1.symm HE.out.2.1.symm HE.out.2.2.1.symm (by rw [HE.out.2.2.2.1]; rfl) HE.out.2.2.2.2.symm (wicks_none_post (cap_zero _) (cap_zero _) (cap_zero _) ((((Below.refl _ w).alloc (Nat.le_refl _) _).alloc (by simp) _).alloc (by simp; omega) _))
  | true =>
    have m1 := (Plain.wordB_iff.1 hw).1
    have HL := Lib.hid (Plain.wordB_iff.1 hw).2
    have HW := Lib.hid hw
    have HWA := Lib.hid (wicks_cuts hw)
    have LCo : Hid (Plain.Letters (Plain.core (Plain.red xs))) := Lib.hid HL.out.red.core
    have hcl : (Plain.core (Plain.red xs)).length ≤ 64 := Nat.le_trans (by simp [Plain.core, Plain.mid]; omega : (Plain.core (Plain.red xs)).length ≤ (Plain.red xs).length) (Nat.le_trans (Plain.red_length xs) m1)
    have HCO := Lib.hid (core_any a cap xs w h HL (by omega))
    obtain ⟨c, hc⟩ : ∃ c, c = Plain.core (Plain.red xs) := ⟨_, rfl⟩
    rw [← hc] at HWA LCo hcl HCO
    have HCC : Hid (∀ j, wicksT xs j = turn c j) := Lib.hid (fun j => by rw [wicksT, hc])
    clear hw hc
    go_enter Tryz.func23, Tryz.ntmps23
    go_wp2_with fail
    refine (isWord_any _ _ xs _ h h64 hn).mono ?_
    rw [HW.out]
    rintro e w' ⟨rfl, rfl⟩
    go_wp2_with fail
    refine HCO.out.mono ?_
    rintro e w1 ⟨_, rfl, ⟨ac, cc, rfl, hi, -, hk⟩, hb⟩
    have HC := Lib.hid hi
    have KC := Lib.hid hk
    have B1 := Lib.hid hb
    clear hi hk hb
    go_wp2_with fail
    go_loopw [26] (fun j wr => ∃ k : Nat, k ≤ c.length ∧ j = .int .i64 (k : Int) ∧ tC c (c.length - k) k = tC c c.length 0 ∧ Below w1.heap.size w1 wr) (fun j _ => c.length - (intOf j).toNat)
    case atStart => exact ⟨0, Nat.zero_le _, rfl, rfl, Below.refl _ _⟩
    case round =>
      obtain ⟨j, hj, rfl, hfrom, hb⟩ := hrel
      have HF := Lib.hid hfrom
      have HB := Lib.hid hb
      have HCr := Lib.hid (HC.out.on hb)
      clear hfrom hb
      by_cases hlt : j < c.length
      · have hlt1 : (j : Int) < (c.length : Int) := by omega
        go_wp2_with fail
        refine (turned_any ac cc c j _ HCr KC (by omega) (by omega)).mono ?_
        rintro e w2 ⟨v, rfl, ⟨aT, ct, rfl, hi, -, hk⟩, hb⟩
        obtain ⟨T, hT⟩ : ∃ T, T = turn c j := ⟨_, rfl⟩
        rw [← hT] at hi hk ⊢
        have hlT : T.length = c.length := by rw [hT]; exact turn_length c j
        obtain ⟨x0, hx0⟩ := at_some T 0 (by omega)
        obtain ⟨b, o, rfl, -⟩ := hi 0 x0 hx0
        have IT := Lib.hid hi
        have KT := Lib.hid hk
        have kt1 := hk.1
        have kt2 := hk.2.1
        have LT : Hid (Plain.Letters T) := Lib.hid (by rw [hT]; exact turn_letters LCo.out j)
        have B2 : Hid (Below w1.heap.size w1 w2) := Lib.hid (HB.out.trans (hb.mono HB.out.size))
        have HTj := Lib.hid hT
        have HLT := Lib.hid hlT
        have h0T : 0 < T.length := by omega
        have hT64 : T.length ≤ 64 := by omega
        obtain ⟨n, hn2⟩ : ∃ n, n = T.length / 2 := ⟨_, rfl⟩
        have HN := Lib.hid hn2
        have hq : (T.length : Int) / 2 = (n : Int) := by omega
        have hn32 : n ≤ 32 := by omega
        have hn3 : n < T.length := by omega
        have HCU := Lib.hid (wicksCuts_any b o ct T w2 IT KT LT hT64 h0T)
        rw [← hn2] at HCU
        have HNX : Hid (iC T n (n + 1) 0 = none → tC c (c.length - (j + 1)) (j + 1) = tC c c.length 0) := Lib.hid (fun he => by
          rw [← HF.out, show c.length - j = (c.length - (j + 1)) + 1 by omega, tC_miss]
          rw [← hT, ← hlT, ← hn2]; exact he)
        have HHIT : Hid (∀ i k, iC T n (n + 1) 0 = some (i, k) → wicksAt xs = some (j, i, k)) := Lib.hid (fun i k he => by
          rw [HWA.out, ← HF.out, show c.length - j = (c.length - (j + 1)) + 1 by omega]
          refine tC_hit ?_
          rw [← hT, ← hlT, ← hn2]; exact he)
        have HLE : Hid (∀ i k, iC T n (n + 1) 0 = some (i, k) → i + k ≤ n) := Lib.hid (fun i k he => iC_le (by omega) he)
        clear hi hk hb hT hx0 hlT hn2 hlt1
        generalize iC T n (n + 1) 0 = r at HCU HNX HHIT HLE
        go_wp2_with fail
        refine HCU.out.mono ?_
        cases r with
        | none =>
          rintro e w3 ⟨rfl, m, rfl⟩
          have HB3 := Lib.hid (B2.out.trans ((show Below w2.heap.size w2 (w2.drewN m) from ⟨rfl, rfl, rfl, Nat.le_refl _, fun _ _ => rfl⟩).mono B2.out.size))
          generalize w2.drewN m = w3 at HB3 ⊢
          go_wp2_with fail
          go_roundw
          case rel => exact ⟨j + 1, by omega, by go_num, HNX.out (by trivial), HB3.out⟩
          case measure => simp [intOf]; omega
        | some p =>
          obtain ⟨i, k⟩ := p
          have hik := HLE.out i k rfl
          have HS := Lib.hid (HHIT.out i k rfl)
          rintro e w3 ⟨rfl, m, rfl⟩
          have HB3 := Lib.hid (B2.out.trans ((show Below w2.heap.size w2 (w2.drewN m) from ⟨rfl, rfl, rfl, Nat.le_refl _, fun _ _ => rfl⟩).mono B2.out.size))
          have IT3 : Hid (Ints (w2.drewN m) (some ⟨b, o, none⟩) T) := Lib.hid IT.out
          generalize w2.drewN m = w3 at HB3 IT3 ⊢
          simp only [cutI, cutJ, Option.isSome]
          obtain ⟨q, hqe⟩ : ∃ q, q = i + k := ⟨_, rfl⟩
          have HQE := Lib.hid hqe
          rw [← hqe]
          have hiq : i ≤ q := by omega
          have hqn : q ≤ n := by omega
          have hne : ¬ ct = i := by omega
          have hne2 : ¬ ct = q := by omega
          have q1 : (i : Int) ≤ (ct : Int) := by omega
          have q2 : (q : Int) ≤ (ct : Int) := by omega
          have q3 : (n : Int) ≤ (ct : Int) := by omega
          have q4 : (i : Int) ≤ (q : Int) := by omega
          have q5 : (q : Int) ≤ (n : Int) := by omega
          have q9 : (T.length : Int) ≤ (ct : Int) := by omega
          obtain ⟨A, hA⟩ : ∃ A, A = T.take i := ⟨_, rfl⟩
          obtain ⟨B, hB⟩ : ∃ B, B = (T.drop i).take k := ⟨_, rfl⟩
          obtain ⟨C, hC⟩ : ∃ C, C = (T.drop q).take (n - q) := ⟨_, rfl⟩
          have lA : Hid (A.length = i) := Lib.hid (by rw [hA, List.length_take]; omega)
          have lB : Hid (B.length = q - i) := Lib.hid (by rw [hB, List.length_take, List.length_drop]; omega)
          have lC : Hid (C.length = n - q) := Lib.hid (by rw [hC, List.length_take, List.length_drop]; omega)
          have HE : Hid (wicksA xs = A ∧ wicksB xs = B ∧ wicksC xs = C ∧ wicksK xs = j ∧ wicksOk xs = true) := Lib.hid (by
            have h1 := wicks_some HS.out
            rw [HCC.out, ← HTj.out, ← HN.out, ← hqe, ← hA, ← hB, ← hC] at h1
            exact h1)
          have IA : Hid (Ints w3 (some ⟨b, o, none⟩) A) := Lib.hid (by rw [hA]; exact IT3.out.upto i)
          have IB : Hid (Ints w3 (some ⟨b, o + i, none⟩) B) := Lib.hid (by rw [hB]; exact (IT3.out.from i).upto k)
          have IC : Hid (Ints w3 (some ⟨b, o + q, none⟩) C) := Lib.hid (by rw [hC]; exact (IT3.out.from q).upto _)
          have B5 := Lib.hid (B1.out.trans (HB3.out.mono B1.out.size))
          clear hA hB hC hik hqe
          go_wp2_with fail
          go_quiet (fail)
          have HB6 : Hid (Below w.heap.size w (w3.drewN nq)) := Lib.hid (B5.out.trans ((show Below w3.heap.size w3 (w3.drewN nq) from ⟨rfl, rfl, rfl, Nat.le_refl _, fun _ _ => rfl⟩).mono B5.out.size))
          have IA6 : Hid (Ints (w3.drewN nq) (some ⟨b, o, none⟩) A) := Lib.hid IA.out
          have IB6 : Hid (Ints (w3.drewN nq) (some ⟨b, o + i, none⟩) B) := Lib.hid IB.out
          have IC6 : Hid (Ints (w3.drewN nq) (some ⟨b, o + q, none⟩) C) := Lib.hid IC.out
          generalize w3.drewN nq = w6 at HB6 IA6 IB6 IC6 ⊢
          go_wp2_with fail
          refine (cloneRes_any _ _ _ A _ lA.out IA6 (by omega)).mono ?_
          rintro e w7 ⟨a5, c5, rfl, i5, o5, k5, b5⟩
          have H5 := Lib.hid (And.intro i5 (And.intro o5 (And.intro k5 b5)))
          have IB7 := Lib.hid (IB6.out.on b5)
          have IC7 := Lib.hid (IC6.out.on b5)
          clear i5 o5 k5 b5
          go_wp2_with fail
          refine (cloneRes_any _ _ _ B _ lB.out IB7 (by omega)).mono ?_
          rintro e w8 ⟨a6, c6, rfl, i6, o6, k6, b6⟩
          have H6 := Lib.hid (And.intro i6 (And.intro o6 (And.intro k6 b6)))
          have IC8 := Lib.hid (IC7.out.on b6)
          clear i6 o6 k6 b6
          go_wp2_with fail
          refine (cloneRes_any _ _ _ C _ lC.out IC8 (by omega)).mono ?_
          rintro e w9 ⟨a7, c7, rfl, i7, o7, k7, b7⟩
          obtain ⟨i5, o5, k5, b5⟩ := H5.out
          obtain ⟨i6, o6, k6, b6⟩ := H6.out
          have s5 := HB6.out.size
          have s6 := b5.size
          have s7 := b6.size
          have eA := lA.out
          have eB := lB.out
          have eC := lC.out
          have HP2 : Hid (SSSIB A B C (j : Int) true w (.returned (.tuple #[.slice a5 i c5, .slice a6 (q - i) c6, .slice a7 (n - q) c7, .int .i64 (j : Int), .bool true])) w9) := Lib.hid (by
            rw [← eA] at o5 k5
            rw [← eB] at o6 k6
            rw [← eC] at o7 k7
            exact ⟨a5, c5, a6, c6, a7, c7, by rw [eA, eB, eC], (i5.on b6).on b7, ((o5.on b6).on b7).mono s5, k5, i6.on b7, (o6.on b7).mono (Nat.le_trans s5 s6), k6, i7, o7.mono (Nat.le_trans s5 (Nat.le_trans s6 s7)), k7,
              apart_of o5 o6 (Nat.le_refl _), apart_of o5 o7 s7, apart_of o6 o7 (Nat.le_refl _), ((HB6.out.trans (b5.mono s5)).trans (b6.mono (Nat.le_trans s5 s6))).trans (b7.mono (Nat.le_trans s5 (Nat.le_trans s6 s7)))⟩)
          clear i5 o5 k5 b5 i6 o6 k6 b6 i7 o7 k7 b7 s5 s6 s7 eA eB eC
          go_wp2_with fail
          refine bodyPost_ret (v := .tuple #[.slice a5 i c5, .slice a6 (q - i) c6, .slice a7 (n - q) c7, .int .i64 (j : Int), .bool true]) ?_ rfl ?_
          · simp [results, Tryz.results23, go_sem]
          · exact sssib_of HE.out.1.symm HE.out.2.1.symm HE.out.2.2.1.symm (by rw [HE.out.2.2.2.1]) HE.out.2.2.2.2.symm HP2.out
      · obtain rfl : j = c.length := by omega
        have HM : Hid (wicksAt xs = none) := Lib.hid (by rw [HWA.out, ← HF.out, Nat.sub_self]; rfl)
        have HE := Lib.hid (wicks_none HM.out)
        have HB3 := Lib.hid (B1.out.trans (HB.out.mono B1.out.size))
        go_wp2_with fail
        refine bodyPost_ret (v := .tuple #[.slice (some ⟨wr.heap.size, 0, none⟩) 0 0, .slice (some ⟨wr.heap.size + 1, 0, none⟩) 0 0, .slice (some ⟨wr.heap.size + 1 + 1, 0, none⟩) 0 0, .int .i64 0, .bool false]) ?_ rfl ?_
        · simp [results, Tryz.results23, go_sem]
        · exact sssib_of HE.out.1.symm HE.out.2.1.symm HE.out.2.2.1.symm (by rw [HE.out.2.2.2.1]; rfl) HE.out.2.2.2.2.symm (wicks_none_post (cap_zero _) (cap_zero _) (cap_zero _) (((HB3.out.alloc HB3.out.size _).alloc (Nat.le_trans HB3.out.size (by simp)) _).alloc (Nat.le_trans HB3.out.size (by simp; omega)) _))

end Go.Proofs.YtmcbaejgimopmaaGreat
