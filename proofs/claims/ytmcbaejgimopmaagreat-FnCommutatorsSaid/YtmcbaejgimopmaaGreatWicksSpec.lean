/- Contract: spec.WicksParts; the first of three numbers at which a turned core is three words and their inverses. Conditions: numbers of 64 bits, lengths that fit. -/
import Derived.Test.YtmcbaejgimopmaaGreatPartsSpec
namespace Go.Proofs.YtmcbaejgimopmaaGreat
open Go.ChangeShapes Go.WideShapes Go.ChangeAt Go.RowKit
set_option linter.unusedVariables false

def kFrom (t : List Int) (i : Nat) : Nat → Nat → Option Nat
  | 0, _ => none
  | f + 1, k => if partsB t i k = true then some k else kFrom t i f (k + 1)
def iFrom (t : List Int) (n : Nat) : Nat → Nat → Option (Nat × Nat)
  | 0, _ => none
  | f + 1, i => match kFrom t i (n + 1 - i) 0 with
    | some k => some (i, k)
    | none => iFrom t n f (i + 1)
def tFrom (c : List Int) : Nat → Nat → Option (Nat × Nat × Nat)
  | 0, _ => none
  | f + 1, j => match iFrom (turn c j) (c.length / 2) (c.length / 2 + 1) 0 with
    | some (i, k) => some (j, i, k)
    | none => tFrom c f (j + 1)
theorem kFrom_hit {t : List Int} {i f k : Nat} (h : partsB t i k = true) : kFrom t i (f + 1) k = some k := if_pos h
theorem kFrom_miss {t : List Int} {i f k : Nat} (h : partsB t i k = false) : kFrom t i (f + 1) k = kFrom t i f (k + 1) := if_neg (by rw [h]; simp)
theorem iFrom_hit {t : List Int} {n i f k : Nat} (h : kFrom t i (n + 1 - i) 0 = some k) : iFrom t n (f + 1) i = some (i, k) := by rw [iFrom, h]
theorem iFrom_miss {t : List Int} {n i f : Nat} (h : kFrom t i (n + 1 - i) 0 = none) : iFrom t n (f + 1) i = iFrom t n f (i + 1) := by rw [iFrom, h]
theorem tFrom_hit {c : List Int} {j f i k : Nat} (h : iFrom (turn c j) (c.length / 2) (c.length / 2 + 1) 0 = some (i, k)) : tFrom c (f + 1) j = some (j, i, k) := by rw [tFrom, h]
theorem tFrom_miss {c : List Int} {j f : Nat} (h : iFrom (turn c j) (c.length / 2) (c.length / 2 + 1) 0 = none) : tFrom c (f + 1) j = tFrom c f (j + 1) := by rw [tFrom, h]
/-- Where a word is of Wicks' form. -/
def wicksAt (xs : List Int) : Option (Nat × Nat × Nat) :=
  if Plain.wordB xs = true ∧ (Plain.core (Plain.red xs)).length % 2 = 0 then tFrom (Plain.core (Plain.red xs)) (Plain.core (Plain.red xs)).length 0 else none
def wicksT (xs : List Int) (j : Nat) : List Int := turn (Plain.core (Plain.red xs)) j
def wicksA (xs : List Int) : List Int := match wicksAt xs with | some (j, i, _) => (wicksT xs j).take i | none => []
def wicksB (xs : List Int) : List Int := match wicksAt xs with | some (j, i, k) => ((wicksT xs j).drop i).take k | none => []
def wicksC (xs : List Int) : List Int := match wicksAt xs with | some (j, i, k) => ((wicksT xs j).drop (i + k)).take ((wicksT xs j).length / 2 - (i + k)) | none => []
def wicksK (xs : List Int) : Nat := match wicksAt xs with | some (j, _, _) => j | none => 0
def wicksOk (xs : List Int) : Bool := (wicksAt xs).isSome
/-- Three lists, apart, a number and a bool. -/
def SSSIB (o1 o2 o3 : List Int) (k : Int) (ok : Bool) (w : World) (e : Ending) (w' : World) : Prop :=
  ∃ a1 c1 a2 c2 a3 c3, e = .returned (.tuple #[.slice a1 o1.length c1, .slice a2 o2.length c2, .slice a3 o3.length c3, .int .i64 k, .bool ok]) ∧
    Ints w' a1 o1 ∧ Own w.heap.size w' a1 o1.length ∧ Cap a1 o1.length c1 ∧ Ints w' a2 o2 ∧ Own w.heap.size w' a2 o2.length ∧ Cap a2 o2.length c2 ∧ Ints w' a3 o3 ∧ Own w.heap.size w' a3 o3.length ∧ Cap a3 o3.length c3 ∧
    Apart a1 o1.length a2 o2.length ∧ Apart a1 o1.length a3 o3.length ∧ Apart a2 o2.length a3 o3.length ∧ Below w.heap.size w w'
theorem sssib_of {o1 o2 o3 p1 p2 p3 : List Int} {k q : Int} {ok pk : Bool} {w w' : World} {e : Ending} (h1 : o1 = p1) (h2 : o2 = p2) (h3 : o3 = p3) (h4 : k = q) (h5 : ok = pk) (h : SSSIB o1 o2 o3 k ok w e w') : SSSIB p1 p2 p3 q pk w e w' := by subst h1 h2 h3 h4 h5; exact h
theorem wicks_none {xs : List Int} (h : wicksAt xs = none) : wicksA xs = [] ∧ wicksB xs = [] ∧ wicksC xs = [] ∧ wicksK xs = 0 ∧ wicksOk xs = false := by simp [wicksA, wicksB, wicksC, wicksK, wicksOk, h]
theorem wicks_some {xs : List Int} {j i k : Nat} (h : wicksAt xs = some (j, i, k)) : wicksA xs = (wicksT xs j).take i ∧ wicksB xs = ((wicksT xs j).drop i).take k ∧ wicksC xs = ((wicksT xs j).drop (i + k)).take ((wicksT xs j).length / 2 - (i + k)) ∧ wicksK xs = j ∧ wicksOk xs = true := by simp [wicksA, wicksB, wicksC, wicksK, wicksOk, h]

theorem wicks_none_post {w w' : World} {a1 a2 a3 : Option Addr} {c1 c2 c3 : Nat} (k1 : Cap a1 0 c1) (k2 : Cap a2 0 c2) (k3 : Cap a3 0 c3) (hb : Below w.heap.size w w') :
    SSSIB [] [] [] 0 false w (.returned (.tuple #[.slice a1 0 c1, .slice a2 0 c2, .slice a3 0 c3, .int .i64 0, .bool false])) w' :=
  ⟨a1, c1, a2, c2, a3, c3, rfl, Ints.nil _ _, .inl rfl, k1, Ints.nil _ _, .inl rfl, k2, Ints.nil _ _, .inl rfl, k3, .inl rfl, .inl rfl, .inl rfl, hb⟩
theorem cap_zero (b : Nat) : Cap (some ⟨b, 0, none⟩) 0 0 := ⟨Nat.le_refl _, Nat.zero_le _, fun h => (by cases h), fun x h => ⟨b, 0, by cases h; rfl⟩⟩
theorem turn_letters {c : List Int} (h : Plain.Letters c) (j : Nat) : Plain.Letters (turn c j) := fun x hx => by
  rcases List.mem_append.1 hx with hx | hx
  · exact h x (List.mem_of_mem_drop hx)
  · exact h x (List.mem_of_mem_take hx)
set_option maxRecDepth 100000 in
set_option maxHeartbeats 4000000 in
theorem specWicks_any (a : Option Addr) (cap : Nat) (xs : List Int) (w : World) (h : Hid (Ints w a xs)) (h64 : Hid (In64 xs)) (hn : xs.length ≤ 9223372036854775807) :
    Calls Tryz.prog 24 #[.slice a xs.length cap] w (SSSIB (wicksA xs) (wicksB xs) (wicksC xs) (wicksK xs) (wicksOk xs) w) := by
  have HIa : Hid (Ints (w.alloc (.cells #[] 3)) a xs) := Lib.hid (h.out.on ((Below.refl _ w).alloc (Nat.le_refl _) _))
  have HBa : Hid (Below w.heap.size w (w.alloc (.cells #[] 3))) := Lib.hid ((Below.refl _ w).alloc (Nat.le_refl _) _)
  cases hw : Plain.wordB xs with
  | false =>
    have HE := Lib.hid (wicks_none (xs := xs) (by rw [wicksAt, if_neg (by rw [hw]; simp)]))
    have HW := Lib.hid hw
    clear hw
    go_enter Tryz.func24, Tryz.ntmps24
    go_wp2_with fail
    refine (l2Word_any _ _ xs _ HIa h64 hn).mono ?_
    rw [HW.out]
    rintro e w' ⟨rfl, rfl⟩
    go_wp2_with fail
    refine bodyPost_ret (v := .tuple #[.slice (some ⟨w.heap.size, 0, none⟩) 0 0, .slice (some ⟨w.heap.size + 1, 0, none⟩) 0 0, .slice (some ⟨w.heap.size + 1 + 1, 0, none⟩) 0 0, .int .i64 0, .bool false]) ?_ rfl ?_
    · simp [results, Tryz.results24, go_sem]
    · exact sssib_of HE.out.1.symm HE.out.2.1.symm HE.out.2.2.1.symm (by rw [HE.out.2.2.2.1]; rfl) HE.out.2.2.2.2.symm (wicks_none_post (cap_zero _) (cap_zero _) (cap_zero _) ((HBa.out.alloc HBa.out.size _).alloc (Nat.le_trans HBa.out.size (by simp)) _))
  | true =>
    have m1 := (Plain.wordB_iff.1 hw).1
    have HL := Lib.hid (Plain.wordB_iff.1 hw).2
    have HW := Lib.hid hw
    clear hw
    go_enter Tryz.func24, Tryz.ntmps24
    go_wp2_with fail
    refine (l2Word_any _ _ xs _ HIa h64 hn).mono ?_
    rw [HW.out]
    rintro e w' ⟨rfl, rfl⟩
    go_wp2_with fail
    refine (l2Core_any _ _ xs _ HIa HL (by omega)).mono ?_
    rintro e w1 ⟨ac, cc, ag, cg, rfl, hi, -, hk, -, -, -, -, hb⟩
    have HC := Lib.hid hi
    have KC := Lib.hid hk
    have B1 := Lib.hid (HBa.out.trans (hb.mono (by simp)))
    have HWA : Hid (wicksAt xs = if (Plain.core (Plain.red xs)).length % 2 = 0 then tFrom (Plain.core (Plain.red xs)) (Plain.core (Plain.red xs)).length 0 else none) := Lib.hid (by
      rw [wicksAt]
      by_cases hp : (Plain.core (Plain.red xs)).length % 2 = 0
      · rw [if_pos ⟨HW.out, hp⟩, if_pos hp]
      · rw [if_neg (fun h => hp h.2), if_neg hp])
    have LCo : Hid (Plain.Letters (Plain.core (Plain.red xs))) := Lib.hid HL.out.red.core
    have hcl : (Plain.core (Plain.red xs)).length ≤ 64 := Nat.le_trans (by simp [Plain.core, Plain.mid]; omega : (Plain.core (Plain.red xs)).length ≤ (Plain.red xs).length) (Nat.le_trans (Plain.red_length xs) m1)
    obtain ⟨c, hc⟩ : ∃ c, c = Plain.core (Plain.red xs) := ⟨_, rfl⟩
    rw [← hc] at HC KC HWA LCo hcl
    have HCC : Hid (∀ j, wicksT xs j = turn c j) := Lib.hid (fun j => by rw [wicksT, hc])
    rw [← hc]
    clear hi hk hb hc
    go_wp2_with fail
    by_cases hp : c.length % 2 = 0
    · have HWA2 : Hid (wicksAt xs = tFrom c c.length 0) := Lib.hid (by rw [HWA.out, if_pos hp])
      have hrem : (c.length : Int) % 2 = 0 := by omega
      have HP := Lib.hid hp
      clear hp
      go_loopw [10, 11, 12, 13, 14] (fun j u1 u2 u3 u4 wr => ∃ k : Nat, k ≤ c.length ∧ j = .int .i64 (k : Int) ∧ tFrom c (c.length - k) k = tFrom c c.length 0 ∧ Below w1.heap.size w1 wr) (fun j _ _ _ _ _ => c.length - (intOf j).toNat)
      case atStart => exact ⟨0, Nat.zero_le _, rfl, rfl, Below.refl _ _⟩
      case round =>
        obtain ⟨j, hj, rfl, hfrom, hb⟩ := hrel
        have HF := Lib.hid hfrom
        have HB := Lib.hid hb
        have HCr := Lib.hid (HC.out.on hb)
        clear hfrom hb
        by_cases hlt : j < c.length
        · have hlt1 : (j : Int) < (c.length : Int) := by omega
          go_wp2_with fail
          refine (l2Turn_any ac cc c j _ HCr KC (by omega) (by omega)).mono ?_
          rintro e w2 ⟨v, rfl, ⟨aT, ct, rfl, hi, -, hk⟩, hb⟩
          obtain ⟨T, hT⟩ : ∃ T, T = turn c j := ⟨_, rfl⟩
          rw [← hT] at hi hk ⊢
          have hlT : T.length = c.length := by rw [hT]; exact turn_length c j
          obtain ⟨x0, hx0⟩ := at_some T 0 (by omega)
          obtain ⟨b, o, rfl, -⟩ := hi 0 x0 hx0
          have IT := Lib.hid hi
          have KT := Lib.hid hk
          have kt1 := hk.1
          have kt2 := hk.2.1
          have LT : Hid (Plain.Letters T) := Lib.hid (by rw [hT]; exact turn_letters LCo.out j)
          have B2 : Hid (Below w1.heap.size w1 w2) := Lib.hid (HB.out.trans (hb.mono HB.out.size))
          have HTj := Lib.hid hT
          have HLT := Lib.hid hlT
          have h0T : 0 < T.length := by omega
          have hT64 : T.length ≤ 64 := by omega
          obtain ⟨n, hn2⟩ : ∃ n, n = T.length / 2 := ⟨_, rfl⟩
          have HN := Lib.hid hn2
          have HQ : Hid ((T.length : Int) / 2 = (n : Int)) := Lib.hid (by rw [hn2]; omega)
          have hn32 : n ≤ 32 := by omega
          have hn3 : n < T.length := by omega
          clear hi hk hb hT hx0 hlT hn2 hrem hlt1
          go_wp2_with fail
          rw [HQ.out]
          go_loopw [13, 14] (fun i u wr => ∃ q : Nat, q ≤ n + 1 ∧ i = .int .i64 (q : Int) ∧ iFrom T n (n + 1 - q) q = iFrom T n (n + 1) 0 ∧ Below w2.heap.size w2 wr) (fun i _ _ => n + 1 - (intOf i).toNat)
          case atStart => exact ⟨0, Nat.zero_le _, rfl, rfl, Below.refl _ _⟩
          case round =>
            obtain ⟨i, hi, rfl, hfrom, hb⟩ := hrel
            have HFi := Lib.hid hfrom
            have HBi := Lib.hid hb
            clear hfrom hb
            by_cases hin : i ≤ n
            · have hin1 : (i : Int) ≤ (n : Int) := by omega
              go_wp2_with fail
              go_loopw [14] (fun k wr => ∃ q : Nat, i + q ≤ n + 1 ∧ k = .int .i64 (q : Int) ∧ kFrom T i (n + 1 - i - q) q = kFrom T i (n + 1 - i) 0 ∧ Below w2.heap.size w2 wr) (fun k _ => n + 1 - (intOf k).toNat)
              case atStart => exact ⟨0, by omega, rfl, rfl, HBi.out⟩
              case round =>
                obtain ⟨k, hk, rfl, hfrom, hb⟩ := hrel
                have HFk := Lib.hid hfrom
                have HBk := Lib.hid hb
                have ITk := Lib.hid (IT.out.on hb)
                clear hfrom hb
                by_cases hkn : i + k ≤ n
                · have hkn1 : (i : Int) + (k : Int) ≤ (n : Int) := by omega
                  go_wp2_with fail
                  refine (l4Parts_any b o ct T n i k _ ITk KT LT hT64 h0T HN.out hkn).mono ?_
                  rintro e w4 ⟨rfl, hb⟩
                  have B4 := Lib.hid (HBk.out.trans (hb.mono HBk.out.size))
                  have B4b := Lib.hid hb
                  clear hb
                  cases hpb : partsB T i k with
                  | false =>
                    have HNx : Hid (kFrom T i (n + 1 - i - (k + 1)) (k + 1) = kFrom T i (n + 1 - i) 0) := Lib.hid (by
                      rw [← HFk.out, show n + 1 - i - k = (n + 1 - i - (k + 1)) + 1 by omega, kFrom_miss hpb])
                    clear hpb
                    go_wp2_with fail
                    go_roundw
                    case rel => exact ⟨k + 1, by omega, by go_num, HNx.out, B4.out⟩
                    case measure => simp [intOf]; omega
                  | true =>
                    have HS : Hid (wicksAt xs = some (j, i, k)) := Lib.hid (by
                      have h1 : kFrom T i (n + 1 - i) 0 = some k := by
                        rw [← HFk.out, show n + 1 - i - k = (n - i - k) + 1 by omega]; exact kFrom_hit hpb
                      have h2 : iFrom T n (n + 1) 0 = some (i, k) := by
                        rw [← HFi.out, show n + 1 - i = (n - i) + 1 by omega]; exact iFrom_hit h1
                      rw [HWA2.out, ← HF.out, show c.length - j = (c.length - (j + 1)) + 1 by omega]
                      refine tFrom_hit ?_
                      rw [← HTj.out, ← HLT.out, ← HN.out]; exact h2)
                    clear hpb
                    have hne : ¬ ct = i := by omega
                    have hne2 : ¬ ct = i + k := by omega
                    have hne3 : ¬ ct = n := by omega
                    have q1 : (i : Int) ≤ (ct : Int) := by omega
                    have q2 : (i : Int) + (k : Int) ≤ (ct : Int) := by omega
                    have q3 : (n : Int) ≤ (ct : Int) := by omega
                    have q4 : (i : Int) ≤ (i : Int) + (k : Int) := by omega
                    have q6 : (0 : Int) ≤ (i : Int) := by omega
                    have q7 : (0 : Int) ≤ (i : Int) + (k : Int) := by omega
                    have q8 : (0 : Int) ≤ (n : Int) := by omega
                    have q9 : (T.length : Int) ≤ (ct : Int) := by omega
                    have ITh := Lib.hid (ITk.out.on B4b.out)
                    obtain ⟨A, hA⟩ : ∃ A, A = T.take i := ⟨_, rfl⟩
                    obtain ⟨B, hB⟩ : ∃ B, B = (T.drop i).take k := ⟨_, rfl⟩
                    obtain ⟨C, hC⟩ : ∃ C, C = (T.drop (i + k)).take (n - (i + k)) := ⟨_, rfl⟩
                    have lA : Hid (A.length = i) := Lib.hid (by rw [hA, List.length_take]; omega)
                    have lB : Hid (B.length = k) := Lib.hid (by rw [hB, List.length_take, List.length_drop]; omega)
                    have lC : Hid (C.length = n - (i + k)) := Lib.hid (by rw [hC, List.length_take, List.length_drop]; omega)
                    have IA : Hid (Ints w4 (some ⟨b, o, none⟩) A) := Lib.hid (by rw [hA]; exact ITh.out.upto i)
                    have IB : Hid (Ints w4 (some ⟨b, o + i, none⟩) B) := Lib.hid (by rw [hB]; exact (ITh.out.from i).upto k)
                    have IC : Hid (Ints w4 (some ⟨b, o + (i + k), none⟩) C) := Lib.hid (by rw [hC]; exact (ITh.out.from (i + k)).upto _)
                    have KA : Hid (Cap (some ⟨b, o, none⟩) i ct) := Lib.hid (cap_upto KT.out (by omega))
                    have KB : Hid (Cap (some ⟨b, o + i, none⟩) k (ct - i)) := Lib.hid (cap_upto (cap_from KT.out (k := i) (by omega)) (by omega))
                    have KC2 : Hid (Cap (some ⟨b, o + (i + k), none⟩) (n - (i + k)) (ct - (i + k))) := Lib.hid (cap_upto (cap_from KT.out (k := i + k) (by omega)) (by omega))
                    have HE : Hid (wicksA xs = A ∧ wicksB xs = B ∧ wicksC xs = C ∧ wicksK xs = j ∧ wicksOk xs = true) := Lib.hid (by
                      have h1 := wicks_some HS.out
                      rw [HCC.out, ← HTj.out, ← HN.out, ← hA, ← hB, ← hC] at h1
                      exact h1)
                    have B5 := Lib.hid (B1.out.trans ((B2.out.trans (B4.out.mono B2.out.size)).mono B1.out.size))
                    clear hA hB hC
                    go_wp2_with fail
                    have hwrap : IntKind.i64.wrap ((i : Int) + (k : Int)) = (i : Int) + (k : Int) := IntWalk.i64_in _ (by omega)
                    have htn : ((i : Int) + (k : Int)).toNat = i + k := by omega
                    have q10 : i ≤ i + k := by omega
                    have q11 : i + k ≤ n := by omega
                    go_region_law (first
                      | (go_simp; go_at_call 65; refine (l1Own_at (some ⟨b, o, none⟩) ct i A w4.drew lA.out IA KA (by omega)).mono ?_; rintro e w5 ⟨v5, rfl, hc5, hv5⟩; have H5 := Lib.hid hc5.undrew; have IB5 := Lib.hid (IB.out.on H5.out.2.1); clear hc5 hv5)
                      | (go_simp; go_at_call 65; refine (l1Own_at (some ⟨b, o + i, none⟩) (ct - i) k B w5 lB.out IB5 KB (by omega)).mono ?_; rintro e w6 ⟨v6, rfl, hc6, hv6⟩; have H6 := Lib.hid hc6; have IC6 := Lib.hid (IC.out.on (H5.out.2.1.trans (H6.out.2.1.mono H5.out.2.1.size))); clear hc6 hv6)
                      | (go_simp; go_at_call 65; refine (l1Own_at (some ⟨b, o + (i + k), none⟩) (ct - (i + k)) (n - (i + k)) C w6 lC.out IC6 KC2 (by omega)).mono ?_; rintro e w7 ⟨v7, rfl, hc7, hv7⟩; have H7 := Lib.hid hc7; clear hc7 hv7))
                    all_goals
                      obtain ⟨⟨a5, c5, rfl, i5, o5, k5⟩, b5⟩ := coll_res H5.out
                      obtain ⟨⟨a6, c6, rfl, i6, o6, k6⟩, b6⟩ := coll_res H6.out
                      obtain ⟨⟨a7, c7, rfl, i7, o7, k7⟩, b7⟩ := coll_res H7.out
                      have s5 := B5.out.size
                      have s6 := b5.size
                      have s7 := b6.size
                      have HP2 : Hid (SSSIB A B C (j : Int) true w (.returned (.tuple #[.slice a5 A.length c5, .slice a6 B.length c6, .slice a7 C.length c7, .int .i64 (j : Int), .bool true])) w7) := Lib.hid
                        ⟨a5, c5, a6, c6, a7, c7, rfl, (i5.on b6).on b7, ((o5.on b6).on b7).mono s5, k5, i6.on b7, (o6.on b7).mono (Nat.le_trans s5 s6), k6, i7, o7.mono (Nat.le_trans s5 (Nat.le_trans s6 s7)), k7,
                          apart_of o5 o6 (Nat.le_refl _), apart_of o5 o7 s7, apart_of o6 o7 (Nat.le_refl _), ((B5.out.trans (b5.mono s5)).trans (b6.mono (Nat.le_trans s5 s6))).trans (b7.mono (Nat.le_trans s5 (Nat.le_trans s6 s7)))⟩
                      clear i5 o5 k5 b5 i6 o6 k6 b6 i7 o7 k7 b7 s5 s6 s7
                      go_wp2_with fail
                      refine bodyPost_ret (v := .tuple #[.slice a5 A.length c5, .slice a6 B.length c6, .slice a7 C.length c7, .int .i64 (j : Int), .bool true]) ?_ rfl ?_
                      · simp [results, Tryz.results24, go_sem]
                      · exact sssib_of HE.out.1.symm HE.out.2.1.symm HE.out.2.2.1.symm (by rw [HE.out.2.2.2.1]) HE.out.2.2.2.2.symm HP2.out
                · have HM : Hid (kFrom T i (n + 1 - i) 0 = none) := Lib.hid (by rw [← HFk.out, show n + 1 - i - k = 0 by omega]; rfl)
                  have hkn1 : ¬ (i : Int) + (k : Int) ≤ (n : Int) := by omega
                  go_wp2_with fail
                  go_roundw
                  case rel =>
                    refine ⟨i + 1, by omega, by go_num, ?_, HBk.out⟩
                    rw [← HFi.out, show n + 1 - i = (n + 1 - (i + 1)) + 1 by omega, iFrom_miss HM.out]
                  case measure => simp [intOf]; omega
            · obtain rfl : i = n + 1 := by omega
              have HM : Hid (iFrom T n (n + 1) 0 = none) := Lib.hid (by rw [← HFi.out, Nat.sub_self]; rfl)
              have hin1 : ¬ ((n + 1 : Nat) : Int) ≤ (n : Int) := by omega
              go_wp2_with fail
              go_roundw
              case rel =>
                refine ⟨j + 1, by omega, by go_num, ?_, B2.out.trans (HBi.out.mono B2.out.size)⟩
                rw [← HF.out, show c.length - j = (c.length - (j + 1)) + 1 by omega, tFrom_miss]
                rw [← HTj.out, ← HLT.out, ← HN.out]; exact HM.out
              case measure => simp [intOf]; omega
        · obtain rfl : j = c.length := by omega
          have HM : Hid (wicksAt xs = none) := Lib.hid (by rw [HWA2.out, ← HF.out, Nat.sub_self]; rfl)
          have HE := Lib.hid (wicks_none HM.out)
          have HB3 := Lib.hid (B1.out.trans (HB.out.mono B1.out.size))
          go_wp2_with fail
          refine bodyPost_ret (v := .tuple #[.slice (some ⟨w.heap.size, 0, none⟩) 0 0, .slice (some ⟨wr.heap.size, 0, none⟩) 0 0, .slice (some ⟨wr.heap.size + 1, 0, none⟩) 0 0, .int .i64 0, .bool false]) ?_ rfl ?_
          · simp [results, Tryz.results24, go_sem]
          · exact sssib_of HE.out.1.symm HE.out.2.1.symm HE.out.2.2.1.symm (by rw [HE.out.2.2.2.1]; rfl) HE.out.2.2.2.2.symm (wicks_none_post (cap_zero _) (cap_zero _) (cap_zero _) ((HB3.out.alloc HB3.out.size _).alloc (Nat.le_trans HB3.out.size (by simp)) _))
    · have HE := Lib.hid (wicks_none (xs := xs) (by rw [HWA.out, if_neg hp]))
      have hrem : (c.length : Int) % 2 = 1 := by omega
      clear hp
      go_loopw [10] (fun j wr => j = .int .i64 0 ∧ wr = w1) (fun j _ => 0)
      case atStart => exact ⟨rfl, rfl⟩
      case round =>
        obtain ⟨rfl, rfl⟩ := hrel
        go_wp2_with fail
        refine bodyPost_ret (v := .tuple #[.slice (some ⟨w.heap.size, 0, none⟩) 0 0, .slice (some ⟨wr.heap.size, 0, none⟩) 0 0, .slice (some ⟨wr.heap.size + 1, 0, none⟩) 0 0, .int .i64 0, .bool false]) ?_ rfl ?_
        · simp [results, Tryz.results24, go_sem]
        · exact sssib_of HE.out.1.symm HE.out.2.1.symm HE.out.2.2.1.symm (by rw [HE.out.2.2.2.1]; rfl) HE.out.2.2.2.2.symm (wicks_none_post (cap_zero _) (cap_zero _) (cap_zero _) ((B1.out.alloc B1.out.size _).alloc (Nat.le_trans B1.out.size (by simp)) _))

end Go.Proofs.YtmcbaejgimopmaaGreat
