/- Contracts: impl.ruleThat and its closure, fallsAs and its closure; spec.l7Code, l7Rule. Contracts: impl.fallsAs and its closure, firstWordThat with whatever function value judges words; spec.l7First. Conditions: at most three nails, letters, lengths that fit; at most three nails, the table of greatest lengths as the program's text lays it. -/
import Derived.Test.YthamckchfhddjaaDoorJudge7
import Derived.Test.YthamckchfhddjaaDoorFalls
import Derived.Test.YthamckchfhddjaaDoorLater
import Derived.Test.YthamckchfhddjaaDoorFamSpec
namespace Go.Proofs.YthamckchfhddjaaDoor.Plain
set_option linter.unusedVariables false

/-- A rule of the nails 1..n. -/
def ruleT (t : Nat → Bool) (n : Nat) : Nat → Bool := fun s => decide (s < 2 ^ n) && t s
def codeTo (t : Nat → Bool) : Nat → Nat
  | 0 => 0
  | k + 1 => if t k = true then codeTo t k ||| 2 ^ k else codeTo t k
theorem codeTo_lt (t : Nat → Bool) (k : Nat) : codeTo t k < 2 ^ k := by
  induction k with
  | zero => simp [codeTo]
  | succ k ih =>
    have h1 : codeTo t k < 2 ^ (k + 1) := Nat.lt_of_lt_of_le ih (Nat.pow_le_pow_right (by decide) (by omega))
    rw [codeTo]
    split
    · exact Nat.or_lt_two_pow h1 (Nat.pow_lt_pow_right (by decide) (by omega))
    · exact h1
theorem codeTo_bit (t : Nat → Bool) (k i : Nat) : (codeTo t k).testBit i = (decide (i < k) && t i) := by
  induction k with
  | zero => simp [codeTo]
  | succ k ih =>
    rw [codeTo]
    by_cases he : i = k
    · subst he
      split
      · rename_i h; rw [Nat.testBit_or, Nat.testBit_two_pow_self, h]; simp
      · rename_i h; rw [ih]; simp [h]
    · have h2 : (2 ^ k).testBit i = false := by rw [Nat.testBit_two_pow]; simp; omega
      split
      · rw [Nat.testBit_or, ih, h2, Bool.or_false, decide_eq_decide.2 (show i < k ↔ i < k + 1 by omega)]
      · rw [ih, decide_eq_decide.2 (show i < k ↔ i < k + 1 by omega)]
theorem code_eq {t u : Nat → Bool} {k : Nat} : codeTo t k = codeTo u k ↔ ∀ i, i < k → t i = u i := by
  constructor
  · intro h i hi
    have := congrArg (·.testBit i) h
    simp only [codeTo_bit, decide_eq_true hi, Bool.true_and] at this
    exact this
  · intro h
    refine Nat.eq_of_testBit_eq fun i => ?_
    rw [codeTo_bit, codeTo_bit]
    by_cases hi : i < k
    · rw [h i hi]
    · simp [hi]
/-- A word is judged by its rule, as a table or as a number. -/
theorem rule_code {t u : Nat → Bool} {n : Nat} (hn : n ≤ 6) : alike (ruleT t n) (ruleT u n) = decide (codeTo t (2 ^ n) = codeTo u (2 ^ n)) := by
  have hp : 2 ^ n ≤ 64 := Nat.le_trans (Nat.pow_le_pow_right (by decide) hn) (by decide)
  rw [Bool.eq_iff_iff, decide_eq_true_iff, code_eq, alike, alikeTo_iff]
  constructor
  · intro h i hi
    have := h i (by omega)
    simpa [ruleT, hi] using this
  · intro h i hi
    by_cases hlt : i < 2 ^ n
    · simp [ruleT, hlt, h i hlt]
    · simp [ruleT, hlt]

end Go.Proofs.YthamckchfhddjaaDoor.Plain

namespace Go.Proofs.YthamckchfhddjaaDoor
open Go.ChangeShapes Go.WideShapes Go.ChangeAt Go.RowKit
set_option linter.unusedVariables false

theorem or_mid (a b : Nat) (ha : a < 256) (hb : b < 256) : bits .or .i64 (a : Int) (b : Int) = ((a ||| b : Nat) : Int) := by
  show IntKind.i64.wrap ((BitVec.ofInt 64 (a : Int) ||| BitVec.ofInt 64 (b : Int)).toNat : Int) = _
  rw [BitVec.toNat_or, ofInt_u64 a (by omega), ofInt_u64 b (by omega)]
  have : a ||| b < 256 := Nat.or_lt_two_pow (n := 8) ha hb
  exact IntWalk.i64_in _ (by omega)
set_option maxRecDepth 100000 in
set_option maxHeartbeats 1600000 in
theorem l7Code_any (a : Option Addr) (cap : Nat) (xs : List Int) (n : Nat) (w : World) (h : Hid (Ints w a xs)) (hl : Hid (Plain.Letters xs)) (hx : xs.length ≤ 1048576) (hn : n ≤ 3) :
    Calls Tryd.prog 45 #[.slice a xs.length cap, .int .i64 (n : Int)] w (Val (.int .i64 ((Plain.codeTo (Plain.fallsB xs) (2 ^ n) : Nat) : Int)) w) := by
  obtain ⟨N, hN⟩ : ∃ N, N = 2 ^ n := ⟨_, rfl⟩
  have hpow : (2 : Int) ^ n = (N : Int) := by rw [hN]; simp
  have hN8 : N ≤ 8 := by rw [hN]; exact Nat.le_trans (Nat.pow_le_pow_right (by decide) hn) (by decide)
  rw [← hN]
  clear hN
  go_enter Tryd.func45, Tryd.ntmps45
  go_wp2_with fail
  go_loopw [5, 6] (fun c i wr => ∃ k q : Nat, k ≤ N ∧ i = .int .i64 (k : Int) ∧ c = .int .i64 (q : Int) ∧ q = Plain.codeTo (Plain.fallsB xs) k ∧ Below w.heap.size w wr) (fun _ i _ => N - (intOf i).toNat)
  case atStart => exact ⟨0, 0, Nat.zero_le _, rfl, rfl, rfl, Below.refl _ _⟩
  case round =>
    obtain ⟨k, q, hk, rfl, rfl, hq, hbw⟩ := hrel
    by_cases hlt : k < N
    · have hST : Plain.codeTo (Plain.fallsB xs) (k + 1) = if Plain.fallsB xs k = true then q ||| 2 ^ k else q := by rw [Plain.codeTo, hq]
      have hqlt : q < 256 := by rw [hq]; exact Nat.lt_of_lt_of_le (Plain.codeTo_lt _ k) (Nat.le_trans (Nat.pow_le_pow_right (by decide) (show k ≤ 8 by omega)) (by decide))
      obtain ⟨Q, hQ⟩ : ∃ Q, Q = 2 ^ k := ⟨_, rfl⟩
      have hpk : (2 : Int) ^ k = (Q : Int) := by rw [hQ]; simp
      have hQlt : Q < 256 := by rw [hQ]; exact Nat.lt_of_le_of_lt (Nat.pow_le_pow_right (by decide) (show k ≤ 7 by omega)) (by decide)
      have hor := or_mid q Q hqlt hQlt
      rw [← hQ] at hST
      have HST := Lib.hid hST
      have HI := Lib.hid (h.out.on hbw)
      have HBW := Lib.hid hbw
      have hi : (k : Int) < (N : Int) := by omega
      have hi0 : (0 : Int) ≤ (k : Int) := by omega
      have hwp : IntKind.i64.wrap (Q : Int) = (Q : Int) := IntWalk.i64_in _ (by omega)
      clear hq hST hbw hQ
      go_wp2_with fail
      refine (l3Falls_any a cap xs k _ HI hl hx (by omega)).mono ?_
      cases hf : Plain.fallsB xs k with
      | true =>
        rw [hf] at HST
        rintro e w2 ⟨rfl, hb⟩
        have HB2 := Lib.hid (HBW.out.trans (hb.mono HBW.out.size))
        clear hb hf
        go_wp2_with fail
        go_roundw
        case rel => exact ⟨k + 1, q ||| Q, by omega, by go_num, by go_num, by rw [HST.out]; rfl, HB2.out⟩
        case measure => simp [intOf]; omega
      | false =>
        rw [hf] at HST
        rintro e w2 ⟨rfl, hb⟩
        have HB2 := Lib.hid (HBW.out.trans (hb.mono HBW.out.size))
        clear hb hf
        go_wp2_with fail
        go_roundw
        case rel => exact ⟨k + 1, q, by omega, by go_num, rfl, by rw [HST.out]; rfl, HB2.out⟩
        case measure => simp [intOf]; omega
    · obtain rfl : k = N := by omega
      have HQ := Lib.hid (And.intro hq hbw)
      have hi : ¬ (k : Int) < (k : Int) := by omega
      clear hq hbw
      go_wp2_with fail
      go_ret
      exact ⟨ret_int (by rw [← HQ.out.1]), HQ.out.2⟩
set_option maxRecDepth 100000 in
set_option maxHeartbeats 1600000 in
theorem l7Rule_any (a : Option Addr) (cap : Nat) (fs : List Int) (n : Nat) (w : World) (h : Hid (Ints w a fs)) (hx : Hid (Plain.setsB fs = true)) (hf : fs.length ≤ 1048576) (hn : n ≤ 3) :
    Calls Tryd.prog 44 #[.agg #[.slice a fs.length cap], .int .i64 (n : Int)] w (Val (.int .i64 ((Plain.codeTo (Plain.hasB fs) (2 ^ n) : Nat) : Int)) w) := by
  have hb0 := (Below.refl w.heap.size w).alloc (Nat.le_refl _) (.cells #[.slice a fs.length cap] 35)
  have H0 := Lib.hid (And.intro hb0 (And.intro (h.out.on hb0) (famAt_new w (.slice a fs.length cap))))
  clear hb0
  obtain ⟨N, hN⟩ : ∃ N, N = 2 ^ n := ⟨_, rfl⟩
  have hpow : (2 : Int) ^ n = (N : Int) := by rw [hN]; simp
  have hN8 : N ≤ 8 := by rw [hN]; exact Nat.le_trans (Nat.pow_le_pow_right (by decide) hn) (by decide)
  rw [← hN]
  clear hN
  go_enter Tryd.func44, Tryd.ntmps44
  go_wp2_with fail
  obtain ⟨W, hW⟩ : ∃ W, W = w.alloc (.cells #[.slice a fs.length cap] 35) := ⟨_, rfl⟩
  rw [← hW] at H0 ⊢
  clear hW
  go_loopw [5, 6] (fun c i wr => ∃ k q : Nat, k ≤ N ∧ i = .int .i64 (k : Int) ∧ c = .int .i64 (q : Int) ∧ q = Plain.codeTo (Plain.hasB fs) k ∧ Below W.heap.size W wr) (fun _ i _ => N - (intOf i).toNat)
  case atStart => exact ⟨0, 0, Nat.zero_le _, rfl, rfl, rfl, Below.refl _ _⟩
  case round =>
    obtain ⟨k, q, hk, rfl, rfl, hq, hbw⟩ := hrel
    by_cases hlt : k < N
    · have hST : Plain.codeTo (Plain.hasB fs) (k + 1) = if Plain.hasB fs k = true then q ||| 2 ^ k else q := by rw [Plain.codeTo, hq]
      have hqlt : q < 256 := by rw [hq]; exact Nat.lt_of_lt_of_le (Plain.codeTo_lt _ k) (Nat.le_trans (Nat.pow_le_pow_right (by decide) (show k ≤ 8 by omega)) (by decide))
      obtain ⟨Q, hQ⟩ : ∃ Q, Q = 2 ^ k := ⟨_, rfl⟩
      have hpk : (2 : Int) ^ k = (Q : Int) := by rw [hQ]; simp
      have hQlt : Q < 256 := by rw [hQ]; exact Nat.lt_of_le_of_lt (Nat.pow_le_pow_right (by decide) (show k ≤ 7 by omega)) (by decide)
      have hor := or_mid q Q hqlt hQlt
      rw [← hQ] at hST
      have HST := Lib.hid hST
      have HI := Lib.hid (H0.out.2.1.on hbw)
      have hcf := (H0.out.2.2.on hbw).cell
      have HBW := Lib.hid hbw
      have hi : (k : Int) < (N : Int) := by omega
      have hi0 : (0 : Int) ≤ (k : Int) := by omega
      have hwp : IntKind.i64.wrap (Q : Int) = (Q : Int) := IntWalk.i64_in _ (by omega)
      clear hq hST hbw hQ
      go_wp2_with fail
      clear hcf
      refine (l5Has_any a cap fs k _ HI hx (by omega) (by omega)).mono ?_
      cases hf : Plain.hasB fs k with
      | true =>
        rw [hf] at HST
        rintro e w2 ⟨rfl, hb⟩
        have HB2 := Lib.hid (HBW.out.trans (hb.mono HBW.out.size))
        clear hb hf
        go_wp2_with fail
        go_roundw
        case rel => exact ⟨k + 1, q ||| Q, by omega, by go_num, by go_num, by rw [HST.out]; rfl, HB2.out⟩
        case measure => simp [intOf]; omega
      | false =>
        rw [hf] at HST
        rintro e w2 ⟨rfl, hb⟩
        have HB2 := Lib.hid (HBW.out.trans (hb.mono HBW.out.size))
        clear hb hf
        go_wp2_with fail
        go_roundw
        case rel => exact ⟨k + 1, q, by omega, by go_num, rfl, by rw [HST.out]; rfl, HB2.out⟩
        case measure => simp [intOf]; omega
    · obtain rfl : k = N := by omega
      have HQ := Lib.hid (And.intro hq (H0.out.1.trans (hbw.mono H0.out.1.size)))
      have hi : ¬ (k : Int) < (k : Int) := by omega
      clear hq hbw
      go_wp2_with fail
      go_ret
      exact ⟨ret_int (by rw [← HQ.out.1]), HQ.out.2⟩
theorem enters_box {w : World} {g : Nat} {T : TypeId} {v : Value} (h : w.heap[g]? = some (.cells #[v] T (0, 0))) : w.cell? ⟨g, 0, none⟩ = some v := by
  rw [cell_of_row w g 0 _ _ _ h]
  rfl
set_option maxHeartbeats 800000 in
theorem rulePart (f : Nat) (bs cs : Array Value) (t : Nat → Bool) (n g1 g2 : Nat) (w : World) (eg : ∀ args w, (callFunc f args).run Tryd.prog w = .ok (.enter f args) w) (hn : n ≤ 6) (hp : Hid (Tells f bs cs t w))
    (h1 : Hid (w.cell? ⟨g1, 0, none⟩ = some (.int .i64 (n : Int)))) (h2 : Hid (w.cell? ⟨g2, 0, none⟩ = some (.func (.func f) bs cs))) :
    Tells 88 #[] #[.pointer (some ⟨g1, 0, none⟩), .pointer (some ⟨g2, 0, none⟩)] (Plain.ruleT t n) w := fun s W hs hb => by
  obtain ⟨m, hm⟩ : ∃ m, m + 1 = 2 ^ n := ⟨2 ^ n - 1, by have := Nat.pow_pos (a := 2) (n := n) (by decide); omega⟩
  have hm64 := (pow7_m hn hm).2
  have hE := clr_lowB hs hn hm
  have HCALL := Lib.hid (hp.out s W hs hb)
  have hc1 := cell_later hb h1.out
  have hc2 := cell_later hb h2.out
  have HM := Lib.hid hm
  clear hb hm
  show Calls Tryd.prog 88 #[.int .i64 (s : Int), .pointer (some ⟨g1, 0, none⟩), .pointer (some ⟨g2, 0, none⟩)] W _
  by_cases hlt : s < 2 ^ n
  · have HR : Hid (Plain.ruleT t n s = t s) := Lib.hid (by simp [Plain.ruleT, hlt])
    have HE := Lib.hid (hE.trans (decide_eq_true hlt))
    clear hE hlt
    have hcall := HCALL.out
    go_enter Tryd.func88, Tryd.ntmps88
    go_wp2_with fail
    refine (first7_any n m _ hn HM.out).mono ?_
    rintro e w2 ⟨rfl, rfl⟩
    go_wp2_with fail
    refine (part7_any s m _ hs hm64).mono ?_
    rw [HE.out]
    rintro e w2 ⟨rfl, rfl⟩
    go_wp2_with fail
    refine hcall.mono ?_
    rintro e w2 ⟨rfl, hb⟩
    have HB := Lib.hid hb
    clear hb hcall hc1 hc2
    go_wp2_with fail
    go_ret
    exact ⟨ret_bool HR.out.symm, HB.out⟩
  · have HR : Hid (Plain.ruleT t n s = false) := Lib.hid (by simp [Plain.ruleT, hlt])
    have HE := Lib.hid (hE.trans (decide_eq_false hlt))
    clear hE hlt
    go_enter Tryd.func88, Tryd.ntmps88
    go_wp2_with fail
    refine (first7_any n m _ hn HM.out).mono ?_
    rintro e w2 ⟨rfl, rfl⟩
    go_wp2_with fail
    refine (part7_any s m _ hs hm64).mono ?_
    rw [HE.out]
    rintro e w2 ⟨rfl, rfl⟩
    go_wp2_with fail
    go_ret
    exact ⟨ret_bool HR.out.symm, Below.refl _ _⟩
set_option maxRecDepth 100000 in
set_option maxHeartbeats 1600000 in
theorem ruleThat_any (f : Nat) (bs cs : Array Value) (t : Nat → Bool) (n : Nat) (w : World) (eg : ∀ args w, (callFunc f args).run Tryd.prog w = .ok (.enter f args) w) (hn : n ≤ 6) (hp : Hid (Tells f bs cs t w)) :
    Calls Tryd.prog 57 #[.func (.func f) bs cs, .int .i64 (n : Int)] w (Val (.agg (bools (Plain.ruleT t n))) w) := by
  have k1 := heap_alloc_new w (.cells #[.func (.func f) bs cs] 56)
  have b1 : Below w.heap.size w (w.alloc (.cells #[.func (.func f) bs cs] 56)) := (Below.refl _ _).alloc (Nat.le_refl _) _
  have k2 := heap_alloc2_new w (.cells #[.func (.func f) bs cs] 56) (.cells #[.int .i64 (n : Int)] 3)
  have b2 : Below (w.alloc (.cells #[.func (.func f) bs cs] 56)).heap.size (w.alloc (.cells #[.func (.func f) bs cs] 56)) ((w.alloc (.cells #[.func (.func f) bs cs] 56)).alloc (.cells #[.int .i64 (n : Int)] 3)) := (Below.refl _ _).alloc (Nat.le_refl _) _
  have k3 := tabF_new ((w.alloc (.cells #[.func (.func f) bs cs] 56)).alloc (.cells #[.int .i64 (n : Int)] 3)) (fun _ => false)
  have b3 : Below ((w.alloc (.cells #[.func (.func f) bs cs] 56)).alloc (.cells #[.int .i64 (n : Int)] 3)).heap.size ((w.alloc (.cells #[.func (.func f) bs cs] 56)).alloc (.cells #[.int .i64 (n : Int)] 3)) _ := (Below.refl _ _).alloc (Nat.le_refl _) (.cells (bools fun _ => false) 63)
  have c1 := cell_later b3 (cell_later b2 (enters_box k1))
  have c2 := cell_later b3 (enters_box k2)
  have bb := b1.trans ((b2.trans (b3.mono (by simp))).mono (by simp))
  have hz : ((w.alloc (.cells #[.func (.func f) bs cs] 56)).alloc (.cells #[.int .i64 (n : Int)] 3)).heap.size = w.heap.size + 1 + 1 := by simp
  rw [hz] at k3
  have H0 := Lib.hid (And.intro c1 (And.intro c2 (And.intro k3 bb)))
  clear k1 b1 k2 b2 k3 b3 c1 c2 bb hz
  go_enter Tryd.func57, Tryd.ntmps57
  go_wp2_with fail
  rw [← bools_zero]
  obtain ⟨W, hW⟩ : ∃ W, W = ((w.alloc (.cells #[.func (.func f) bs cs] 56)).alloc (.cells #[.int .i64 (n : Int)] 3)).alloc (.cells (bools fun _ => false) 63) := ⟨_, rfl⟩
  rw [← hW] at H0 ⊢
  clear hW
  refine (tableThat_any 88 #[] #[.pointer (some ⟨w.heap.size + 1, 0, none⟩), .pointer (some ⟨w.heap.size, 0, none⟩)] (Plain.ruleT t n) _ (enters_of Tryd.func88 (by kernel_rfl) rfl)
    (Lib.hid (rulePart f bs cs t n (w.heap.size + 1) w.heap.size _ eg hn (Lib.hid (hp.out.on H0.out.2.2.2)) (Lib.hid H0.out.2.1) (Lib.hid H0.out.1)))).mono ?_
  rintro e w1 ⟨rfl, hb⟩
  have HT2 := Lib.hid (H0.out.2.2.1.on hb)
  have HF := Lib.hid (tabF_row (t := Plain.ruleT t n) HT2.out)
  have HB := Lib.hid (below_setRow (H0.out.2.2.2.trans (hb.mono H0.out.2.2.2.size)) (g := w.heap.size + 1 + 1) (by omega) (bools (Plain.ruleT t n)))
  clear hb
  go_wp2_with (refine wpList_store_row rfl 63 _ _ rfl (w.heap.size + 1 + 1) (bools (Plain.ruleT t n)) rfl rfl 63 _ HT2.out info64f rfl (bools_one _) ?_)
  exact bodyPost_ret (v := .agg (bools (Plain.ruleT t n))) (results_cell_row rfl _ _ (w.heap.size + 1 + 1) 63 _ (0, 0) _ rfl HF.out Tryd.underlying63 rfl info64f) rfl ⟨rfl, HB.out⟩

end Go.Proofs.YthamckchfhddjaaDoor

namespace Go.Proofs.YthamckchfhddjaaDoor
open Go.ChangeShapes Go.WideShapes Go.ChangeAt Go.RowKit
set_option linter.unusedVariables false

/-- Judged by a rule. -/
def likeP (n : Nat) (t : Nat → Bool) (xs : List Int) : Bool := Plain.alike (Plain.ruleT (Plain.fallsB xs) n) (Plain.ruleT t n)
set_option maxRecDepth 100000 in
set_option maxHeartbeats 1600000 in
theorem fallsJudge (t : Nat → Bool) (n g1 g2 : Nat) (w : World) (hn : n ≤ 6) (h1 : Hid (w.cell? ⟨g1, 0, none⟩ = some (.int .i64 (n : Int)))) (h2 : Hid (TabF w g2 (Plain.ruleT t n))) :
    Judges 74 #[] #[.pointer (some ⟨g1, 0, none⟩), .pointer (some ⟨g2, 0, none⟩)] (likeP n t) w := fun a cap xs W hb hi hl hx => by
  have HI := Lib.hid hi
  have HL := Lib.hid hl
  have HC := Lib.hid (cell_later hb h1.out)
  have HT := Lib.hid (h2.out.on hb)
  clear hb hi hl
  show Calls Tryd.prog 74 #[.slice a xs.length cap, .pointer (some ⟨g1, 0, none⟩), .pointer (some ⟨g2, 0, none⟩)] W _
  have hload : ∀ p : Later W, (loadVar 63 ⟨g2, 0, none⟩).run Tryd.prog p.W = .ok (.agg (bools (Plain.ruleT t n))) p.W := fun p => tabF_load (HT.out.on p.ok)
  have HLD := Lib.hid hload
  have hcl : ∀ p : Later W, p.W.cell? ⟨g1, 0, none⟩ = some (.int .i64 (n : Int)) := fun p => cell_later p.ok HC.out
  have hrun : ∀ p : Later W, Sem.run Tryd.prog (Op.equalIn 10000 63 (.agg (bools (Plain.ruleT (Plain.fallsB xs) n))) (.agg (bools (Plain.ruleT t n)))) p.W = .ok (Plain.alike (Plain.ruleT (Plain.fallsB xs) n) (Plain.ruleT t n)) p.W := fun p => run_tabsF p.W _ _
  have HTELL : Hid (∀ p : Later W, Tells 55 #[.slice a xs.length cap] #[] (Plain.fallsB xs) p.W) := Lib.hid (fun p s W' hs hb => by
    simpa using falls_any a cap xs s W' (Lib.hid (HI.out.on (p.ok.trans (hb.mono p.ok.size)))) HL (by omega) hs)
  clear hload
  go_enter Tryd.func74, Tryd.ntmps74
  go_wp2_with fail
  refine wp_region_below (by kernel_rfl) (by kernel_rfl) ?_
  repeat (first
    | (refine later_row rfl 63 _ rfl g2 rfl (bools (Plain.ruleT t n)) HLD.out ?_)
    | quiet_step ((go_at_call 57; exact later_of (ruleThat_any 55 #[.slice a xs.length cap] #[] (Plain.fallsB xs) n _ (enters_of Tryd.func55 (by kernel_rfl) rfl) hn (Lib.hid (HTELL.out _))))))
  refine wpQuiet_nil ?_
  intro _ hw'
  obtain ⟨⟨wx, hwx⟩, rfl⟩ := hw'
  go_wp2_with fail
  go_ret
  exact ⟨rfl, hwx⟩
set_option maxRecDepth 100000 in
set_option maxHeartbeats 1600000 in
theorem fallsAs_any (f : Nat) (bs cs : Array Value) (t : Nat → Bool) (n : Nat) (w : World) (eg : ∀ args w, (callFunc f args).run Tryd.prog w = .ok (.enter f args) w) (hn : n ≤ 6) (hp : Hid (Tells f bs cs t w)) :
    Calls Tryd.prog 47 #[.func (.func f) bs cs, .int .i64 (n : Int)] w (fun e w' => ∃ g1 g2, e = .returned (.func (.func 74) #[] #[.pointer (some ⟨g1, 0, none⟩), .pointer (some ⟨g2, 0, none⟩)]) ∧ Judges 74 #[] #[.pointer (some ⟨g1, 0, none⟩), .pointer (some ⟨g2, 0, none⟩)] (likeP n t) w' ∧ Below w.heap.size w w') := by
  have k1 := enters_box (heap_alloc_new w (.cells #[.int .i64 (n : Int)] 3))
  have b1 : Below w.heap.size w (w.alloc (.cells #[.int .i64 (n : Int)] 3)) := (Below.refl _ _).alloc (Nat.le_refl _) _
  have H0 := Lib.hid (And.intro k1 b1)
  have hc := k1
  clear k1 b1
  go_enter Tryd.func47, Tryd.ntmps47
  go_wp2_with fail
  obtain ⟨W, hW⟩ : ∃ W, W = w.alloc (.cells #[.int .i64 (n : Int)] 3) := ⟨_, rfl⟩
  rw [← hW] at H0 ⊢
  clear hW hc
  refine (ruleThat_any f bs cs t n _ eg hn (Lib.hid (hp.out.on H0.out.2))).mono ?_
  rintro e w1 ⟨rfl, hb⟩
  have hb2 : Below w1.heap.size w1 (w1.alloc (.cells (bools fun _ => false) 63)) := (Below.refl _ _).alloc (Nat.le_refl _) _
  have ht1 := tabF_new w1 (fun _ => false)
  have ht2 := tabF_row (t := Plain.ruleT t n) ht1
  have hb3 := below_setRow (g := w1.heap.size) hb2 (Nat.le_refl _) (bools (Plain.ruleT t n))
  have hc3 := cell_later hb3 (cell_later hb H0.out.1)
  have H3 := Lib.hid (And.intro ht1 (And.intro ht2 (And.intro hc3 (H0.out.2.trans ((hb.trans (hb3.mono hb.size)).mono H0.out.2.size)))))
  clear hb hb2 ht1 ht2 hb3 hc3
  go_wp2_with (refine wpList_store_row rfl 63 _ _ rfl w1.heap.size (bools (Plain.ruleT t n)) rfl rfl 63 (bools fun _ => false) (by rw [bools_zero]; exact heap_alloc_new _ _) info64f rfl (bools_one _) ?_)
  rw [← bools_zero]
  go_wp2_with fail
  go_ret
  exact ⟨_, _, rfl, fallsJudge t n _ _ _ hn (Lib.hid H3.out.2.2.1) (Lib.hid H3.out.2.1), H3.out.2.2.2⟩
/-- The first word that serves, of all that are searched for. -/
def wordsTo (n : Nat) : Nat → List (List Int)
  | 0 => []
  | k + 1 => wordsTo n k ++ Plain.allB (2 * n) k
def firstOf (p : List Int → Bool) (n : Nat) : Option (List Int) := (wordsTo n ((longN (n : Int)).toNat + 1)).find? p
theorem find_none {p : List Int → Bool} {A B : List (List Int)} (h : A.find? p = none) : (A ++ B).find? p = B.find? p := by rw [List.find?_append, h]; rfl
theorem find_hit {p : List Int → Bool} {A B C : List (List Int)} {k : Nat} {x : List Int} (h : A.find? p = none) (h2 : (B.take k).find? p = none) (hx : B[k]? = some x) (hp : p x = true) : ((A ++ B) ++ C).find? p = some x := by
  have hB : B = B.take k ++ (x :: B.drop (k + 1)) := by
    have := List.take_append_drop k B
    rw [List.drop_eq_getElem_cons (by exact (List.getElem?_eq_some_iff.1 hx).1), (List.getElem?_eq_some_iff.1 hx).2] at this
    exact this.symm
  rw [List.find?_append, List.find?_append, h, hB, List.find?_append, h2]
  simp [hp]
theorem find_more {p : List Int → Bool} {B : List (List Int)} {k : Nat} {x : List Int} (h : (B.take k).find? p = none) (hx : B[k]? = some x) (hp : p x = false) : (B.take (k + 1)).find? p = none := by
  rw [List.take_add_one, hx, List.find?_append, h]
  simp [hp]
theorem wordsTo_more (n : Nat) {j k : Nat} (h : j ≤ k) : ∃ C, wordsTo n k = wordsTo n j ++ C := by
  induction h with
  | refl => exact ⟨[], by simp⟩
  | step _ ih =>
    obtain ⟨C, hC⟩ := ih
    exact ⟨C ++ Plain.allB (2 * n) _, by rw [wordsTo, hC, List.append_assoc]⟩
theorem first_hit {p : List Int → Bool} {n l k : Nat} {x : List Int} (hl : l ≤ (longN (n : Int)).toNat) (h : (wordsTo n l).find? p = none) (h2 : ((Plain.allB (2 * n) l).take k).find? p = none) (hx : (Plain.allB (2 * n) l)[k]? = some x) (hp : p x = true) : firstOf p n = some x := by
  obtain ⟨C, hC⟩ := wordsTo_more n (show l + 1 ≤ (longN (n : Int)).toNat + 1 by omega)
  rw [firstOf, hC, wordsTo]
  exact find_hit h h2 hx hp
theorem first_next {p : List Int → Bool} {n l : Nat} (h : (wordsTo n l).find? p = none) (h2 : (Plain.allB (2 * n) l).find? p = none) : (wordsTo n (l + 1)).find? p = none := by rw [wordsTo, find_none h, h2]
theorem long_at {n : Nat} (h1 : 1 ≤ n) (h3 : n ≤ 3) : ∃ B : Nat, longN (n : Int) = (B : Int) ∧ B ≤ 8 ∧ ∀ l, l ≤ B → (2 * n) ^ l ≤ 100000 := by
  have hh : n = 1 ∨ n = 2 ∨ n = 3 := by omega
  rcases hh with rfl | rfl | rfl
  · exact ⟨8, rfl, by decide, fun l hl => Nat.le_trans (Nat.pow_le_pow_right (by decide) hl) (by decide)⟩
  · exact ⟨8, rfl, by decide, fun l hl => Nat.le_trans (Nat.pow_le_pow_right (by decide) hl) (by decide)⟩
  · exact ⟨5, rfl, by decide, fun l hl => Nat.le_trans (Nat.pow_le_pow_right (by decide) hl) (by decide)⟩
set_option maxRecDepth 100000 in
set_option maxHeartbeats 4000000 in
theorem l7First_any (t : Nat → Bool) (n : Nat) (w : World) (h1 : 1 ≤ n) (h3 : n ≤ 3) :
    Calls Tryd.prog 50 #[.int .i64 ((Plain.codeTo t (2 ^ n) : Nat) : Int), .int .i64 (n : Int)] w (SB ((firstOf (likeP n t) n).getD []) (firstOf (likeP n t) n).isSome w) := by
  obtain ⟨B, hB, hB8, hpow⟩ := long_at h1 h3
  have HPW := Lib.hid hpow
  have HLB := Lib.hid hB
  have hcl : Plain.codeTo t (2 ^ n) < 256 := Nat.lt_of_lt_of_le (Plain.codeTo_lt _ _) (Nat.le_trans (Nat.pow_le_pow_right (by decide) (show 2 ^ n ≤ 8 from Nat.le_trans (Nat.pow_le_pow_right (by decide) h3) (by decide))) (by decide))
  have HLIKE : Hid (∀ xs, likeP n t xs = decide (Plain.codeTo (Plain.fallsB xs) (2 ^ n) = Plain.codeTo t (2 ^ n))) := Lib.hid (fun xs => Plain.rule_code (by omega))
  have HHIT : Hid (∀ l k x, l ≤ B → (wordsTo n l).find? (likeP n t) = none → ((Plain.allB (2 * n) l).take k).find? (likeP n t) = none → (Plain.allB (2 * n) l)[k]? = some x → likeP n t x = true → firstOf (likeP n t) n = some x) := Lib.hid (fun l k x hl => first_hit (by rw [hB]; simpa using hl))
  have HEND : Hid ((wordsTo n (B + 1)).find? (likeP n t) = none → firstOf (likeP n t) n = none) := Lib.hid (fun h => by rw [firstOf, hB, Int.toNat_natCast]; exact h)
  obtain ⟨R, hR⟩ : ∃ R, R = Plain.codeTo t (2 ^ n) := ⟨_, rfl⟩
  rw [← hR] at HLIKE hcl ⊢
  clear hR hpow hB
  go_enter Tryd.func50, Tryd.ntmps50
  go_wp2_with fail
  go_loopw [6] (fun i wr => ∃ l : Nat, l ≤ B + 1 ∧ i = .int .i64 (l : Int) ∧ (wordsTo n l).find? (likeP n t) = none ∧ Below w.heap.size w wr) (fun i _ => B + 1 - (intOf i).toNat)
  case atStart => exact ⟨0, Nat.zero_le _, rfl, rfl, Below.refl _ _⟩
  case round =>
    obtain ⟨l, hl, rfl, hno, hbw⟩ := hrel
    by_cases hlt : l ≤ B
    · have HNO := Lib.hid hno
      have HBW := Lib.hid hbw
      have hi : (l : Int) ≤ (B : Int) := by omega
      have hi0 : (0 : Int) ≤ (l : Int) := by omega
      have hpl := HPW.out l hlt
      have HOK : Hid (∀ xs ∈ Plain.allB (2 * n) l, Plain.Letters xs ∧ xs.length ≤ 8) := Lib.hid (fun xs hx => by
        have h2 := Plain.allB_mem (m := 2 * n) (by omega) hx
        exact ⟨h2.2, by omega⟩)
      have hall : (Plain.allB (2 * n) l).length ≤ 100000 := Nat.le_trans (allB_len _ _) hpl
      have HNEXT : Hid ((Plain.allB (2 * n) l).find? (likeP n t) = none → (wordsTo n (l + 1)).find? (likeP n t) = none) := Lib.hid (first_next hno)
      have HH := Lib.hid (fun k x => HHIT.out l k x hlt hno)
      have HALL := Lib.hid (l7All_any n l)
      clear hno hbw
      go_wp2_with fail
      refine (l7Bound_any (n : Int) _).mono ?_
      rw [HLB.out]
      rintro e w' ⟨rfl, rfl⟩
      go_wp2_with fail
      refine (HALL.out _ h1 h3 (by omega) hpl).mono ?_
      obtain ⟨A, hA⟩ : ∃ A, A = Plain.allB (2 * n) l := ⟨_, rfl⟩
      rw [← hA] at hall HOK HNEXT HH ⊢
      clear hA HALL
      rintro e w1 ⟨v1, gs, rfl, hgs, hC⟩
      have hgl : gs.length = A.length := by rw [← lists_length, hgs]
      have hgm : gs.length ≤ 100000 := by omega
      have HC := Lib.hid hC
      have HGS := Lib.hid hgs
      have HB1 := Lib.hid (HBW.out.trans (hC.2.2.1.mono HBW.out.size))
      have HWS := Lib.hid HBW.out.size
      obtain ⟨a, c, rfl, -, -, -, -⟩ := collF_facs hC
      clear hC hgs
      go_wp2_with fail
      go_loopw [8] (fun i wr => ∃ k : Nat, k ≤ gs.length ∧ i = .int .i64 k ∧ (A.take k).find? (likeP n t) = none ∧ Below w1.heap.size w1 wr) (fun i _ => gs.length - (intOf i).toNat)
      case atStart => exact ⟨0, Nat.zero_le _, rfl, rfl, Below.refl _ _⟩
      case round =>
        obtain ⟨k, hk, rfl, hno, hbw⟩ := hrel
        by_cases hlt2 : k < gs.length
        · obtain ⟨f, hf⟩ := at_some gs k hlt2
          obtain ⟨b, c', e5, hcg, hfk⟩ := facs_coll HC.out hf
          cases e5
          have hfa := lists_at hf
          rw [HGS.out] at hfa
          obtain ⟨fa, fc, fl⟩ := f
          dsimp only at hfa
          have hok := HOK.out fl (List.mem_of_getElem? hfa)
          have hc := cell_later hbw hcg
          simp only [facVal] at hc
          have HFK := Lib.hid (hfk.mono HWS.out)
          have HCG := Lib.hid hcg
          have HI := Lib.hid (hfk.1.on hbw)
          have HL := Lib.hid hok.1
          have h8 := hok.2
          have HBX := Lib.hid hbw
          have HFA := Lib.hid hfa
          have HN2 := Lib.hid hno
          have hi2 : (k : Int) < (gs.length : Int) := by omega
          have hi20 : (0 : Int) ≤ (k : Int) := by omega
          clear hf hcg hfk hfa hok hbw hno
          go_wp2_with fail
          clear hc
          refine (l7Code_any fa fc fl n _ HI HL (by omega) h3).mono ?_
          have hlk := HLIKE.out fl
          obtain ⟨Q, hQ⟩ : ∃ Q, Q = Plain.codeTo (Plain.fallsB fl) (2 ^ n) := ⟨_, rfl⟩
          rw [← hQ] at hlk ⊢
          clear hQ
          rintro e w2 ⟨rfl, hb⟩
          have hb2 := HBX.out.trans (hb.mono HBX.out.size)
          have hc2 := cell_later hb2 HCG.out
          simp only [facVal] at hc2
          have HB2 := Lib.hid hb2
          have HRES := Lib.hid (show SB fl true w (.returned (.tuple #[.slice fa fl.length fc, .bool true])) w2 from ⟨_, rfl, ⟨fa, fc, rfl, HFK.out.1.on hb2, HFK.out.2.2.2.on hb2, HFK.out.2.1⟩, HB1.out.trans (hb2.mono HB1.out.size)⟩)
          clear hb hb2
          by_cases heq : Q = R
          · have HE := Lib.hid (HH.out k fl HN2.out HFA.out (by rw [hlk]; exact decide_eq_true heq))
            have hq : ((Q : Int) == (R : Int)) = true := by simp [heq]
            clear hlk heq
            go_wp2_with fail
            go_ret2
            exact sb_of (by rw [HE.out]; rfl) (by rw [HE.out]; rfl) HRES.out
          · have HE := Lib.hid (find_more HN2.out HFA.out (by rw [hlk]; exact decide_eq_false heq))
            have hq : ((Q : Int) == (R : Int)) = false := by simp; omega
            clear hlk heq hc2
            go_wp2_with fail
            go_roundw
            case rel => exact ⟨k + 1, by omega, by go_num, HE.out, HB2.out⟩
            case measure => simp [intOf]; omega
        · obtain rfl : k = gs.length := by omega
          have HE := Lib.hid (HNEXT.out (by rw [← hno, hgl, List.take_length]))
          have HB2 := Lib.hid (HB1.out.trans (hbw.mono HB1.out.size))
          have hi2 : ¬ (gs.length : Int) < (gs.length : Int) := by omega
          clear hno hbw
          go_wp2_with fail
          go_roundw
          case rel => exact ⟨l + 1, by omega, by go_num, HE.out, HB2.out⟩
          case measure => simp [intOf]; omega
    · obtain rfl : l = B + 1 := by omega
      have HE := Lib.hid (HEND.out hno)
      have HS := Lib.hid (coll_res (coll_start wr))
      have HBW := Lib.hid hbw
      have hi : ¬ (((B + 1 : Nat) : Int) ≤ (B : Int)) := by omega
      clear hno hbw
      go_wp2_with fail
      refine (l7Bound_any (n : Int) _).mono ?_
      rw [HLB.out]
      rintro e w' ⟨rfl, rfl⟩
      go_wp2_with fail
      go_ret2
      exact sb_of (by rw [HE.out]; rfl) (by rw [HE.out]; rfl) ⟨_, rfl, HS.out.1.mono HBW.out.size, HBW.out.trans (HS.out.2.mono HBW.out.size)⟩

end Go.Proofs.YthamckchfhddjaaDoor
