/- Proved: for every list of bytes, laws.FnSplitJoin returns true and leaves its argument as it was. No condition. -/
import Derived.Test.YthcggmjgecdfgaaRows
import Derived.WalkKit
import Derived.ProofKit
import Derived.OpenShut
import Derived.ShutString
import Derived.Test.YthcggmjgecdfgaaDraws
import Derived.Test.YthcggmjgecdfgaaRound
import Derived.Test.YthcggmjgecdfgaaSplitBoth
import Derived.Test.YthcggmjgecdfgaaJoinBoth
import Derived.ChangeOld
import Derived.Below
namespace Go.Proofs.Ythcggmjgecdfgaa.fnSplitJoin
open Go.ChangeShapes Go.WideShapes Go.ChangeAt Go.RowKit
open Go.ChangeMaps (open_string shut_string)
set_option linter.unusedVariables false

theorem own : ownKnob Try.prog.godebug = none := by kernel_rfl
theorem laidOut : laidOutB Try.prog = true := by kernel_rfl

def IsRow (k : IntKind) (w : World) (a : Option Addr) (len cap : Nat) (zs : List Int) : Prop :=
  (a = none ∧ len = 0 ∧ cap = 0 ∧ zs = []) ∨
  ∃ x, a = some x ∧ len ≤ cap ∧ cap ≤ maxLen ∧ zs.length = cap ∧ (∀ i, i < zs.length → w.cell? (x.add i) = some (.int k (zs.getD i 0))) ∧ ∀ n ∈ zs, (Lit.int k n).wf = true

theorem code_of {W : World} {a : Option Addr} {len cap : Nat} {zs : List Int} (h : IsRow .u8 W a len cap zs) : Code8 W a len ∧ len ≤ 9223372036854775807 := by
  rcases h with ⟨rfl, rfl, rfl, rfl⟩ | ⟨x, rfl, hl, hm, hz, hc, hw⟩
  · exact ⟨fun i hi => absurd hi (by omega), by omega⟩
  · unfold maxLen at hm
    refine ⟨fun i hi => ?_, by omega⟩
    have hc' := hc i (by omega)
    obtain ⟨b, o, s⟩ := x
    have hsp : s = none := by simpa [Addr.add] using World.cell?_spot (hc 0 (by omega))
    subst hsp
    have hmem : zs.getD i 0 ∈ zs := by
      rw [List.getD_eq_getElem?_getD, List.getElem?_eq_getElem (by omega)]
      exact List.getElem_mem _
    have hb := hw _ hmem
    obtain ⟨z, hz⟩ : ∃ z, z = zs.getD i 0 := ⟨_, rfl⟩
    rw [← hz] at hb hc'
    have e1 : IntKind.u8.min = 0 := by decide
    have e2 : IntKind.u8.max = 255 := by decide
    simp [Lit.wf] at hb
    exact ⟨b, o, z, rfl, by rw [← add_plain]; exact hc', by omega, by omega⟩

theorem vBig_any (a : Option Addr) (len cap : Nat) (w : World) (h : len ≤ 9223372036854775807) : Calls Try.prog 8 #[.slice a len cap] w fun e w' => e = .returned (.bool (decide (65536 < len))) ∧ w = w' := by
  by_cases hb : 65536 < len
  · go_enter Try.func8, Try.ntmps8
    go_wp2
    go_ret
    exact ⟨by simp [hb]; omega, rfl⟩
  · go_enter Try.func8, Try.ntmps8
    go_wp2
    go_ret
    exact ⟨by simp [hb]; omega, rfl⟩
theorem less_asym : ∀ l m : List UInt8, Op.bytesLess l m = true → Op.bytesLess m l = false
  | [], [], h => by simp [Op.bytesLess] at h
  | [], b :: m, _ => by simp [Op.bytesLess]
  | a :: l, [], h => by simp [Op.bytesLess] at h
  | a :: l, b :: m, h => by
    have ih := less_asym l m
    simp only [Op.bytesLess, Bool.or_eq_true, Bool.and_eq_true, decide_eq_true_eq, beq_iff_eq, Bool.or_eq_false_iff, Bool.and_eq_false_iff, decide_eq_false_iff_not] at h ⊢
    rcases h with h | ⟨rfl, h⟩
    · refine ⟨fun h2 => ?_, .inl ?_⟩
      · exact absurd (UInt8.lt_trans h h2) (UInt8.lt_irrefl _)
      · rw [beq_eq_false_iff_ne]
        rintro rfl
        exact absurd h (UInt8.lt_irrefl _)
    · exact ⟨UInt8.lt_irrefl _, .inr (ih h)⟩

def lessB (x y : ByteArray) : Bool := Op.bytesLess x.toList y.toList
theorem implLess_any (x y : ByteArray) (w : World) : Calls Try.prog 15 #[.string x, .string y] w fun e w' => e = .returned (.bool (lessB x y)) ∧ w = w' := by
  go_enter Try.func15, Try.ntmps15
  go_wp2
  go_ret
  exact ⟨rfl, rfl⟩
theorem specLess_any (x y : ByteArray) (w : World) : Calls Try.prog 16 #[.string x, .string y] w fun e w' => e = .returned (.bool (lessB x y)) ∧ w = w' := by
  go_enter Try.func16, Try.ntmps16
  go_wp2
  go_ret
  exact ⟨rfl, rfl⟩
theorem less_both (x y : ByteArray) : ∃ p q : Bool, (p && q) = false ∧
    (∀ w, Calls Try.prog 15 #[.string x, .string y] w fun e w' => e = .returned (.bool p) ∧ w = w') ∧ (∀ w, Calls Try.prog 16 #[.string x, .string y] w fun e w' => e = .returned (.bool p) ∧ w = w') ∧
    ∀ w, Calls Try.prog 15 #[.string y, .string x] w fun e w' => e = .returned (.bool q) ∧ w = w' :=
  ⟨lessB x y, lessB y x, by cases h : lessB x y with | false => rfl | true => exact less_asym _ _ h, implLess_any x y, specLess_any x y, implLess_any y x⟩

theorem strs_here {w : World} {B g cap : Nat} {ss : List ByteArray} (h : w.ownsRow B 9 1 (.slice (some ⟨g, 0, none⟩) ss.length cap) ss.length (strVals ss)) : Strs w (some ⟨g, 0, none⟩) ss := by
  obtain ⟨a, c, e, hs⟩ := strs_of_owns h
  simp only [Value.slice.injEq] at e
  obtain ⟨rfl, -, -⟩ := e
  exact hs

/-- The parts joined again are the text. -/
theorem joined (a : Option Addr) (cap : Nat) (c : UInt8) (s : ByteArray) (hs : s.size ≤ 10) (w : World) (h : Hid (Strs w a (Plain.parts s c))) (hcap : (Plain.parts s c).length ≤ cap) :
    Calls Try.prog 12 #[.slice a (Plain.parts s c).length cap, .string ⟨#[c]⟩] w fun e w' => e = .returned (.tuple #[.string s, .bool true]) ∧ Below w.heap.size w w' := by
  have hok := Plain.parts_ok s c (by omega)
  have hj := Plain.parts_join s c
  have hl := Plain.parts_length s c
  have hn : (Plain.parts s c).length + Plain.tot (Plain.parts s c) ≤ 1048576 := by
    have := Plain.jn_size c (Plain.parts s c) (Plain.parts_pos s c)
    rw [hj] at this
    omega
  refine (implJoin_any a cap c (Plain.parts s c) w h (Plain.parts_pos s c) hcap hn).mono ?_
  rintro e w' ⟨⟨_, he⟩ | ⟨hf, _⟩, hb⟩
  · rw [hj] at he
    exact ⟨he, hb⟩
  · rw [hok] at hf; cases hf

theorem tot_small : ∀ ss : List ByteArray, (∀ s ∈ ss, s.size ≤ 5000) → Plain.tot ss ≤ 5000 * ss.length
  | [], _ => by simp [Plain.tot]
  | x :: ss, h => by
    have ih := tot_small ss (fun s hs => h s (List.mem_cons_of_mem _ hs))
    have hx := h x (List.mem_cons_self ..)
    simp [Plain.tot] at ih ⊢
    omega

/-- What the split hands back is told by the sign. -/
theorem splits (s sep : ByteArray) (hs : s.size ≤ 10) : ∃ ss b, ((∃ c, sep = ⟨#[c]⟩ ∧ ss = Plain.parts s c ∧ b = true) ∨ (sep.size ≠ 1 ∧ ss = [] ∧ b = false)) ∧ ss.length ≤ 11 ∧ ∀ v, Calls Try.prog 10 #[.string s, .string sep] v (SplitPost ss b v) := by
  by_cases h1 : sep.size = 1
  · obtain ⟨c, rfl⟩ := Plain.sep_of sep h1
    have hl := Plain.parts_length s c
    exact ⟨Plain.parts s c, true, .inl ⟨c, rfl, rfl, rfl⟩, by omega, fun v => (implSplit_any s c (by omega) v).mono fun _ _ => split_yes (Plain.parts_pos s c)⟩
  · exact ⟨[], false, .inr ⟨h1, rfl, rfl⟩, Nat.zero_le _, fun v => (implSplit_no s sep v (by omega) (.inr h1)).mono fun _ _ => split_no⟩

set_option maxHeartbeats 1000000 in
theorem walk (a0 : Option Addr) (len0 cap0 : Nat) (z0 : List Int) (w : World) (w0 : IsRow .u8 w a0 len0 cap0 z0) :
    Calls Try.prog 3 #[.slice a0 len0 cap0] w fun e w' => e = .returned (.bool true) ∧ Below w.heap.size w w' := by
  obtain ⟨hC0, hlen⟩ := code_of w0
  have C0 := Lib.hid hC0
  clear hC0
  by_cases hbig : 65536 < len0
  · go_enter Try.func3, Try.ntmps3
    go_wp2_with fail
    refine (vBig_any a0 len0 cap0 _ hlen).mono ?_
    rintro e w' ⟨rfl, rfl⟩
    rw [decide_eq_true hbig]
    go_wp2_with fail
    go_ret
    exact ⟨rfl, Below.refl _ _⟩
  · go_enter Try.func3, Try.ntmps3
    go_wp2_with fail
    refine (vBig_any a0 len0 cap0 _ hlen).mono ?_
    rintro e w' ⟨rfl, rfl⟩
    rw [decide_eq_false hbig]
    go_wp2_with fail
    refine (drawSplit_any a0 len0 cap0 _ C0).mono ?_
    rintro e w1 ⟨s, sep, rfl, hs, hsep, hb1⟩
    have C1 := Lib.hid (C0.out.on hb1)
    have B1 := Lib.hid hb1
    obtain ⟨ss, b, hss, hsl, hI⟩ := splits s sep hs
    have HSS := Lib.hid hss
    have HI := Lib.hid hI
    clear hb1 hss hI
    go_wp2_with fail
    refine (HI.out _).mono ?_
    rintro e w2 ⟨g, cs, rfl, ho2, hb2⟩
    have C2 := Lib.hid (C1.out.on hb2)
    have B2 := Lib.hid (B1.out.trans (hb2.mono B1.out.size))
    have O2 := Lib.hid ho2
    have T2 := Lib.hid (strs_here ho2)
    have hscs := owns_cap ho2
    clear hb2 ho2
    go_wp2_with fail
    refine (drawJoin_any a0 len0 cap0 _ C2).mono ?_
    rintro e w3 ⟨la, ks, kc, mark, rfl, hS3, hkc, hk4, hks, hmk, hb3⟩
    have hkn : ks.length + Plain.tot ks ≤ 1048576 := by have := tot_small ks hks; omega
    obtain ⟨o, bo, hsp, him⟩ := joinBoth ks mark hkn
    have HP := Lib.hid hsp
    have HM := Lib.hid him
    have C3 := Lib.hid (C2.out.on hb3)
    have T3 := Lib.hid (T2.out.on hb3)
    have B3 := Lib.hid (B2.out.trans (hb3.mono B2.out.size))
    have S3 := Lib.hid hS3
    have hos := str_same o
    clear hb3 hS3 hks hkn hsp him
    go_wp2_with fail
    refine (HM.out _ _ _ S3 hkc).mono ?_
    rintro e w4 ⟨rfl, hb4⟩
    have C4 := Lib.hid (C3.out.on hb4)
    have T4 := Lib.hid (T3.out.on hb4)
    have B4 := Lib.hid (B3.out.trans (hb4.mono B3.out.size))
    have S4 := Lib.hid (S3.out.on hb4)
    clear hb4
    go_wp2_with fail
    refine (HP.out _ _ _ S4).mono ?_
    rintro e w5 ⟨rfl, hb5⟩
    have C5 := Lib.hid (C4.out.on hb5)
    have T5 := Lib.hid (T4.out.on hb5)
    have B5 := Lib.hid (B4.out.trans (hb5.mono B4.out.size))
    clear hb5
    go_wp2_with fail
    refine (drawLess_any a0 len0 cap0 _ C5).mono ?_
    rintro e w6 ⟨x, y, rfl, hx, hy, hb6⟩
    have T6 := Lib.hid (T5.out.on hb6)
    have B6 := Lib.hid (B5.out.trans (hb6.mono B5.out.size))
    clear hb6
    obtain ⟨p, q, hpq, hl1, hl2, hl3⟩ := less_both x y
    have L1 := Lib.hid hl1
    have L2 := Lib.hid hl2
    have L3 := Lib.hid hl3
    clear hl1 hl2 hl3
    rcases HSS.out with ⟨c, rfl, rfl, rfl⟩ | ⟨hz, rfl, rfl⟩
    · have hsame := str_same s
      go_wp2_with fail
      refine (L1.out _).mono ?_
      rintro e w' ⟨rfl, rfl⟩
      go_wp2_with fail
      refine (L2.out _).mono ?_
      rintro e w' ⟨rfl, rfl⟩
      cases p
      · go_wp2_with fail
        refine (L1.out _).mono ?_
        rintro e w' ⟨rfl, rfl⟩
        go_wp2_with fail
        refine (joined _ cs c s hs _ T6 hscs).mono ?_
        rintro e w' ⟨rfl, hb7⟩
        have B7 := Lib.hid (B6.out.trans (hb7.mono B6.out.size))
        clear hb7
        go_wp2_with fail
        go_ret
        exact ⟨rfl, B7.out⟩
      · go_wp2_with fail
        refine (L1.out _).mono ?_
        rintro e w' ⟨rfl, rfl⟩
        go_wp2_with fail
        refine (L3.out _).mono ?_
        rintro e w' ⟨rfl, rfl⟩
        obtain rfl : q = false := hpq
        go_wp2_with fail
        refine (joined _ cs c s hs _ T6 hscs).mono ?_
        rintro e w' ⟨rfl, hb7⟩
        have B7 := Lib.hid (B6.out.trans (hb7.mono B6.out.size))
        clear hb7
        go_wp2_with fail
        go_ret
        exact ⟨rfl, B7.out⟩
    · have hq : ((sep.size : Int) == 1) = false := by rw [beq_eq_false_iff_ne]; omega
      have hq2 : ((sep.size : Int) != 1) = true := by rw [bne, hq]; rfl
      go_wp2_with fail
      refine (L1.out _).mono ?_
      rintro e w' ⟨rfl, rfl⟩
      go_wp2_with fail
      refine (L2.out _).mono ?_
      rintro e w' ⟨rfl, rfl⟩
      cases p
      · go_wp2_with fail
        refine (L1.out _).mono ?_
        rintro e w' ⟨rfl, rfl⟩
        go_wp2_with fail
        go_ret
        exact ⟨rfl, B6.out⟩
      · go_wp2_with fail
        refine (L1.out _).mono ?_
        rintro e w' ⟨rfl, rfl⟩
        go_wp2_with fail
        refine (L3.out _).mono ?_
        rintro e w' ⟨rfl, rfl⟩
        obtain rfl : q = false := hpq
        go_wp2_with fail
        go_ret
        exact ⟨rfl, B6.out⟩

set_option maxRecDepth 100000 in
theorem lifted (os : Os) (started : os.Started) (H : Type) (enc : TypeId × Value → H) :
    ReturnsInHanded {} Try.checked os 3 .any (Rows.fnSplitJoinSpec.pre6 enc Try.prog Try.f3 Rows.fnSplitJoinRow.domain false) (Rows.fnSplitJoinSpec.post enc Try.prog Try.f3 false true false false) := by
  refine returnsInHanded_of_change (C := Try.checked) own started (by kernel_rfl) Try.func3
    (ChangeSpec.witness6 (enc := enc) (C := Try.checked) false ⟨#[], #[.slice none 0 0], []⟩ 8 (by kernel_rfl) (by kernel_rfl) (by kernel_rfl) (by kernel_rfl)) ?_
  intro W base args ds gs before hval0 hW hcnd _
  have hval : ∀ (j : Nat) t v, Try.f3.params[j]? = some t → args[j]? = some v → Value.okWide Try.prog W .any base t v := hval0
  have hW' := hW
  obtain ⟨p, q, hA0, hV, rfl, hfz, hnd⟩ := hW
  have hA : DataW.TrodAll enc Try.prog W 0 (fun _ => true) true Try.f3.params.toList args.toList ds p := hA0
  rw [Try.params3] at hA hval
  obtain ⟨v0, vs0, d0, ds0, p0, q0, hargs, rfl, rfl, h0, r0⟩ := trodAll_cons hA
  obtain ⟨rfl, rfl, rfl⟩ := trodAll_nil r0
  obtain rfl : args = #[v0] := by cases args; simp_all
  obtain ⟨rfl, rfl⟩ := trodVars_none hV
  obtain ⟨a0, len0, cap0, rfl⟩ := okWide_slice Try.underlying22 (hval 0 22 v0 rfl rfl)
  have k0 := h0
  have lt0 : ∀ x ∈ p0, x.block < W.heap.size := by obtain ⟨m, hm⟩ := k0; exact DataW.trod_lt m _ _ _ hm
  obtain ⟨z0, w0⟩ : ∃ zs, IsRow .u8 W a0 len0 cap0 zs := by
    obtain ⟨fuel, hf⟩ := h0
    rcases open_ints Try.underlying22 Try.underlying5 (by kernel_rfl) hf with ⟨hcs, _⟩ | ⟨x, l, c, zs, hcs, _, hl, hm, hz, _, hcell, hwz⟩
    · simp [Value.cells] at hcs
      obtain ⟨rfl, rfl, rfl⟩ := hcs
      exact ⟨[], .inl ⟨rfl, rfl, rfl, rfl⟩⟩
    · simp [Value.cells] at hcs
      obtain ⟨rfl, rfl, rfl⟩ := hcs
      exact ⟨zs, .inr ⟨_, rfl, hl, hm, by simpa using hz, hcell, hwz⟩⟩
  clear hA0 hval0
  refine (walk a0 len0 cap0 z0 W w0).mono fun e W' ⟨he, bel⟩ => ?_
  subst he
  exact ⟨_, rfl, _, _, _, [], _, [], hW', trodAll_mk1 (shut_bool Try.underlying4 _), (trodAll_cons_mk (Below.trod laidOut (by kernel_rfl) (of_decide_eq_true (by kernel_rfl)) k0 bel lt0) trodAll_mk0), rfl, bel.frame _, fun h => by cases h⟩

theorem over : Rows.fnSplitJoinRow.holds Try.pinned (OpenSpec.ofChange Rows.fnSplitJoinSpec) :=
  OpenClaim.holds_of_wide 3 Try.f3 rfl rfl rfl rfl rfl rfl rfl ⟨rfl, rfl, rfl, rfl, rfl⟩ rfl rfl rfl rfl rfl (by kernel_rfl) Try.func3 (by kernel_rfl)
    (of_decide_eq_true (by kernel_rfl)) (by unfold Func.isWrapper; first | (rw [if_pos (by decide +kernel)]; kernel_rfl) | (rw [if_neg (by decide +kernel)]; exact ⟨rfl, rfl⟩))
    (fun os started H enc _ => lifted os started H enc)

theorem proved : Rows.FnSplitJoinSaid := over
end Go.Proofs.Ythcggmjgecdfgaa.fnSplitJoin
