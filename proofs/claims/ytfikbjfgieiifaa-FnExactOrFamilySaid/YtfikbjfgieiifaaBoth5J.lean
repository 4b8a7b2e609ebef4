/- Contracts: spec.AndFamily, OrFamily; impl's familyPair, AndFamily, OrFamily; both. Conditions: numbers of 64 bits, lengths that fit. -/
import Derived.Test.YtfikbjfgieiifaaBoth5H
namespace Go.Proofs.Ytfikbjfgieiifaa
open Go.ChangeShapes Go.WideShapes Go.ChangeAt Go.RowKit
set_option linter.unusedVariables false

theorem fam_storedB {w W w1 : World} {B G : Nat} {u : Value} {a : Option Addr} {c : Nat} {out : List Int} (ok : Bool) (hW : Below w.heap.size w W) (hG : w.heap.size ≤ G) (hGB : G < B) (hB : B ≤ W.heap.size) (hf : FamAt W G u)
    (hi : Ints w1 a out) (ho : Own B w1 a out.length) (hc : Cap a out.length c) (hb : Below W.heap.size W w1) :
    FamAt (w1.setCell ⟨G, 0, none⟩ (.slice a out.length c)) G (.slice a out.length c) ∧ FB out ok w (.returned (.tuple #[.agg #[.slice a out.length c], .bool ok])) (w1.setCell ⟨G, 0, none⟩ (.slice a out.length c)) := by
  have s1 := set_low (G := G) (i := 0) (v := .slice a out.length c) hi ho hGB
  exact ⟨(hf.on hb).set _, a, c, rfl, s1.1, s1.2.mono (by omega), hc, (hW.trans (hb.mono hW.size)).setCell (p := ⟨G, 0, none⟩) hG _⟩
/-- Two Families in a variable of their own. -/
def PairAt (w : World) (g : Nat) (u v : Value) : Prop := w.heap[g]? = some (.cells #[u, v] 44 (0, 0))
theorem PairAt.lt {w : World} {g : Nat} {u v : Value} (h : PairAt w g u v) : g < w.heap.size := (Array.getElem?_eq_some_iff.1 h).1
theorem PairAt.on {w w' : World} {g : Nat} {u v : Value} (h : PairAt w g u v) (hb : Below w.heap.size w w') : PairAt w' g u v := (hb.block g h.lt).trans h
theorem PairAt.c0 {w : World} {g : Nat} {u v : Value} (h : PairAt w g u v) : w.cell? ⟨g, 0, none⟩ = some u := by rw [cell_of_row w g 0 _ _ _ h]; rfl
theorem PairAt.c1 {w : World} {g : Nat} {u v : Value} (h : PairAt w g u v) : w.cell? ⟨g, 1, none⟩ = some v := by rw [cell_of_row w g 1 _ _ _ h]; rfl
theorem pair_new (w : World) (u v : Value) : PairAt (w.alloc (.cells #[u, v] 44)) w.heap.size u v ∧ Below w.heap.size w (w.alloc (.cells #[u, v] 44)) := ⟨heap_alloc_new w _, (Below.refl _ _).alloc (Nat.le_refl _) _⟩
set_option maxHeartbeats 800000 in
theorem bothHave_tells (s : Nat) (a1 a2 : Option Addr) (c1 c2 : Nat) (fs gs : List Int) (w : World) (hs : s < 64) (h1 : Hid (Ints w a1 fs)) (h2 : Hid (Ints w a2 gs)) (l1 : Hid (Plain.setsB fs = true)) (l2 : Hid (Plain.setsB gs = true)) (hf : fs.length ≤ 1048576) (hg : gs.length ≤ 1048576) :
    Calls Try.prog 25 #[.agg #[.slice a1 fs.length c1, .slice a2 gs.length c2], .int .i64 (s : Int)] w (Val (.bool (andT true fs gs s)) w) := by
  have H0 := Lib.hid (pair_new w (.slice a1 fs.length c1) (.slice a2 gs.length c2))
  have hc1 := H0.out.1.c0
  go_enter Try.func25, Try.ntmps25
  go_wp2_with fail
  clear hc1
  obtain ⟨W, hW⟩ : ∃ W, W = w.alloc (.cells #[.slice a1 fs.length c1, .slice a2 gs.length c2] 44) := ⟨_, rfl⟩
  rw [← hW] at H0 ⊢
  clear hW
  refine (has_any a1 c1 fs s _ (Lib.hid (h1.out.on H0.out.2)) l1 (by omega) hs).mono ?_
  cases hb1 : Plain.hasB fs s with
  | false =>
    have HE : Hid (andT true fs gs s = false) := Lib.hid (by simp [andT, hb1])
    clear hb1
    rintro e w1 ⟨rfl, hb⟩
    have HB := Lib.hid (H0.out.2.trans (hb.mono H0.out.2.size))
    clear hb
    go_wp2_with fail
    go_ret
    exact ⟨ret_bool HE.out.symm, HB.out⟩
  | true =>
    have HE : Hid (andT true fs gs s = Plain.hasB gs s) := Lib.hid (by simp [andT, hb1])
    clear hb1
    rintro e w1 ⟨rfl, hb⟩
    have HB := Lib.hid (H0.out.2.trans (hb.mono H0.out.2.size))
    have hc2 := (H0.out.1.on hb).c1
    clear hb
    go_wp2_with fail
    clear hc2
    refine (has_any a2 c2 gs s _ (Lib.hid (h2.out.on HB.out)) l2 (by omega) hs).mono ?_
    rintro e w2 ⟨rfl, hb⟩
    have HB2 := Lib.hid (HB.out.trans (hb.mono HB.out.size))
    clear hb
    go_wp2_with fail
    go_ret
    exact ⟨ret_bool HE.out.symm, HB2.out⟩
set_option maxHeartbeats 800000 in
theorem anyHas_tells (s : Nat) (a1 a2 : Option Addr) (c1 c2 : Nat) (fs gs : List Int) (w : World) (hs : s < 64) (h1 : Hid (Ints w a1 fs)) (h2 : Hid (Ints w a2 gs)) (l1 : Hid (Plain.setsB fs = true)) (l2 : Hid (Plain.setsB gs = true)) (hf : fs.length ≤ 1048576) (hg : gs.length ≤ 1048576) :
    Calls Try.prog 29 #[.agg #[.slice a1 fs.length c1, .slice a2 gs.length c2], .int .i64 (s : Int)] w (Val (.bool (andT false fs gs s)) w) := by
  have H0 := Lib.hid (pair_new w (.slice a1 fs.length c1) (.slice a2 gs.length c2))
  have hc1 := H0.out.1.c0
  go_enter Try.func29, Try.ntmps29
  go_wp2_with fail
  clear hc1
  obtain ⟨W, hW⟩ : ∃ W, W = w.alloc (.cells #[.slice a1 fs.length c1, .slice a2 gs.length c2] 44) := ⟨_, rfl⟩
  rw [← hW] at H0 ⊢
  clear hW
  refine (has_any a1 c1 fs s _ (Lib.hid (h1.out.on H0.out.2)) l1 (by omega) hs).mono ?_
  cases hb1 : Plain.hasB fs s with
  | true =>
    have HE : Hid (andT false fs gs s = true) := Lib.hid (by simp [andT, hb1])
    clear hb1
    rintro e w1 ⟨rfl, hb⟩
    have HB := Lib.hid (H0.out.2.trans (hb.mono H0.out.2.size))
    clear hb
    go_wp2_with fail
    go_ret
    exact ⟨ret_bool HE.out.symm, HB.out⟩
  | false =>
    have HE : Hid (andT false fs gs s = Plain.hasB gs s) := Lib.hid (by simp [andT, hb1])
    clear hb1
    rintro e w1 ⟨rfl, hb⟩
    have HB := Lib.hid (H0.out.2.trans (hb.mono H0.out.2.size))
    have hc2 := (H0.out.1.on hb).c1
    clear hb
    go_wp2_with fail
    clear hc2
    refine (has_any a2 c2 gs s _ (Lib.hid (h2.out.on HB.out)) l2 (by omega) hs).mono ?_
    rintro e w2 ⟨rfl, hb⟩
    have HB2 := Lib.hid (HB.out.trans (hb.mono HB.out.size))
    clear hb
    go_wp2_with fail
    go_ret
    exact ⟨ret_bool HE.out.symm, HB2.out⟩
set_option maxRecDepth 100000 in
set_option maxHeartbeats 2000000 in
theorem pairThat_any (g : Nat) (bs cs : Array Value) (b : Bool) (a1 a2 : Option Addr) (c1 c2 : Nat) (fs gs : List Int) (w : World) (h1 : Hid (Ints w a1 fs)) (n1 : Hid (In64 fs)) (h2 : Hid (Ints w a2 gs)) (n2 : Hid (In64 gs)) (hf : fs.length ≤ 1048576) (hg : gs.length ≤ 1048576) (eg : ∀ args w, (callFunc g args).run Try.prog w = .ok (.enter g args) w)
    (hp : Hid (Plain.setsB fs = true → Plain.setsB gs = true → Tells g bs cs (andT b fs gs) w)) :
    Calls Try.prog 24 #[.agg #[.slice a1 fs.length c1, .slice a2 gs.length c2], .func (.func g) bs cs] w (FB (andW b fs gs) (andB fs gs) w) := by
  have hx1 := pair_new w (.slice a1 fs.length c1) (.slice a2 gs.length c2)
  have hx2 := famAt_new (w.alloc (.cells #[.slice a1 fs.length c1, .slice a2 gs.length c2] 44)) (.slice none 0 0)
  rw [show (w.alloc (.cells #[.slice a1 fs.length c1, .slice a2 gs.length c2] 44)).heap.size = w.heap.size + 1 by simp] at hx2
  have hx3 : PairAt ((w.alloc (.cells #[.slice a1 fs.length c1, .slice a2 gs.length c2] 44)).alloc (.cells #[.slice none 0 0] 26)) w.heap.size (.slice a1 fs.length c1) (.slice a2 gs.length c2) := (Below.heap_alloc _ _ _ hx1.1.lt).trans hx1.1
  have hc1 := hx3.c0
  have H0 := Lib.hid (And.intro hx3 (And.intro hx2 (hx1.2.alloc (by simp) (.cells #[.slice none 0 0] 26))))
  clear hx1 hx2 hx3
  cases hf1 : Plain.famB fs with
  | false =>
    have HE := Lib.hid (and_no (o := b) (gs := gs) (.inl hf1))
    have HF1 := Lib.hid hf1
    clear hf1
    go_enter Try.func24, Try.ntmps24
    go_wp2_with fail
    clear hc1
    obtain ⟨W, hW⟩ : ∃ W, W = ((w.alloc (.cells #[.slice a1 fs.length c1, .slice a2 gs.length c2] 44)).alloc (.cells #[.slice none 0 0] 26)) := ⟨_, rfl⟩
    rw [← hW] at H0 ⊢
    clear hW
    refine (implIsFamily_any _ _ fs _ (Lib.hid (h1.out.on H0.out.2.2)) n1 hf).mono ?_
    rw [HF1.out]
    rintro e w2 ⟨rfl, hb⟩
    have H2 := Lib.hid (And.intro (H0.out.1.on hb) (And.intro (H0.out.2.1.on hb) (H0.out.2.2.trans (hb.mono H0.out.2.2.size))))
    clear hb
    have hB := ((H2.out.2.2).setCell (p := ⟨(w.heap.size + 1), 0, none⟩) (by simp <;> omega) (.slice none 0 0))
    have hF := (H2.out.2.1).set (.slice none 0 0)
    have hcr := (H2.out.2.1).cell
    have hfr := (H2.out.2.1).free
    have HB9 := Lib.hid (And.intro hB hF)
    clear hB hF
    go_wp2_with fail
    refine bodyPost_ret (results_fam2 rfl _ _ ((w.heap.size + 1)) _ (.bool false) rfl rfl HB9.out.2) rfl (fb_of HE.out.1.symm HE.out.2.symm (fb_nil HB9.out.1))
  | true =>
    cases hf2 : Plain.famB gs with
    | false =>
      have HE := Lib.hid (and_no (o := b) (fs := fs) (.inr hf2))
      have HF1 := Lib.hid hf1
      have HF2 := Lib.hid hf2
      clear hf1 hf2
      go_enter Try.func24, Try.ntmps24
      go_wp2_with fail
      clear hc1
      obtain ⟨W, hW⟩ : ∃ W, W = ((w.alloc (.cells #[.slice a1 fs.length c1, .slice a2 gs.length c2] 44)).alloc (.cells #[.slice none 0 0] 26)) := ⟨_, rfl⟩
      rw [← hW] at H0 ⊢
      clear hW
      refine (implIsFamily_any _ _ fs _ (Lib.hid (h1.out.on H0.out.2.2)) n1 hf).mono ?_
      rw [HF1.out]
      rintro e w2 ⟨rfl, hb⟩
      have H2 := Lib.hid (And.intro (H0.out.1.on hb) (And.intro (H0.out.2.1.on hb) (H0.out.2.2.trans (hb.mono H0.out.2.2.size))))
      clear hb
      have hcg := H2.out.1.c1
      go_wp2_with fail
      clear hcg
      refine (implIsFamily_any _ _ gs _ (Lib.hid (h2.out.on H2.out.2.2)) n2 hg).mono ?_
      rw [HF2.out]
      rintro e w3 ⟨rfl, hb⟩
      have H3 := Lib.hid (And.intro (H2.out.1.on hb) (And.intro (H2.out.2.1.on hb) (H2.out.2.2.trans (hb.mono H2.out.2.2.size))))
      clear hb
      have hB := ((H3.out.2.2).setCell (p := ⟨(w.heap.size + 1), 0, none⟩) (by simp <;> omega) (.slice none 0 0))
      have hF := (H3.out.2.1).set (.slice none 0 0)
      have hcr := (H3.out.2.1).cell
      have hfr := (H3.out.2.1).free
      have HB9 := Lib.hid (And.intro hB hF)
      clear hB hF
      go_wp2_with fail
      refine bodyPost_ret (results_fam2 rfl _ _ ((w.heap.size + 1)) _ (.bool false) rfl rfl HB9.out.2) rfl (fb_of HE.out.1.symm HE.out.2.symm (fb_nil HB9.out.1))
    | true =>
      have HE := Lib.hid (and_yes (o := b) hf1 hf2)
      have HF1 := Lib.hid hf1
      have HF2 := Lib.hid hf2
      have HTL := Lib.hid (hp.out (Plain.fam_sets hf1) (Plain.fam_sets hf2))
      obtain ⟨L, hL⟩ : ∃ L, L = Plain.edges (andT b fs gs) true := ⟨_, rfl⟩
      rw [← hL] at HE
      have HL := Lib.hid hL
      clear hf1 hf2 hL
      go_enter Try.func24, Try.ntmps24
      go_wp2_with fail
      clear hc1
      obtain ⟨W, hW⟩ : ∃ W, W = ((w.alloc (.cells #[.slice a1 fs.length c1, .slice a2 gs.length c2] 44)).alloc (.cells #[.slice none 0 0] 26)) := ⟨_, rfl⟩
      rw [← hW] at H0 ⊢
      clear hW
      refine (implIsFamily_any _ _ fs _ (Lib.hid (h1.out.on H0.out.2.2)) n1 hf).mono ?_
      rw [HF1.out]
      rintro e w2 ⟨rfl, hb⟩
      have H2 := Lib.hid (And.intro (H0.out.1.on hb) (And.intro (H0.out.2.1.on hb) (H0.out.2.2.trans (hb.mono H0.out.2.2.size))))
      clear hb
      have hcg := H2.out.1.c1
      go_wp2_with fail
      clear hcg
      refine (implIsFamily_any _ _ gs _ (Lib.hid (h2.out.on H2.out.2.2)) n2 hg).mono ?_
      rw [HF2.out]
      rintro e w3 ⟨rfl, hb⟩
      have H3 := Lib.hid (And.intro (H2.out.1.on hb) (And.intro (H2.out.2.1.on hb) (H2.out.2.2.trans (hb.mono H2.out.2.2.size))))
      clear hb
      go_wp2_with fail
      refine (familyThat_any g bs cs (andT b fs gs) _ eg (Lib.hid (HTL.out.on H3.out.2.2))).mono ?_
      rw [← HL.out]
      rintro e w5 ⟨ma, mc, rfl, hi, ho, hcp, hb⟩
      have HS := Lib.hid (fam_storedB (W := w3) (B := w3.heap.size) (G := (w.heap.size + 1)) true H3.out.2.2 (by omega) H3.out.2.1.lt (Nat.le_refl _) H3.out.2.1 hi ho hcp hb)
      have hcr := (H3.out.2.1.on hb).cell
      have hfr := (H3.out.2.1.on hb).free
      clear hi ho hcp hb
      go_wp2_with fail
      refine bodyPost_ret (results_fam2 rfl _ _ ((w.heap.size + 1)) _ (.bool true) rfl rfl HS.out.1) rfl (fb_of HE.out.1.symm HE.out.2.symm HS.out.2)
/-- A call's Family in a variable of its own, behind a region that draws its order. -/
def Boxed (W : World) (out : List Int) (n : Nat) (a : Option Addr) (c : Nat) (X : World) : Prop :=
  FamAt X n (.slice a out.length c) ∧ Ints X a out ∧ Own W.heap.size X a out.length ∧ Cap a out.length c ∧ Below W.heap.size W X ∧ W.heap.size ≤ n
theorem boxed_before {W V V' : World} {n c : Nat} {u : Value} {a : Option Addr} {out : List Int} (q : Below W.heap.size W V) (hn : W.heap.size ≤ n) (hf : FamAt V n u) (hi : Ints V' a out) (ho : Own V.heap.size V' a out.length) (hc : Cap a out.length c)
    (hb : Below V.heap.size V V') : Boxed W out n a c (V'.setCell ⟨n, 0, none⟩ (.slice a out.length c)) := by
  have s1 := set_low (G := n) (i := 0) (v := (.slice a out.length c)) hi ho hf.lt
  exact ⟨(hf.on hb).set _, s1.1, s1.2.mono q.size, hc, (q.trans (hb.mono q.size)).setCell (p := ⟨n, 0, none⟩) hn _, hn⟩
theorem boxed_after {W V V' : World} {c : Nat} {a : Option Addr} {out : List Int} (q : Below W.heap.size W V) (hi : Ints V' a out) (ho : Own V.heap.size V' a out.length) (hc : Cap a out.length c)
    (hb : Below V.heap.size V V') : Boxed W out V'.heap.size a c (V'.alloc (.cells #[(.slice a out.length c)] 26)) :=
  have hz : Below V'.heap.size V' (V'.alloc (.cells #[(.slice a out.length c)] 26)) := (Below.refl _ _).alloc (Nat.le_refl _) _
  have hq : Below W.heap.size W V' := q.trans (hb.mono q.size)
  ⟨famAt_new _ _, hi.on hz, (ho.on hz).mono q.size, hc, hq.trans (hz.mono hq.size), hq.size⟩
theorem boxed_after2 {W V V' : World} {c : Nat} {a : Option Addr} {out : List Int} (q : Below W.heap.size W V) (hi : Ints V' a out) (ho : Own V.heap.size V' a out.length) (hc : Cap a out.length c)
    (hb : Below V.heap.size V V') : Boxed W out V'.heap.size a c ((V'.alloc (.cells #[.slice none 0 0] 26)).setCell ⟨V'.heap.size, 0, none⟩ (.slice a out.length c)) :=
  have hz : Below V'.heap.size V' (V'.alloc (.cells #[.slice none 0 0] 26)) := (Below.refl _ _).alloc (Nat.le_refl _) _
  have hy : Below V'.heap.size V' ((V'.alloc (.cells #[.slice none 0 0] 26)).setCell ⟨V'.heap.size, 0, none⟩ (.slice a out.length c)) := hz.setCell (p := ⟨V'.heap.size, 0, none⟩) (Nat.le_refl _) _
  have hq : Below W.heap.size W V' := q.trans (hb.mono q.size)
  ⟨(famAt_new V' (.slice none 0 0)).set _, hi.on hy, (ho.on hy).mono q.size, hc, hq.trans (hy.mono hq.size), hq.size⟩
/-- Behind the call, the variable not yet laid. -/
def OutAt (W : World) (out : List Int) (a : Option Addr) (c : Nat) (V : World) : Prop := Ints V a out ∧ Own W.heap.size V a out.length ∧ Cap a out.length c ∧ Below W.heap.size W V
/-- Behind the call, the variable laid, not yet stored to. -/
def PreBox (W : World) (out : List Int) (n : Nat) (a : Option Addr) (c : Nat) (V : World) : Prop := FamAt V n (.slice none 0 0) ∧ Boxed W out n a c (V.setCell ⟨n, 0, none⟩ (.slice a out.length c))
theorem pre_before {W V V' : World} {n c : Nat} {a : Option Addr} {out : List Int} (q : Below W.heap.size W V) (hn : W.heap.size ≤ n) (hf : FamAt V n (.slice none 0 0)) (hi : Ints V' a out) (ho : Own V.heap.size V' a out.length) (hc : Cap a out.length c)
    (hb : Below V.heap.size V V') : PreBox W out n a c V' := ⟨hf.on hb, boxed_before q hn hf hi ho hc hb⟩
theorem pre_after {W V : World} {c : Nat} {a : Option Addr} {out : List Int} (h : OutAt W out a c V) : PreBox W out V.heap.size a c (V.alloc (.cells #[.slice none 0 0] 26)) :=
  have hz : Below V.heap.size V (V.alloc (.cells #[.slice none 0 0] 26)) := (Below.refl _ _).alloc (Nat.le_refl _) _
  have hy : Below V.heap.size V ((V.alloc (.cells #[.slice none 0 0] 26)).setCell ⟨V.heap.size, 0, none⟩ (.slice a out.length c)) := hz.setCell (p := ⟨V.heap.size, 0, none⟩) (Nat.le_refl _) _
  ⟨famAt_new _ _, (famAt_new V (.slice none 0 0)).set _, h.1.on hy, h.2.1.on hy, h.2.2.1, h.2.2.2.trans (hy.mono h.2.2.2.size), h.2.2.2.size⟩
set_option maxRecDepth 100000 in
set_option maxHeartbeats 2000000 in
theorem specAndFamily_any (a1 a2 : Option Addr) (c1 c2 : Nat) (fs gs : List Int) (w : World) (h1 : Hid (Ints w a1 fs)) (n1 : Hid (In64 fs)) (h2 : Hid (Ints w a2 gs)) (n2 : Hid (In64 gs)) (hf : fs.length ≤ 1048576) (hg : gs.length ≤ 1048576) :
    Calls Try.prog 8 #[.agg #[.slice a1 fs.length c1], .agg #[.slice a2 gs.length c2]] w (FB (andW true fs gs) (andB fs gs) w) := by
  obtain ⟨x1, x2, x3, x4, -⟩ := box2_result w (.slice a1 fs.length c1) (.slice a2 gs.length c2)
  have H0 := Lib.hid (And.intro x1 (And.intro x2 (And.intro x3 x4)))
  have hcf := x1.cell
  have hcg := x2.cell
  clear x1 x2 x3 x4
  have HM := Lib.hid (fun W i1 i2 => l5Both_any a1 a2 c1 c2 fs gs true W i1 n1 i2 n2 hf hg)
  have hl := andW_le true fs gs
  obtain ⟨L, hL⟩ : ∃ L, L = andW true fs gs := ⟨_, rfl⟩
  obtain ⟨ok, hok⟩ : ∃ ok, ok = andB fs gs := ⟨_, rfl⟩
  rw [← hL] at HM hl ⊢
  rw [← hok] at HM ⊢
  clear hL hok
  go_enter Try.func8, Try.ntmps8
  go_wp2_with fail
  clear hcf hcg
  obtain ⟨W, hW⟩ : ∃ W, W = (((w.alloc (.cells #[.slice a1 fs.length c1] 26)).alloc (.cells #[.slice a2 gs.length c2] 26)).alloc (.cells #[.slice none 0 0] 26)) := ⟨_, rfl⟩
  rw [← hW] at H0 ⊢
  clear hW
  refine (HM.out _ (Lib.hid (h1.out.on H0.out.2.2.2)) (Lib.hid (h2.out.on H0.out.2.2.2))).mono ?_
  rintro e w5 ⟨ma, mc, rfl, hi, ho, hcp, hb⟩
  have HS := Lib.hid (fam_storedB (W := W) (B := W.heap.size) (G := (w.heap.size + 1 + 1)) ok H0.out.2.2.2 (by omega) H0.out.2.2.1.lt (Nat.le_refl _) H0.out.2.2.1 hi ho hcp hb)
  have hcr := (H0.out.2.2.1.on hb).cell
  have hfr := (H0.out.2.2.1.on hb).free
  clear hi ho hcp hb
  go_wp2_with fail
  refine bodyPost_ret (results_fam2 rfl _ _ ((w.heap.size + 1 + 1)) _ (.bool ok) rfl rfl HS.out.1) rfl HS.out.2
set_option maxRecDepth 100000 in
set_option maxHeartbeats 2000000 in
theorem implAndFamily_any (a1 a2 : Option Addr) (c1 c2 : Nat) (fs gs : List Int) (w : World) (h1 : Hid (Ints w a1 fs)) (n1 : Hid (In64 fs)) (h2 : Hid (Ints w a2 gs)) (n2 : Hid (In64 gs)) (hf : fs.length ≤ 1048576) (hg : gs.length ≤ 1048576) :
    Calls Try.prog 10 #[.agg #[.slice a1 fs.length c1], .agg #[.slice a2 gs.length c2]] w (FB (andW true fs gs) (andB fs gs) w) := by
  obtain ⟨x1, x2, x3, x4, x5⟩ := box2_result w (.slice a1 fs.length c1) (.slice a2 gs.length c2)
  have hy := pair_new (((w.alloc (.cells #[.slice a1 fs.length c1] 26)).alloc (.cells #[.slice a2 gs.length c2] 26)).alloc (.cells #[.slice none 0 0] 26)) (.slice a1 fs.length c1) (.slice a2 gs.length c2)
  rw [show (((w.alloc (.cells #[.slice a1 fs.length c1] 26)).alloc (.cells #[.slice a2 gs.length c2] 26)).alloc (.cells #[.slice none 0 0] 26)).heap.size = w.heap.size + 1 + 1 + 1 by simp] at hy
  have H0 := Lib.hid (And.intro hy.1 (And.intro (x3.alloc (.cells #[.slice a1 fs.length c1, .slice a2 gs.length c2] 44)) (x4.trans (hy.2.mono (by omega)))))
  have hcf := x1.cell
  have hcg := x2.cell
  have hp0 := hy.1.c0
  have hp1 := hy.1.c1
  clear x1 x2 x3 x4 x5 hy
  have HM := Lib.hid (fun W i1 i2 hp => pairThat_any 25 #[.agg #[.slice a1 fs.length c1, .slice a2 gs.length c2]] #[] true a1 a2 c1 c2 fs gs W i1 n1 i2 n2 hf hg (enters_of Try.func25 (by kernel_rfl) rfl) hp)
  have hl := andW_le true fs gs
  have HT := Lib.hid (fun (W : World) (i1 : Ints W a1 fs) (i2 : Ints W a2 gs) (q1 : Plain.setsB fs = true) (q2 : Plain.setsB gs = true) => (fun s X hs hb => by simpa using bothHave_tells s a1 a2 c1 c2 fs gs X hs (Lib.hid (i1.on hb)) (Lib.hid (i2.on hb)) (Lib.hid q1) (Lib.hid q2) hf hg : Tells 25 #[.agg #[.slice a1 fs.length c1, .slice a2 gs.length c2]] #[] (andT true fs gs) W))
  obtain ⟨L, hL⟩ : ∃ L, L = andW true fs gs := ⟨_, rfl⟩
  obtain ⟨ok, hok⟩ : ∃ ok, ok = andB fs gs := ⟨_, rfl⟩
  rw [← hL] at HM hl ⊢
  rw [← hok] at HM ⊢
  clear hL hok
  go_enter Try.func10, Try.ntmps10
  go_wp2_with fail
  clear hcf hcg hp0 hp1
  obtain ⟨W, hW⟩ : ∃ W, W = ((((w.alloc (.cells #[.slice a1 fs.length c1] 26)).alloc (.cells #[.slice a2 gs.length c2] 26)).alloc (.cells #[.slice none 0 0] 26)).alloc (.cells #[.slice a1 fs.length c1, .slice a2 gs.length c2] 44)) := ⟨_, rfl⟩
  rw [← hW] at H0 ⊢
  clear hW
  refine (HM.out _ (Lib.hid (h1.out.on H0.out.2.2)) (Lib.hid (h2.out.on H0.out.2.2)) (Lib.hid (HT.out _ (h1.out.on H0.out.2.2) (h2.out.on H0.out.2.2)))).mono ?_
  rintro e w5 ⟨ma, mc, rfl, hi, ho, hcp, hb⟩
  have HS := Lib.hid (fam_storedB (W := W) (B := W.heap.size) (G := (w.heap.size + 1 + 1)) ok H0.out.2.2 (by omega) H0.out.2.1.lt (Nat.le_refl _) H0.out.2.1 hi ho hcp hb)
  have hcr := (H0.out.2.1.on hb).cell
  have hfr := (H0.out.2.1.on hb).free
  clear hi ho hcp hb
  go_wp2_with fail
  refine bodyPost_ret (results_fam2 rfl _ _ ((w.heap.size + 1 + 1)) _ (.bool ok) rfl rfl HS.out.1) rfl HS.out.2
theorem bothAndFamily (fs : List Int) (n1 : Hid (In64 fs)) (hf : fs.length ≤ 1048576) (gs : List Int) (n2 : Hid (In64 gs)) (hg : gs.length ≤ 1048576) : ∃ (out : List Int) (ok : Bool), out.length ≤ 1048576 ∧
    (∀ a1 c1 a2 c2 w, Hid (Ints w a1 fs) → Hid (Ints w a2 gs) → Calls Try.prog 8 #[.agg #[.slice a1 fs.length c1], .agg #[.slice a2 gs.length c2]] w (FB out ok w)) ∧
    (∀ a1 c1 a2 c2 w, Hid (Ints w a1 fs) → Hid (Ints w a2 gs) → Calls Try.prog 10 #[.agg #[.slice a1 fs.length c1], .agg #[.slice a2 gs.length c2]] w (FB out ok w)) :=
  ⟨_, _, Nat.le_trans (andW_le true fs gs) (by decide), fun a1 c1 a2 c2 w i1 i2 => specAndFamily_any a1 a2 c1 c2 fs gs w i1 n1 i2 n2 hf hg, fun a1 c1 a2 c2 w i1 i2 => implAndFamily_any a1 a2 c1 c2 fs gs w i1 n1 i2 n2 hf hg⟩
set_option maxRecDepth 100000 in
set_option maxHeartbeats 2000000 in
theorem specOrFamily_any (a1 a2 : Option Addr) (c1 c2 : Nat) (fs gs : List Int) (w : World) (h1 : Hid (Ints w a1 fs)) (n1 : Hid (In64 fs)) (h2 : Hid (Ints w a2 gs)) (n2 : Hid (In64 gs)) (hf : fs.length ≤ 1048576) (hg : gs.length ≤ 1048576) :
    Calls Try.prog 14 #[.agg #[.slice a1 fs.length c1], .agg #[.slice a2 gs.length c2]] w (FB (andW false fs gs) (andB fs gs) w) := by
  obtain ⟨x1, x2, x3, x4, -⟩ := box2_result w (.slice a1 fs.length c1) (.slice a2 gs.length c2)
  have H0 := Lib.hid (And.intro x1 (And.intro x2 (And.intro x3 x4)))
  have hcf := x1.cell
  have hcg := x2.cell
  clear x1 x2 x3 x4
  have HM := Lib.hid (fun W i1 i2 => l5Both_any a1 a2 c1 c2 fs gs false W i1 n1 i2 n2 hf hg)
  have hl := andW_le false fs gs
  obtain ⟨L, hL⟩ : ∃ L, L = andW false fs gs := ⟨_, rfl⟩
  obtain ⟨ok, hok⟩ : ∃ ok, ok = andB fs gs := ⟨_, rfl⟩
  rw [← hL] at HM hl ⊢
  rw [← hok] at HM ⊢
  clear hL hok
  go_enter Try.func14, Try.ntmps14
  go_wp2_with fail
  clear hcf hcg
  obtain ⟨W, hW⟩ : ∃ W, W = (((w.alloc (.cells #[.slice a1 fs.length c1] 26)).alloc (.cells #[.slice a2 gs.length c2] 26)).alloc (.cells #[.slice none 0 0] 26)) := ⟨_, rfl⟩
  rw [← hW] at H0 ⊢
  clear hW
  refine (HM.out _ (Lib.hid (h1.out.on H0.out.2.2.2)) (Lib.hid (h2.out.on H0.out.2.2.2))).mono ?_
  rintro e w5 ⟨ma, mc, rfl, hi, ho, hcp, hb⟩
  have HS := Lib.hid (fam_storedB (W := W) (B := W.heap.size) (G := (w.heap.size + 1 + 1)) ok H0.out.2.2.2 (by omega) H0.out.2.2.1.lt (Nat.le_refl _) H0.out.2.2.1 hi ho hcp hb)
  have hcr := (H0.out.2.2.1.on hb).cell
  have hfr := (H0.out.2.2.1.on hb).free
  clear hi ho hcp hb
  go_wp2_with fail
  refine bodyPost_ret (results_fam2 rfl _ _ ((w.heap.size + 1 + 1)) _ (.bool ok) rfl rfl HS.out.1) rfl HS.out.2
set_option maxRecDepth 100000 in
set_option maxHeartbeats 2000000 in
theorem implOrFamily_any (a1 a2 : Option Addr) (c1 c2 : Nat) (fs gs : List Int) (w : World) (h1 : Hid (Ints w a1 fs)) (n1 : Hid (In64 fs)) (h2 : Hid (Ints w a2 gs)) (n2 : Hid (In64 gs)) (hf : fs.length ≤ 1048576) (hg : gs.length ≤ 1048576) :
    Calls Try.prog 15 #[.agg #[.slice a1 fs.length c1], .agg #[.slice a2 gs.length c2]] w (FB (andW false fs gs) (andB fs gs) w) := by
  obtain ⟨x1, x2, x3, x4, x5⟩ := box2_result w (.slice a1 fs.length c1) (.slice a2 gs.length c2)
  have hy := pair_new (((w.alloc (.cells #[.slice a1 fs.length c1] 26)).alloc (.cells #[.slice a2 gs.length c2] 26)).alloc (.cells #[.slice none 0 0] 26)) (.slice a1 fs.length c1) (.slice a2 gs.length c2)
  rw [show (((w.alloc (.cells #[.slice a1 fs.length c1] 26)).alloc (.cells #[.slice a2 gs.length c2] 26)).alloc (.cells #[.slice none 0 0] 26)).heap.size = w.heap.size + 1 + 1 + 1 by simp] at hy
  have H0 := Lib.hid (And.intro hy.1 (And.intro (x3.alloc (.cells #[.slice a1 fs.length c1, .slice a2 gs.length c2] 44)) (x4.trans (hy.2.mono (by omega)))))
  have hcf := x1.cell
  have hcg := x2.cell
  have hp0 := hy.1.c0
  have hp1 := hy.1.c1
  clear x1 x2 x3 x4 x5 hy
  have HM := Lib.hid (fun W i1 i2 hp => pairThat_any 29 #[.agg #[.slice a1 fs.length c1, .slice a2 gs.length c2]] #[] false a1 a2 c1 c2 fs gs W i1 n1 i2 n2 hf hg (enters_of Try.func29 (by kernel_rfl) rfl) hp)
  have hl := andW_le false fs gs
  have HT := Lib.hid (fun (W : World) (i1 : Ints W a1 fs) (i2 : Ints W a2 gs) (q1 : Plain.setsB fs = true) (q2 : Plain.setsB gs = true) => (fun s X hs hb => by simpa using anyHas_tells s a1 a2 c1 c2 fs gs X hs (Lib.hid (i1.on hb)) (Lib.hid (i2.on hb)) (Lib.hid q1) (Lib.hid q2) hf hg : Tells 29 #[.agg #[.slice a1 fs.length c1, .slice a2 gs.length c2]] #[] (andT false fs gs) W))
  obtain ⟨L, hL⟩ : ∃ L, L = andW false fs gs := ⟨_, rfl⟩
  obtain ⟨ok, hok⟩ : ∃ ok, ok = andB fs gs := ⟨_, rfl⟩
  rw [← hL] at HM hl ⊢
  rw [← hok] at HM ⊢
  clear hL hok
  go_enter Try.func15, Try.ntmps15
  go_wp2_with fail
  clear hcf hcg hp0 hp1
  obtain ⟨W, hW⟩ : ∃ W, W = ((((w.alloc (.cells #[.slice a1 fs.length c1] 26)).alloc (.cells #[.slice a2 gs.length c2] 26)).alloc (.cells #[.slice none 0 0] 26)).alloc (.cells #[.slice a1 fs.length c1, .slice a2 gs.length c2] 44)) := ⟨_, rfl⟩
  rw [← hW] at H0 ⊢
  clear hW
  refine (HM.out _ (Lib.hid (h1.out.on H0.out.2.2)) (Lib.hid (h2.out.on H0.out.2.2)) (Lib.hid (HT.out _ (h1.out.on H0.out.2.2) (h2.out.on H0.out.2.2)))).mono ?_
  rintro e w5 ⟨ma, mc, rfl, hi, ho, hcp, hb⟩
  have HS := Lib.hid (fam_storedB (W := W) (B := W.heap.size) (G := (w.heap.size + 1 + 1)) ok H0.out.2.2 (by omega) H0.out.2.1.lt (Nat.le_refl _) H0.out.2.1 hi ho hcp hb)
  have hcr := (H0.out.2.1.on hb).cell
  have hfr := (H0.out.2.1.on hb).free
  clear hi ho hcp hb
  go_wp2_with fail
  refine bodyPost_ret (results_fam2 rfl _ _ ((w.heap.size + 1 + 1)) _ (.bool ok) rfl rfl HS.out.1) rfl HS.out.2
theorem bothOrFamily (fs : List Int) (n1 : Hid (In64 fs)) (hf : fs.length ≤ 1048576) (gs : List Int) (n2 : Hid (In64 gs)) (hg : gs.length ≤ 1048576) : ∃ (out : List Int) (ok : Bool), out.length ≤ 1048576 ∧
    (∀ a1 c1 a2 c2 w, Hid (Ints w a1 fs) → Hid (Ints w a2 gs) → Calls Try.prog 14 #[.agg #[.slice a1 fs.length c1], .agg #[.slice a2 gs.length c2]] w (FB out ok w)) ∧
    (∀ a1 c1 a2 c2 w, Hid (Ints w a1 fs) → Hid (Ints w a2 gs) → Calls Try.prog 15 #[.agg #[.slice a1 fs.length c1], .agg #[.slice a2 gs.length c2]] w (FB out ok w)) :=
  ⟨_, _, Nat.le_trans (andW_le false fs gs) (by decide), fun a1 c1 a2 c2 w i1 i2 => specOrFamily_any a1 a2 c1 c2 fs gs w i1 n1 i2 n2 hf hg, fun a1 c1 a2 c2 w i1 i2 => implOrFamily_any a1 a2 c1 c2 fs gs w i1 n1 i2 n2 hf hg⟩

end Go.Proofs.Ytfikbjfgieiifaa
