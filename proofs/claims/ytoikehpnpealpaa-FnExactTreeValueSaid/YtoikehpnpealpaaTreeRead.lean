/- Contract: spec.l4Read reads the tree at the beginning of a text. Condition: at most 80 bytes. -/
import Derived.Test.YtoikehpnpealpaaTree
import Derived.Test.YtoikehpnpealpaaMostWalks
import Derived.Lib.IndexBytes
import Derived.StillTailTactics
import Derived.Laws.Rows
import Derived.Laws.Tables
import Derived.Laws.CopyOwn
namespace Go.Proofs.Ytoikehpnpealpaa
open Go.ChangeShapes Go.WideShapes Go.ChangeAt Go.RowKit
set_option linter.unusedVariables false

/-- What a reading hands back. -/
def treeAgg (r : Option (Nat × Nat × Nat × Nat)) : Value := match r with
  | none => .agg #[.int .i64 0, .int .i64 0, .int .i64 0, .int .i64 0]
  | some t => .agg #[.int .i64 (t.1 : Int), .int .i64 (t.2.1 : Int), .int .i64 (t.2.2.1 : Int), .int .i64 (t.2.2.2 : Int)]
def ReadPost (r : Option (Nat × Nat × Nat × Nat)) (w : World) (e : Ending) (w' : World) : Prop := e = .returned (.tuple #[treeAgg r, .bool r.isSome]) ∧ Below w.heap.size w w'
theorem read_post {r r' : Option (Nat × Nat × Nat × Nat)} {w w' : World} {e : Ending} (h : r = r') (k : ReadPost r' w e w') : ReadPost r w e w' := by subst h; exact k
/-- Four numbers in a block. -/
def Four (w : World) (G : Nat) (a b c d : Int) : Prop := w.heap[G]? = some (.cells #[.int .i64 a, .int .i64 b, .int .i64 c, .int .i64 d] 76 (0, 0))
theorem four_new (w : World) (a b c d : Int) : Four (w.alloc (.cells #[.int .i64 a, .int .i64 b, .int .i64 c, .int .i64 d] 76)) w.heap.size a b c d := heap_alloc_new w _
theorem Four.on {w w' : World} {G : Nat} {a b c d : Int} (h : Four w G a b c d) (hb : Below w.heap.size w w') : Four w' G a b c d := (hb.block G (Array.getElem?_eq_some_iff.1 h).1).trans h
theorem Four.cells {w : World} {G : Nat} {a b c d : Int} (h : Four w G a b c d) : w.cell? ⟨G, 0, none⟩ = some (.int .i64 a) ∧ w.cell? ⟨G, 1, none⟩ = some (.int .i64 b) ∧ w.cell? ⟨G, 2, none⟩ = some (.int .i64 c) ∧ w.cell? ⟨G, 3, none⟩ = some (.int .i64 d) ∧ ∀ j, w.frozen? ⟨G, j, none⟩ = false := by
  refine ⟨?_, ?_, ?_, ?_, fun j => frozen_of_row w G j _ _ h⟩
  all_goals
    rw [cell_of_row w G _ _ _ _ h]
    rfl
theorem set4 {B R : Nat} {w wr : World} (h : Below B w wr) (hR : B ≤ R) (v0 v1 v2 v3 : Value) : Below B w ((((wr.setCell ⟨R, 0, none⟩ v0).setCell ⟨R, 1, none⟩ v1).setCell ⟨R, 2, none⟩ v2).setCell ⟨R, 3, none⟩ v3) :=
  (((h.setCell (p := ⟨R, 0, none⟩) hR _).setCell (p := ⟨R, 1, none⟩) hR _).setCell (p := ⟨R, 2, none⟩) hR _).setCell (p := ⟨R, 3, none⟩) hR _
theorem Four.lt {w : World} {G : Nat} {a b c d : Int} (h : Four w G a b c d) : G < w.heap.size := (Array.getElem?_eq_some_iff.1 h).1
theorem byte_list {s : ByteArray} {k : Nat} (h : k < s.size) : s.data.toList[k]? = some s[k] := by
  rw [List.getElem?_eq_getElem (by simpa using h)]
  rfl

theorem most_max (a b : Nat) (w : World) (ha : a ≤ 40) (hb : b ≤ 40) : Calls Try.prog 53 #[.int .i64 (a : Int), .int .i64 (b : Int)] w fun e w' => e = .returned (.int .i64 ((max a b : Nat) : Int)) ∧ w' = w := by
  by_cases h : b ≤ a
  · rw [Nat.max_eq_left h]
    exact (l1Most_ge _ _ w (by omega) (by omega) (by omega)).mono fun e w' h => ⟨h.1, h.2.symm⟩
  · rw [Nat.max_eq_right (by omega)]
    exact (l1Most_le _ _ w (by omega) (by omega) (by omega)).mono fun e w' h => ⟨h.1, h.2.symm⟩

set_option maxRecDepth 100000 in
set_option maxHeartbeats 4000000 in
theorem l4Read_any (f : Nat) : ∀ (s : ByteArray) (w : World), s.size < f → s.size ≤ 80 →
    Calls Try.prog 74 #[.string s] w (ReadPost (readT f s.data.toList) w) := by
  induction f with
  | zero => intro s w h; omega
  | succ f ih =>
    intro s w hf hs
    have hsz : s.data.toList.length = s.size := by simp
    have HB0 := Lib.hid ((Below.refl w.heap.size w).alloc (Nat.le_refl _) (.cells #[.int .i64 0, .int .i64 0, .int .i64 0, .int .i64 0] 76))
    have HF0 := Lib.hid (four_new w 0 0 0 0)
    by_cases h0 : runLen s.data.toList = 0
    · by_cases hz : s.size = 0
      · have he : s = ⟨#[]⟩ := by
          obtain ⟨d⟩ := s
          have : d = #[] := by simpa [ByteArray.size] using hz
          rw [this]
        subst he
        have HE : Hid (readT (f + 1) (ByteArray.mk #[]).data.toList = none) := Lib.hid (by simp [readT, runLen])
        clear ih hf hs hsz h0 hz
        go_enter Try.func74, Try.ntmps74
        go_wp2_with fail
        go_loop [4] (fun i => i = .int .i64 0) (fun i => 0)
        case atStart => rfl
        case round =>
          subst hrel
          go_wp2_with fail
          first
            | exact bodyPost_ret (v := .tuple #[.agg #[.int .i64 0, .int .i64 0, .int .i64 0, .int .i64 0], .bool false]) (by simp [results, Try.results74, go_sem]) rfl (read_post HE.out ⟨rfl, HB0.out⟩)
            | exact bodyPost_ret (v := .tuple #[.agg #[.int .i64 0, .int .i64 0, .int .i64 0, .int .i64 0], .bool false]) (by simp [results, Try.results74, go_sem]) rfl (read_post HE.out ⟨rfl, set4 HB0.out (Nat.le_refl _) _ _ _ _⟩)
      · have hz0 : 0 < s.size := by omega
        have hb0 := byte_list hz0
        have hc0 := run_at s.data.toList s[0] (by rw [h0]; exact hb0)
        obtain ⟨c, hc⟩ : ∃ c, c = s[0] := ⟨_, rfl⟩
        rw [← hc] at hc0 hb0
        have HC := Lib.hid hc
        have HC0 := Lib.hid hc0
        have hem : s.toList.isEmpty = false := by rw [ByteArray.toList_eq, List.isEmpty_eq_false_iff]; intro he; rw [he] at hb0; simp at hb0
        have hzi : (0 : Int) < (s.size : Int) := by omega
        by_cases h91 : c = 91
        · have HE1 : Hid (readT (f + 1) s.data.toList = match readT f (s.data.toList.drop 1) with
              | none => none
              | some a =>
                if s.data.toList[1 + a.1]? = some 44 then
                  match readT f (s.data.toList.drop (2 + a.1)) with
                  | none => none
                  | some b => if s.data.toList[2 + a.1 + b.1]? = some 93 then some (3 + a.1 + b.1, max a.2.1 b.2.1 + 1, a.2.2.1 + b.2.2.1, 2 * (a.2.2.2 + b.2.2.2)) else none
                else none) := Lib.hid (by rw [readT, if_neg (by rw [h0]; simp), if_pos (by rw [hb0, h91])]; rfl)
          have hq2 : ((s[0].toNat : Int) != 91) = false := by rw [← hc, h91]; rfl
          have hs1 : (s.extract 1 s.size).size = s.size - 1 := by simp
          have hc1 := fun W => ih (s.extract 1 s.size) W (by omega) (by omega)
          rw [Lib.extract_to_end] at hc1
          have C1 := Lib.hid hc1
          have hfit := readT_fit f (s.data.toList.drop 1)
          obtain ⟨r, hr⟩ : ∃ r, r = readT f (s.data.toList.drop 1) := ⟨_, rfl⟩
          rw [← hr] at HE1 C1 hfit
          have IH := Lib.hid ih
          have HSZ := Lib.hid hsz
          clear ih hsz h0 hz hb0 hc0 hc h91 hc1 hs1 hr
          go_enter Try.func74, Try.ntmps74
          go_wp2_with fail
          go_loop [4] (fun i => i = .int .i64 0) (fun i => 0)
          case atStart => rfl
          case round =>
            subst hrel
            go_wp2_with fail
            refine (l2Sign_any _ _).mono ?_
            rw [← HC.out, HC0.out]
            rintro e w' ⟨rfl, rfl⟩
            go_wp2_with fail
            refine (C1.out _).mono ?_
            cases r with
            | none =>
              rintro e w1 ⟨rfl, hb⟩
              have HR1 := Lib.hid (HF0.out.on hb)
              have HB1 := Lib.hid (HB0.out.trans (hb.mono HB0.out.size))
              have hz1 := HR1.out.lt
              obtain ⟨r0, r1, r2, r3, r4⟩ := HR1.out.cells
              have r5 := r4 0
              have r6 := r4 1
              have r7 := r4 2
              have r8 := r4 3
              clear hb r4 hfit
              unfold treeAgg
              go_wp2_with fail
              have HE : Hid (readT (f + 1) s.data.toList = none) := Lib.hid HE1.out
              exact bodyPost_ret (v := .tuple #[.agg #[.int .i64 0, .int .i64 0, .int .i64 0, .int .i64 0], .bool false]) (by simp [results, Try.results74, go_sem, r0, r1, r2, r3, hz1]) rfl (read_post HE.out ⟨rfl, (set4 HB1.out (Nat.le_refl _) _ _ _ _).alloc (by simp; have := HB1.out.size; omega) _⟩)
            | some a =>
              have hsm := fit_small (hfit a rfl) (by simp; omega)
              obtain ⟨a1, a2, a3, a4⟩ := a
              obtain ⟨ha1, ha2, ha3, ha4⟩ := hsm
              have hab : a1 ≤ s.size - 1 := by have := (hfit _ rfl).1; simp at this; have := HSZ.out; omega
              simp only at ha1 ha2 ha3 ha4
              rintro e w1 ⟨rfl, hb⟩
              have HR1 := Lib.hid (HF0.out.on hb)
              have HB1 := Lib.hid (HB0.out.trans (hb.mono HB0.out.size))
              have hz1 := HR1.out.lt
              obtain ⟨r0, r1, r2, r3, r4⟩ := HR1.out.cells
              have r5 := r4 0
              have r6 := r4 1
              have r7 := r4 2
              have r8 := r4 3
              clear hb r4 hfit
              unfold treeAgg
              by_cases hat : 1 + a1 < s.size
              · have hat1 : (1 : Int) + (a1 : Int) < (s.size : Int) := by omega
                have hbt := byte_list hat
                by_cases h44 : s[1 + a1] = 44
                · have hq3 : (((s[1 + a1]).toNat : Int) != 44) = false := by rw [h44]; rfl
                  have HE2 : Hid (readT (f + 1) s.data.toList = match readT f (s.data.toList.drop (2 + a1)) with
                      | none => none
                      | some b => if s.data.toList[2 + a1 + b.1]? = some 93 then some (3 + a1 + b.1, max a2 b.2.1 + 1, a3 + b.2.2.1, 2 * (a4 + b.2.2.2)) else none) := Lib.hid (by
                    rw [HE1.out]
                    simp only
                    rw [if_pos (by rw [hbt, h44])])
                  clear HE1 hbt h44
                  have HA := Lib.hid (four_new w1 (a1 : Int) (a2 : Int) (a3 : Int) (a4 : Int))
                  have hbw := (Below.refl w1.heap.size w1).alloc (Nat.le_refl _) (.cells #[.int .i64 (a1 : Int), .int .i64 (a2 : Int), .int .i64 (a3 : Int), .int .i64 (a4 : Int)] 76)
                  have HRw := Lib.hid (HR1.out.on hbw)
                  have HBw := Lib.hid (HB1.out.trans (hbw.mono HB1.out.size))
                  have hs2 : (s.extract (1 + a1 + 1) s.size).size = s.size - (1 + a1 + 1) := by simp
                  have hc2 := fun W => IH.out (s.extract (1 + a1 + 1) s.size) W (by omega) (by omega)
                  rw [Lib.extract_to_end, show 1 + a1 + 1 = 2 + a1 by omega] at hc2
                  have hfit2 := readT_fit f (s.data.toList.drop (2 + a1))
                  obtain ⟨r', hr'⟩ : ∃ r', r' = readT f (s.data.toList.drop (2 + a1)) := ⟨_, rfl⟩
                  rw [← hr'] at HE2 hfit2 hc2
                  have e2 : 1 + a1 + 1 = 2 + a1 := by omega
                  have C2 : Hid (∀ W, Calls Try.prog 74 #[.string (s.extract (1 + a1 + 1) s.size)] W (ReadPost r' W)) := Lib.hid (by rw [e2]; exact hc2)
                  clear hc2 hs2 hr' e2 hbw
                  go_wp2_with fail
                  refine (C2.out _).mono ?_
                  clear r0 r1 r2 r3 r5 r6 r7 r8
                  cases r' with
                  | none =>
                    rintro e w2 ⟨rfl, hb⟩
                    have HR2 := Lib.hid (HRw.out.on hb)
                    have HB2 := Lib.hid (HBw.out.trans (hb.mono HBw.out.size))
                    have hz2 := HR2.out.lt
                    have hz3 : w1.heap.size < w2.heap.size := (HA.out.on hb).lt
                    obtain ⟨r0, r1, r2, r3, r4⟩ := HR2.out.cells
                    have r5 := r4 0
                    have r6 := r4 1
                    have r7 := r4 2
                    have r8 := r4 3
                    have HE : Hid (readT (f + 1) s.data.toList = none) := Lib.hid HE2.out
                    clear hb r4 hfit2 HE2
                    unfold treeAgg
                    go_wp2_with fail
                    exact bodyPost_ret (v := .tuple #[.agg #[.int .i64 0, .int .i64 0, .int .i64 0, .int .i64 0], .bool false]) (by simp [results, Try.results74, go_sem, r0, r1, r2, r3, hz2]) rfl (read_post HE.out ⟨rfl, (set4 HB2.out (Nat.le_refl _) _ _ _ _).alloc (by simp; have := HB2.out.size; omega) _⟩)
                  | some b =>
                    have hsm2 := fit_small (hfit2 b rfl) (by simp; omega)
                    obtain ⟨b1, b2, b3, b4⟩ := b
                    obtain ⟨hb1, hb2, hb3, hb4⟩ := hsm2
                    simp only at hb1 hb2 hb3 hb4
                    rintro e w2 ⟨rfl, hb⟩
                    have HR2 := Lib.hid (HRw.out.on hb)
                    have HA2 := Lib.hid (HA.out.on hb)
                    have HB2 := Lib.hid (HBw.out.trans (hb.mono HBw.out.size))
                    have hz2 := HR2.out.lt
                    have hz3 : w1.heap.size < w2.heap.size := HA2.out.lt
                    obtain ⟨r0, r1, r2, r3, r4⟩ := HR2.out.cells
                    have r5 := r4 0
                    have r6 := r4 1
                    have r7 := r4 2
                    have r8 := r4 3
                    obtain ⟨q0, q1, q2, q3, -⟩ := HA2.out.cells
                    clear hb r4 hfit2
                    unfold treeAgg
                    by_cases hat2 : 1 + a1 + 1 + b1 < s.size
                    · have hat3 : (1 : Int) + (a1 : Int) + 1 + (b1 : Int) < (s.size : Int) := by omega
                      have hbt := byte_list hat2
                      by_cases h93 : s[1 + a1 + 1 + b1] = 93
                      · have hq4 : (((s[1 + a1 + 1 + b1]).toNat : Int) != 93) = false := by rw [h93]; rfl
                        have HE : Hid (readT (f + 1) s.data.toList = some (3 + a1 + b1, max a2 b2 + 1, a3 + b3, 2 * (a4 + b4))) := Lib.hid (by
                          rw [HE2.out]
                          simp only
                          rw [if_pos (by rw [show 2 + a1 + b1 = 1 + a1 + 1 + b1 by omega, hbt, h93])])
                        clear HE2 hbt h93
                        go_wp2_with fail
                        have h0v : Hid (Below w.heap.size w (w2.alloc (.cells #[.int .i64 (b1 : Int), .int .i64 (b2 : Int), .int .i64 (b3 : Int), .int .i64 (b4 : Int)] 76)).drew) := Lib.hid ((HB2.out.alloc HB2.out.size _).drew)
                        have k0 : (w2.alloc (.cells #[.int .i64 (b1 : Int), .int .i64 (b2 : Int), .int .i64 (b3 : Int), .int .i64 (b4 : Int)] 76)).drew.heap[w2.heap.size]? = _ := heap_alloc_new w2 _
                        have k1 : (w2.alloc (.cells #[.int .i64 (b1 : Int), .int .i64 (b2 : Int), .int .i64 (b3 : Int), .int .i64 (b4 : Int)] 76)).drew.heap[w1.heap.size]? = _ := (heap_alloc_old w2 _ hz3).trans HA2.out
                        have k2 : (w2.alloc (.cells #[.int .i64 (b1 : Int), .int .i64 (b2 : Int), .int .i64 (b3 : Int), .int .i64 (b4 : Int)] 76)).drew.heap[w.heap.size]? = _ := (heap_alloc_old w2 _ hz2).trans HR2.out
                        refine wp_region_still_tail 20 (by kernel_rfl) (by kernel_rfl) ?_
                        simp only [List.take_succ_cons, List.take_zero, List.drop_succ_cons, List.drop_zero]
                        change wpStill _ _ (World.drew _) (fun a' => wpList _ _ _ _ a' (World.drew _)) _ _
                        generalize (World.drew _) = V at h0v k0 k1 k2 ⊢
                        clear HR2 HA2 HB2 hz2 hz3 r0 r1 r2 r3 r5 r6 r7 r8 q0 q1 q2 q3
                        have K0 : Hid (Four V w2.heap.size b1 b2 b3 b4) := Lib.hid k0
                        have K1 : Hid (Four V w1.heap.size a1 a2 a3 a4) := Lib.hid k1
                        have K2 : Hid (Four V w.heap.size 0 0 0 0) := Lib.hid k2
                        clear k0 k1 k2
                        obtain ⟨j0, j1, j2, j3, -⟩ := K0.out.cells
                        obtain ⟨q0, q1, q2, q3, -⟩ := K1.out.cells
                        obtain ⟨r0, r1, r2, r3, r4⟩ := K2.out.cells
                        have r5 := r4 0
                        have r6 := r4 1
                        have r7 := r4 2
                        have r8 := r4 3
                        clear r4
                        repeat still_step
                        still_call (most_max a2 b2 V (by omega) (by omega))
                        have hmx : max a2 b2 ≤ 19 := by omega
                        repeat still_step
                        refine wpStill_nil ?_
                        go_wp2_with fail
                        rw [show (1 + (a1 : Int) + 1 + (b1 : Int) + 1) = ((3 + a1 + b1 : Nat) : Int) by omega, show ((max a2 b2 : Nat) : Int) + 1 = ((max a2 b2 + 1 : Nat) : Int) from rfl, show (a3 : Int) + (b3 : Int) = ((a3 + b3 : Nat) : Int) from rfl, show 2 * ((a4 : Int) + (b4 : Int)) = ((2 * (a4 + b4) : Nat) : Int) by omega]
                        refine bodyPost_ret (v := .tuple #[treeAgg (some (3 + a1 + b1, max a2 b2 + 1, a3 + b3, 2 * (a4 + b4))), .bool true]) ?_ rfl (read_post HE.out ⟨rfl, set4 h0v.out (Nat.le_refl _) _ _ _ _⟩)
                        unfold treeAgg
                        simp only
                        generalize ((3 + a1 + b1 : Nat) : Int) = x1
                        generalize ((max a2 b2 + 1 : Nat) : Int) = x2
                        generalize ((a3 + b3 : Nat) : Int) = x3
                        generalize ((2 * (a4 + b4) : Nat) : Int) = x4
                        simp [results, Try.results74, go_sem, r0, r1, r2, r3]
                      · have hn93 : ¬ (s[1 + a1 + 1 + b1]).toNat = 93 := fun e => h93 (UInt8.toNat_inj.1 e)
                        have hq4 : (((s[1 + a1 + 1 + b1]).toNat : Int) != 93) = true := by simp; omega
                        have HE : Hid (readT (f + 1) s.data.toList = none) := Lib.hid (by
                          rw [HE2.out]
                          simp only
                          rw [if_neg (by rw [show 2 + a1 + b1 = 1 + a1 + 1 + b1 by omega, hbt]; simpa using h93)])
                        clear HE2 hbt h93 hn93
                        go_wp2_with fail
                        exact bodyPost_ret (v := .tuple #[.agg #[.int .i64 0, .int .i64 0, .int .i64 0, .int .i64 0], .bool false]) (by simp [results, Try.results74, go_sem, r0, r1, r2, r3, hz2]) rfl (read_post HE.out ⟨rfl, (set4 HB2.out (Nat.le_refl _) _ _ _ _).alloc (by simp; have := HB2.out.size; omega) _⟩)
                    · have hat3 : ¬ (1 : Int) + (a1 : Int) + 1 + (b1 : Int) < (s.size : Int) := by omega
                      have HE : Hid (readT (f + 1) s.data.toList = none) := Lib.hid (by
                        rw [HE2.out]
                        simp only
                        rw [if_neg (by rw [List.getElem?_eq_none (by have := HSZ.out; omega)]; simp)])
                      clear HE2
                      go_wp2_with fail
                      exact bodyPost_ret (v := .tuple #[.agg #[.int .i64 0, .int .i64 0, .int .i64 0, .int .i64 0], .bool false]) (by simp [results, Try.results74, go_sem, r0, r1, r2, r3, hz2]) rfl (read_post HE.out ⟨rfl, (set4 HB2.out (Nat.le_refl _) _ _ _ _).alloc (by simp; have := HB2.out.size; omega) _⟩)
                · have hn44 : ¬ (s[1 + a1]).toNat = 44 := fun e => h44 (UInt8.toNat_inj.1 e)
                  have hq3 : (((s[1 + a1]).toNat : Int) != 44) = true := by simp; omega
                  have HE : Hid (readT (f + 1) s.data.toList = none) := Lib.hid (by
                    rw [HE1.out]
                    simp only
                    rw [if_neg (by rw [hbt]; simpa using h44)])
                  clear HE1 hbt h44 hn44
                  go_wp2_with fail
                  exact bodyPost_ret (v := .tuple #[.agg #[.int .i64 0, .int .i64 0, .int .i64 0, .int .i64 0], .bool false]) (by simp [results, Try.results74, go_sem, r0, r1, r2, r3, hz1]) rfl (read_post HE.out ⟨rfl, (set4 HB1.out (Nat.le_refl _) _ _ _ _).alloc (by simp; have := HB1.out.size; omega) _⟩)
              · have hat1 : ¬ (1 : Int) + (a1 : Int) < (s.size : Int) := by omega
                have HE : Hid (readT (f + 1) s.data.toList = none) := Lib.hid (by
                  rw [HE1.out]
                  simp only
                  rw [if_neg (by rw [List.getElem?_eq_none (by have := HSZ.out; omega)]; simp)])
                clear HE1
                go_wp2_with fail
                exact bodyPost_ret (v := .tuple #[.agg #[.int .i64 0, .int .i64 0, .int .i64 0, .int .i64 0], .bool false]) (by simp [results, Try.results74, go_sem, r0, r1, r2, r3, hz1]) rfl (read_post HE.out ⟨rfl, (set4 HB1.out (Nat.le_refl _) _ _ _ _).alloc (by simp; have := HB1.out.size; omega) _⟩)
        · have hn91 : ¬ c.toNat = 91 := fun e => h91 (UInt8.toNat_inj.1 e)
          have HE : Hid (readT (f + 1) s.data.toList = none) := Lib.hid (by
            rw [readT, if_neg (by rw [h0]; simp), if_neg (by rw [hb0]; simpa using h91)])
          have hq : (c.toNat : Int) ≠ 91 := by omega
          have hq2 : ((s[0].toNat : Int) != 91) = true := by rw [← hc]; simpa using hq
          clear ih hf hsz h0 hz hb0 hc0 hc h91 hn91
          go_enter Try.func74, Try.ntmps74
          go_wp2_with fail
          go_loop [4] (fun i => i = .int .i64 0) (fun i => 0)
          case atStart => rfl
          case round =>
            subst hrel
            go_wp2_with fail
            refine (l2Sign_any _ _).mono ?_
            rw [← HC.out, HC0.out]
            rintro e w' ⟨rfl, rfl⟩
            go_wp2_with fail
            exact bodyPost_ret (v := .tuple #[.agg #[.int .i64 0, .int .i64 0, .int .i64 0, .int .i64 0], .bool false]) (by simp [results, Try.results74, go_sem]) rfl (read_post HE.out ⟨rfl, HB0.out⟩)
    · have HE : Hid (readT (f + 1) s.data.toList = some (runLen s.data.toList, 0, 1, runLen s.data.toList)) := Lib.hid (by rw [readT, if_pos h0])
      have hrl := runLen_le s.data.toList
      obtain ⟨n, hn⟩ : ∃ n, n = runLen s.data.toList := ⟨_, rfl⟩
      rw [← hn] at HE h0 hrl
      rw [hsz] at hrl
      have HN := Lib.hid hn
      have hn0 : (0 : Int) < (n : Int) := by omega
      clear ih hf hsz hn h0
      go_enter Try.func74, Try.ntmps74
      go_wp2_with fail
      go_loop [4] (fun i => ∃ k : Nat, k ≤ n ∧ i = .int .i64 (k : Int)) (fun i => n - (intOf i).toNat)
      case atStart => exact ⟨0, Nat.zero_le _, rfl⟩
      case round =>
        obtain ⟨k, hk, rfl⟩ := hrel
        by_cases hlt : k < n
        · have hks : k < s.size := by omega
          have hne := run_before s.data.toList k s[k] (by rw [← HN.out]; exact hlt) (byte_list hks)
          have hbi := byteL_in s[k]
          obtain ⟨x, hx⟩ : ∃ x, x = byteL s[k] := ⟨_, rfl⟩
          rw [← hx] at hne hbi
          have HX := Lib.hid hx
          have hq : (x != 0) = true := by simpa using hne
          have hq2 : (x == 0) = false := by simpa using hne
          clear hne hx
          go_wp2_with fail
          refine (l2Sign_any _ _).mono ?_
          rw [← HX.out]
          rintro e w' ⟨rfl, rfl⟩
          go_wp2_with fail
          go_round
          case rel => exact ⟨k + 1, by omega, by go_num⟩
          case measure => simp [intOf]; omega
        · obtain rfl : k = n := by omega
          by_cases hks : k < s.size
          · have hc0 := run_at s.data.toList s[k] (by rw [← HN.out]; exact byte_list hks)
            have HC0 := Lib.hid hc0
            clear hc0
            go_wp2_with fail
            refine (l2Sign_any _ _).mono ?_
            rw [HC0.out]
            rintro e w' ⟨rfl, rfl⟩
            go_wp2_with fail
            exact bodyPost_ret (v := .tuple #[.agg #[.int .i64 (k : Int), .int .i64 0, .int .i64 1, .int .i64 (k : Int)], .bool true]) (by simp [results, Try.results74, go_sem]) rfl (read_post HE.out ⟨rfl, by first | exact set4 HB0.out (Nat.le_refl _) _ _ _ _ | exact (Below.refl _ _).alloc (Nat.le_refl _) _⟩)
          · go_wp2_with fail
            exact bodyPost_ret (v := .tuple #[.agg #[.int .i64 (k : Int), .int .i64 0, .int .i64 1, .int .i64 (k : Int)], .bool true]) (by simp [results, Try.results74, go_sem]) rfl (read_post HE.out ⟨rfl, by first | exact set4 HB0.out (Nat.le_refl _) _ _ _ _ | exact (Below.refl _ _).alloc (Nat.le_refl _) _⟩)

end Go.Proofs.Ytoikehpnpealpaa
