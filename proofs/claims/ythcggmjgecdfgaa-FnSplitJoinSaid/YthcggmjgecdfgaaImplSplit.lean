/- Contract: impl.SplitString returns the parts of a text between separators in new memory, or fails. Condition: none beyond the lengths that each says. -/
import Derived.Test.YthcggmjgecdfgaaPartsWalks
import Derived.Test.YthcggmjgecdfgaaCloneWalks
import Derived.Laws.OwnMore
import Derived.ArgAppend
namespace Go.Proofs.Ythcggmjgecdfgaa
open Go.RowKit Go.Shelf
attribute [local go_sem] Oper.semAt_some

/-- An append as one step of a region that draws its order, inside a fence; where the new row lies is told, too. -/
theorem stepIn_append {F : Fence} {n : Nat} {P : Program} (w : World) {ops : Array Oper} {o : Oper} {a : Act} {K : Act → World → Prop} {Q : Exit → Act → World → Prop} {E : Prop}
    (hg : o.guard = none) (s x : Operand) (t : TypeId) (hop : o.op = Op.call { callee := Callee.builtin Builtin.append, args := #[s, x], argTypes := #[t, t] })
    (base : Nat) (e : TypeId) (i : TypeInfo) (z : Value) (size bytes : Nat) (h1 : P.underlying t = some (.slice e)) (h2 : P.info? e = some i) (h3 : i.zero = some z) (h4 : i.size = size) (h5 : i.bytes = bytes) (h6 : z.cells.size = size) (h7 : 0 < size)
    (g k cap : Nat) (xs : List Value) (hs : a.eval s = .slice (some ⟨g, 0, none⟩) k cap) (hown : w.ownsRow base e size (.slice (some ⟨g, 0, none⟩) k cap) k xs) (ad : Addr) (m c : Nat) (news : List Value) (hx : a.eval x = .slice (some ad) m c) (hn : news.length = m * size)
    (hc : ∀ j u, news[j]? = some u → w.cell? (ad.add j) = some u) (h1c : ∀ u ∈ news, u.oneCell' = true) (b1 : k + m ≤ maxLen) (b2 : (k + m) * bytes ≤ 140737488355328) (b3 : base ≤ w.heap.size) (hkm : 0 < k + m)
    (hK : ∀ g' cap' w', w'.ownsRow base e size (.slice (some ⟨g', 0, none⟩) (k + m) cap') (k + m) (xs ++ news) → w.grownBy w' (some g) → (g' = g ∨ w.heap.size ≤ g') → K (a.put o.dst (.slice (some ⟨g', 0, none⟩) (k + m) cap')) w') :
    if Region.wanted o (yielded ops a.tmps) = true then Oper.wpIn F n P o a w K Q else E := by
  have hw : Region.wanted o (yielded ops a.tmps) = true := by simp [Region.wanted, hg]
  rw [if_pos hw]
  have fin : ∀ v' w', (Builtin.append_ #[t, t] o.type #[.slice (some ⟨g, 0, none⟩) k cap, .slice (some ad) m c]).run P w = .ok v' w' → K (a.put o.dst v') w' → Oper.wpIn F n P o a w K Q := fun v' w' hrun hk => by
    unfold Oper.wpIn
    refine ⟨?_, ?_⟩
    · simp [Oper.about, hop, resolve, Target.leads, Sem.run_pure]
    · rw [Oper.semAt_plain F _ _ (by rw [hop]; intro c hc'; cases hc')]
      simp [execOp, hop, resolve, invoke, builtin, hs, hx, hrun, Result.andThen]
      exact hk
  by_cases hfit : k + m ≤ cap
  · obtain ⟨w', hrun, r1, r2⟩ := run_append_fits (P := P) w base t o.type e i size h1 h2 h4 g k cap xs hown ad m c news hn hc h1c hfit
    exact fin _ _ hrun (hK g cap w' r1 r2 (.inl rfl))
  · obtain ⟨v', w', hrun, r1, r2⟩ := run_append_arg_grows (P := P) w t o.type e i z size bytes h1 h2 h3 h4 h5 h6 h7 ⟨g, 0, none⟩ k cap xs hown.1 (hown.cells rfl) ad m c news hn hc (by omega) b1 b2
    obtain ⟨hl, ⟨rfl, h0⟩ | ⟨g', cap', cur, rfl, hge, hheap, q1, q2, q3, q4⟩⟩ := r1
    · omega
    · exact fin _ _ hrun (hK g' cap' w' ⟨hl, .inr ⟨g', cap', cur, rfl, Nat.le_trans b3 hge, hheap, q1, q2, q3, q4⟩⟩ ⟨r2.os, r2.tape, r2.output, r2.size, fun j hj _ => r2.block j hj (by simp)⟩ (.inr hge))

/-- Between two rounds: the variable's box holds a row of the parts so far, which is neither of the two boxes that the function value reads. -/
def RowOff (Bs Bc : Nat) (pre : List ByteArray) (v : Value) : Prop := ∃ g cap, v = .slice (some ⟨g, 0, none⟩) pre.length cap ∧ g ≠ Bs ∧ g ≠ Bc
def PartsInv (w : World) (pre : List ByteArray) (W : World) : Prop :=
  ((∃ v, Boxed W (w.heap.size + 1) 26 v ∧ W.ownsRow w.heap.size 9 1 v pre.length (strVals pre) ∧ RowOff (w.heap.size + 2) (w.heap.size + 3) pre v) ∧ Below w.heap.size w W) ∧ w.heap.size + 4 ≤ W.heap.size

theorem partsInv_own (w : World) (B : Nat) (hB : w.heap.size ≤ B) : OwnFrom B (PartsInv w) :=
  OwnFrom.and (OwnFrom.and (Own.from (holdsRow_own w.heap.size (w.heap.size + 1) 26 9 1 (fun pre : List ByteArray => pre.length) (fun pre => strVals pre) (fun pre v => RowOff (w.heap.size + 2) (w.heap.size + 3) pre v)) B) (ownFrom_below (Nat.le_refl _) hB))
    (fun _ _ _ _ hs hg _ => Nat.le_trans hs hg.size)

theorem body_end {w W W1 w2 : World} {pre : List ByteArray} {x : ByteArray} {g cap g' cap' : Nat} {tmp : Obj}
    (hv : Boxed W (w.heap.size + 1) 26 (.slice (some ⟨g, 0, none⟩) pre.length cap)) (hrow : W.ownsRow w.heap.size 9 1 (.slice (some ⟨g, 0, none⟩) pre.length cap) pre.length (strVals pre))
    (hgs : g ≠ w.heap.size + 2 ∧ g ≠ w.heap.size + 3) (hB : Below w.heap.size w W) (hsz : w.heap.size + 4 ≤ W.heap.size) (hb1 : Below W.heap.size W W1)
    (hown' : w2.ownsRow w.heap.size 9 1 (.slice (some ⟨g', 0, none⟩) (pre.length + 1) cap') (pre.length + 1) (strVals pre ++ [.string x])) (hgrow : (W1.alloc tmp).grownBy w2 (some g)) (hg' : g' = g ∨ (W1.alloc tmp).heap.size ≤ g') :
    Boxed w2 (w.heap.size + 1) 26 (.slice (some ⟨g, 0, none⟩) pre.length cap) ∧
    KeepsOthers W (w2.setCell ⟨w.heap.size + 1, 0, none⟩ (.slice (some ⟨g', 0, none⟩) (pre.length + 1) cap')) ∧
    Two (w.heap.size + 2) (w.heap.size + 3) W (w2.setCell ⟨w.heap.size + 1, 0, none⟩ (.slice (some ⟨g', 0, none⟩) (pre.length + 1) cap')) ∧
    PartsInv w (pre ++ [x]) (w2.setCell ⟨w.heap.size + 1, 0, none⟩ (.slice (some ⟨g', 0, none⟩) (pre.length + 1) cap')) := by
  have hs1 := hb1.size
  have hs2 := hgrow.size
  rw [World.size_alloc] at hs2
  have hv1 : Boxed W1 (w.heap.size + 1) 26 (.slice (some ⟨g, 0, none⟩) pre.length cap) := (hb1.block _ (by omega)).trans hv
  have hrow1 : W1.ownsRow w.heap.size 9 1 (.slice (some ⟨g, 0, none⟩) pre.length cap) pre.length (strVals pre) := hrow.kept (row := none) ⟨hb1.os, hb1.tape, hb1.output, hb1.size, fun j hj _ => hb1.block j hj⟩ (.inr (by simp [Value.ownBlock]))
  obtain ⟨r1, r2, r3, r4, r5⟩ := hv1.appended (by decide) hrow1 (by omega) (by omega) hown' hgrow
  have hg1 : g' ≠ w.heap.size + 2 ∧ g' ≠ w.heap.size + 3 := by
    rcases hg' with rfl | hg'
    · exact hgs
    · rw [World.size_alloc] at hg'; omega
  have hk1 : KeepsOthers W W1 := KeepsOthers.of_grownBy (row := none) ⟨hb1.os, hb1.tape, hb1.output, hb1.size, fun j hj _ => hb1.block j hj⟩ (fun j o e => by cases e)
  have hblk : ∀ j, j < W.heap.size → j ≠ g → j ≠ w.heap.size + 1 → (w2.setCell ⟨w.heap.size + 1, 0, none⟩ (.slice (some ⟨g', 0, none⟩) (pre.length + 1) cap')).heap[j]? = W.heap[j]? := fun j hj h1 h2 => by
    rw [Below.heap_setCell _ _ _ _ h2, hgrow.block j (by rw [World.size_alloc]; omega) (by simpa using h1), Below.heap_alloc _ _ _ (by omega), hb1.block j hj]
  refine ⟨r1, hk1.trans r4, ⟨hblk _ (by omega) (Ne.symm hgs.1) (by omega), hblk _ (by omega) (Ne.symm hgs.2) (by omega)⟩, ⟨⟨_, r2, ?_, g', cap', by simp, hg1⟩, hB.trans ((hb1.mono (by omega)).trans r5)⟩, ?_⟩
  · simpa [strVals] using r3
  · have := r4.size
    omega

theorem split_start (w : World) (s : ByteArray) (c : UInt8) :
    ((((w.alloc (Obj.cells #[] 9)).alloc (Obj.cells #[Value.slice (some { block := w.heap.size, off := 0 }) 0 0] 26)).alloc (Obj.cells #[Value.string s] 9)).alloc (Obj.cells #[Value.int IntKind.u8 ↑c.toNat] 5)).cell? ⟨w.heap.size + 2, 0, none⟩ = some (.string s) ∧ ((((w.alloc (Obj.cells #[] 9)).alloc (Obj.cells #[Value.slice (some { block := w.heap.size, off := 0 }) 0 0] 26)).alloc (Obj.cells #[Value.string s] 9)).alloc (Obj.cells #[Value.int IntKind.u8 ↑c.toNat] 5)).cell? ⟨w.heap.size + 3, 0, none⟩ = some (.int .u8 (c.toNat : Int)) ∧ PartsInv w [] ((((w.alloc (Obj.cells #[] 9)).alloc (Obj.cells #[Value.slice (some { block := w.heap.size, off := 0 }) 0 0] 26)).alloc (Obj.cells #[Value.string s] 9)).alloc (Obj.cells #[Value.int IntKind.u8 ↑c.toNat] 5)) := by
  have b1 := Boxed.new (w.alloc (Obj.cells #[] 9)) 26 (Value.slice (some { block := w.heap.size, off := 0 }) 0 0)
  rw [World.size_alloc] at b1
  have r1 : (w.alloc (Obj.cells #[] 9)).ownsRow w.heap.size 9 1 (.slice (some ⟨w.heap.size, 0, none⟩) 0 0) 0 [] := World.ownsRow_made w #[] 0 (Nat.le_refl _) (Nat.zero_le _) rfl
  refine ⟨by simp [go_sem], by simp [go_sem], ⟨⟨_, (b1.alloc _).alloc _, ((r1.alloc _).alloc _).alloc _, w.heap.size, 0, rfl, by omega, by omega⟩, ((((Below.refl _ w).alloc (Nat.le_refl _) _).alloc (by simp) _).alloc (by simp; omega) _).alloc (by simp; omega) _⟩, by simp⟩

set_option maxRecDepth 100000 in
set_option maxHeartbeats 2000000 in
theorem implSplit_any (s : ByteArray) (c : UInt8) (hsz : s.size ≤ 4000) (w : World) :
    Calls Try.prog 10 #[.string s, .string ⟨#[c]⟩] w fun e w' =>
      ∃ v, e = .returned (.tuple #[v, .bool true]) ∧ w'.ownsRow w.heap.size 9 1 v (Plain.parts s c).length (strVals (Plain.parts s c)) ∧ Below w.heap.size w w' := by
  have hidx : ∀ w, (Instr.index 9 (.string ⟨#[c]⟩) (.int .i64 0)).run Try.prog w = .ok (.int .u8 (c.toNat : Int)) w := fun w => by go_simp; rfl
  obtain ⟨i0, hi, hz0, hz1, hz2⟩ := info_parts infoStr
  refine (callsIn_wide (n := 5)).1 ?_
  refine callsIn_of_wp_marks Try.func10 rfl trivial ?_ rfl
  simp only [Try.ntmps10, List.size_toArray, List.length_cons, List.length_nil, Nat.reduceAdd, Nat.reduceSub, Array.replicate_succ, Array.replicate_zero, List.push_toArray, List.append_toArray, List.nil_append, List.cons_append]
  gi_wp2_with fail
  refine ⟨trivial, ?_⟩
  refine (callsIn_wide.2 (partsOf_in s c _)).mono ?_
  rintro e w' ⟨rfl, rfl⟩
  gi_wp2_with fail
  have hW0 := split_start w s c
  refine wpIn_rangeFunc_ownG rfl (by omega) (gf := 38) rfl trivial (enters_of Try.func38 (by kernel_rfl) rfl)
    (parts_stops 4 (by omega) (w.heap.size + 2) (w.heap.size + 3) s c (by omega) _ (by simp) (by simp) hW0.1 hW0.2.1) (fun h k => h.trans k) (fun V j o o' hj _ _ _ => Two.putObj V j o' (by simp at hj; omega) (by simp at hj; omega)) (Below.refl _ _) (fun _ => rfl)
    (fun pre => PartsInv w (texts pre)) (fun _ _ _ => False) (fun pre => partsInv_own w _ (by simp; omega) (texts pre)) (fun _ _ _ _ _ hs _ _ => hs) hW0.2.2
    (fun x : Part => { tmps := #[.string s, .string { data := #[c] }, undef, undef, .slice none 0 0, .bool false, .pointer (some { block := w.heap.size + 1, off := 0 }), .string x.1, .string s, .int .i64 ↑s.size, .bool (decide (4000 < (s.size : Int))), .bool (decide (4000 < (s.size : Int))), .string { data := #[c] }, .int .i64 1, .bool false, .bool (decide (4000 < (s.size : Int))), undef, .slice (some { block := w.heap.size, off := 0 }) 0 0, .string s, .string { data := #[c] }, .int .u8 ↑c.toNat, .func (Fn.func 38) #[] #[.pointer (some { block := w.heap.size + 1 + 1, off := 0 }), .pointer (some { block := w.heap.size + 1 + 1 + 1, off := 0 })], .string x.1, undef, undef, undef, undef, undef, undef], defers := [] }) ?assign ?body ?done ?stop
  case assign =>
    intro l x W K hK
    gi_wp2
    exact hK
  case stop =>
    rintro D c pre W _ _ h _
    exact h.elim
  case body =>
    rintro l pre0 x W hinv hlt
    rw [← texts_length] at hlt
    have HT := Lib.hid (texts_snoc pre0 x)
    obtain ⟨pre, hpre⟩ : ∃ pre, texts pre0 = pre := ⟨_, rfl⟩
    rw [hpre] at HT hlt
    obtain ⟨⟨⟨v, hv, hrow, g, cap, rfl, hoff⟩, hBel⟩, hWs⟩ : PartsInv w pre W := by rw [← hpre]; exact hinv
    clear hinv hpre
    have hpl := Plain.parts_length s c
    have hc := hv.cell
    have hxs : x.1.size ≤ 281474976710656 := by have := x.2; omega
    gi_wp2
    refine wpIn_region_any (by kernel_rfl) ?_
    change wpAnyIn _ _ _ _ _ _ _ _ _ (World.drew _)
    refine wpAnyIn_ready (rs := [0, 1]) (by kernel_rfl) (by simp) ?_
    refine AllReadyIn.cons rfl (fun K hK => ?_) ?_
    · go_simp
      refine hK _ _ ?_; clear hK K
      refine wpAnyIn_ready (rs := [1]) (by kernel_rfl) (by simp) ?_
      refine AllReadyIn.cons rfl (fun K hK => ?_) ?_
      · go_simp
        refine hK _ _ ?_; clear hK K
        refine wpAnyIn_ready (rs := [2]) (by kernel_rfl) (by simp) ?_
        refine AllReadyIn.cons rfl (fun K hK => ?_) ?_
        · go_simp
          refine ⟨trivial, ?_⟩
          refine (CallsIn.inRound l (callsIn_wide.2 (clone_any x.1 _ hxs))).mono ?_
          rintro e W1 ⟨rfl, hb1⟩
          have HB1 : Below W.heap.size W W1 := (Below.refl _ W).drew.trans hb1
          have hv1 : Boxed W1 (w.heap.size + 1) 26 (.slice (some ⟨g, 0, none⟩) pre.length cap) := (HB1.block _ (by omega)).trans hv
          have hc1 := hv1.cell
          have hc2 := fun o => (hv1.alloc o).cell
          have hrow1 := hrow.kept (row := none) ⟨HB1.os, HB1.tape, HB1.output, HB1.size, fun j hj _ => HB1.block j hj⟩ (.inr (by simp [Value.ownBlock]))
          have hsz1 : w.heap.size ≤ W1.heap.size := by have := HB1.size; omega
          clear hb1
          refine hK _ _ ?_; clear hK K
          refine wpAnyIn_ready (rs := [3]) (by kernel_rfl) (by simp) ?_
          refine AllReadyIn.cons rfl (fun K hK => ?_) ?_
          · go_simp
            refine hK _ _ ?_; clear hK K
            refine wpAnyIn_ready (rs := [4]) (by kernel_rfl) (by simp) ?_
            refine AllReadyIn.cons rfl (fun K hK => ?_) ?_
            · refine stepIn_append _ rfl _ _ 26 rfl w.heap.size 9 i0 (.string ByteArray.empty) 1 16 Try.underlying26 hi hz0 hz1 hz2 rfl (by decide) g pre.length cap (strVals pre) rfl (hrow1.alloc _) ⟨W1.heap.size, 0, none⟩ 1 1 [.string x.1] rfl rfl (cell_one_new _ _ _) (by simp [Value.oneCell']) (by unfold maxLen; omega) (by omega) (by simp; omega) (by omega) ?_
              intro g' cap' w2 hown' hgrow hg'
              obtain ⟨hE1, hE2, hE3, hE4⟩ := body_end hv hrow hoff hBel hWs HB1 hown' hgrow hg'
              have hc3 := hE1.cell
              have hf3 := hE1.frozen
              clear hown' hgrow hg' hE1
              refine hK _ _ ?_; clear hK K
              refine wpAnyIn_ready (rs := [5]) (by kernel_rfl) (by simp) ?_
              refine AllReadyIn.cons rfl (fun K hK => ?_) ?_
              · go_simp
                refine hK _ _ ?_; clear hK K
                refine wpAnyIn_done (by kernel_rfl) ?_ _
                exact ⟨hE2.from _, hE3, by show PartsInv w (texts (pre0 ++ [x])) _; rw [HT.out]; exact hE4⟩
              exact AllReadyIn.nil
            exact AllReadyIn.nil
          exact AllReadyIn.nil
        exact AllReadyIn.nil
      exact AllReadyIn.nil
    refine AllReadyIn.cons rfl (fun K hK => ?_) ?_
    · go_simp
      refine hK _ _ ?_; clear hK K
      refine wpAnyIn_ready (rs := [0, 2]) (by kernel_rfl) (by simp) ?_
      refine AllReadyIn.cons rfl (fun K hK => ?_) ?_
      · go_simp
        refine hK _ _ ?_; clear hK K
        refine wpAnyIn_ready (rs := [2]) (by kernel_rfl) (by simp) ?_
        refine AllReadyIn.cons rfl (fun K hK => ?_) ?_
        · go_simp
          refine ⟨trivial, ?_⟩
          refine (CallsIn.inRound l (callsIn_wide.2 (clone_any x.1 _ hxs))).mono ?_
          rintro e W1 ⟨rfl, hb1⟩
          have HB1 : Below W.heap.size W W1 := (Below.refl _ W).drew.trans hb1
          have hv1 : Boxed W1 (w.heap.size + 1) 26 (.slice (some ⟨g, 0, none⟩) pre.length cap) := (HB1.block _ (by omega)).trans hv
          have hc1 := hv1.cell
          have hc2 := fun o => (hv1.alloc o).cell
          have hrow1 := hrow.kept (row := none) ⟨HB1.os, HB1.tape, HB1.output, HB1.size, fun j hj _ => HB1.block j hj⟩ (.inr (by simp [Value.ownBlock]))
          have hsz1 : w.heap.size ≤ W1.heap.size := by have := HB1.size; omega
          clear hb1
          refine hK _ _ ?_; clear hK K
          refine wpAnyIn_ready (rs := [3]) (by kernel_rfl) (by simp) ?_
          refine AllReadyIn.cons rfl (fun K hK => ?_) ?_
          · go_simp
            refine hK _ _ ?_; clear hK K
            refine wpAnyIn_ready (rs := [4]) (by kernel_rfl) (by simp) ?_
            refine AllReadyIn.cons rfl (fun K hK => ?_) ?_
            · refine stepIn_append _ rfl _ _ 26 rfl w.heap.size 9 i0 (.string ByteArray.empty) 1 16 Try.underlying26 hi hz0 hz1 hz2 rfl (by decide) g pre.length cap (strVals pre) rfl (hrow1.alloc _) ⟨W1.heap.size, 0, none⟩ 1 1 [.string x.1] rfl rfl (cell_one_new _ _ _) (by simp [Value.oneCell']) (by unfold maxLen; omega) (by omega) (by simp; omega) (by omega) ?_
              intro g' cap' w2 hown' hgrow hg'
              obtain ⟨hE1, hE2, hE3, hE4⟩ := body_end hv hrow hoff hBel hWs HB1 hown' hgrow hg'
              have hc3 := hE1.cell
              have hf3 := hE1.frozen
              clear hown' hgrow hg' hE1
              refine hK _ _ ?_; clear hK K
              refine wpAnyIn_ready (rs := [5]) (by kernel_rfl) (by simp) ?_
              refine AllReadyIn.cons rfl (fun K hK => ?_) ?_
              · go_simp
                refine hK _ _ ?_; clear hK K
                refine wpAnyIn_done (by kernel_rfl) ?_ _
                exact ⟨hE2.from _, hE3, by show PartsInv w (texts (pre0 ++ [x])) _; rw [HT.out]; exact hE4⟩
              exact AllReadyIn.nil
            exact AllReadyIn.nil
          exact AllReadyIn.nil
        exact AllReadyIn.nil
      refine AllReadyIn.cons rfl (fun K hK => ?_) ?_
      · go_simp
        refine ⟨trivial, ?_⟩
        refine (CallsIn.inRound l (callsIn_wide.2 (clone_any x.1 _ hxs))).mono ?_
        rintro e W1 ⟨rfl, hb1⟩
        have HB1 : Below W.heap.size W W1 := (Below.refl _ W).drew.trans hb1
        have hv1 : Boxed W1 (w.heap.size + 1) 26 (.slice (some ⟨g, 0, none⟩) pre.length cap) := (HB1.block _ (by omega)).trans hv
        have hc1 := hv1.cell
        have hc2 := fun o => (hv1.alloc o).cell
        have hrow1 := hrow.kept (row := none) ⟨HB1.os, HB1.tape, HB1.output, HB1.size, fun j hj _ => HB1.block j hj⟩ (.inr (by simp [Value.ownBlock]))
        have hsz1 : w.heap.size ≤ W1.heap.size := by have := HB1.size; omega
        clear hb1
        refine hK _ _ ?_; clear hK K
        refine wpAnyIn_ready (rs := [0, 3]) (by kernel_rfl) (by simp) ?_
        refine AllReadyIn.cons rfl (fun K hK => ?_) ?_
        · go_simp
          refine hK _ _ ?_; clear hK K
          refine wpAnyIn_ready (rs := [3]) (by kernel_rfl) (by simp) ?_
          refine AllReadyIn.cons rfl (fun K hK => ?_) ?_
          · go_simp
            refine hK _ _ ?_; clear hK K
            refine wpAnyIn_ready (rs := [4]) (by kernel_rfl) (by simp) ?_
            refine AllReadyIn.cons rfl (fun K hK => ?_) ?_
            · refine stepIn_append _ rfl _ _ 26 rfl w.heap.size 9 i0 (.string ByteArray.empty) 1 16 Try.underlying26 hi hz0 hz1 hz2 rfl (by decide) g pre.length cap (strVals pre) rfl (hrow1.alloc _) ⟨W1.heap.size, 0, none⟩ 1 1 [.string x.1] rfl rfl (cell_one_new _ _ _) (by simp [Value.oneCell']) (by unfold maxLen; omega) (by omega) (by simp; omega) (by omega) ?_
              intro g' cap' w2 hown' hgrow hg'
              obtain ⟨hE1, hE2, hE3, hE4⟩ := body_end hv hrow hoff hBel hWs HB1 hown' hgrow hg'
              have hc3 := hE1.cell
              have hf3 := hE1.frozen
              clear hown' hgrow hg' hE1
              refine hK _ _ ?_; clear hK K
              refine wpAnyIn_ready (rs := [5]) (by kernel_rfl) (by simp) ?_
              refine AllReadyIn.cons rfl (fun K hK => ?_) ?_
              · go_simp
                refine hK _ _ ?_; clear hK K
                refine wpAnyIn_done (by kernel_rfl) ?_ _
                exact ⟨hE2.from _, hE3, by show PartsInv w (texts (pre0 ++ [x])) _; rw [HT.out]; exact hE4⟩
              exact AllReadyIn.nil
            exact AllReadyIn.nil
          exact AllReadyIn.nil
        refine AllReadyIn.cons rfl (fun K hK => ?_) ?_
        · go_simp
          refine hK _ _ ?_; clear hK K
          refine wpAnyIn_ready (rs := [0]) (by kernel_rfl) (by simp) ?_
          refine AllReadyIn.cons rfl (fun K hK => ?_) ?_
          · go_simp
            refine hK _ _ ?_; clear hK K
            refine wpAnyIn_ready (rs := [4]) (by kernel_rfl) (by simp) ?_
            refine AllReadyIn.cons rfl (fun K hK => ?_) ?_
            · refine stepIn_append _ rfl _ _ 26 rfl w.heap.size 9 i0 (.string ByteArray.empty) 1 16 Try.underlying26 hi hz0 hz1 hz2 rfl (by decide) g pre.length cap (strVals pre) rfl (hrow1.alloc _) ⟨W1.heap.size, 0, none⟩ 1 1 [.string x.1] rfl rfl (cell_one_new _ _ _) (by simp [Value.oneCell']) (by unfold maxLen; omega) (by omega) (by simp; omega) (by omega) ?_
              intro g' cap' w2 hown' hgrow hg'
              obtain ⟨hE1, hE2, hE3, hE4⟩ := body_end hv hrow hoff hBel hWs HB1 hown' hgrow hg'
              have hc3 := hE1.cell
              have hf3 := hE1.frozen
              clear hown' hgrow hg' hE1
              refine hK _ _ ?_; clear hK K
              refine wpAnyIn_ready (rs := [5]) (by kernel_rfl) (by simp) ?_
              refine AllReadyIn.cons rfl (fun K hK => ?_) ?_
              · go_simp
                refine hK _ _ ?_; clear hK K
                refine wpAnyIn_done (by kernel_rfl) ?_ _
                exact ⟨hE2.from _, hE3, by show PartsInv w (texts (pre0 ++ [x])) _; rw [HT.out]; exact hE4⟩
              exact AllReadyIn.nil
            exact AllReadyIn.nil
          exact AllReadyIn.nil
        exact AllReadyIn.nil
      exact AllReadyIn.nil
    exact AllReadyIn.nil
  case done =>
    rintro D xs W hD hxs hinv hK
    rw [hxs] at hinv
    obtain ⟨⟨⟨v, hv, hrow, _⟩, hBel⟩, _⟩ := hinv
    clear hxs
    have hc := hv.cell
    gi_wp2
    refine ⟨by simp, .inl ⟨_, _, rfl, run_takeDeferred hK, ?_⟩⟩
    exact ⟨_, results_tmp2 rfl _ _ _, v, rfl, ownsRow_putObj hrow _ hK rfl, hBel.trans (belowK_b (w := w) (Nat.le_refl _) W D _ _ (by simp at hD; omega) hK rfl rfl)⟩

end Go.Proofs.Ythcggmjgecdfgaa
