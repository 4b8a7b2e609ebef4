/- Contracts: impl's point.stepTo, trail.text: the steps of a list of points. Conditions: a path's points on the grid. -/
import Derived.Test.YtpaijobmoddgpaaPathWords
import Derived.Laws.IdiomStrings
namespace Go.Proofs.Ytpaijobmoddgpaa
open Go.ChangeShapes Go.WideShapes Go.ChangeAt Go.RowKit
set_option linter.unusedVariables false
set_option linter.unusedSimpArgs false

/-- Appending as a step of a region that draws its order. -/
theorem step_append_row {w : World} {ops : Array Oper} {o : Oper} {a : Act} {K : Act → World → Prop} {Q : Exit → Act → World → Prop} {E : Prop} (hgd : o.guard = none) (s x : Operand) (t : TypeId)
    (ho : o.op = .call { callee := .builtin .append, args := #[s, x], argTypes := #[t, t] })
    (base : Nat) (e : TypeId) (i : TypeInfo) (z : Value) (size bytes : Nat) (ht : Try.prog.underlying t = some (.slice e)) (hi : Try.prog.info? e = some i) (hz : i.zero = some z)
    (hsize : i.size = size) (hby : i.bytes = bytes) (hzs : z.cells.size = size) (hsz : 0 < size)
    (v : Value) (n : Nat) (xs : List Value) (hs : a.eval s = v) (hown : w.ownsRow base e size v n xs)
    (ad : Addr) (m c : Nat) (news : List Value) (hx : a.eval x = .slice (some ad) m c) (hl : news.length = m * size) (hnews : ∀ j u, news[j]? = some u → w.cell? (ad.add j) = some u) (h1 : ∀ u ∈ news, u.oneCell' = true)
    (h63 : n + m ≤ maxLen) (hbytes : (n + m) * bytes ≤ 140737488355328) (hbase : base ≤ w.heap.size)
    (h : ∀ v' w', w'.ownsRow base e size v' (n + m) (xs ++ news) → w.grownBy w' v.ownBlock → (v' = .slice none 0 0 ↔ v = .slice none 0 0 ∧ m = 0) → K (a.put o.dst v') w') : if Region.wanted o (yielded ops a.tmps) = true then Oper.wp Try.prog o a w K Q else E := by
  rw [if_pos (by simp [Region.wanted, hgd])]
  exact wp_append_own w s x t ho base e i z size bytes ht hi hz hsize hby hzs hsz v n xs hs hown ad m c news hx hl hnews h1 h63 hbytes hbase h
/-- The cells of some bytes. -/
def row8 (l : List UInt8) : List Value := l.map fun b => .int .u8 (b.toNat : Int)
theorem row8_snoc (l : List UInt8) (b : UInt8) : row8 (l ++ [b]) = row8 l ++ [.int .u8 (b.toNat : Int)] := by simp [row8]
def Coll8 (l : List UInt8) (B : Nat) (w : World) (v : Value) (wr : World) : Prop := wr.ownsRow B 5 1 v l.length (row8 l) ∧ Below B w wr ∧ B ≤ wr.heap.size
theorem coll8_start (w : World) : Coll8 [] w.heap.size w (.slice (some ⟨w.heap.size, 0, none⟩) 0 0) (w.alloc (.cells #[] 5)) :=
  ⟨World.ownsRow_made w #[] 0 (Nat.le_refl _) (Nat.zero_le _) rfl, (Below.refl _ w).alloc (Nat.le_refl _) _, by simp⟩
theorem Coll8.later {l : List UInt8} {B : Nat} {w wr w1 : World} {v : Value} (h : Coll8 l B w v wr) (hb : Below wr.heap.size wr w1) : Coll8 l B w v w1 :=
  ⟨h.1.kept (row := none) ⟨hb.os, hb.tape, hb.output, hb.size, fun j hj _ => hb.block j hj⟩ (by cases hv : v.ownBlock with | none => exact .inl rfl | some g => exact .inr (by simp)), h.2.1.trans (hb.mono h.2.2), by have := hb.size; have := h.2.2; omega⟩
theorem Coll8.push {b : UInt8} {l : List UInt8} {B : Nat} {w wr w1 : World} {v v' : Value} {o : Obj} (h : Coll8 l B w v wr)
    (hown : w1.ownsRow B 5 1 v' (l.length + 1) (row8 l ++ [.int .u8 (b.toNat : Int)])) (hgrow : (wr.alloc o).grownBy w1 v.ownBlock) : Coll8 (l ++ [b]) B w v' w1 := by
  obtain ⟨ho, hb, hB⟩ := h
  refine ⟨by rw [row8_snoc]; simpa using hown, (hb.alloc hB o).grown hgrow (by simp; omega) (fun j hj => (World.ownsRow.lt ho j hj).1), by have := hgrow.size; simp at this; omega⟩
theorem infoU8 : (Try.prog.info? 5).map (fun i => (i.zero, i.size, i.bytes)) = some (some (.int .u8 0), 1, 1) := by kernel_rfl
/-- What is collected, as a text. -/
theorem coll8_text {l : List UInt8} {B : Nat} {w wr : World} {v : Value} (h : Coll8 l B w v wr) : ∀ src dst, Try.prog.underlying src = some (.slice 5) → Try.prog.underlying dst = some .string →
    (convert src dst v).run Try.prog wr = .ok (.string ⟨l.toArray⟩) wr := by
  intro src dst hs hd
  obtain ⟨⟨hl, h2⟩, -, -⟩ := h
  have h0 : wr.ownsRow B 5 1 v l.length (row8 l) := ⟨hl, h2⟩
  rcases h2 with ⟨rfl, hn⟩ | ⟨g, cap, cur, rfl, hg, hc, hn, hm, hz, ht⟩
  · have e : l = [] := List.eq_nil_of_length_eq_zero hn
    subst e
    have hr := run_convert_bytes_string (P := Try.prog) wr src dst 5 none 0 0 hs Try.underlying5 hd
    rw [hr]
    rfl
  · refine run_convert_bytes_back (P := Try.prog) wr src dst 5 ⟨g, 0, none⟩ cap l hs Try.underlying5 hd fun j hj => ?_
    rw [add_plain, Nat.zero_add, World.ownsRow.cellAt h0 j (by omega)]
    simp [row8, List.getElem?_eq_getElem hj]
set_option maxRecDepth 100000 in
set_option maxHeartbeats 3200000 in
theorem stepTo_any (px py qx qy : Int) (b : UInt8) (w : World) (hp : -50 ≤ px ∧ px ≤ 50 ∧ -50 ≤ py ∧ py ≤ 50) (hb : Plain.isStepB b = true) (hq : Plain.nextP (px, py) b = (qx, qy)) :
    Calls Try.prog 98 #[.agg #[.int .i64 px, .int .i64 py], .agg #[.int .i64 qx, .int .i64 qy]] w (Val (.int .u8 b.toNat) w) := by
  obtain ⟨h1, h2, h3, h4⟩ := hp
  have HL : Hid (∀ W, Calls Try.prog 88 #[.agg #[.int .i64 px, .int .i64 py], .int .u8 108] W (Val (.agg #[.int .i64 (px + -1), .int .i64 (py + 0)]) W)) := Lib.hid (fun W => behind10_any px py 108 W (by omega))
  have HR : Hid (∀ W, Calls Try.prog 88 #[.agg #[.int .i64 px, .int .i64 py], .int .u8 114] W (Val (.agg #[.int .i64 (px + 1), .int .i64 (py + 0)]) W)) := Lib.hid (fun W => behind10_any px py 114 W (by omega))
  have HU : Hid (∀ W, Calls Try.prog 88 #[.agg #[.int .i64 px, .int .i64 py], .int .u8 117] W (Val (.agg #[.int .i64 (px + 0), .int .i64 (py + 1)]) W)) := Lib.hid (fun W => behind10_any px py 117 W (by omega))
  obtain ⟨lx, hlx⟩ : ∃ lx, lx = px + -1 := ⟨_, rfl⟩
  obtain ⟨rx, hrx⟩ : ∃ rx, rx = px + 1 := ⟨_, rfl⟩
  obtain ⟨zx, hzx⟩ : ∃ zx, zx = px + 0 := ⟨_, rfl⟩
  obtain ⟨zy, hzy⟩ : ∃ zy, zy = py + 0 := ⟨_, rfl⟩
  obtain ⟨uy, huy⟩ : ∃ uy, uy = py + 1 := ⟨_, rfl⟩
  rw [← hlx, ← hzy] at HL
  rw [← hrx, ← hzy] at HR
  rw [← hzx, ← huy] at HU
  have hqx : qx = px + Plain.dxB b := (congrArg Prod.fst hq).symm
  have hqy : qy = py + Plain.dyB b := (congrArg Prod.snd hq).symm
  have hd := Plain.dx_bd b
  have EQ : ∀ x y : Int, -100 ≤ x ∧ x ≤ 100 → -100 ≤ y ∧ y ≤ 100 → ∀ w, Sem.run Try.prog (Op.equalIn 10000 63 (.agg #[.int .i64 qx, .int .i64 qy]) (.agg #[.int .i64 x, .int .i64 y])) w = .ok (decide ((qx, qy) = (x, y))) w :=
    fun x y hx hy w => run_ptP w (p := (qx, qy)) (q := (x, y)) (by unfold Pt100; simp only []; omega) (by unfold Pt100; simp only []; omega)
  have E1 := EQ lx zy (by omega) (by omega)
  have E2 := EQ rx zy (by omega) (by omega)
  have E3 := EQ zx uy (by omega) (by omega)
  clear EQ
  have HA : Hid (PtAt ((w.alloc (.cells #[.int .i64 px, .int .i64 py] 63)).alloc (.cells #[.int .i64 qx, .int .i64 qy] 63)) w.heap.size (px, py)) := Lib.hid (PtAt.on (ptAt_new w (px, py)) ((Below.refl _ _).alloc (Nat.le_refl _) _))
  have HB : Hid (Below w.heap.size w ((w.alloc (.cells #[.int .i64 px, .int .i64 py] 63)).alloc (.cells #[.int .i64 qx, .int .i64 qy] 63))) := Lib.hid (((Below.refl _ _).alloc (Nat.le_refl _) _).alloc (by simp) _)
  rcases Plain.step_cases b with ⟨-, rfl | rfl | rfl | rfl⟩ | ⟨hs, -⟩
  · rw [show Plain.dxB 108 = -1 from rfl] at hqx
    rw [show Plain.dyB 108 = 0 from rfl] at hqy
    rw [show decide ((qx, qy) = (lx, zy)) = true from decide_eq_true (by rw [Prod.mk.injEq]; omega)] at E1
    clear hqx hqy hlx hrx hzx hzy huy hq hb hd E2 E3
    go_enter Try.func98, Try.ntmps98
    go_wp2_with fail
    refine (HL.out _).mono ?_
    rintro e w1 ⟨rfl, hb⟩
    have HA1 := Lib.hid (PtAt.on HA.out hb)
    have HB1 := Lib.hid (HB.out.trans (hb.mono HB.out.size))
    obtain ⟨c0, c1⟩ := HA1.out.cells
    clear hb
    go_wp2_with fail
    go_ret
    exact ⟨rfl, HB1.out⟩
  · rw [show Plain.dxB 114 = 1 from rfl] at hqx
    rw [show Plain.dyB 114 = 0 from rfl] at hqy
    rw [show decide ((qx, qy) = (lx, zy)) = false from decide_eq_false (by rw [Prod.mk.injEq]; omega)] at E1
    rw [show decide ((qx, qy) = (rx, zy)) = true from decide_eq_true (by rw [Prod.mk.injEq]; omega)] at E2
    clear hqx hqy hlx hrx hzx hzy huy hq hb hd E3
    go_enter Try.func98, Try.ntmps98
    go_wp2_with fail
    refine (HL.out _).mono ?_
    rintro e w1 ⟨rfl, hb⟩
    have HA1 := Lib.hid (PtAt.on HA.out hb)
    have HB1 := Lib.hid (HB.out.trans (hb.mono HB.out.size))
    obtain ⟨c0, c1⟩ := HA1.out.cells
    clear hb
    go_wp2_with fail
    refine (HR.out _).mono ?_
    rintro e w2 ⟨rfl, hb⟩
    have HA2 := Lib.hid (PtAt.on HA1.out hb)
    have HB2 := Lib.hid (HB1.out.trans (hb.mono HB1.out.size))
    obtain ⟨c0, c1⟩ := HA2.out.cells
    clear hb
    go_wp2_with fail
    go_ret
    exact ⟨rfl, HB2.out⟩
  · rw [show Plain.dxB 117 = 0 from rfl] at hqx
    rw [show Plain.dyB 117 = 1 from rfl] at hqy
    rw [show decide ((qx, qy) = (lx, zy)) = false from decide_eq_false (by rw [Prod.mk.injEq]; omega)] at E1
    rw [show decide ((qx, qy) = (rx, zy)) = false from decide_eq_false (by rw [Prod.mk.injEq]; omega)] at E2
    rw [show decide ((qx, qy) = (zx, uy)) = true from decide_eq_true (by rw [Prod.mk.injEq]; omega)] at E3
    clear hqx hqy hlx hrx hzx hzy huy hq hb hd 
    go_enter Try.func98, Try.ntmps98
    go_wp2_with fail
    refine (HL.out _).mono ?_
    rintro e w1 ⟨rfl, hb⟩
    have HA1 := Lib.hid (PtAt.on HA.out hb)
    have HB1 := Lib.hid (HB.out.trans (hb.mono HB.out.size))
    obtain ⟨c0, c1⟩ := HA1.out.cells
    clear hb
    go_wp2_with fail
    refine (HR.out _).mono ?_
    rintro e w2 ⟨rfl, hb⟩
    have HA2 := Lib.hid (PtAt.on HA1.out hb)
    have HB2 := Lib.hid (HB1.out.trans (hb.mono HB1.out.size))
    obtain ⟨c0, c1⟩ := HA2.out.cells
    clear hb
    go_wp2_with fail
    refine (HU.out _).mono ?_
    rintro e w3 ⟨rfl, hb⟩
    have HA3 := Lib.hid (PtAt.on HA2.out hb)
    have HB3 := Lib.hid (HB2.out.trans (hb.mono HB2.out.size))
    obtain ⟨c0, c1⟩ := HA3.out.cells
    clear hb
    go_wp2_with fail
    go_ret
    exact ⟨rfl, HB3.out⟩
  · rw [show Plain.dxB 100 = 0 from rfl] at hqx
    rw [show Plain.dyB 100 = -1 from rfl] at hqy
    rw [show decide ((qx, qy) = (lx, zy)) = false from decide_eq_false (by rw [Prod.mk.injEq]; omega)] at E1
    rw [show decide ((qx, qy) = (rx, zy)) = false from decide_eq_false (by rw [Prod.mk.injEq]; omega)] at E2
    rw [show decide ((qx, qy) = (zx, uy)) = false from decide_eq_false (by rw [Prod.mk.injEq]; omega)] at E3
    clear hqx hqy hlx hrx hzx hzy huy hq hb hd 
    go_enter Try.func98, Try.ntmps98
    go_wp2_with fail
    refine (HL.out _).mono ?_
    rintro e w1 ⟨rfl, hb⟩
    have HA1 := Lib.hid (PtAt.on HA.out hb)
    have HB1 := Lib.hid (HB.out.trans (hb.mono HB.out.size))
    obtain ⟨c0, c1⟩ := HA1.out.cells
    clear hb
    go_wp2_with fail
    refine (HR.out _).mono ?_
    rintro e w2 ⟨rfl, hb⟩
    have HA2 := Lib.hid (PtAt.on HA1.out hb)
    have HB2 := Lib.hid (HB1.out.trans (hb.mono HB1.out.size))
    obtain ⟨c0, c1⟩ := HA2.out.cells
    clear hb
    go_wp2_with fail
    refine (HU.out _).mono ?_
    rintro e w3 ⟨rfl, hb⟩
    have HA3 := Lib.hid (PtAt.on HA2.out hb)
    have HB3 := Lib.hid (HB2.out.trans (hb.mono HB2.out.size))
    obtain ⟨c0, c1⟩ := HA3.out.cells
    clear hb
    go_wp2_with fail
    go_ret
    exact ⟨rfl, HB3.out⟩
  · rw [hs] at hb; cases hb
/-- Steps whose points lie within 50. -/
def Near (us : List UInt8) : Prop := ∀ k, k ≤ us.length → -50 ≤ (Plain.atP us k).1 ∧ (Plain.atP us k).1 ≤ 50 ∧ -50 ≤ (Plain.atP us k).2 ∧ (Plain.atP us k).2 ≤ 50
def Steps (us : List UInt8) : Prop := ∀ b ∈ us, Plain.isStepB b = true
theorem ok_near {us : List UInt8} (h : Plain.okTo us us.length = true) : Near us ∧ Steps us := by
  refine ⟨fun k hk => ?_, fun b hb => ?_⟩
  · have := Plain.at_bd h hk
    exact ⟨by omega, by omega, by omega, by omega⟩
  · obtain ⟨k, hk, rfl⟩ := List.mem_iff_getElem.1 hb
    obtain ⟨b, hb, hs, -⟩ := Plain.okTo_at h hk
    rw [List.getElem?_eq_getElem hk] at hb
    cases hb
    exact hs
theorem near_two {us : List UInt8} {g k : Nat} {w : World} (hn : Near us) (hs : Steps us) (h : Pts w (some ⟨g, 0, none⟩) (Plain.pts us)) (hk : k < us.length) :
    ∃ px py qx qy b, us[k]? = some b ∧ Plain.isStepB b = true ∧ Plain.nextP (px, py) b = (qx, qy) ∧ (-50 ≤ px ∧ px ≤ 50 ∧ -50 ≤ py ∧ py ≤ 50) ∧
      (w.cell? ⟨g, k * 2, none⟩ = some (.int .i64 px) ∧ w.cell? ⟨g, k * 2 + 1, none⟩ = some (.int .i64 py)) ∧ (w.cell? ⟨g, (k + 1) * 2, none⟩ = some (.int .i64 qx) ∧ w.cell? ⟨g, (k + 1) * 2 + 1, none⟩ = some (.int .i64 qy)) := by
  have hb : us[k]? = some us[k] := List.getElem?_eq_getElem hk
  have c1 := h.cells (Plain.pts_get (show k ≤ us.length by omega))
  have c2 := h.cells (Plain.pts_get (show k + 1 ≤ us.length by omega))
  rw [Nat.zero_add] at c1 c2
  exact ⟨(Plain.atP us k).1, (Plain.atP us k).2, (Plain.atP us (k + 1)).1, (Plain.atP us (k + 1)).2, us[k], hb, hs _ (List.getElem_mem hk), (Plain.atP_step hb).symm, hn k (by omega), c1, c2⟩
set_option maxRecDepth 100000 in
set_option maxHeartbeats 4000000 in
theorem text10_any (us : List UInt8) (g cap : Nat) (w : World) (hn : Hid (Near us)) (hs : Hid (Steps us)) (hl : us.length ≤ 400) (h : Hid (Pts w (some ⟨g, 0, none⟩) (Plain.pts us))) :
    Calls Try.prog 75 #[.slice (some ⟨g, 0, none⟩) (us.length + 1) cap] w (Val (.string ⟨us.toArray⟩) w) := by
  obtain ⟨i0, hi0, hz0, hz1, hz2⟩ := info_parts infoU8
  obtain ⟨n, hnn⟩ : ∃ n, n = us.length := ⟨_, rfl⟩
  rw [← hnn] at hl ⊢
  have HN := Lib.hid hnn
  have HS := Lib.hid (coll8_start w)
  clear hnn
  go_enter Try.func75, Try.ntmps75
  go_wp2_with fail
  go_loopw [3, 9] (fun v i wr => ∃ k : Nat, k ≤ n ∧ i = .int .i64 k ∧ Coll8 (us.take k) w.heap.size w v wr) (fun _ i _ => n - (intOf i).toNat)
  case atStart => exact ⟨0, Nat.zero_le _, rfl, HS.out⟩
  case round =>
    obtain ⟨k, hk, rfl, hrel⟩ := hrel
    have HK := Lib.hid hrel
    obtain ⟨L, hL⟩ : ∃ L, L = us.take k := ⟨_, rfl⟩
    have hLl : L.length = k := by rw [hL, List.length_take, ← HN.out]; omega
    rw [← hL] at HK
    have HL := Lib.hid hL
    have HLL := Lib.hid hLl
    clear hrel hL hLl
    by_cases hlt : k < n
    · obtain ⟨px, py, qx, qy, b, hb, hst, hnx, hpb, ⟨c1, c2⟩, ⟨c3, c4⟩⟩ := near_two hn.out hs.out (h.out.on HK.out.2.1) (show k < us.length by rw [← HN.out]; exact hlt)
      have HTK : Hid (us.take (k + 1) = L ++ [b]) := Lib.hid (by rw [Plain.at_get hb, HL.out])
      have HST : Hid (∀ W, Calls Try.prog 98 #[.agg #[.int .i64 px, .int .i64 py], .agg #[.int .i64 qx, .int .i64 qy]] W (Val (.int .u8 b.toNat) W)) := Lib.hid (fun W => stepTo_any px py qx qy b W hpb hst hnx)
      have HC1 := Lib.hid c1
      have HC2 := Lib.hid c2
      have HC3 := Lib.hid c3
      have HC4 := Lib.hid c4
      clear hpb hst hnx hb c1 c2 c3 c4
      go_upto_region 5 with fail
      · skip
        have h1 : wr.drew.cell? _ = _ := HC1.out
        have h2 : wr.drew.cell? _ = _ := HC2.out
        have h3 : wr.drew.cell? _ = _ := HC3.out
        have h4 : wr.drew.cell? _ = _ := HC4.out
        have hi : (k : Int) < (n : Int) + 1 := by omega
        have hi00 : (0 : Int) ≤ (k : Int) := by omega
        have hi1 : (0 : Int) ≤ (k : Int) + 1 := by omega
        have hi2 : (k : Int) + 1 < (n : Int) + 1 := by omega
        have hi3 : IntKind.i64.wrap ((k : Int) + 1) = (k : Int) + 1 := Go.IntWalk.i64_in _ (by omega)
        have hi4 : ((k : Int) + 1).toNat = k + 1 := by omega
        go_region_law (first
          | (refine step_append_row rfl (.tmp 12) (.tmp 23) 98 rfl w.heap.size 5 i0 (.int .u8 0) 1 1 Try.underlying98 hi0 hz0 hz1 hz2 rfl (by decide) u3 L.length (row8 L) (by simp [Act.eval]) (HK1.out.1.alloc _) ⟨wy.heap.size, 0, none⟩ 1 1 [.int .u8 b.toNat] (by simp [Act.eval]) rfl (one_new10 _ _ _) (by simp [Value.oneCell']) (by rw [HLL.out]; unfold maxLen; omega) (by rw [HLL.out]; omega) (Nat.le_trans HK1.out.2.2 (by simp)) ?_; intro v' w2 hown hgrow hnil; have hR := Lib.hid (Coll8.push HK1.out hown hgrow); clear hown hgrow hnil)
          | (go_simp; go_at_call 98; refine (HST.out _).mono ?_; rintro e wy ⟨rfl, hb⟩; have HK1 : Hid (Coll8 L w.heap.size w u3 wy) := Lib.hid (HK.out.later ((Below.refl _ _).drew.trans (hb.mono (Nat.le_refl _)))); clear hb))
        all_goals
          go_wp2_with fail
          go_roundw
          case rel => exact ⟨k + 1, by omega, by go_num, by rw [HTK.out]; exact hR.out⟩
          case measure => simp [intOf]; omega
    · obtain rfl : k = n := by omega
      have HE : Hid (L = us) := Lib.hid (by rw [HL.out, HN.out, List.take_length])
      rw [HE.out] at HK
      have hcv := coll8_text HK.out 98 9 Try.underlying98 Try.underlying9
      clear hlt
      go_wp2_with fail
      go_ret
      exact ⟨rfl, HK.out.2.1⟩
end Go.Proofs.Ytpaijobmoddgpaa
