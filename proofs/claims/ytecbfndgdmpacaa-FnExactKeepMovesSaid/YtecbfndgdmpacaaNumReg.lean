/- A region of game.number, at every order of its operations. Condition: the map holds right numbers alone. -/
import Derived.Test.YtecbfndgdmpacaaGameKey
import Derived.Test.YtecbfndgdmpacaaGameSpec
import Derived.Test.YtecbfndgdmpacaaContI
import Derived.BigRegion
import Derived.Maps.AppendAt
namespace Go.Proofs.Ytecbfndgdmpacaa
open Go.ChangeShapes Go.WideShapes Go.ChangeAt Go.RowKit Go.Maps
set_option linter.unusedVariables false

theorem wstep_append_at {ops : Array Oper} {o : Oper} {a : Act} {w : World} {K : Act → World → Prop} {Q : Exit → Act → World → Prop} {E : Prop} (hgd : o.guard = none) (s x : Operand) (t : TypeId)
    (ho : o.op = .call { callee := .builtin .append, args := #[s, x], argTypes := #[t, t] })
    (base : Nat) (e : TypeId) (i : TypeInfo) (z : Value) (size bytes : Nat) (ht : Try.prog.underlying t = some (.slice e)) (hi : Try.prog.info? e = some i) (hz : i.zero = some z)
    (hsize : i.size = size) (hby : i.bytes = bytes) (hzs : z.cells.size = size) (hsz : 0 < size)
    (v : Value) (n : Nat) (xs : List Value) (hs : a.eval s = v) (hown : w.ownsRow base e size v n xs)
    (ad : Addr) (m c : Nat) (news : List Value) (hx : a.eval x = .slice (some ad) m c) (hl : news.length = m * size) (hnews : ∀ j u, news[j]? = some u → w.cell? (ad.add j) = some u) (h1 : ∀ u ∈ news, u.oneCell' = true)
    (h63 : n + m ≤ maxLen) (hbytes : (n + m) * bytes ≤ 140737488355328) (hbase : base ≤ w.heap.size)
    (h : ∀ v' w', w'.ownsRow base e size v' (n + m) (xs ++ news) → w.grownBy w' v.ownBlock → (v'.ownBlock = v.ownBlock ∨ v'.ownBlock = some w.heap.size) → K (a.put o.dst v') w') :
    if Region.wanted o (yielded ops a.tmps) = true then Oper.wp Try.prog o a w K Q else E := by
  rw [if_pos (by simp [Region.wanted, hgd])]
  obtain ⟨v', w', hr, h2, h3, h4, h5⟩ := run_append_own_at (P := Try.prog) w base t o.type e i z size bytes ht hi hz hsize hby hzs hsz v n xs hown ad m c news hl hnews h1 h63 hbytes hbase
  unfold Oper.wp execOp
  simp only [ho, resolve, invoke, builtin, Sem.run_bind, Sem.run_pure, Result.andThen_ok, List.map_toArray, List.map_cons, List.map_nil, hs, hx, hr]
  exact h v' w' h2 h3 h5
theorem but_below {a w w' : World} {row : Option Nat} (h : a.grownBy w row) (hb : Below w.heap.size w w') : a.grownBy w' row :=
  ⟨hb.os.trans h.os, hb.tape.trans h.tape, hb.output.trans h.output, Nat.le_trans h.size hb.size, fun k hk hn => (hb.block k (Nat.lt_of_lt_of_le hk h.size)).trans (h.block k hk hn)⟩
/-- A game in memory: its moves, its map. -/
def gameC (f : Value) (b : Nat) : Array Value := #[f, .map (some b)]
/-- In block b lies a map of at most N right numbers. -/
def Gm (t : Nat → Bool) (m : Nat) (k : Bool) (V : World) (b N : Nat) : Prop := ∃ n D, n ≤ N ∧ V.ownsMap Try.prog 52 (plainElem Try.prog 3) b n D ∧ Sound t m k D
theorem Gm.kept {t : Nat → Bool} {m : Nat} {k : Bool} {V V2 : World} {b N : Nat} {row : Option Nat} (h : Gm t m k V b N) (hg : V.grownBy V2 row) (hne : some b ≠ row) : Gm t m k V2 b N := by
  obtain ⟨n, D, h1, h2, h3⟩ := h
  exact ⟨n, D, h1, h2.kept hg hne, h3⟩
theorem Gm.lt {t : Nat → Bool} {m : Nat} {k : Bool} {V : World} {b N : Nat} (h : Gm t m k V b N) : b < V.heap.size := by
  obtain ⟨n, D, h1, h2, h3⟩ := h
  exact h2.lt
theorem Gm.mono {t : Nat → Bool} {m : Nat} {k : Bool} {V : World} {b N N2 : Nat} (h : Gm t m k V b N) (hN : N ≤ N2) : Gm t m k V b N2 := by
  obtain ⟨n, D, h1, h2, h3⟩ := h
  exact ⟨n, D, Nat.le_trans h1 hN, h2, h3⟩
/-- What holds in the loop over the moves. -/
structure NIn (t : Nat → Bool) (m : Nat) (k : Bool) (W0 : World) (b : Nat) (ma : Option Addr) (ys : List Int) (u : Value) (L : List Int) (N : Nat) (V : World) : Prop where
  gr : W0.grownBy V (some b)
  ow : V.ownsRow W0.heap.size 3 1 u L.length (nums L)
  bs : Beside ma ys u V
  lo : ∀ b' o, ma = some ⟨b', o, none⟩ → W0.heap.size ≤ b'
  gm : Gm t m k V b N
  lt : b < W0.heap.size
theorem NIn.drew {t : Nat → Bool} {m : Nat} {k : Bool} {W0 V : World} {b N : Nat} {ma : Option Addr} {ys L : List Int} {u : Value} (h : NIn t m k W0 b ma ys u L N V) : NIn t m k W0 b ma ys u L N { V with drawn := V.drawn + 1 } :=
  ⟨⟨h.gr.os, h.gr.tape, h.gr.output, h.gr.size, h.gr.block⟩, h.ow, h.bs, h.lo, h.gm, h.lt⟩
theorem NIn.own {t : Nat → Bool} {m : Nat} {k : Bool} {W0 V V2 : World} {b N : Nat} {ma : Option Addr} {ys L : List Int} {u : Value} {row : Option Nat} (h : NIn t m k W0 b ma ys u L N V) (hg : V.grownBy V2 row) (hr : ∀ j, row = some j → j < W0.heap.size) : V2.ownsRow W0.heap.size 3 1 u L.length (nums L) ∧ Beside ma ys u V2 := by
  refine ⟨own_kept h.ow hg hr, fun j y hy => ?_, fun b' o e => ⟨Nat.lt_of_lt_of_le (h.bs.2 b' o e).1 hg.size, (h.bs.2 b' o e).2⟩⟩
  obtain ⟨b', o, e, hc⟩ := h.bs.1 j y hy
  refine ⟨b', o, e, hg.cell hc fun e2 => ?_⟩
  have h1 := h.lo b' o e
  have h2 := hr b' e2.symm
  omega
theorem NIn.later {t : Nat → Bool} {m : Nat} {k : Bool} {W0 V V2 : World} {b N : Nat} {ma : Option Addr} {ys L : List Int} {u : Value} (h : NIn t m k W0 b ma ys u L N V) (hb : Below V.heap.size V V2) : NIn t m k W0 b ma ys u L N V2 := by
  have hg := grown_none hb
  obtain ⟨h1, h2⟩ := h.own hg (fun j hj => by cases hj)
  exact ⟨but_below h.gr hb, h1, h2, h.lo, h.gm.kept hg (by simp), h.lt⟩
theorem NIn.asked {t : Nat → Bool} {m : Nat} {k : Bool} {W0 V V2 : World} {b N N2 : Nat} {ma : Option Addr} {ys L : List Int} {u : Value} (h : NIn t m k W0 b ma ys u L N V) (hg : V.grownBy V2 (some b)) (hm : Gm t m k V2 b N2) : NIn t m k W0 b ma ys u L N2 V2 := by
  obtain ⟨h1, h2⟩ := h.own hg (fun j hj => by cases hj; exact h.lt)
  exact ⟨World.grownBy.trans h.gr hg, h1, h2, h.lo, hm, h.lt⟩
theorem NIn.push {t : Nat → Bool} {m : Nat} {k : Bool} {W0 V V2 : World} {b N : Nat} {ma : Option Addr} {ys L : List Int} {u v' : Value} {x : Int} {o : Obj} (h : NIn t m k W0 b ma ys u L N V)
    (hown : V2.ownsRow W0.heap.size 3 1 v' (L.length + 1) (nums L ++ [.int .i64 x])) (hg : (V.alloc o).grownBy V2 u.ownBlock) (hat : v'.ownBlock = u.ownBlock ∨ v'.ownBlock = some (V.alloc o).heap.size) : NIn t m k W0 b ma ys v' (L ++ [x]) N V2 := by
  have hs : (V.alloc o).heap.size = V.heap.size + 1 := by simp
  have h1 := h.later ((Below.refl _ V).alloc (Nat.le_refl _) o)
  have hne : some b ≠ u.ownBlock := fun e => by
    have := (h.ow.lt b e.symm).1
    have := h.lt
    omega
  refine ⟨⟨hg.os.trans h1.gr.os, hg.tape.trans h1.gr.tape, hg.output.trans h1.gr.output, Nat.le_trans h1.gr.size hg.size, fun i hi hn => ?_⟩, ?_, h.bs.push hg (by rw [← hs]; exact hat), h.lo, h1.gm.kept hg hne, h.lt⟩
  · refine (hg.block i (Nat.lt_of_lt_of_le hi h1.gr.size) fun e => ?_).trans (h1.gr.block i hi hn)
    have := (h.ow.lt i e.symm).1
    omega
  · have e : nums (L ++ [x]) = nums L ++ [.int .i64 x] := by simp [nums]
    rw [e, List.length_append]
    exact hown
def opsN : Array Oper := #[{ dst := some 30, op := Op.move (Operand.tmp 7), type := 22, pos := "l9_games.go:94", after := #[], guard := none },
  { dst := some 31, op := Op.load 58 (Operand.tmp 2), type := 58, pos := "l9_games.go:94", after := #[], guard := none },
  { dst := some 32, op := Op.load 52 (Operand.tmp 3), type := 52, pos := "l9_games.go:94", after := #[], guard := none },
  { dst := some 33, op := Op.move (Operand.tmp 9), type := 3, pos := "l9_games.go:94", after := #[], guard := none },
  { dst := some 34, op := Op.call { callee := Callee.value (Operand.func 71), args := #[Operand.tmp 32, Operand.tmp 33], argTypes := #[52, 3] }, type := 52, pos := "l9_games.go:94", after := #[{ on := 2, ground := Ground.data }, { on := 3, ground := Ground.data }], guard := none },
  { dst := some 35, op := Op.call { callee := Callee.value (Operand.func 55), args := #[Operand.tmp 31, Operand.tmp 34], argTypes := #[58, 52] }, type := 3, pos := "l9_games.go:94", after := #[{ on := 1, ground := Ground.data }, { on := 4, ground := Ground.data }, { on := 4, ground := Ground.chain }], guard := none },
  { dst := some 36, op := Op.buildSlice 22 1 #[(0, Operand.tmp 35)], type := 22, pos := "l9_games.go:94", after := #[{ on := 5, ground := Ground.data }], guard := none },
  { dst := some 37, op := Op.call { callee := Callee.builtin Builtin.append, args := #[Operand.tmp 30, Operand.tmp 36], argTypes := #[22, 22] }, type := 22, pos := "l9_games.go:94", after := #[{ on := 0, ground := Ground.data }, { on := 6, ground := Ground.data }, { on := 5, ground := Ground.chain }], guard := none },
  { dst := some 7, op := Op.assign (Operand.tmp 37), type := 22, pos := "l9_games.go:94", after := #[{ on := 7, ground := Ground.data }, { on := 7, ground := Ground.chain }, { on := 0, ground := Ground.phase }, { on := 1, ground := Ground.phase }, { on := 2, ground := Ground.phase }, { on := 3, ground := Ground.phase }, { on := 4, ground := Ground.phase }, { on := 5, ground := Ground.phase }, { on := 6, ground := Ground.phase }, { on := 7, ground := Ground.phase }], guard := none }]
structure CtxN (t : Nat → Bool) (m : Nat) (k : Bool) (W0 : World) (h b s s2 p N N2 : Nat) (f u : Value) (ma : Option Addr) (ys L : List Int) (x : Int) (ds : List Deferred) (z0 z1 z4 z5 z6 z8 z10 z11 z12 z13 z14 z15 z16 z17 z18 z19 z20 z21 z22 z23 z24 z25 z26 z27 z28 z29 z30 z31 z32 z33 z34 z35 z36 z37 z38 z39 z40 z41 z42 z43 z44 z45 z46 z47 z48 : Value) (Q : Exit → Act → World → Prop) : Prop where
  beh : ∀ V, Calls Try.prog 71 #[.agg (posC t m s), .int .i64 ((p : Int) + 1)] V (Val (.agg (posC t m s2)) V)
  num : ∀ V, Gm t m k V b N → Calls Try.prog 55 #[.agg (gameC f b), .agg (posC t m s2)] V fun e V' => e = .returned (.int .i64 x) ∧ V.grownBy V' (some b) ∧ Gm t m k V' b N2
  gl : ∀ V, W0.grownBy V (some b) → (loadVar 58 ⟨h, 0, none⟩).run Try.prog V = .ok (.agg (gameC f b)) V
  pl : ∀ V, W0.grownBy V (some b) → (loadVar 52 ⟨h + 1, 0, none⟩).run Try.prog V = .ok (.agg (posC t m s)) V
  len : L.length ≤ 6
  q : ∀ v2 V z36b, NIn t m k W0 b ma ys v2 (L ++ [x]) N2 V → Q .normal { tmps := #[z0, z1, .pointer (some ⟨h, 0, none⟩), .pointer (some ⟨h + 1, 0, none⟩), z4, z5, z6, v2, z8, .int .i64 ((p : Int) + 1), z10, z11, z12, z13, z14, z15, z16, z17, z18, z19, z20, z21, z22, z23, z24, z25, z26, z27, z28, z29, u, .agg (gameC f b), .agg (posC t m s), .int .i64 ((p : Int) + 1), .agg (posC t m s2), .int .i64 x, z36b, v2, z38, z39, z40, z41, z42, z43, z44, z45, z46, z47, z48], defers := ds } V
set_option maxRecDepth 100000
set_option maxHeartbeats 2000000
theorem numR_012345678 (t : Nat → Bool) (m : Nat) (k : Bool) (W0 : World) (h b s s2 p N N2 : Nat) (f u : Value) (ma : Option Addr) (ys L : List Int) (x : Int) (ds : List Deferred) (z0 z1 z4 z5 z6 z8 z10 z11 z12 z13 z14 z15 z16 z17 z18 z19 z20 z21 z22 z23 z24 z25 z26 z27 z28 z29 z30 z31 z32 z33 z34 z35 z36 z37 z38 z39 z40 z41 z42 z43 z44 z45 z46 z47 z48 : Value) (Q : Exit → Act → World → Prop) (X : CtxN t m k W0 h b s s2 p N N2 f u ma ys L x ds z0 z1 z4 z5 z6 z8 z10 z11 z12 z13 z14 z15 z16 z17 z18 z19 z20 z21 z22 z23 z24 z25 z26 z27 z28 z29 z30 z31 z32 z33 z34 z35 z36 z37 z38 z39 z40 z41 z42 z43 z44 z45 z46 z47 z48 Q) (V : World) (v2 z36b : Value) (I : Hid (NIn t m k W0 b ma ys v2 (L ++ [x]) N2 V)) (B : Array Bool) (hB : B = #[true, true, true, true, true, true, true, true, true]) :
    wpAny Try.prog .any opsN Q 0 B { tmps := #[z0, z1, .pointer (some ⟨h, 0, none⟩), .pointer (some ⟨h + 1, 0, none⟩), z4, z5, z6, v2, z8, .int .i64 ((p : Int) + 1), z10, z11, z12, z13, z14, z15, z16, z17, z18, z19, z20, z21, z22, z23, z24, z25, z26, z27, z28, z29, u, .agg (gameC f b), .agg (posC t m s), .int .i64 ((p : Int) + 1), .agg (posC t m s2), .int .i64 x, z36b, v2, z38, z39, z40, z41, z42, z43, z44, z45, z46, z47, z48], defers := ds } V := by
  subst hB
  exact wpAny_done (by kernel_rfl) (X.q v2 V z36b I.out) _
theorem numR_01234567 (t : Nat → Bool) (m : Nat) (k : Bool) (W0 : World) (h b s s2 p N N2 : Nat) (f u : Value) (ma : Option Addr) (ys L : List Int) (x : Int) (ds : List Deferred) (z0 z1 z4 z5 z6 z8 z10 z11 z12 z13 z14 z15 z16 z17 z18 z19 z20 z21 z22 z23 z24 z25 z26 z27 z28 z29 z30 z31 z32 z33 z34 z35 z36 z37 z38 z39 z40 z41 z42 z43 z44 z45 z46 z47 z48 : Value) (Q : Exit → Act → World → Prop) (X : CtxN t m k W0 h b s s2 p N N2 f u ma ys L x ds z0 z1 z4 z5 z6 z8 z10 z11 z12 z13 z14 z15 z16 z17 z18 z19 z20 z21 z22 z23 z24 z25 z26 z27 z28 z29 z30 z31 z32 z33 z34 z35 z36 z37 z38 z39 z40 z41 z42 z43 z44 z45 z46 z47 z48 Q) (V : World) (v2 z36b : Value) (I : Hid (NIn t m k W0 b ma ys v2 (L ++ [x]) N2 V)) (B : Array Bool) (hB : B = #[true, true, true, true, true, true, true, true, false]) :
    wpAny Try.prog .any opsN Q 1 B { tmps := #[z0, z1, .pointer (some ⟨h, 0, none⟩), .pointer (some ⟨h + 1, 0, none⟩), z4, z5, z6, u, z8, .int .i64 ((p : Int) + 1), z10, z11, z12, z13, z14, z15, z16, z17, z18, z19, z20, z21, z22, z23, z24, z25, z26, z27, z28, z29, u, .agg (gameC f b), .agg (posC t m s), .int .i64 ((p : Int) + 1), .agg (posC t m s2), .int .i64 x, z36b, v2, z38, z39, z40, z41, z42, z43, z44, z45, z46, z47, z48], defers := ds } V := by
  subst hB
  refine wpAny_ready (rs := [8]) (by kernel_rfl) (by simp) ?_
  refine AllReady.cons rfl (fun K hK => ?_) ?_
  · delta opsN
    go_simp
    refine hK _ _ ?_
    exact numR_012345678 t m k W0 h b s s2 p N N2 f u ma ys L x ds z0 z1 z4 z5 z6 z8 z10 z11 z12 z13 z14 z15 z16 z17 z18 z19 z20 z21 z22 z23 z24 z25 z26 z27 z28 z29 z30 z31 z32 z33 z34 z35 z36 z37 z38 z39 z40 z41 z42 z43 z44 z45 z46 z47 z48 Q X V v2 z36b I _ (by kernel_rfl)
  exact AllReady.nil
theorem numR_0123456 (t : Nat → Bool) (m : Nat) (k : Bool) (W0 : World) (h b s s2 p N N2 : Nat) (f u : Value) (ma : Option Addr) (ys L : List Int) (x : Int) (ds : List Deferred) (z0 z1 z4 z5 z6 z8 z10 z11 z12 z13 z14 z15 z16 z17 z18 z19 z20 z21 z22 z23 z24 z25 z26 z27 z28 z29 z30 z31 z32 z33 z34 z35 z36 z37 z38 z39 z40 z41 z42 z43 z44 z45 z46 z47 z48 : Value) (Q : Exit → Act → World → Prop) (X : CtxN t m k W0 h b s s2 p N N2 f u ma ys L x ds z0 z1 z4 z5 z6 z8 z10 z11 z12 z13 z14 z15 z16 z17 z18 z19 z20 z21 z22 z23 z24 z25 z26 z27 z28 z29 z30 z31 z32 z33 z34 z35 z36 z37 z38 z39 z40 z41 z42 z43 z44 z45 z46 z47 z48 Q) (V : World) (I : Hid (NIn t m k W0 b ma ys u L N2 V)) (B : Array Bool) (hB : B = #[true, true, true, true, true, true, true, false, false]) :
    wpAny Try.prog .any opsN Q 2 B { tmps := #[z0, z1, .pointer (some ⟨h, 0, none⟩), .pointer (some ⟨h + 1, 0, none⟩), z4, z5, z6, u, z8, .int .i64 ((p : Int) + 1), z10, z11, z12, z13, z14, z15, z16, z17, z18, z19, z20, z21, z22, z23, z24, z25, z26, z27, z28, z29, u, .agg (gameC f b), .agg (posC t m s), .int .i64 ((p : Int) + 1), .agg (posC t m s2), .int .i64 x, .slice (some ⟨V.heap.size, 0, none⟩) 1 1, z37, z38, z39, z40, z41, z42, z43, z44, z45, z46, z47, z48], defers := ds } (V.alloc (.cells #[.int .i64 x] 3)) := by
  subst hB
  refine wpAny_ready (rs := [7]) (by kernel_rfl) (by simp) ?_
  refine AllReady.cons rfl (fun K hK => ?_) ?_
  · obtain ⟨i0, hi0, hz0, hz1, hz2⟩ := info_parts infoInt
    have hlen := X.len
    refine wstep_append_at rfl _ _ 22 rfl W0.heap.size 3 i0 (.int .i64 0) 1 8 Try.underlying22 hi0 hz0 hz1 hz2 rfl (by decide) u L.length (nums L) rfl (I.out.later ((Below.refl _ V).alloc (Nat.le_refl _) _)).ow ⟨V.heap.size, 0, none⟩ 1 1 [.int .i64 x] rfl rfl (cell_one_new _ _ _) (by simp [Value.oneCell']) (by unfold maxLen; omega) (by omega) (Nat.le_trans I.out.gr.size (by simp)) (fun v2 w2 h1 h2 h3 => hK _ _ ?_)
    exact numR_01234567 t m k W0 h b s s2 p N N2 f u ma ys L x ds z0 z1 z4 z5 z6 z8 z10 z11 z12 z13 z14 z15 z16 z17 z18 z19 z20 z21 z22 z23 z24 z25 z26 z27 z28 z29 z30 z31 z32 z33 z34 z35 z36 z37 z38 z39 z40 z41 z42 z43 z44 z45 z46 z47 z48 Q X w2 v2 _ (Lib.hid (I.out.push h1 h2 h3)) _ (by kernel_rfl)
  exact AllReady.nil
theorem numR_012345 (t : Nat → Bool) (m : Nat) (k : Bool) (W0 : World) (h b s s2 p N N2 : Nat) (f u : Value) (ma : Option Addr) (ys L : List Int) (x : Int) (ds : List Deferred) (z0 z1 z4 z5 z6 z8 z10 z11 z12 z13 z14 z15 z16 z17 z18 z19 z20 z21 z22 z23 z24 z25 z26 z27 z28 z29 z30 z31 z32 z33 z34 z35 z36 z37 z38 z39 z40 z41 z42 z43 z44 z45 z46 z47 z48 : Value) (Q : Exit → Act → World → Prop) (X : CtxN t m k W0 h b s s2 p N N2 f u ma ys L x ds z0 z1 z4 z5 z6 z8 z10 z11 z12 z13 z14 z15 z16 z17 z18 z19 z20 z21 z22 z23 z24 z25 z26 z27 z28 z29 z30 z31 z32 z33 z34 z35 z36 z37 z38 z39 z40 z41 z42 z43 z44 z45 z46 z47 z48 Q) (V : World) (I : Hid (NIn t m k W0 b ma ys u L N2 V)) (B : Array Bool) (hB : B = #[true, true, true, true, true, true, false, false, false]) :
    wpAny Try.prog .any opsN Q 3 B { tmps := #[z0, z1, .pointer (some ⟨h, 0, none⟩), .pointer (some ⟨h + 1, 0, none⟩), z4, z5, z6, u, z8, .int .i64 ((p : Int) + 1), z10, z11, z12, z13, z14, z15, z16, z17, z18, z19, z20, z21, z22, z23, z24, z25, z26, z27, z28, z29, u, .agg (gameC f b), .agg (posC t m s), .int .i64 ((p : Int) + 1), .agg (posC t m s2), .int .i64 x, z36, z37, z38, z39, z40, z41, z42, z43, z44, z45, z46, z47, z48], defers := ds } V := by
  subst hB
  refine wpAny_ready (rs := [6]) (by kernel_rfl) (by simp) ?_
  refine AllReady.cons rfl (fun K hK => ?_) ?_
  · delta opsN
    go_simp
    refine hK _ _ ?_
    exact numR_0123456 t m k W0 h b s s2 p N N2 f u ma ys L x ds z0 z1 z4 z5 z6 z8 z10 z11 z12 z13 z14 z15 z16 z17 z18 z19 z20 z21 z22 z23 z24 z25 z26 z27 z28 z29 z30 z31 z32 z33 z34 z35 z36 z37 z38 z39 z40 z41 z42 z43 z44 z45 z46 z47 z48 Q X V I _ (by kernel_rfl)
  exact AllReady.nil
theorem numR_01234 (t : Nat → Bool) (m : Nat) (k : Bool) (W0 : World) (h b s s2 p N N2 : Nat) (f u : Value) (ma : Option Addr) (ys L : List Int) (x : Int) (ds : List Deferred) (z0 z1 z4 z5 z6 z8 z10 z11 z12 z13 z14 z15 z16 z17 z18 z19 z20 z21 z22 z23 z24 z25 z26 z27 z28 z29 z30 z31 z32 z33 z34 z35 z36 z37 z38 z39 z40 z41 z42 z43 z44 z45 z46 z47 z48 : Value) (Q : Exit → Act → World → Prop) (X : CtxN t m k W0 h b s s2 p N N2 f u ma ys L x ds z0 z1 z4 z5 z6 z8 z10 z11 z12 z13 z14 z15 z16 z17 z18 z19 z20 z21 z22 z23 z24 z25 z26 z27 z28 z29 z30 z31 z32 z33 z34 z35 z36 z37 z38 z39 z40 z41 z42 z43 z44 z45 z46 z47 z48 Q) (V : World) (I : Hid (NIn t m k W0 b ma ys u L N V)) (B : Array Bool) (hB : B = #[true, true, true, true, true, false, false, false, false]) :
    wpAny Try.prog .any opsN Q 4 B { tmps := #[z0, z1, .pointer (some ⟨h, 0, none⟩), .pointer (some ⟨h + 1, 0, none⟩), z4, z5, z6, u, z8, .int .i64 ((p : Int) + 1), z10, z11, z12, z13, z14, z15, z16, z17, z18, z19, z20, z21, z22, z23, z24, z25, z26, z27, z28, z29, u, .agg (gameC f b), .agg (posC t m s), .int .i64 ((p : Int) + 1), .agg (posC t m s2), z35, z36, z37, z38, z39, z40, z41, z42, z43, z44, z45, z46, z47, z48], defers := ds } V := by
  subst hB
  refine wpAny_ready (rs := [5]) (by kernel_rfl) (by simp) ?_
  refine AllReady.cons rfl (fun K hK => ?_) ?_
  · delta opsN
    go_simp
    refine (X.num _ I.out.gm).mono ?_
    rintro e V2 ⟨rfl, hg, hm⟩
    try go_simp
    refine hK _ _ ?_
    exact numR_012345 t m k W0 h b s s2 p N N2 f u ma ys L x ds z0 z1 z4 z5 z6 z8 z10 z11 z12 z13 z14 z15 z16 z17 z18 z19 z20 z21 z22 z23 z24 z25 z26 z27 z28 z29 z30 z31 z32 z33 z34 z35 z36 z37 z38 z39 z40 z41 z42 z43 z44 z45 z46 z47 z48 Q X V2 (Lib.hid (I.out.asked hg hm)) _ (by kernel_rfl)
  exact AllReady.nil
theorem numR_0123 (t : Nat → Bool) (m : Nat) (k : Bool) (W0 : World) (h b s s2 p N N2 : Nat) (f u : Value) (ma : Option Addr) (ys L : List Int) (x : Int) (ds : List Deferred) (z0 z1 z4 z5 z6 z8 z10 z11 z12 z13 z14 z15 z16 z17 z18 z19 z20 z21 z22 z23 z24 z25 z26 z27 z28 z29 z30 z31 z32 z33 z34 z35 z36 z37 z38 z39 z40 z41 z42 z43 z44 z45 z46 z47 z48 : Value) (Q : Exit → Act → World → Prop) (X : CtxN t m k W0 h b s s2 p N N2 f u ma ys L x ds z0 z1 z4 z5 z6 z8 z10 z11 z12 z13 z14 z15 z16 z17 z18 z19 z20 z21 z22 z23 z24 z25 z26 z27 z28 z29 z30 z31 z32 z33 z34 z35 z36 z37 z38 z39 z40 z41 z42 z43 z44 z45 z46 z47 z48 Q) (V : World) (I : Hid (NIn t m k W0 b ma ys u L N V)) (B : Array Bool) (hB : B = #[true, true, true, true, false, false, false, false, false]) :
    wpAny Try.prog .any opsN Q 5 B { tmps := #[z0, z1, .pointer (some ⟨h, 0, none⟩), .pointer (some ⟨h + 1, 0, none⟩), z4, z5, z6, u, z8, .int .i64 ((p : Int) + 1), z10, z11, z12, z13, z14, z15, z16, z17, z18, z19, z20, z21, z22, z23, z24, z25, z26, z27, z28, z29, u, .agg (gameC f b), .agg (posC t m s), .int .i64 ((p : Int) + 1), z34, z35, z36, z37, z38, z39, z40, z41, z42, z43, z44, z45, z46, z47, z48], defers := ds } V := by
  subst hB
  refine wpAny_ready (rs := [4]) (by kernel_rfl) (by simp) ?_
  refine AllReady.cons rfl (fun K hK => ?_) ?_
  · delta opsN
    go_simp
    refine (X.beh _).mono ?_
    rintro e V2 ⟨rfl, hb⟩
    try go_simp
    refine hK _ _ ?_
    exact numR_01234 t m k W0 h b s s2 p N N2 f u ma ys L x ds z0 z1 z4 z5 z6 z8 z10 z11 z12 z13 z14 z15 z16 z17 z18 z19 z20 z21 z22 z23 z24 z25 z26 z27 z28 z29 z30 z31 z32 z33 z34 z35 z36 z37 z38 z39 z40 z41 z42 z43 z44 z45 z46 z47 z48 Q X V2 (Lib.hid (I.out.later hb)) _ (by kernel_rfl)
  exact AllReady.nil
theorem numR_012 (t : Nat → Bool) (m : Nat) (k : Bool) (W0 : World) (h b s s2 p N N2 : Nat) (f u : Value) (ma : Option Addr) (ys L : List Int) (x : Int) (ds : List Deferred) (z0 z1 z4 z5 z6 z8 z10 z11 z12 z13 z14 z15 z16 z17 z18 z19 z20 z21 z22 z23 z24 z25 z26 z27 z28 z29 z30 z31 z32 z33 z34 z35 z36 z37 z38 z39 z40 z41 z42 z43 z44 z45 z46 z47 z48 : Value) (Q : Exit → Act → World → Prop) (X : CtxN t m k W0 h b s s2 p N N2 f u ma ys L x ds z0 z1 z4 z5 z6 z8 z10 z11 z12 z13 z14 z15 z16 z17 z18 z19 z20 z21 z22 z23 z24 z25 z26 z27 z28 z29 z30 z31 z32 z33 z34 z35 z36 z37 z38 z39 z40 z41 z42 z43 z44 z45 z46 z47 z48 Q) (V : World) (I : Hid (NIn t m k W0 b ma ys u L N V)) (B : Array Bool) (hB : B = #[true, true, true, false, false, false, false, false, false]) :
    wpAny Try.prog .any opsN Q 6 B { tmps := #[z0, z1, .pointer (some ⟨h, 0, none⟩), .pointer (some ⟨h + 1, 0, none⟩), z4, z5, z6, u, z8, .int .i64 ((p : Int) + 1), z10, z11, z12, z13, z14, z15, z16, z17, z18, z19, z20, z21, z22, z23, z24, z25, z26, z27, z28, z29, u, .agg (gameC f b), .agg (posC t m s), z33, z34, z35, z36, z37, z38, z39, z40, z41, z42, z43, z44, z45, z46, z47, z48], defers := ds } V := by
  subst hB
  refine wpAny_ready (rs := [3]) (by kernel_rfl) (by simp) ?_
  refine AllReady.cons rfl (fun K hK => ?_) ?_
  · delta opsN
    go_simp
    refine hK _ _ ?_
    exact numR_0123 t m k W0 h b s s2 p N N2 f u ma ys L x ds z0 z1 z4 z5 z6 z8 z10 z11 z12 z13 z14 z15 z16 z17 z18 z19 z20 z21 z22 z23 z24 z25 z26 z27 z28 z29 z30 z31 z32 z33 z34 z35 z36 z37 z38 z39 z40 z41 z42 z43 z44 z45 z46 z47 z48 Q X V I _ (by kernel_rfl)
  exact AllReady.nil
theorem numR_013 (t : Nat → Bool) (m : Nat) (k : Bool) (W0 : World) (h b s s2 p N N2 : Nat) (f u : Value) (ma : Option Addr) (ys L : List Int) (x : Int) (ds : List Deferred) (z0 z1 z4 z5 z6 z8 z10 z11 z12 z13 z14 z15 z16 z17 z18 z19 z20 z21 z22 z23 z24 z25 z26 z27 z28 z29 z30 z31 z32 z33 z34 z35 z36 z37 z38 z39 z40 z41 z42 z43 z44 z45 z46 z47 z48 : Value) (Q : Exit → Act → World → Prop) (X : CtxN t m k W0 h b s s2 p N N2 f u ma ys L x ds z0 z1 z4 z5 z6 z8 z10 z11 z12 z13 z14 z15 z16 z17 z18 z19 z20 z21 z22 z23 z24 z25 z26 z27 z28 z29 z30 z31 z32 z33 z34 z35 z36 z37 z38 z39 z40 z41 z42 z43 z44 z45 z46 z47 z48 Q) (V : World) (I : Hid (NIn t m k W0 b ma ys u L N V)) (B : Array Bool) (hB : B = #[true, true, false, true, false, false, false, false, false]) :
    wpAny Try.prog .any opsN Q 6 B { tmps := #[z0, z1, .pointer (some ⟨h, 0, none⟩), .pointer (some ⟨h + 1, 0, none⟩), z4, z5, z6, u, z8, .int .i64 ((p : Int) + 1), z10, z11, z12, z13, z14, z15, z16, z17, z18, z19, z20, z21, z22, z23, z24, z25, z26, z27, z28, z29, u, .agg (gameC f b), z32, .int .i64 ((p : Int) + 1), z34, z35, z36, z37, z38, z39, z40, z41, z42, z43, z44, z45, z46, z47, z48], defers := ds } V := by
  subst hB
  refine wpAny_ready (rs := [2]) (by kernel_rfl) (by simp) ?_
  refine AllReady.cons rfl (fun K hK => ?_) ?_
  · refine wstep_load rfl 52 _ rfl (h + 1) rfl (posC t m s) (X.pl _ I.out.gr) (hK _ _ ?_)
    exact numR_0123 t m k W0 h b s s2 p N N2 f u ma ys L x ds z0 z1 z4 z5 z6 z8 z10 z11 z12 z13 z14 z15 z16 z17 z18 z19 z20 z21 z22 z23 z24 z25 z26 z27 z28 z29 z30 z31 z32 z33 z34 z35 z36 z37 z38 z39 z40 z41 z42 z43 z44 z45 z46 z47 z48 Q X V I _ (by kernel_rfl)
  exact AllReady.nil
theorem numR_01 (t : Nat → Bool) (m : Nat) (k : Bool) (W0 : World) (h b s s2 p N N2 : Nat) (f u : Value) (ma : Option Addr) (ys L : List Int) (x : Int) (ds : List Deferred) (z0 z1 z4 z5 z6 z8 z10 z11 z12 z13 z14 z15 z16 z17 z18 z19 z20 z21 z22 z23 z24 z25 z26 z27 z28 z29 z30 z31 z32 z33 z34 z35 z36 z37 z38 z39 z40 z41 z42 z43 z44 z45 z46 z47 z48 : Value) (Q : Exit → Act → World → Prop) (X : CtxN t m k W0 h b s s2 p N N2 f u ma ys L x ds z0 z1 z4 z5 z6 z8 z10 z11 z12 z13 z14 z15 z16 z17 z18 z19 z20 z21 z22 z23 z24 z25 z26 z27 z28 z29 z30 z31 z32 z33 z34 z35 z36 z37 z38 z39 z40 z41 z42 z43 z44 z45 z46 z47 z48 Q) (V : World) (I : Hid (NIn t m k W0 b ma ys u L N V)) (B : Array Bool) (hB : B = #[true, true, false, false, false, false, false, false, false]) :
    wpAny Try.prog .any opsN Q 7 B { tmps := #[z0, z1, .pointer (some ⟨h, 0, none⟩), .pointer (some ⟨h + 1, 0, none⟩), z4, z5, z6, u, z8, .int .i64 ((p : Int) + 1), z10, z11, z12, z13, z14, z15, z16, z17, z18, z19, z20, z21, z22, z23, z24, z25, z26, z27, z28, z29, u, .agg (gameC f b), z32, z33, z34, z35, z36, z37, z38, z39, z40, z41, z42, z43, z44, z45, z46, z47, z48], defers := ds } V := by
  subst hB
  refine wpAny_ready (rs := [2, 3]) (by kernel_rfl) (by simp) ?_
  refine AllReady.cons rfl (fun K hK => ?_) ?_
  · refine wstep_load rfl 52 _ rfl (h + 1) rfl (posC t m s) (X.pl _ I.out.gr) (hK _ _ ?_)
    exact numR_012 t m k W0 h b s s2 p N N2 f u ma ys L x ds z0 z1 z4 z5 z6 z8 z10 z11 z12 z13 z14 z15 z16 z17 z18 z19 z20 z21 z22 z23 z24 z25 z26 z27 z28 z29 z30 z31 z32 z33 z34 z35 z36 z37 z38 z39 z40 z41 z42 z43 z44 z45 z46 z47 z48 Q X V I _ (by kernel_rfl)
  refine AllReady.cons rfl (fun K hK => ?_) ?_
  · delta opsN
    go_simp
    refine hK _ _ ?_
    exact numR_013 t m k W0 h b s s2 p N N2 f u ma ys L x ds z0 z1 z4 z5 z6 z8 z10 z11 z12 z13 z14 z15 z16 z17 z18 z19 z20 z21 z22 z23 z24 z25 z26 z27 z28 z29 z30 z31 z32 z33 z34 z35 z36 z37 z38 z39 z40 z41 z42 z43 z44 z45 z46 z47 z48 Q X V I _ (by kernel_rfl)
  exact AllReady.nil
theorem numR_0234 (t : Nat → Bool) (m : Nat) (k : Bool) (W0 : World) (h b s s2 p N N2 : Nat) (f u : Value) (ma : Option Addr) (ys L : List Int) (x : Int) (ds : List Deferred) (z0 z1 z4 z5 z6 z8 z10 z11 z12 z13 z14 z15 z16 z17 z18 z19 z20 z21 z22 z23 z24 z25 z26 z27 z28 z29 z30 z31 z32 z33 z34 z35 z36 z37 z38 z39 z40 z41 z42 z43 z44 z45 z46 z47 z48 : Value) (Q : Exit → Act → World → Prop) (X : CtxN t m k W0 h b s s2 p N N2 f u ma ys L x ds z0 z1 z4 z5 z6 z8 z10 z11 z12 z13 z14 z15 z16 z17 z18 z19 z20 z21 z22 z23 z24 z25 z26 z27 z28 z29 z30 z31 z32 z33 z34 z35 z36 z37 z38 z39 z40 z41 z42 z43 z44 z45 z46 z47 z48 Q) (V : World) (I : Hid (NIn t m k W0 b ma ys u L N V)) (B : Array Bool) (hB : B = #[true, false, true, true, true, false, false, false, false]) :
    wpAny Try.prog .any opsN Q 5 B { tmps := #[z0, z1, .pointer (some ⟨h, 0, none⟩), .pointer (some ⟨h + 1, 0, none⟩), z4, z5, z6, u, z8, .int .i64 ((p : Int) + 1), z10, z11, z12, z13, z14, z15, z16, z17, z18, z19, z20, z21, z22, z23, z24, z25, z26, z27, z28, z29, u, z31, .agg (posC t m s), .int .i64 ((p : Int) + 1), .agg (posC t m s2), z35, z36, z37, z38, z39, z40, z41, z42, z43, z44, z45, z46, z47, z48], defers := ds } V := by
  subst hB
  refine wpAny_ready (rs := [1]) (by kernel_rfl) (by simp) ?_
  refine AllReady.cons rfl (fun K hK => ?_) ?_
  · refine wstep_load rfl 58 _ rfl h rfl (gameC f b) (X.gl _ I.out.gr) (hK _ _ ?_)
    exact numR_01234 t m k W0 h b s s2 p N N2 f u ma ys L x ds z0 z1 z4 z5 z6 z8 z10 z11 z12 z13 z14 z15 z16 z17 z18 z19 z20 z21 z22 z23 z24 z25 z26 z27 z28 z29 z30 z31 z32 z33 z34 z35 z36 z37 z38 z39 z40 z41 z42 z43 z44 z45 z46 z47 z48 Q X V I _ (by kernel_rfl)
  exact AllReady.nil
theorem numR_023 (t : Nat → Bool) (m : Nat) (k : Bool) (W0 : World) (h b s s2 p N N2 : Nat) (f u : Value) (ma : Option Addr) (ys L : List Int) (x : Int) (ds : List Deferred) (z0 z1 z4 z5 z6 z8 z10 z11 z12 z13 z14 z15 z16 z17 z18 z19 z20 z21 z22 z23 z24 z25 z26 z27 z28 z29 z30 z31 z32 z33 z34 z35 z36 z37 z38 z39 z40 z41 z42 z43 z44 z45 z46 z47 z48 : Value) (Q : Exit → Act → World → Prop) (X : CtxN t m k W0 h b s s2 p N N2 f u ma ys L x ds z0 z1 z4 z5 z6 z8 z10 z11 z12 z13 z14 z15 z16 z17 z18 z19 z20 z21 z22 z23 z24 z25 z26 z27 z28 z29 z30 z31 z32 z33 z34 z35 z36 z37 z38 z39 z40 z41 z42 z43 z44 z45 z46 z47 z48 Q) (V : World) (I : Hid (NIn t m k W0 b ma ys u L N V)) (B : Array Bool) (hB : B = #[true, false, true, true, false, false, false, false, false]) :
    wpAny Try.prog .any opsN Q 6 B { tmps := #[z0, z1, .pointer (some ⟨h, 0, none⟩), .pointer (some ⟨h + 1, 0, none⟩), z4, z5, z6, u, z8, .int .i64 ((p : Int) + 1), z10, z11, z12, z13, z14, z15, z16, z17, z18, z19, z20, z21, z22, z23, z24, z25, z26, z27, z28, z29, u, z31, .agg (posC t m s), .int .i64 ((p : Int) + 1), z34, z35, z36, z37, z38, z39, z40, z41, z42, z43, z44, z45, z46, z47, z48], defers := ds } V := by
  subst hB
  refine wpAny_ready (rs := [1, 4]) (by kernel_rfl) (by simp) ?_
  refine AllReady.cons rfl (fun K hK => ?_) ?_
  · refine wstep_load rfl 58 _ rfl h rfl (gameC f b) (X.gl _ I.out.gr) (hK _ _ ?_)
    exact numR_0123 t m k W0 h b s s2 p N N2 f u ma ys L x ds z0 z1 z4 z5 z6 z8 z10 z11 z12 z13 z14 z15 z16 z17 z18 z19 z20 z21 z22 z23 z24 z25 z26 z27 z28 z29 z30 z31 z32 z33 z34 z35 z36 z37 z38 z39 z40 z41 z42 z43 z44 z45 z46 z47 z48 Q X V I _ (by kernel_rfl)
  refine AllReady.cons rfl (fun K hK => ?_) ?_
  · delta opsN
    go_simp
    refine (X.beh _).mono ?_
    rintro e V2 ⟨rfl, hb⟩
    try go_simp
    refine hK _ _ ?_
    exact numR_0234 t m k W0 h b s s2 p N N2 f u ma ys L x ds z0 z1 z4 z5 z6 z8 z10 z11 z12 z13 z14 z15 z16 z17 z18 z19 z20 z21 z22 z23 z24 z25 z26 z27 z28 z29 z30 z31 z32 z33 z34 z35 z36 z37 z38 z39 z40 z41 z42 z43 z44 z45 z46 z47 z48 Q X V2 (Lib.hid (I.out.later hb)) _ (by kernel_rfl)
  exact AllReady.nil
theorem numR_02 (t : Nat → Bool) (m : Nat) (k : Bool) (W0 : World) (h b s s2 p N N2 : Nat) (f u : Value) (ma : Option Addr) (ys L : List Int) (x : Int) (ds : List Deferred) (z0 z1 z4 z5 z6 z8 z10 z11 z12 z13 z14 z15 z16 z17 z18 z19 z20 z21 z22 z23 z24 z25 z26 z27 z28 z29 z30 z31 z32 z33 z34 z35 z36 z37 z38 z39 z40 z41 z42 z43 z44 z45 z46 z47 z48 : Value) (Q : Exit → Act → World → Prop) (X : CtxN t m k W0 h b s s2 p N N2 f u ma ys L x ds z0 z1 z4 z5 z6 z8 z10 z11 z12 z13 z14 z15 z16 z17 z18 z19 z20 z21 z22 z23 z24 z25 z26 z27 z28 z29 z30 z31 z32 z33 z34 z35 z36 z37 z38 z39 z40 z41 z42 z43 z44 z45 z46 z47 z48 Q) (V : World) (I : Hid (NIn t m k W0 b ma ys u L N V)) (B : Array Bool) (hB : B = #[true, false, true, false, false, false, false, false, false]) :
    wpAny Try.prog .any opsN Q 7 B { tmps := #[z0, z1, .pointer (some ⟨h, 0, none⟩), .pointer (some ⟨h + 1, 0, none⟩), z4, z5, z6, u, z8, .int .i64 ((p : Int) + 1), z10, z11, z12, z13, z14, z15, z16, z17, z18, z19, z20, z21, z22, z23, z24, z25, z26, z27, z28, z29, u, z31, .agg (posC t m s), z33, z34, z35, z36, z37, z38, z39, z40, z41, z42, z43, z44, z45, z46, z47, z48], defers := ds } V := by
  subst hB
  refine wpAny_ready (rs := [1, 3]) (by kernel_rfl) (by simp) ?_
  refine AllReady.cons rfl (fun K hK => ?_) ?_
  · refine wstep_load rfl 58 _ rfl h rfl (gameC f b) (X.gl _ I.out.gr) (hK _ _ ?_)
    exact numR_012 t m k W0 h b s s2 p N N2 f u ma ys L x ds z0 z1 z4 z5 z6 z8 z10 z11 z12 z13 z14 z15 z16 z17 z18 z19 z20 z21 z22 z23 z24 z25 z26 z27 z28 z29 z30 z31 z32 z33 z34 z35 z36 z37 z38 z39 z40 z41 z42 z43 z44 z45 z46 z47 z48 Q X V I _ (by kernel_rfl)
  refine AllReady.cons rfl (fun K hK => ?_) ?_
  · delta opsN
    go_simp
    refine hK _ _ ?_
    exact numR_023 t m k W0 h b s s2 p N N2 f u ma ys L x ds z0 z1 z4 z5 z6 z8 z10 z11 z12 z13 z14 z15 z16 z17 z18 z19 z20 z21 z22 z23 z24 z25 z26 z27 z28 z29 z30 z31 z32 z33 z34 z35 z36 z37 z38 z39 z40 z41 z42 z43 z44 z45 z46 z47 z48 Q X V I _ (by kernel_rfl)
  exact AllReady.nil
theorem numR_03 (t : Nat → Bool) (m : Nat) (k : Bool) (W0 : World) (h b s s2 p N N2 : Nat) (f u : Value) (ma : Option Addr) (ys L : List Int) (x : Int) (ds : List Deferred) (z0 z1 z4 z5 z6 z8 z10 z11 z12 z13 z14 z15 z16 z17 z18 z19 z20 z21 z22 z23 z24 z25 z26 z27 z28 z29 z30 z31 z32 z33 z34 z35 z36 z37 z38 z39 z40 z41 z42 z43 z44 z45 z46 z47 z48 : Value) (Q : Exit → Act → World → Prop) (X : CtxN t m k W0 h b s s2 p N N2 f u ma ys L x ds z0 z1 z4 z5 z6 z8 z10 z11 z12 z13 z14 z15 z16 z17 z18 z19 z20 z21 z22 z23 z24 z25 z26 z27 z28 z29 z30 z31 z32 z33 z34 z35 z36 z37 z38 z39 z40 z41 z42 z43 z44 z45 z46 z47 z48 Q) (V : World) (I : Hid (NIn t m k W0 b ma ys u L N V)) (B : Array Bool) (hB : B = #[true, false, false, true, false, false, false, false, false]) :
    wpAny Try.prog .any opsN Q 7 B { tmps := #[z0, z1, .pointer (some ⟨h, 0, none⟩), .pointer (some ⟨h + 1, 0, none⟩), z4, z5, z6, u, z8, .int .i64 ((p : Int) + 1), z10, z11, z12, z13, z14, z15, z16, z17, z18, z19, z20, z21, z22, z23, z24, z25, z26, z27, z28, z29, u, z31, z32, .int .i64 ((p : Int) + 1), z34, z35, z36, z37, z38, z39, z40, z41, z42, z43, z44, z45, z46, z47, z48], defers := ds } V := by
  subst hB
  refine wpAny_ready (rs := [1, 2]) (by kernel_rfl) (by simp) ?_
  refine AllReady.cons rfl (fun K hK => ?_) ?_
  · refine wstep_load rfl 58 _ rfl h rfl (gameC f b) (X.gl _ I.out.gr) (hK _ _ ?_)
    exact numR_013 t m k W0 h b s s2 p N N2 f u ma ys L x ds z0 z1 z4 z5 z6 z8 z10 z11 z12 z13 z14 z15 z16 z17 z18 z19 z20 z21 z22 z23 z24 z25 z26 z27 z28 z29 z30 z31 z32 z33 z34 z35 z36 z37 z38 z39 z40 z41 z42 z43 z44 z45 z46 z47 z48 Q X V I _ (by kernel_rfl)
  refine AllReady.cons rfl (fun K hK => ?_) ?_
  · refine wstep_load rfl 52 _ rfl (h + 1) rfl (posC t m s) (X.pl _ I.out.gr) (hK _ _ ?_)
    exact numR_023 t m k W0 h b s s2 p N N2 f u ma ys L x ds z0 z1 z4 z5 z6 z8 z10 z11 z12 z13 z14 z15 z16 z17 z18 z19 z20 z21 z22 z23 z24 z25 z26 z27 z28 z29 z30 z31 z32 z33 z34 z35 z36 z37 z38 z39 z40 z41 z42 z43 z44 z45 z46 z47 z48 Q X V I _ (by kernel_rfl)
  exact AllReady.nil
theorem numR_0 (t : Nat → Bool) (m : Nat) (k : Bool) (W0 : World) (h b s s2 p N N2 : Nat) (f u : Value) (ma : Option Addr) (ys L : List Int) (x : Int) (ds : List Deferred) (z0 z1 z4 z5 z6 z8 z10 z11 z12 z13 z14 z15 z16 z17 z18 z19 z20 z21 z22 z23 z24 z25 z26 z27 z28 z29 z30 z31 z32 z33 z34 z35 z36 z37 z38 z39 z40 z41 z42 z43 z44 z45 z46 z47 z48 : Value) (Q : Exit → Act → World → Prop) (X : CtxN t m k W0 h b s s2 p N N2 f u ma ys L x ds z0 z1 z4 z5 z6 z8 z10 z11 z12 z13 z14 z15 z16 z17 z18 z19 z20 z21 z22 z23 z24 z25 z26 z27 z28 z29 z30 z31 z32 z33 z34 z35 z36 z37 z38 z39 z40 z41 z42 z43 z44 z45 z46 z47 z48 Q) (V : World) (I : Hid (NIn t m k W0 b ma ys u L N V)) (B : Array Bool) (hB : B = #[true, false, false, false, false, false, false, false, false]) :
    wpAny Try.prog .any opsN Q 8 B { tmps := #[z0, z1, .pointer (some ⟨h, 0, none⟩), .pointer (some ⟨h + 1, 0, none⟩), z4, z5, z6, u, z8, .int .i64 ((p : Int) + 1), z10, z11, z12, z13, z14, z15, z16, z17, z18, z19, z20, z21, z22, z23, z24, z25, z26, z27, z28, z29, u, z31, z32, z33, z34, z35, z36, z37, z38, z39, z40, z41, z42, z43, z44, z45, z46, z47, z48], defers := ds } V := by
  subst hB
  refine wpAny_ready (rs := [1, 2, 3]) (by kernel_rfl) (by simp) ?_
  refine AllReady.cons rfl (fun K hK => ?_) ?_
  · refine wstep_load rfl 58 _ rfl h rfl (gameC f b) (X.gl _ I.out.gr) (hK _ _ ?_)
    exact numR_01 t m k W0 h b s s2 p N N2 f u ma ys L x ds z0 z1 z4 z5 z6 z8 z10 z11 z12 z13 z14 z15 z16 z17 z18 z19 z20 z21 z22 z23 z24 z25 z26 z27 z28 z29 z30 z31 z32 z33 z34 z35 z36 z37 z38 z39 z40 z41 z42 z43 z44 z45 z46 z47 z48 Q X V I _ (by kernel_rfl)
  refine AllReady.cons rfl (fun K hK => ?_) ?_
  · refine wstep_load rfl 52 _ rfl (h + 1) rfl (posC t m s) (X.pl _ I.out.gr) (hK _ _ ?_)
    exact numR_02 t m k W0 h b s s2 p N N2 f u ma ys L x ds z0 z1 z4 z5 z6 z8 z10 z11 z12 z13 z14 z15 z16 z17 z18 z19 z20 z21 z22 z23 z24 z25 z26 z27 z28 z29 z30 z31 z32 z33 z34 z35 z36 z37 z38 z39 z40 z41 z42 z43 z44 z45 z46 z47 z48 Q X V I _ (by kernel_rfl)
  refine AllReady.cons rfl (fun K hK => ?_) ?_
  · delta opsN
    go_simp
    refine hK _ _ ?_
    exact numR_03 t m k W0 h b s s2 p N N2 f u ma ys L x ds z0 z1 z4 z5 z6 z8 z10 z11 z12 z13 z14 z15 z16 z17 z18 z19 z20 z21 z22 z23 z24 z25 z26 z27 z28 z29 z30 z31 z32 z33 z34 z35 z36 z37 z38 z39 z40 z41 z42 z43 z44 z45 z46 z47 z48 Q X V I _ (by kernel_rfl)
  exact AllReady.nil
theorem numR_123456 (t : Nat → Bool) (m : Nat) (k : Bool) (W0 : World) (h b s s2 p N N2 : Nat) (f u : Value) (ma : Option Addr) (ys L : List Int) (x : Int) (ds : List Deferred) (z0 z1 z4 z5 z6 z8 z10 z11 z12 z13 z14 z15 z16 z17 z18 z19 z20 z21 z22 z23 z24 z25 z26 z27 z28 z29 z30 z31 z32 z33 z34 z35 z36 z37 z38 z39 z40 z41 z42 z43 z44 z45 z46 z47 z48 : Value) (Q : Exit → Act → World → Prop) (X : CtxN t m k W0 h b s s2 p N N2 f u ma ys L x ds z0 z1 z4 z5 z6 z8 z10 z11 z12 z13 z14 z15 z16 z17 z18 z19 z20 z21 z22 z23 z24 z25 z26 z27 z28 z29 z30 z31 z32 z33 z34 z35 z36 z37 z38 z39 z40 z41 z42 z43 z44 z45 z46 z47 z48 Q) (V : World) (I : Hid (NIn t m k W0 b ma ys u L N2 V)) (B : Array Bool) (hB : B = #[false, true, true, true, true, true, true, false, false]) :
    wpAny Try.prog .any opsN Q 3 B { tmps := #[z0, z1, .pointer (some ⟨h, 0, none⟩), .pointer (some ⟨h + 1, 0, none⟩), z4, z5, z6, u, z8, .int .i64 ((p : Int) + 1), z10, z11, z12, z13, z14, z15, z16, z17, z18, z19, z20, z21, z22, z23, z24, z25, z26, z27, z28, z29, z30, .agg (gameC f b), .agg (posC t m s), .int .i64 ((p : Int) + 1), .agg (posC t m s2), .int .i64 x, .slice (some ⟨V.heap.size, 0, none⟩) 1 1, z37, z38, z39, z40, z41, z42, z43, z44, z45, z46, z47, z48], defers := ds } (V.alloc (.cells #[.int .i64 x] 3)) := by
  subst hB
  refine wpAny_ready (rs := [0]) (by kernel_rfl) (by simp) ?_
  refine AllReady.cons rfl (fun K hK => ?_) ?_
  · delta opsN
    go_simp
    refine hK _ _ ?_
    exact numR_0123456 t m k W0 h b s s2 p N N2 f u ma ys L x ds z0 z1 z4 z5 z6 z8 z10 z11 z12 z13 z14 z15 z16 z17 z18 z19 z20 z21 z22 z23 z24 z25 z26 z27 z28 z29 z30 z31 z32 z33 z34 z35 z36 z37 z38 z39 z40 z41 z42 z43 z44 z45 z46 z47 z48 Q X V I _ (by kernel_rfl)
  exact AllReady.nil
theorem numR_12345 (t : Nat → Bool) (m : Nat) (k : Bool) (W0 : World) (h b s s2 p N N2 : Nat) (f u : Value) (ma : Option Addr) (ys L : List Int) (x : Int) (ds : List Deferred) (z0 z1 z4 z5 z6 z8 z10 z11 z12 z13 z14 z15 z16 z17 z18 z19 z20 z21 z22 z23 z24 z25 z26 z27 z28 z29 z30 z31 z32 z33 z34 z35 z36 z37 z38 z39 z40 z41 z42 z43 z44 z45 z46 z47 z48 : Value) (Q : Exit → Act → World → Prop) (X : CtxN t m k W0 h b s s2 p N N2 f u ma ys L x ds z0 z1 z4 z5 z6 z8 z10 z11 z12 z13 z14 z15 z16 z17 z18 z19 z20 z21 z22 z23 z24 z25 z26 z27 z28 z29 z30 z31 z32 z33 z34 z35 z36 z37 z38 z39 z40 z41 z42 z43 z44 z45 z46 z47 z48 Q) (V : World) (I : Hid (NIn t m k W0 b ma ys u L N2 V)) (B : Array Bool) (hB : B = #[false, true, true, true, true, true, false, false, false]) :
    wpAny Try.prog .any opsN Q 4 B { tmps := #[z0, z1, .pointer (some ⟨h, 0, none⟩), .pointer (some ⟨h + 1, 0, none⟩), z4, z5, z6, u, z8, .int .i64 ((p : Int) + 1), z10, z11, z12, z13, z14, z15, z16, z17, z18, z19, z20, z21, z22, z23, z24, z25, z26, z27, z28, z29, z30, .agg (gameC f b), .agg (posC t m s), .int .i64 ((p : Int) + 1), .agg (posC t m s2), .int .i64 x, z36, z37, z38, z39, z40, z41, z42, z43, z44, z45, z46, z47, z48], defers := ds } V := by
  subst hB
  refine wpAny_ready (rs := [0, 6]) (by kernel_rfl) (by simp) ?_
  refine AllReady.cons rfl (fun K hK => ?_) ?_
  · delta opsN
    go_simp
    refine hK _ _ ?_
    exact numR_012345 t m k W0 h b s s2 p N N2 f u ma ys L x ds z0 z1 z4 z5 z6 z8 z10 z11 z12 z13 z14 z15 z16 z17 z18 z19 z20 z21 z22 z23 z24 z25 z26 z27 z28 z29 z30 z31 z32 z33 z34 z35 z36 z37 z38 z39 z40 z41 z42 z43 z44 z45 z46 z47 z48 Q X V I _ (by kernel_rfl)
  refine AllReady.cons rfl (fun K hK => ?_) ?_
  · delta opsN
    go_simp
    refine hK _ _ ?_
    exact numR_123456 t m k W0 h b s s2 p N N2 f u ma ys L x ds z0 z1 z4 z5 z6 z8 z10 z11 z12 z13 z14 z15 z16 z17 z18 z19 z20 z21 z22 z23 z24 z25 z26 z27 z28 z29 z30 z31 z32 z33 z34 z35 z36 z37 z38 z39 z40 z41 z42 z43 z44 z45 z46 z47 z48 Q X V I _ (by kernel_rfl)
  exact AllReady.nil
theorem numR_1234 (t : Nat → Bool) (m : Nat) (k : Bool) (W0 : World) (h b s s2 p N N2 : Nat) (f u : Value) (ma : Option Addr) (ys L : List Int) (x : Int) (ds : List Deferred) (z0 z1 z4 z5 z6 z8 z10 z11 z12 z13 z14 z15 z16 z17 z18 z19 z20 z21 z22 z23 z24 z25 z26 z27 z28 z29 z30 z31 z32 z33 z34 z35 z36 z37 z38 z39 z40 z41 z42 z43 z44 z45 z46 z47 z48 : Value) (Q : Exit → Act → World → Prop) (X : CtxN t m k W0 h b s s2 p N N2 f u ma ys L x ds z0 z1 z4 z5 z6 z8 z10 z11 z12 z13 z14 z15 z16 z17 z18 z19 z20 z21 z22 z23 z24 z25 z26 z27 z28 z29 z30 z31 z32 z33 z34 z35 z36 z37 z38 z39 z40 z41 z42 z43 z44 z45 z46 z47 z48 Q) (V : World) (I : Hid (NIn t m k W0 b ma ys u L N V)) (B : Array Bool) (hB : B = #[false, true, true, true, true, false, false, false, false]) :
    wpAny Try.prog .any opsN Q 5 B { tmps := #[z0, z1, .pointer (some ⟨h, 0, none⟩), .pointer (some ⟨h + 1, 0, none⟩), z4, z5, z6, u, z8, .int .i64 ((p : Int) + 1), z10, z11, z12, z13, z14, z15, z16, z17, z18, z19, z20, z21, z22, z23, z24, z25, z26, z27, z28, z29, z30, .agg (gameC f b), .agg (posC t m s), .int .i64 ((p : Int) + 1), .agg (posC t m s2), z35, z36, z37, z38, z39, z40, z41, z42, z43, z44, z45, z46, z47, z48], defers := ds } V := by
  subst hB
  refine wpAny_ready (rs := [0, 5]) (by kernel_rfl) (by simp) ?_
  refine AllReady.cons rfl (fun K hK => ?_) ?_
  · delta opsN
    go_simp
    refine hK _ _ ?_
    exact numR_01234 t m k W0 h b s s2 p N N2 f u ma ys L x ds z0 z1 z4 z5 z6 z8 z10 z11 z12 z13 z14 z15 z16 z17 z18 z19 z20 z21 z22 z23 z24 z25 z26 z27 z28 z29 z30 z31 z32 z33 z34 z35 z36 z37 z38 z39 z40 z41 z42 z43 z44 z45 z46 z47 z48 Q X V I _ (by kernel_rfl)
  refine AllReady.cons rfl (fun K hK => ?_) ?_
  · delta opsN
    go_simp
    refine (X.num _ I.out.gm).mono ?_
    rintro e V2 ⟨rfl, hg, hm⟩
    try go_simp
    refine hK _ _ ?_
    exact numR_12345 t m k W0 h b s s2 p N N2 f u ma ys L x ds z0 z1 z4 z5 z6 z8 z10 z11 z12 z13 z14 z15 z16 z17 z18 z19 z20 z21 z22 z23 z24 z25 z26 z27 z28 z29 z30 z31 z32 z33 z34 z35 z36 z37 z38 z39 z40 z41 z42 z43 z44 z45 z46 z47 z48 Q X V2 (Lib.hid (I.out.asked hg hm)) _ (by kernel_rfl)
  exact AllReady.nil
theorem numR_123 (t : Nat → Bool) (m : Nat) (k : Bool) (W0 : World) (h b s s2 p N N2 : Nat) (f u : Value) (ma : Option Addr) (ys L : List Int) (x : Int) (ds : List Deferred) (z0 z1 z4 z5 z6 z8 z10 z11 z12 z13 z14 z15 z16 z17 z18 z19 z20 z21 z22 z23 z24 z25 z26 z27 z28 z29 z30 z31 z32 z33 z34 z35 z36 z37 z38 z39 z40 z41 z42 z43 z44 z45 z46 z47 z48 : Value) (Q : Exit → Act → World → Prop) (X : CtxN t m k W0 h b s s2 p N N2 f u ma ys L x ds z0 z1 z4 z5 z6 z8 z10 z11 z12 z13 z14 z15 z16 z17 z18 z19 z20 z21 z22 z23 z24 z25 z26 z27 z28 z29 z30 z31 z32 z33 z34 z35 z36 z37 z38 z39 z40 z41 z42 z43 z44 z45 z46 z47 z48 Q) (V : World) (I : Hid (NIn t m k W0 b ma ys u L N V)) (B : Array Bool) (hB : B = #[false, true, true, true, false, false, false, false, false]) :
    wpAny Try.prog .any opsN Q 6 B { tmps := #[z0, z1, .pointer (some ⟨h, 0, none⟩), .pointer (some ⟨h + 1, 0, none⟩), z4, z5, z6, u, z8, .int .i64 ((p : Int) + 1), z10, z11, z12, z13, z14, z15, z16, z17, z18, z19, z20, z21, z22, z23, z24, z25, z26, z27, z28, z29, z30, .agg (gameC f b), .agg (posC t m s), .int .i64 ((p : Int) + 1), z34, z35, z36, z37, z38, z39, z40, z41, z42, z43, z44, z45, z46, z47, z48], defers := ds } V := by
  subst hB
  refine wpAny_ready (rs := [0, 4]) (by kernel_rfl) (by simp) ?_
  refine AllReady.cons rfl (fun K hK => ?_) ?_
  · delta opsN
    go_simp
    refine hK _ _ ?_
    exact numR_0123 t m k W0 h b s s2 p N N2 f u ma ys L x ds z0 z1 z4 z5 z6 z8 z10 z11 z12 z13 z14 z15 z16 z17 z18 z19 z20 z21 z22 z23 z24 z25 z26 z27 z28 z29 z30 z31 z32 z33 z34 z35 z36 z37 z38 z39 z40 z41 z42 z43 z44 z45 z46 z47 z48 Q X V I _ (by kernel_rfl)
  refine AllReady.cons rfl (fun K hK => ?_) ?_
  · delta opsN
    go_simp
    refine (X.beh _).mono ?_
    rintro e V2 ⟨rfl, hb⟩
    try go_simp
    refine hK _ _ ?_
    exact numR_1234 t m k W0 h b s s2 p N N2 f u ma ys L x ds z0 z1 z4 z5 z6 z8 z10 z11 z12 z13 z14 z15 z16 z17 z18 z19 z20 z21 z22 z23 z24 z25 z26 z27 z28 z29 z30 z31 z32 z33 z34 z35 z36 z37 z38 z39 z40 z41 z42 z43 z44 z45 z46 z47 z48 Q X V2 (Lib.hid (I.out.later hb)) _ (by kernel_rfl)
  exact AllReady.nil
theorem numR_12 (t : Nat → Bool) (m : Nat) (k : Bool) (W0 : World) (h b s s2 p N N2 : Nat) (f u : Value) (ma : Option Addr) (ys L : List Int) (x : Int) (ds : List Deferred) (z0 z1 z4 z5 z6 z8 z10 z11 z12 z13 z14 z15 z16 z17 z18 z19 z20 z21 z22 z23 z24 z25 z26 z27 z28 z29 z30 z31 z32 z33 z34 z35 z36 z37 z38 z39 z40 z41 z42 z43 z44 z45 z46 z47 z48 : Value) (Q : Exit → Act → World → Prop) (X : CtxN t m k W0 h b s s2 p N N2 f u ma ys L x ds z0 z1 z4 z5 z6 z8 z10 z11 z12 z13 z14 z15 z16 z17 z18 z19 z20 z21 z22 z23 z24 z25 z26 z27 z28 z29 z30 z31 z32 z33 z34 z35 z36 z37 z38 z39 z40 z41 z42 z43 z44 z45 z46 z47 z48 Q) (V : World) (I : Hid (NIn t m k W0 b ma ys u L N V)) (B : Array Bool) (hB : B = #[false, true, true, false, false, false, false, false, false]) :
    wpAny Try.prog .any opsN Q 7 B { tmps := #[z0, z1, .pointer (some ⟨h, 0, none⟩), .pointer (some ⟨h + 1, 0, none⟩), z4, z5, z6, u, z8, .int .i64 ((p : Int) + 1), z10, z11, z12, z13, z14, z15, z16, z17, z18, z19, z20, z21, z22, z23, z24, z25, z26, z27, z28, z29, z30, .agg (gameC f b), .agg (posC t m s), z33, z34, z35, z36, z37, z38, z39, z40, z41, z42, z43, z44, z45, z46, z47, z48], defers := ds } V := by
  subst hB
  refine wpAny_ready (rs := [0, 3]) (by kernel_rfl) (by simp) ?_
  refine AllReady.cons rfl (fun K hK => ?_) ?_
  · delta opsN
    go_simp
    refine hK _ _ ?_
    exact numR_012 t m k W0 h b s s2 p N N2 f u ma ys L x ds z0 z1 z4 z5 z6 z8 z10 z11 z12 z13 z14 z15 z16 z17 z18 z19 z20 z21 z22 z23 z24 z25 z26 z27 z28 z29 z30 z31 z32 z33 z34 z35 z36 z37 z38 z39 z40 z41 z42 z43 z44 z45 z46 z47 z48 Q X V I _ (by kernel_rfl)
  refine AllReady.cons rfl (fun K hK => ?_) ?_
  · delta opsN
    go_simp
    refine hK _ _ ?_
    exact numR_123 t m k W0 h b s s2 p N N2 f u ma ys L x ds z0 z1 z4 z5 z6 z8 z10 z11 z12 z13 z14 z15 z16 z17 z18 z19 z20 z21 z22 z23 z24 z25 z26 z27 z28 z29 z30 z31 z32 z33 z34 z35 z36 z37 z38 z39 z40 z41 z42 z43 z44 z45 z46 z47 z48 Q X V I _ (by kernel_rfl)
  exact AllReady.nil
theorem numR_13 (t : Nat → Bool) (m : Nat) (k : Bool) (W0 : World) (h b s s2 p N N2 : Nat) (f u : Value) (ma : Option Addr) (ys L : List Int) (x : Int) (ds : List Deferred) (z0 z1 z4 z5 z6 z8 z10 z11 z12 z13 z14 z15 z16 z17 z18 z19 z20 z21 z22 z23 z24 z25 z26 z27 z28 z29 z30 z31 z32 z33 z34 z35 z36 z37 z38 z39 z40 z41 z42 z43 z44 z45 z46 z47 z48 : Value) (Q : Exit → Act → World → Prop) (X : CtxN t m k W0 h b s s2 p N N2 f u ma ys L x ds z0 z1 z4 z5 z6 z8 z10 z11 z12 z13 z14 z15 z16 z17 z18 z19 z20 z21 z22 z23 z24 z25 z26 z27 z28 z29 z30 z31 z32 z33 z34 z35 z36 z37 z38 z39 z40 z41 z42 z43 z44 z45 z46 z47 z48 Q) (V : World) (I : Hid (NIn t m k W0 b ma ys u L N V)) (B : Array Bool) (hB : B = #[false, true, false, true, false, false, false, false, false]) :
    wpAny Try.prog .any opsN Q 7 B { tmps := #[z0, z1, .pointer (some ⟨h, 0, none⟩), .pointer (some ⟨h + 1, 0, none⟩), z4, z5, z6, u, z8, .int .i64 ((p : Int) + 1), z10, z11, z12, z13, z14, z15, z16, z17, z18, z19, z20, z21, z22, z23, z24, z25, z26, z27, z28, z29, z30, .agg (gameC f b), z32, .int .i64 ((p : Int) + 1), z34, z35, z36, z37, z38, z39, z40, z41, z42, z43, z44, z45, z46, z47, z48], defers := ds } V := by
  subst hB
  refine wpAny_ready (rs := [0, 2]) (by kernel_rfl) (by simp) ?_
  refine AllReady.cons rfl (fun K hK => ?_) ?_
  · delta opsN
    go_simp
    refine hK _ _ ?_
    exact numR_013 t m k W0 h b s s2 p N N2 f u ma ys L x ds z0 z1 z4 z5 z6 z8 z10 z11 z12 z13 z14 z15 z16 z17 z18 z19 z20 z21 z22 z23 z24 z25 z26 z27 z28 z29 z30 z31 z32 z33 z34 z35 z36 z37 z38 z39 z40 z41 z42 z43 z44 z45 z46 z47 z48 Q X V I _ (by kernel_rfl)
  refine AllReady.cons rfl (fun K hK => ?_) ?_
  · refine wstep_load rfl 52 _ rfl (h + 1) rfl (posC t m s) (X.pl _ I.out.gr) (hK _ _ ?_)
    exact numR_123 t m k W0 h b s s2 p N N2 f u ma ys L x ds z0 z1 z4 z5 z6 z8 z10 z11 z12 z13 z14 z15 z16 z17 z18 z19 z20 z21 z22 z23 z24 z25 z26 z27 z28 z29 z30 z31 z32 z33 z34 z35 z36 z37 z38 z39 z40 z41 z42 z43 z44 z45 z46 z47 z48 Q X V I _ (by kernel_rfl)
  exact AllReady.nil
theorem numR_1 (t : Nat → Bool) (m : Nat) (k : Bool) (W0 : World) (h b s s2 p N N2 : Nat) (f u : Value) (ma : Option Addr) (ys L : List Int) (x : Int) (ds : List Deferred) (z0 z1 z4 z5 z6 z8 z10 z11 z12 z13 z14 z15 z16 z17 z18 z19 z20 z21 z22 z23 z24 z25 z26 z27 z28 z29 z30 z31 z32 z33 z34 z35 z36 z37 z38 z39 z40 z41 z42 z43 z44 z45 z46 z47 z48 : Value) (Q : Exit → Act → World → Prop) (X : CtxN t m k W0 h b s s2 p N N2 f u ma ys L x ds z0 z1 z4 z5 z6 z8 z10 z11 z12 z13 z14 z15 z16 z17 z18 z19 z20 z21 z22 z23 z24 z25 z26 z27 z28 z29 z30 z31 z32 z33 z34 z35 z36 z37 z38 z39 z40 z41 z42 z43 z44 z45 z46 z47 z48 Q) (V : World) (I : Hid (NIn t m k W0 b ma ys u L N V)) (B : Array Bool) (hB : B = #[false, true, false, false, false, false, false, false, false]) :
    wpAny Try.prog .any opsN Q 8 B { tmps := #[z0, z1, .pointer (some ⟨h, 0, none⟩), .pointer (some ⟨h + 1, 0, none⟩), z4, z5, z6, u, z8, .int .i64 ((p : Int) + 1), z10, z11, z12, z13, z14, z15, z16, z17, z18, z19, z20, z21, z22, z23, z24, z25, z26, z27, z28, z29, z30, .agg (gameC f b), z32, z33, z34, z35, z36, z37, z38, z39, z40, z41, z42, z43, z44, z45, z46, z47, z48], defers := ds } V := by
  subst hB
  refine wpAny_ready (rs := [0, 2, 3]) (by kernel_rfl) (by simp) ?_
  refine AllReady.cons rfl (fun K hK => ?_) ?_
  · delta opsN
    go_simp
    refine hK _ _ ?_
    exact numR_01 t m k W0 h b s s2 p N N2 f u ma ys L x ds z0 z1 z4 z5 z6 z8 z10 z11 z12 z13 z14 z15 z16 z17 z18 z19 z20 z21 z22 z23 z24 z25 z26 z27 z28 z29 z30 z31 z32 z33 z34 z35 z36 z37 z38 z39 z40 z41 z42 z43 z44 z45 z46 z47 z48 Q X V I _ (by kernel_rfl)
  refine AllReady.cons rfl (fun K hK => ?_) ?_
  · refine wstep_load rfl 52 _ rfl (h + 1) rfl (posC t m s) (X.pl _ I.out.gr) (hK _ _ ?_)
    exact numR_12 t m k W0 h b s s2 p N N2 f u ma ys L x ds z0 z1 z4 z5 z6 z8 z10 z11 z12 z13 z14 z15 z16 z17 z18 z19 z20 z21 z22 z23 z24 z25 z26 z27 z28 z29 z30 z31 z32 z33 z34 z35 z36 z37 z38 z39 z40 z41 z42 z43 z44 z45 z46 z47 z48 Q X V I _ (by kernel_rfl)
  refine AllReady.cons rfl (fun K hK => ?_) ?_
  · delta opsN
    go_simp
    refine hK _ _ ?_
    exact numR_13 t m k W0 h b s s2 p N N2 f u ma ys L x ds z0 z1 z4 z5 z6 z8 z10 z11 z12 z13 z14 z15 z16 z17 z18 z19 z20 z21 z22 z23 z24 z25 z26 z27 z28 z29 z30 z31 z32 z33 z34 z35 z36 z37 z38 z39 z40 z41 z42 z43 z44 z45 z46 z47 z48 Q X V I _ (by kernel_rfl)
  exact AllReady.nil
theorem numR_234 (t : Nat → Bool) (m : Nat) (k : Bool) (W0 : World) (h b s s2 p N N2 : Nat) (f u : Value) (ma : Option Addr) (ys L : List Int) (x : Int) (ds : List Deferred) (z0 z1 z4 z5 z6 z8 z10 z11 z12 z13 z14 z15 z16 z17 z18 z19 z20 z21 z22 z23 z24 z25 z26 z27 z28 z29 z30 z31 z32 z33 z34 z35 z36 z37 z38 z39 z40 z41 z42 z43 z44 z45 z46 z47 z48 : Value) (Q : Exit → Act → World → Prop) (X : CtxN t m k W0 h b s s2 p N N2 f u ma ys L x ds z0 z1 z4 z5 z6 z8 z10 z11 z12 z13 z14 z15 z16 z17 z18 z19 z20 z21 z22 z23 z24 z25 z26 z27 z28 z29 z30 z31 z32 z33 z34 z35 z36 z37 z38 z39 z40 z41 z42 z43 z44 z45 z46 z47 z48 Q) (V : World) (I : Hid (NIn t m k W0 b ma ys u L N V)) (B : Array Bool) (hB : B = #[false, false, true, true, true, false, false, false, false]) :
    wpAny Try.prog .any opsN Q 6 B { tmps := #[z0, z1, .pointer (some ⟨h, 0, none⟩), .pointer (some ⟨h + 1, 0, none⟩), z4, z5, z6, u, z8, .int .i64 ((p : Int) + 1), z10, z11, z12, z13, z14, z15, z16, z17, z18, z19, z20, z21, z22, z23, z24, z25, z26, z27, z28, z29, z30, z31, .agg (posC t m s), .int .i64 ((p : Int) + 1), .agg (posC t m s2), z35, z36, z37, z38, z39, z40, z41, z42, z43, z44, z45, z46, z47, z48], defers := ds } V := by
  subst hB
  refine wpAny_ready (rs := [0, 1]) (by kernel_rfl) (by simp) ?_
  refine AllReady.cons rfl (fun K hK => ?_) ?_
  · delta opsN
    go_simp
    refine hK _ _ ?_
    exact numR_0234 t m k W0 h b s s2 p N N2 f u ma ys L x ds z0 z1 z4 z5 z6 z8 z10 z11 z12 z13 z14 z15 z16 z17 z18 z19 z20 z21 z22 z23 z24 z25 z26 z27 z28 z29 z30 z31 z32 z33 z34 z35 z36 z37 z38 z39 z40 z41 z42 z43 z44 z45 z46 z47 z48 Q X V I _ (by kernel_rfl)
  refine AllReady.cons rfl (fun K hK => ?_) ?_
  · refine wstep_load rfl 58 _ rfl h rfl (gameC f b) (X.gl _ I.out.gr) (hK _ _ ?_)
    exact numR_1234 t m k W0 h b s s2 p N N2 f u ma ys L x ds z0 z1 z4 z5 z6 z8 z10 z11 z12 z13 z14 z15 z16 z17 z18 z19 z20 z21 z22 z23 z24 z25 z26 z27 z28 z29 z30 z31 z32 z33 z34 z35 z36 z37 z38 z39 z40 z41 z42 z43 z44 z45 z46 z47 z48 Q X V I _ (by kernel_rfl)
  exact AllReady.nil
theorem numR_23 (t : Nat → Bool) (m : Nat) (k : Bool) (W0 : World) (h b s s2 p N N2 : Nat) (f u : Value) (ma : Option Addr) (ys L : List Int) (x : Int) (ds : List Deferred) (z0 z1 z4 z5 z6 z8 z10 z11 z12 z13 z14 z15 z16 z17 z18 z19 z20 z21 z22 z23 z24 z25 z26 z27 z28 z29 z30 z31 z32 z33 z34 z35 z36 z37 z38 z39 z40 z41 z42 z43 z44 z45 z46 z47 z48 : Value) (Q : Exit → Act → World → Prop) (X : CtxN t m k W0 h b s s2 p N N2 f u ma ys L x ds z0 z1 z4 z5 z6 z8 z10 z11 z12 z13 z14 z15 z16 z17 z18 z19 z20 z21 z22 z23 z24 z25 z26 z27 z28 z29 z30 z31 z32 z33 z34 z35 z36 z37 z38 z39 z40 z41 z42 z43 z44 z45 z46 z47 z48 Q) (V : World) (I : Hid (NIn t m k W0 b ma ys u L N V)) (B : Array Bool) (hB : B = #[false, false, true, true, false, false, false, false, false]) :
    wpAny Try.prog .any opsN Q 7 B { tmps := #[z0, z1, .pointer (some ⟨h, 0, none⟩), .pointer (some ⟨h + 1, 0, none⟩), z4, z5, z6, u, z8, .int .i64 ((p : Int) + 1), z10, z11, z12, z13, z14, z15, z16, z17, z18, z19, z20, z21, z22, z23, z24, z25, z26, z27, z28, z29, z30, z31, .agg (posC t m s), .int .i64 ((p : Int) + 1), z34, z35, z36, z37, z38, z39, z40, z41, z42, z43, z44, z45, z46, z47, z48], defers := ds } V := by
  subst hB
  refine wpAny_ready (rs := [0, 1, 4]) (by kernel_rfl) (by simp) ?_
  refine AllReady.cons rfl (fun K hK => ?_) ?_
  · delta opsN
    go_simp
    refine hK _ _ ?_
    exact numR_023 t m k W0 h b s s2 p N N2 f u ma ys L x ds z0 z1 z4 z5 z6 z8 z10 z11 z12 z13 z14 z15 z16 z17 z18 z19 z20 z21 z22 z23 z24 z25 z26 z27 z28 z29 z30 z31 z32 z33 z34 z35 z36 z37 z38 z39 z40 z41 z42 z43 z44 z45 z46 z47 z48 Q X V I _ (by kernel_rfl)
  refine AllReady.cons rfl (fun K hK => ?_) ?_
  · refine wstep_load rfl 58 _ rfl h rfl (gameC f b) (X.gl _ I.out.gr) (hK _ _ ?_)
    exact numR_123 t m k W0 h b s s2 p N N2 f u ma ys L x ds z0 z1 z4 z5 z6 z8 z10 z11 z12 z13 z14 z15 z16 z17 z18 z19 z20 z21 z22 z23 z24 z25 z26 z27 z28 z29 z30 z31 z32 z33 z34 z35 z36 z37 z38 z39 z40 z41 z42 z43 z44 z45 z46 z47 z48 Q X V I _ (by kernel_rfl)
  refine AllReady.cons rfl (fun K hK => ?_) ?_
  · delta opsN
    go_simp
    refine (X.beh _).mono ?_
    rintro e V2 ⟨rfl, hb⟩
    try go_simp
    refine hK _ _ ?_
    exact numR_234 t m k W0 h b s s2 p N N2 f u ma ys L x ds z0 z1 z4 z5 z6 z8 z10 z11 z12 z13 z14 z15 z16 z17 z18 z19 z20 z21 z22 z23 z24 z25 z26 z27 z28 z29 z30 z31 z32 z33 z34 z35 z36 z37 z38 z39 z40 z41 z42 z43 z44 z45 z46 z47 z48 Q X V2 (Lib.hid (I.out.later hb)) _ (by kernel_rfl)
  exact AllReady.nil
theorem numR_2 (t : Nat → Bool) (m : Nat) (k : Bool) (W0 : World) (h b s s2 p N N2 : Nat) (f u : Value) (ma : Option Addr) (ys L : List Int) (x : Int) (ds : List Deferred) (z0 z1 z4 z5 z6 z8 z10 z11 z12 z13 z14 z15 z16 z17 z18 z19 z20 z21 z22 z23 z24 z25 z26 z27 z28 z29 z30 z31 z32 z33 z34 z35 z36 z37 z38 z39 z40 z41 z42 z43 z44 z45 z46 z47 z48 : Value) (Q : Exit → Act → World → Prop) (X : CtxN t m k W0 h b s s2 p N N2 f u ma ys L x ds z0 z1 z4 z5 z6 z8 z10 z11 z12 z13 z14 z15 z16 z17 z18 z19 z20 z21 z22 z23 z24 z25 z26 z27 z28 z29 z30 z31 z32 z33 z34 z35 z36 z37 z38 z39 z40 z41 z42 z43 z44 z45 z46 z47 z48 Q) (V : World) (I : Hid (NIn t m k W0 b ma ys u L N V)) (B : Array Bool) (hB : B = #[false, false, true, false, false, false, false, false, false]) :
    wpAny Try.prog .any opsN Q 8 B { tmps := #[z0, z1, .pointer (some ⟨h, 0, none⟩), .pointer (some ⟨h + 1, 0, none⟩), z4, z5, z6, u, z8, .int .i64 ((p : Int) + 1), z10, z11, z12, z13, z14, z15, z16, z17, z18, z19, z20, z21, z22, z23, z24, z25, z26, z27, z28, z29, z30, z31, .agg (posC t m s), z33, z34, z35, z36, z37, z38, z39, z40, z41, z42, z43, z44, z45, z46, z47, z48], defers := ds } V := by
  subst hB
  refine wpAny_ready (rs := [0, 1, 3]) (by kernel_rfl) (by simp) ?_
  refine AllReady.cons rfl (fun K hK => ?_) ?_
  · delta opsN
    go_simp
    refine hK _ _ ?_
    exact numR_02 t m k W0 h b s s2 p N N2 f u ma ys L x ds z0 z1 z4 z5 z6 z8 z10 z11 z12 z13 z14 z15 z16 z17 z18 z19 z20 z21 z22 z23 z24 z25 z26 z27 z28 z29 z30 z31 z32 z33 z34 z35 z36 z37 z38 z39 z40 z41 z42 z43 z44 z45 z46 z47 z48 Q X V I _ (by kernel_rfl)
  refine AllReady.cons rfl (fun K hK => ?_) ?_
  · refine wstep_load rfl 58 _ rfl h rfl (gameC f b) (X.gl _ I.out.gr) (hK _ _ ?_)
    exact numR_12 t m k W0 h b s s2 p N N2 f u ma ys L x ds z0 z1 z4 z5 z6 z8 z10 z11 z12 z13 z14 z15 z16 z17 z18 z19 z20 z21 z22 z23 z24 z25 z26 z27 z28 z29 z30 z31 z32 z33 z34 z35 z36 z37 z38 z39 z40 z41 z42 z43 z44 z45 z46 z47 z48 Q X V I _ (by kernel_rfl)
  refine AllReady.cons rfl (fun K hK => ?_) ?_
  · delta opsN
    go_simp
    refine hK _ _ ?_
    exact numR_23 t m k W0 h b s s2 p N N2 f u ma ys L x ds z0 z1 z4 z5 z6 z8 z10 z11 z12 z13 z14 z15 z16 z17 z18 z19 z20 z21 z22 z23 z24 z25 z26 z27 z28 z29 z30 z31 z32 z33 z34 z35 z36 z37 z38 z39 z40 z41 z42 z43 z44 z45 z46 z47 z48 Q X V I _ (by kernel_rfl)
  exact AllReady.nil
theorem numR_3 (t : Nat → Bool) (m : Nat) (k : Bool) (W0 : World) (h b s s2 p N N2 : Nat) (f u : Value) (ma : Option Addr) (ys L : List Int) (x : Int) (ds : List Deferred) (z0 z1 z4 z5 z6 z8 z10 z11 z12 z13 z14 z15 z16 z17 z18 z19 z20 z21 z22 z23 z24 z25 z26 z27 z28 z29 z30 z31 z32 z33 z34 z35 z36 z37 z38 z39 z40 z41 z42 z43 z44 z45 z46 z47 z48 : Value) (Q : Exit → Act → World → Prop) (X : CtxN t m k W0 h b s s2 p N N2 f u ma ys L x ds z0 z1 z4 z5 z6 z8 z10 z11 z12 z13 z14 z15 z16 z17 z18 z19 z20 z21 z22 z23 z24 z25 z26 z27 z28 z29 z30 z31 z32 z33 z34 z35 z36 z37 z38 z39 z40 z41 z42 z43 z44 z45 z46 z47 z48 Q) (V : World) (I : Hid (NIn t m k W0 b ma ys u L N V)) (B : Array Bool) (hB : B = #[false, false, false, true, false, false, false, false, false]) :
    wpAny Try.prog .any opsN Q 8 B { tmps := #[z0, z1, .pointer (some ⟨h, 0, none⟩), .pointer (some ⟨h + 1, 0, none⟩), z4, z5, z6, u, z8, .int .i64 ((p : Int) + 1), z10, z11, z12, z13, z14, z15, z16, z17, z18, z19, z20, z21, z22, z23, z24, z25, z26, z27, z28, z29, z30, z31, z32, .int .i64 ((p : Int) + 1), z34, z35, z36, z37, z38, z39, z40, z41, z42, z43, z44, z45, z46, z47, z48], defers := ds } V := by
  subst hB
  refine wpAny_ready (rs := [0, 1, 2]) (by kernel_rfl) (by simp) ?_
  refine AllReady.cons rfl (fun K hK => ?_) ?_
  · delta opsN
    go_simp
    refine hK _ _ ?_
    exact numR_03 t m k W0 h b s s2 p N N2 f u ma ys L x ds z0 z1 z4 z5 z6 z8 z10 z11 z12 z13 z14 z15 z16 z17 z18 z19 z20 z21 z22 z23 z24 z25 z26 z27 z28 z29 z30 z31 z32 z33 z34 z35 z36 z37 z38 z39 z40 z41 z42 z43 z44 z45 z46 z47 z48 Q X V I _ (by kernel_rfl)
  refine AllReady.cons rfl (fun K hK => ?_) ?_
  · refine wstep_load rfl 58 _ rfl h rfl (gameC f b) (X.gl _ I.out.gr) (hK _ _ ?_)
    exact numR_13 t m k W0 h b s s2 p N N2 f u ma ys L x ds z0 z1 z4 z5 z6 z8 z10 z11 z12 z13 z14 z15 z16 z17 z18 z19 z20 z21 z22 z23 z24 z25 z26 z27 z28 z29 z30 z31 z32 z33 z34 z35 z36 z37 z38 z39 z40 z41 z42 z43 z44 z45 z46 z47 z48 Q X V I _ (by kernel_rfl)
  refine AllReady.cons rfl (fun K hK => ?_) ?_
  · refine wstep_load rfl 52 _ rfl (h + 1) rfl (posC t m s) (X.pl _ I.out.gr) (hK _ _ ?_)
    exact numR_23 t m k W0 h b s s2 p N N2 f u ma ys L x ds z0 z1 z4 z5 z6 z8 z10 z11 z12 z13 z14 z15 z16 z17 z18 z19 z20 z21 z22 z23 z24 z25 z26 z27 z28 z29 z30 z31 z32 z33 z34 z35 z36 z37 z38 z39 z40 z41 z42 z43 z44 z45 z46 z47 z48 Q X V I _ (by kernel_rfl)
  exact AllReady.nil
theorem numR (t : Nat → Bool) (m : Nat) (k : Bool) (W0 : World) (h b s s2 p N N2 : Nat) (f u : Value) (ma : Option Addr) (ys L : List Int) (x : Int) (ds : List Deferred) (z0 z1 z4 z5 z6 z8 z10 z11 z12 z13 z14 z15 z16 z17 z18 z19 z20 z21 z22 z23 z24 z25 z26 z27 z28 z29 z30 z31 z32 z33 z34 z35 z36 z37 z38 z39 z40 z41 z42 z43 z44 z45 z46 z47 z48 : Value) (Q : Exit → Act → World → Prop) (X : CtxN t m k W0 h b s s2 p N N2 f u ma ys L x ds z0 z1 z4 z5 z6 z8 z10 z11 z12 z13 z14 z15 z16 z17 z18 z19 z20 z21 z22 z23 z24 z25 z26 z27 z28 z29 z30 z31 z32 z33 z34 z35 z36 z37 z38 z39 z40 z41 z42 z43 z44 z45 z46 z47 z48 Q) (V : World) (I : Hid (NIn t m k W0 b ma ys u L N V)) (B : Array Bool) (hB : B = #[false, false, false, false, false, false, false, false, false]) :
    wpAny Try.prog .any opsN Q 9 B { tmps := #[z0, z1, .pointer (some ⟨h, 0, none⟩), .pointer (some ⟨h + 1, 0, none⟩), z4, z5, z6, u, z8, .int .i64 ((p : Int) + 1), z10, z11, z12, z13, z14, z15, z16, z17, z18, z19, z20, z21, z22, z23, z24, z25, z26, z27, z28, z29, z30, z31, z32, z33, z34, z35, z36, z37, z38, z39, z40, z41, z42, z43, z44, z45, z46, z47, z48], defers := ds } V := by
  subst hB
  refine wpAny_ready (rs := [0, 1, 2, 3]) (by kernel_rfl) (by simp) ?_
  refine AllReady.cons rfl (fun K hK => ?_) ?_
  · delta opsN
    go_simp
    refine hK _ _ ?_
    exact numR_0 t m k W0 h b s s2 p N N2 f u ma ys L x ds z0 z1 z4 z5 z6 z8 z10 z11 z12 z13 z14 z15 z16 z17 z18 z19 z20 z21 z22 z23 z24 z25 z26 z27 z28 z29 z30 z31 z32 z33 z34 z35 z36 z37 z38 z39 z40 z41 z42 z43 z44 z45 z46 z47 z48 Q X V I _ (by kernel_rfl)
  refine AllReady.cons rfl (fun K hK => ?_) ?_
  · refine wstep_load rfl 58 _ rfl h rfl (gameC f b) (X.gl _ I.out.gr) (hK _ _ ?_)
    exact numR_1 t m k W0 h b s s2 p N N2 f u ma ys L x ds z0 z1 z4 z5 z6 z8 z10 z11 z12 z13 z14 z15 z16 z17 z18 z19 z20 z21 z22 z23 z24 z25 z26 z27 z28 z29 z30 z31 z32 z33 z34 z35 z36 z37 z38 z39 z40 z41 z42 z43 z44 z45 z46 z47 z48 Q X V I _ (by kernel_rfl)
  refine AllReady.cons rfl (fun K hK => ?_) ?_
  · refine wstep_load rfl 52 _ rfl (h + 1) rfl (posC t m s) (X.pl _ I.out.gr) (hK _ _ ?_)
    exact numR_2 t m k W0 h b s s2 p N N2 f u ma ys L x ds z0 z1 z4 z5 z6 z8 z10 z11 z12 z13 z14 z15 z16 z17 z18 z19 z20 z21 z22 z23 z24 z25 z26 z27 z28 z29 z30 z31 z32 z33 z34 z35 z36 z37 z38 z39 z40 z41 z42 z43 z44 z45 z46 z47 z48 Q X V I _ (by kernel_rfl)
  refine AllReady.cons rfl (fun K hK => ?_) ?_
  · delta opsN
    go_simp
    refine hK _ _ ?_
    exact numR_3 t m k W0 h b s s2 p N N2 f u ma ys L x ds z0 z1 z4 z5 z6 z8 z10 z11 z12 z13 z14 z15 z16 z17 z18 z19 z20 z21 z22 z23 z24 z25 z26 z27 z28 z29 z30 z31 z32 z33 z34 z35 z36 z37 z38 z39 z40 z41 z42 z43 z44 z45 z46 z47 z48 Q X V I _ (by kernel_rfl)
  exact AllReady.nil

end Go.Proofs.Ytecbfndgdmpacaa
