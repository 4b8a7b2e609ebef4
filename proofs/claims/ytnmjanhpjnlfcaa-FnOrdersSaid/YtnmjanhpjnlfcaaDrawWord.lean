/- Contracts: (*spec.l1Cur).letter draws a letter, word a list of at most 66 numbers in new memory, and each turns only the cursor. Condition: the cursor lies in a block of its own, its bytes elsewhere. -/
import Derived.Test.YtnmjanhpjnlfcaaCurW
import Derived.Test.YtnmjanhpjnlfcaaInvWalks
import Derived.Deep.Onto
namespace Go.Proofs.Ytnmjanhpjnlfcaa
open Go.ChangeShapes Go.WideShapes Go.ChangeAt Go.RowKit

set_option maxHeartbeats 800000 in
theorem letter_any (B len cap m : Nat) (a : Option Addr) (W : World) (h : Hid (Held W B a len cap m)) (hm : m ≤ 900000) :
    Calls Try.prog 38 #[.pointer (some ⟨B, 0, none⟩)] W fun e W' => ∃ x : Int, e = .returned (.int .i64 x) ∧ x ≠ 0 ∧ -6 ≤ x ∧ x ≤ 6 ∧ Held W' B a len cap (m + 6) ∧ W.grownBy W' (some B) := by
  go_enter Try.func38, Try.ntmps38
  go_wp2_with fail
  refine (pickInt B len cap m a [2, 3, 2, 6, 3] W _ h (by simp) (by omega) (by simp)).mono ?_
  rintro e W1 ⟨j, n, rfl, hn, hH, hg⟩
  have hmem : n ∈ [2, 3, 2, 6, 3] := List.mem_of_getElem? hn
  obtain ⟨u, rfl, hu⟩ : ∃ u : Nat, n = (u : Int) ∧ u ≤ 6 ∧ 2 ≤ u := ⟨n.toNat, by simp at hmem; omega, by simp at hmem; omega⟩
  have hHH := Lib.hid hH
  have hgg := Lib.hid hg
  clear hH hg hn hmem
  go_wp2_with fail
  refine (pick_any B len cap (m + 2) u a _ hHH (by omega) (by omega)).mono ?_
  rintro e W2 ⟨k, rfl, hk, hH, hg⟩
  have hk1 : k ≤ 5 := by omega
  have hHH2 := Lib.hid hH
  have hgg2 := Lib.hid (hgg.out.trans hg)
  clear hH hg hk
  go_wp2_with fail
  refine (one_any B len cap (m + 4) 2 a _ hHH2 (by omega) (by omega)).mono ?_
  rintro e W3 ⟨b, rfl, hH, hg⟩
  have hHH3 := Lib.hid hH
  have hgg3 := Lib.hid (hgg2.out.trans hg)
  clear hH hg
  cases b
  · go_wp2
    go_ret
    exact ⟨_, rfl, by omega, by omega, by omega, hHH3.out, hgg3.out⟩
  · go_wp2
    go_ret
    exact ⟨_, rfl, by omega, by omega, by omega, hHH3.out, hgg3.out⟩

/-- A list in making beside a cursor. -/
def Draw (L : List Int) (B : Nat) (a : Option Addr) (len cap m : Nat) (w : World) (v : Value) (wr : World) : Prop :=
  wr.ownsRow w.heap.size 3 1 v L.length (nums L) ∧ w.grownBy wr (some B) ∧ B < w.heap.size ∧ Held wr B a len cap m ∧ Bytes w B a len
section
variable {L : List Int} {B len cap m : Nat} {a : Option Addr} {w wr : World} {v : Value}
theorem draw_start (h : Held w B a len cap m) : Draw [] B a len cap m w (.slice (some ⟨w.heap.size, 0, none⟩) 0 0) (w.alloc (.cells #[] 3)) :=
  ⟨(coll_start w).1, World.grownBy_alloc w _ _, h.lt, h.alloc _, h.2⟩
theorem Draw.cur {m' : Nat} {w1 : World} (h : Draw L B a len cap m w v wr) (hH : Held w1 B a len cap m') (hg : wr.grownBy w1 (some B)) : Draw L B a len cap m' w v w1 := by
  obtain ⟨ho, hw, hB, _, hy⟩ := h
  refine ⟨ho.kept hg ?_, hw.trans hg, hB, hH, hy⟩
  cases hv : v.ownBlock with
  | none => exact .inl rfl
  | some g => exact .inr (fun e => by injection e with e; have := (ho.lt g hv).1; omega)
theorem Held.aside {w1 : World} {row : Option Nat} (h : Held wr B a len cap m) (hy : Bytes w B a len) (hg : w.grownBy w1 (some B)) (hB : B < w.heap.size) (hw : wr.grownBy w1 row) (hr : ∀ k, row = some k → w.heap.size ≤ k) : Held w1 B a len cap m := by
  obtain ⟨⟨p, sd, hp, hC⟩, hb⟩ := h
  refine ⟨⟨p, sd, hp, ?_, hC.2⟩, hy.kept hg⟩
  rw [hw.block B (Array.getElem?_eq_some_iff.1 hC.1).1 (fun e => by have := hr B e.symm; omega)]
  exact hC.1
theorem Draw.grown_over {w1 : World} {row : Option Nat} (hw0 : w.grownBy wr (some B)) (hg : wr.grownBy w1 row) (hr : ∀ k, row = some k → w.heap.size ≤ k) : w.grownBy w1 (some B) :=
  ⟨hg.os.trans hw0.os, hg.tape.trans hw0.tape, hg.output.trans hw0.output, Nat.le_trans hw0.size hg.size, fun j hj hne => by
    rw [hg.block j (Nat.lt_of_lt_of_le hj hw0.size) (fun e => by have := hr j e.symm; omega), hw0.block j hj hne]⟩
theorem Draw.more {ys : List Int} {n : Nat} {w1 : World} {v' : Value} (h : Draw L B a len cap m w v wr) (hm : ys.length = n)
    (hown : w1.ownsRow w.heap.size 3 1 v' (L.length + n) (nums (L ++ ys))) (hg : wr.grownBy w1 v.ownBlock) : Draw (L ++ ys) B a len cap m w v' w1 := by
  obtain ⟨ho, hw, hB, hH, hy⟩ := h
  subst hm
  have hr : ∀ k, v.ownBlock = some k → w.heap.size ≤ k := fun k e => (ho.lt k e).1
  have hw1 := Draw.grown_over hw hg hr
  exact ⟨by simpa using hown, hw1, hB, hH.aside hy hw1 hB hg hr, hy⟩
theorem Draw.alloc (h : Draw L B a len cap m w v wr) (o : Obj) : Draw L B a len cap m w v (wr.alloc o) := by
  obtain ⟨ho, hw, hB, hH, hy⟩ := h
  exact ⟨ho.alloc o, hw.trans (World.grownBy_alloc wr o _), hB, hH.alloc o, hy⟩
theorem Draw.push {x : Int} {w1 : World} {v' : Value} {o : Obj} (h : Draw L B a len cap m w v wr)
    (hown : w1.ownsRow w.heap.size 3 1 v' (L.length + 1) (nums L ++ [.int .i64 x])) (hg : (wr.alloc o).grownBy w1 v.ownBlock) : Draw (L ++ [x]) B a len cap m w v' w1 :=
  (h.alloc o).more (ys := [x]) (n := 1) rfl (by simpa [nums] using hown) hg
theorem Draw.later {w1 : World} (h : Draw L B a len cap m w v wr) (hb : Below wr.heap.size wr w1) : Draw L B a len cap m w v w1 := by
  obtain ⟨ho, hw, hB, hH, hy⟩ := h
  have hg : ∀ row, wr.grownBy w1 row := fun row => ⟨hb.os, hb.tape, hb.output, hb.size, fun j hj _ => hb.block j hj⟩
  exact ⟨ho.kept (row := none) (hg none) (by cases hv : v.ownBlock with | none => exact .inl rfl | some g => exact .inr (by simp)), hw.trans (hg _), hB, hH.kept hb, hy⟩
theorem Draw.other {L1 : List Int} {w0 w1 : World} {v1 : Value} {N : Nat} (h : Draw L B a len cap m w v wr) (hb : Below wr.heap.size wr w1) (hN : wr.heap.size ≤ N) (hc : Coll L1 N w0 v1 w1) : Draw L1 B a len cap m w v1 w1 := by
  have h' := h.later hb
  exact ⟨hc.1.mono (Nat.le_trans h.2.1.size hN), h'.2⟩
theorem Draw.res (h : Draw L B a len cap m w v wr) : Res w.heap.size wr v L := owns_ints h.1
theorem Draw.drewN (h : Draw L B a len cap m w v wr) (n : Nat) : Draw L B a len cap m w v (wr.drewN n) := ⟨h.1, h.2.1.trans ⟨rfl, rfl, rfl, Nat.le_refl _, fun _ _ _ => rfl⟩, h.2.2.1, h.2.2.2.1, h.2.2.2.2⟩
end
theorem In64.app {L : List Int} {x : Int} (h : In64 L) (h0 : -9223372036854775808 ≤ x) (h1 : x ≤ 9223372036854775807) : In64 (L ++ [x]) := by
  intro j y hy
  rcases List.mem_append.1 (List.mem_of_getElem? hy) with hm | hm
  · obtain ⟨i, hi⟩ := List.getElem?_of_mem hm
    exact h i y hi
  · simp at hm; subst hm; exact ⟨h0, h1⟩
theorem letters_in64 {L : List Int} (h : Plain.Letters L) : In64 L := fun j x hx => by have := h.at hx; omega
theorem Plain.Letters.push {L : List Int} {x : Int} (h : Plain.Letters L) (h0 : x ≠ 0) (h1 : -6 ≤ x) (h2 : x ≤ 6) : Plain.Letters (L ++ [x]) := h.append fun y hy => by simp at hy; subst hy; exact ⟨h0, h1, h2⟩
def roomOf (v : Value) : Nat := match v with | .slice _ n _ => 66 - n | _ => 0

/-- Behind a drawing of a word. -/
def WordPost (B : Nat) (a : Option Addr) (len cap m : Nat) (w : World) (e : Ending) (w' : World) : Prop :=
  ∃ v xs, e = .returned v ∧ In64 xs ∧ xs.length ≤ 66 ∧ Res w.heap.size w' v xs ∧ Held w' B a len cap (m + 2000) ∧ w.grownBy w' (some B)
theorem Draw.post {L : List Int} {B len cap m m' : Nat} {a : Option Addr} {w wr : World} {v : Value} (h : Draw L B a len cap m' w v wr) (h64 : In64 L) (hl : L.length ≤ 66) (hm : m' ≤ m + 2000) : WordPost B a len cap m w (.returned v) wr :=
  ⟨v, L, rfl, h64, hl, h.res, h.2.2.2.1.more hm, h.2.1⟩

set_option maxRecDepth 100000 in
set_option maxHeartbeats 2000000 in
theorem word_any (B len cap m : Nat) (a : Option Addr) (w : World) (h : Hid (Held w B a len cap m)) (hm : m ≤ 800000) :
    Calls Try.prog 54 #[.pointer (some ⟨B, 0, none⟩)] w (WordPost B a len cap m w) := by
  obtain ⟨i0, hi0, hz0, hz1, hz2⟩ := info_parts infoInt
  go_enter Try.func54, Try.ntmps54
  have D0 := Lib.hid (draw_start h.out)
  go_wp2_with fail
  refine (one_any B len cap _ 4 a _ (Lib.hid D0.out.2.2.2.1) (by omega) (by omega)).mono ?_
  rintro e W' ⟨mir, rfl, hH, hg⟩
  have D1 := Lib.hid (D0.out.cur hH hg)
  clear hH hg
  clear D0
  go_wp2_with fail
  refine (pickInt B len cap _ a [4, 6, 2, 8, 1, 0, 12, 3, 20] _ _ (Lib.hid D1.out.2.2.2.1) (by simp) (by omega) (by simp)).mono ?_
  rintro e W' ⟨j, n, rfl, hn, hH, hg⟩
  have hmem : n ∈ [4, 6, 2, 8, 1, 0, 12, 3, 20] := List.mem_of_getElem? hn
  obtain ⟨n0, rfl, hn0⟩ : ∃ u : Nat, n = (u : Int) ∧ u ≤ 20 := ⟨n.toNat, by simp at hmem; omega, by simp at hmem; omega⟩
  have D2 := Lib.hid (D1.out.cur hH hg)
  clear hH hg hn hmem D1
  go_wp2
  go_loopw [3, 5] (fun v i wr => ∃ (n : Nat) (L : List Int) (m' : Nat), n ≤ 20 ∧ i = .int .i64 n ∧ Plain.Letters L ∧ L.length + 2 * n ≤ 40 ∧ m' + 8 * n ≤ m + 180 ∧ Draw L B a len cap m' w v wr) (fun _ i _ => (intOf i).toNat)
  case atStart => exact ⟨n0, [], _, hn0, rfl, Plain.Letters.nil, by simp; omega, by omega, D2.out⟩
  case round =>
    obtain ⟨n, L, m', hn, rfl, hLl, hlen, hmm, hrel⟩ := hrel
    have HL := Lib.hid hLl
    clear hLl
    have DA := Lib.hid hrel
    clear D2
    by_cases hpos : 0 < n
    · have hpos' : (0 : Int) < (n : Int) := by omega
      clear hrel
      go_wp2_with fail
      refine (letter_any B len cap _ a _ (Lib.hid DA.out.2.2.2.1) (by omega)).mono ?_
      rintro e W' ⟨x, rfl, hx0, hx1, hx2, hH, hg⟩
      have DB := Lib.hid (DA.out.cur hH hg)
      clear hH hg
      clear DA
      go_wp2_with (at_builtin; refine wpList_append_own _ rfl _ _ 24 rfl w.heap.size 3 i0 (.int .i64 0) 1 8 Try.underlying24 hi0 hz0 hz1 hz2 rfl (by decide) _ _ _ rfl (DB.out.1.alloc _) ⟨_, 0, none⟩ 1 1 [.int .i64 (x)] rfl rfl ?c1 ?c2 ?c3 ?c4 ?c5 ?_)
      case c1 => exact cell_one_new _ _ _
      case c2 => simp [Value.oneCell']
      case c3 => unfold maxLen; omega
      case c4 => omega
      case c5 => exact Nat.le_trans DB.out.2.1.size (by simp)
      intro v' w1 hown' hgrow _
      have DC := Lib.hid (DB.out.push (x := x) hown' hgrow)
      clear hown' hgrow
      clear DB
      have HL1 := Lib.hid (HL.out.push hx0 hx1 hx2)
      go_wp2_with fail
      refine (one_any B len cap _ 6 a _ (Lib.hid DC.out.2.2.2.1) (by omega) (by omega)).mono ?_
      rintro e W' ⟨six, rfl, hH, hg⟩
      have DD := Lib.hid (DC.out.cur hH hg)
      clear hH hg
      clear DC
      cases six
      · go_wp2
        go_roundw
        case rel => exact ⟨n - 1, _, _, by omega, by go_num, HL1.out, by simp; omega, by omega, DD.out⟩
        case measure => simp [intOf]; omega
      · obtain ⟨L2, hL2⟩ : ∃ L2, L2 = L ++ [x] := ⟨_, rfl⟩
        have hlx : L2[L.length]? = some x := by rw [hL2]; simp
        have hll : L2.length = L.length + 1 := by rw [hL2]; simp
        rw [← hL2] at DD HL1
        clear hL2
        obtain ⟨av, cv, rfl, hI, hO, hcp⟩ := DD.out.res
        obtain ⟨b, o, rfl, hc⟩ := hI L.length x hlx
        clear hI hO hcp hlx
        rw [hll] at DD
        have hj0 : (0 : Int) ≤ (L.length : Int) := by omega
        have hj1 : (L.length : Int) < (L.length : Int) + 1 := by omega
        go_wp2_with (at_builtin; refine wpList_append_own _ rfl _ _ 24 rfl w.heap.size 3 i0 (.int .i64 0) 1 8 Try.underlying24 hi0 hz0 hz1 hz2 rfl (by decide) _ _ _ rfl (DD.out.1.alloc _) ⟨_, 0, none⟩ 1 1 [.int .i64 (-x)] rfl rfl ?d1 ?d2 ?d3 ?d4 ?d5 ?_)
        case d1 => exact cell_one_new _ _ _
        case d2 => simp [Value.oneCell']
        case d3 => unfold maxLen; omega
        case d4 => omega
        case d5 => exact Nat.le_trans DD.out.2.1.size (by simp)
        intro v' w1 hown' hgrow _
        have DE := Lib.hid (DD.out.push (x := -x) (by rw [hll]; exact hown') hgrow)
        clear hown' hgrow
        have HL2 := Lib.hid (HL1.out.push (x := -x) (by omega) (by omega) (by omega))
        go_wp2
        go_roundw
        case rel => exact ⟨n - 1, _, _, by omega, by go_num, HL2.out, by simp; omega, by omega, DE.out⟩
        case measure => simp [intOf]; omega
    · obtain rfl : n = 0 := by omega
      obtain ⟨av, cv, rfl, hI, hO, hcp⟩ := hrel.res
      have HC := Lib.hid hcp
      clear hrel hI hO hcp
      cases mir
      · have H64 := Lib.hid (letters_in64 HL.out)
        go_wp2_with fail
        refine (pick_any B len cap _ 60 a _ (Lib.hid DA.out.2.2.2.1) (by omega) (by omega)).mono ?_
        rintro e W' ⟨p, rfl, hp, hH, hg⟩
        have DT := Lib.hid (DA.out.cur hH hg)
        clear hH hg
        clear DA hp
        by_cases hp0 : p = 0
        · subst hp0
          go_wp2_with fail
          refine (pickInt B len cap _ a [0, 7, -7, 4611686018427387904] _ _ (Lib.hid DT.out.2.2.2.1) (by simp) (by omega) (by simp)).mono ?_
          rintro e W' ⟨j, x, rfl, hx, hH, hg⟩
          have hmem : x ∈ [0, 7, -7, 4611686018427387904] := List.mem_of_getElem? hx
          have hxr : -7 ≤ x ∧ x ≤ 4611686018427387904 := by simp at hmem; omega
          have DU := Lib.hid (DT.out.cur hH hg)
          clear hH hg hx hmem DT
          go_wp2_with (at_builtin; refine wpList_append_own _ rfl _ _ 24 rfl w.heap.size 3 i0 (.int .i64 0) 1 8 Try.underlying24 hi0 hz0 hz1 hz2 rfl (by decide) _ _ _ rfl (DU.out.1.alloc _) ⟨_, 0, none⟩ 1 1 [.int .i64 (x)] rfl rfl ?t1 ?t2 ?t3 ?t4 ?t5 ?_)
          case t1 => exact cell_one_new _ _ _
          case t2 => simp [Value.oneCell']
          case t3 => unfold maxLen; omega
          case t4 => omega
          case t5 => exact Nat.le_trans DU.out.2.1.size (by simp)
          intro v' w1 hown' hgrow _
          have DV := Lib.hid (DU.out.push (x := x) hown' hgrow)
          clear hown' hgrow
          clear DU
          go_wp2
          go_ret
          exact DV.out.post (H64.out.app (by omega) (by omega)) (by simp; omega) (by omega)
        · by_cases hp1 : p = 1
          · subst hp1
            have HL64 := H64
            go_wp2
            go_loopw [3] (fun v wr => ∃ L m', In64 L ∧ L.length ≤ 66 ∧ m' + 8 * (66 - L.length) ≤ m + 1900 ∧ Draw L B a len cap m' w v wr) (fun v _ => roomOf v)
            case atStart => exact ⟨_, _, HL64.out, by omega, by omega, DT.out⟩
            case round =>
              obtain ⟨L, m', h64', hlen, hmm, hrel⟩ := hrel
              obtain ⟨av, cv, rfl, hI, hO, hcp⟩ := hrel.res
              have DA := Lib.hid hrel
              have H64 := Lib.hid h64'
              clear hrel hI hO hcp h64'
              go_wp2_with fail
              refine (pick_any B len cap _ 3 a _ (Lib.hid DA.out.2.2.2.1) (by omega) (by omega)).mono ?_
              rintro e W' ⟨q, rfl, hq, hH, hg⟩
              have DB := Lib.hid (DA.out.cur hH hg)
              clear hH hg
              clear DA
              by_cases hlt : L.length < 64 + q
              · have hlt' : (L.length : Int) < 64 + (q : Int) := by omega
                go_wp2_with fail
                refine (letter_any B len cap _ a _ (Lib.hid DB.out.2.2.2.1) (by omega)).mono ?_
                rintro e W' ⟨x, rfl, hx0, hx1, hx2, hH, hg⟩
                have DC := Lib.hid (DB.out.cur hH hg)
                clear hH hg
                go_wp2_with (at_builtin; refine wpList_append_own _ rfl _ _ 24 rfl w.heap.size 3 i0 (.int .i64 0) 1 8 Try.underlying24 hi0 hz0 hz1 hz2 rfl (by decide) _ _ _ rfl (DC.out.1.alloc _) ⟨_, 0, none⟩ 1 1 [.int .i64 (x)] rfl rfl ?s1 ?s2 ?s3 ?s4 ?s5 ?_)
                case s1 => exact cell_one_new _ _ _
                case s2 => simp [Value.oneCell']
                case s3 => unfold maxLen; omega
                case s4 => omega
                case s5 => exact Nat.le_trans DC.out.2.1.size (by simp)
                intro v' w1 hown' hgrow _
                have DD := Lib.hid (DC.out.push (x := x) hown' hgrow)
                clear hown' hgrow
                clear DC DB
                have hroom : Hid (roomOf v' < 66 - L.length) := Lib.hid (by
                  obtain ⟨av', cv', rfl, -⟩ := DD.out.res
                  simp [roomOf]
                  omega)
                go_wp2
                go_roundw
                case rel => exact ⟨_, _, H64.out.app (by omega) (by omega), by simp; omega, by simp; omega, DD.out⟩
                case measure => exact hroom.out
              · have hlt' : ¬ (L.length : Int) < 64 + (q : Int) := by omega
                go_wp2
                go_ret
                exact DB.out.post H64.out hlen (by omega)
          · have hp0' : ¬ (p : Int) = 0 := by omega
            have hp1' : ¬ (p : Int) = 1 := by omega
            go_wp2
            go_ret
            exact DT.out.post H64.out (by omega) (by omega)
      · skip
        go_wp2_with fail
        refine (letter_any B len cap _ a _ (Lib.hid DA.out.2.2.2.1) (by omega)).mono ?_
        rintro e W' ⟨x, rfl, hx0, hx1, hx2, hH, hg⟩
        have DB := Lib.hid (DA.out.cur hH hg)
        clear hH hg
        go_wp2_with fail
        refine (letter_any B len cap _ a _ (Lib.hid DB.out.2.2.2.1) (by omega)).mono ?_
        rintro e W' ⟨y, rfl, hy0, hy1, hy2, hH, hg⟩
        have DC := Lib.hid (DB.out.cur hH hg)
        clear hH hg
        clear DA DB
        have HG : Hid (Plain.Letters [x, y]) := Lib.hid (fun z hz => by simp at hz; omega)
        have HI : Hid (Ints (W'.alloc (.cells (intVals [x, y]).toArray 3)) (some ⟨W'.heap.size, 0, none⟩) [x, y]) := Lib.hid (Ints.made W' [x, y] _)
        have HA := Lib.hid (DC.out.alloc (.cells (intVals [x, y]).toArray 3))
        generalize hWA : W'.alloc (.cells (intVals [x, y]).toArray 3) = WA at HI HA
        go_wp2_with fail
        refine (l1Own_any (some ⟨W'.heap.size, 0, none⟩) 2 [x, y] _ (by rw [← hWA] at HI; exact HI) (Lib.hid (cap_copy _ (Nat.le_of_ble_eq_true rfl))) (by simp)).mono ?_
        rintro e W3 ⟨v1, rfl, hcol, -⟩
        have HCOL := Lib.hid hcol
        rw [show W'.alloc (.cells #[Value.int .i64 x, Value.int .i64 y] 3) = WA from hWA] at HCOL
        have DE := Lib.hid (HA.out.other HCOL.out.2.1 (Nat.le_refl _) HCOL.out)
        have HIL : Hid (Ints W3 av L) := Lib.hid (by
          obtain ⟨av', cv', e, hI, -⟩ := HA.out.res
          cases e
          exact hI.on HCOL.out.2.1)
        clear hcol DC HA
        go_wp2_with (at_builtin; refine wpList_append_ints rfl _ _ 24 i0 rfl Try.underlying24 hi0 hz0 hz1 hz2 w.heap.size _ _ [x, y] rfl DE.out.1 av L.length cv L rfl rfl HIL.out HC.out (by simp; omega) DE.out.2.1.size ?_)
        intro v2 W4 hown hgrow _
        have DF := Lib.hid (DE.out.more rfl hown hgrow)
        have HI4 := Lib.hid (HI.out.on (HCOL.out.2.1.grown hgrow HCOL.out.2.2 (fun j hj => (HCOL.out.1.lt j hj).1)))
        clear hown hgrow DE HIL
        go_wp2_with fail
        refine (l2Inverse_any (some ⟨W'.heap.size, 0, none⟩) 2 [x, y] _ HI4 HG (by simp)).mono ?_
        rintro e W5 ⟨v3, rfl, hres, hbel⟩
        have DH := Lib.hid (DF.out.later hbel)
        rw [show Plain.inv [x, y] = [-y, -x] by simp [Plain.inv]] at hres
        obtain ⟨a3, c3, rfl, hI3, -, hC3⟩ := hres
        have HI3 := Lib.hid hI3
        have HC3 := Lib.hid hC3
        clear hI3 hC3 hbel DF HI4 HCOL HI hWA
        obtain ⟨L4, hL4⟩ : ∃ L4, L4 = [x, y] ++ L := ⟨_, rfl⟩
        have hl4 : L4.length ≤ 42 := by rw [hL4]; simp; omega
        rw [← hL4] at DH
        have HL4 : Hid (Plain.Letters L4) := Lib.hid (by rw [hL4]; exact HG.out.append HL.out)
        clear hL4
        go_wp2_with (at_builtin; refine wpList_append_ints rfl _ _ 24 i0 rfl Try.underlying24 hi0 hz0 hz1 hz2 w.heap.size _ _ L4 rfl DH.out.1 a3 2 c3 [-y, -x] rfl rfl HI3.out HC3.out (by omega) DH.out.2.1.size ?_)
        intro v5 W6 hown hgrow _
        have DG := Lib.hid (DH.out.more rfl hown hgrow)
        clear hown hgrow DH
        obtain ⟨L5, hL5⟩ : ∃ L5, L5 = L4 ++ [-y, -x] := ⟨_, rfl⟩
        have hl5 : L5.length ≤ 44 := by rw [hL5]; simp; omega
        have H65 : Hid (In64 L5) := Lib.hid (by rw [hL5]; exact letters_in64 (HL4.out.append fun z hz => by simp at hz; omega))
        rw [← hL5] at DG
        clear hL5
        go_wp2_with fail
        refine (pick_any B len cap _ 60 a _ (Lib.hid DG.out.2.2.2.1) (by omega) (by omega)).mono ?_
        rintro e W' ⟨p, rfl, hp, hH, hg⟩
        have DT := Lib.hid (DG.out.cur hH hg)
        clear hH hg
        clear DG hp
        by_cases hp0 : p = 0
        · subst hp0
          go_wp2_with fail
          refine (pickInt B len cap _ a [0, 7, -7, 4611686018427387904] _ _ (Lib.hid DT.out.2.2.2.1) (by simp) (by omega) (by simp)).mono ?_
          rintro e W' ⟨j, x, rfl, hx, hH, hg⟩
          have hmem : x ∈ [0, 7, -7, 4611686018427387904] := List.mem_of_getElem? hx
          have hxr : -7 ≤ x ∧ x ≤ 4611686018427387904 := by simp at hmem; omega
          have DU := Lib.hid (DT.out.cur hH hg)
          clear hH hg hx hmem DT
          go_wp2_with (at_builtin; refine wpList_append_own _ rfl _ _ 24 rfl w.heap.size 3 i0 (.int .i64 0) 1 8 Try.underlying24 hi0 hz0 hz1 hz2 rfl (by decide) _ _ _ rfl (DU.out.1.alloc _) ⟨_, 0, none⟩ 1 1 [.int .i64 (x)] rfl rfl ?t1 ?t2 ?t3 ?t4 ?t5 ?_)
          case t1 => exact cell_one_new _ _ _
          case t2 => simp [Value.oneCell']
          case t3 => unfold maxLen; omega
          case t4 => omega
          case t5 => exact Nat.le_trans DU.out.2.1.size (by simp)
          intro v' w1 hown' hgrow _
          have DV := Lib.hid (DU.out.push (x := x) hown' hgrow)
          clear hown' hgrow
          clear DU
          go_wp2
          go_ret
          exact DV.out.post (H65.out.app (by omega) (by omega)) (by simp; omega) (by omega)
        · by_cases hp1 : p = 1
          · subst hp1
            have HL64 := H65
            go_wp2
            go_loopw [3] (fun v wr => ∃ L m', In64 L ∧ L.length ≤ 66 ∧ m' + 8 * (66 - L.length) ≤ m + 1900 ∧ Draw L B a len cap m' w v wr) (fun v _ => roomOf v)
            case atStart => exact ⟨_, _, HL64.out, by omega, by omega, DT.out⟩
            case round =>
              obtain ⟨L, m', h64', hlen, hmm, hrel⟩ := hrel
              obtain ⟨av, cv, rfl, hI, hO, hcp⟩ := hrel.res
              have DA := Lib.hid hrel
              have H64 := Lib.hid h64'
              clear hrel hI hO hcp h64'
              go_wp2_with fail
              refine (pick_any B len cap _ 3 a _ (Lib.hid DA.out.2.2.2.1) (by omega) (by omega)).mono ?_
              rintro e W' ⟨q, rfl, hq, hH, hg⟩
              have DB := Lib.hid (DA.out.cur hH hg)
              clear hH hg
              clear DA
              by_cases hlt : L.length < 64 + q
              · have hlt' : (L.length : Int) < 64 + (q : Int) := by omega
                go_wp2_with fail
                refine (letter_any B len cap _ a _ (Lib.hid DB.out.2.2.2.1) (by omega)).mono ?_
                rintro e W' ⟨x, rfl, hx0, hx1, hx2, hH, hg⟩
                have DC := Lib.hid (DB.out.cur hH hg)
                clear hH hg
                go_wp2_with (at_builtin; refine wpList_append_own _ rfl _ _ 24 rfl w.heap.size 3 i0 (.int .i64 0) 1 8 Try.underlying24 hi0 hz0 hz1 hz2 rfl (by decide) _ _ _ rfl (DC.out.1.alloc _) ⟨_, 0, none⟩ 1 1 [.int .i64 (x)] rfl rfl ?s1 ?s2 ?s3 ?s4 ?s5 ?_)
                case s1 => exact cell_one_new _ _ _
                case s2 => simp [Value.oneCell']
                case s3 => unfold maxLen; omega
                case s4 => omega
                case s5 => exact Nat.le_trans DC.out.2.1.size (by simp)
                intro v' w1 hown' hgrow _
                have DD := Lib.hid (DC.out.push (x := x) hown' hgrow)
                clear hown' hgrow
                clear DC DB
                have hroom : Hid (roomOf v' < 66 - L.length) := Lib.hid (by
                  obtain ⟨av', cv', rfl, -⟩ := DD.out.res
                  simp [roomOf]
                  omega)
                go_wp2
                go_roundw
                case rel => exact ⟨_, _, H64.out.app (by omega) (by omega), by simp; omega, by simp; omega, DD.out⟩
                case measure => exact hroom.out
              · have hlt' : ¬ (L.length : Int) < 64 + (q : Int) := by omega
                go_wp2
                go_ret
                exact DB.out.post H64.out hlen (by omega)
          · have hp0' : ¬ (p : Int) = 0 := by omega
            have hp1' : ¬ (p : Int) = 1 := by omega
            go_wp2
            go_ret
            exact DT.out.post H65.out (by omega) (by omega)

end Go.Proofs.Ytnmjanhpjnlfcaa
