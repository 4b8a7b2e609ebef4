/- Contract: impl's trailOf: the points of a path. Condition: texts that fit. -/
import Derived.Test.YtpaijobmoddgpaaPtsSpec
import Derived.Test.YtpaijobmoddgpaaPtEq
import Derived.Deep.RegionLaw
import Derived.Deep.CutRange
namespace Go.Proofs.Ytpaijobmoddgpaa
open Go.ChangeShapes Go.WideShapes Go.ChangeAt Go.RowKit
set_option linter.unusedVariables false
set_option linter.unusedSimpArgs false

theorem infoPtP : (Try.prog.info? 63).map (fun i => (i.zero, i.size, i.bytes)) = some (some (.agg #[.int .i64 0, .int .i64 0]), 2, 16) := by kernel_rfl
/-- A block that is a point. -/
def PtAt (w : World) (g : Nat) (p : Plain.Pt) : Prop := w.heap[g]? = some (.cells #[.int .i64 p.1, .int .i64 p.2] 63 (0, 0))
theorem PtAt.cells {w : World} {g : Nat} {p : Plain.Pt} (h : PtAt w g p) : w.cell? ⟨g, 0, none⟩ = some (.int .i64 p.1) ∧ w.cell? ⟨g, 1, none⟩ = some (.int .i64 p.2) := by
  unfold PtAt at h
  exact ⟨by simp [World.cell?, h], by simp [World.cell?, h]⟩
theorem PtAt.on {w w' : World} {g : Nat} {p : Plain.Pt} (h : PtAt w g p) (hb : Below w.heap.size w w') : PtAt w' g p := (hb.block g (Array.getElem?_eq_some_iff.1 h).1).trans h
theorem PtAt.free {w : World} {g : Nat} {p : Plain.Pt} (h : PtAt w g p) : w.frozen? ⟨g, 0, none⟩ = false ∧ w.frozen? ⟨g, 1, none⟩ = false := by
  unfold PtAt at h
  exact ⟨by simp [World.frozen?, h], by simp [World.frozen?, h]⟩
theorem PtAt.set {w : World} {g : Nat} {p : Plain.Pt} (h : PtAt w g p) (q : Plain.Pt) : PtAt ((w.setCell ⟨g, 0, none⟩ (.int .i64 q.1)).setCell ⟨g, 1, none⟩ (.int .i64 q.2)) g q := by
  have h1 := heap_setCell_same w g 0 _ _ (.int .i64 q.1) h
  have h2 := heap_setCell_same _ g 1 _ _ (.int .i64 q.2) h1
  unfold PtAt
  rw [h2]
  simp
theorem ptAt_new (w : World) (p : Plain.Pt) : PtAt (w.alloc (.cells #[.int .i64 p.1, .int .i64 p.2] 63)) w.heap.size p := heap_alloc_new w _
/-- The points of a text, none if it is no path. -/
def trailL (l : List UInt8) : List Plain.Pt := if Plain.pathB l = true then Plain.pts l else []
def TrailPost (l : List UInt8) (w : World) (e : Ending) (w' : World) : Prop := ∃ v, e = .returned (.tuple #[v, .bool (Plain.pathB l)]) ∧ PtsRes 63 w.heap.size w' v (trailL l) ∧ Below w.heap.size w w'
theorem TrailPost.no {l : List UInt8} {w w' : World} {e : Ending} {v : Value} (h : Plain.pathB l = false) (he : e = .returned (.tuple #[v, .bool false])) (hc : Coll2 63 [] w.heap.size w v w') : TrailPost l w e w' :=
  ⟨v, by rw [he, h], by unfold trailL; rw [h]; exact hc.1, hc.2.1⟩
theorem TrailPost.yes {l : List UInt8} {w w' : World} {e : Ending} {v : Value} (h : Plain.pathB l = true) (he : e = .returned (.tuple #[v, .bool true])) (hc : Coll2 63 (Plain.pts l) w.heap.size w v w') : TrailPost l w e w' :=
  ⟨v, by rw [he, h], by unfold trailL; rw [h]; exact hc.1, hc.2.1⟩
theorem coll2_empty {T : TypeId} {w wr : World} (h : Below w.heap.size w wr) : Coll2 T [] w.heap.size w (.slice (some ⟨wr.heap.size, 0, none⟩) 0 0) (wr.alloc (.cells #[] T)) :=
  ⟨World.ownsRow_made wr #[] 0 h.size (Nat.zero_le _) rfl, h.alloc h.size _, by have := h.size; simp; omega⟩
def NextPt (wr : World) (q : Plain.Pt) (p : Value) (wx : World) : Prop := ∃ g, p = .pointer (some ⟨g, 0, none⟩) ∧ PtAt wx g q ∧ Below wr.heap.size wr wx
set_option maxRecDepth 100000 in
set_option maxHeartbeats 4000000 in
theorem trailOf_any (s : ByteArray) (l : List UInt8) (hl0 : Hid (l = s.data.toList)) (w : World) (hs : s.size ≤ 9223372036854775807) : Calls Try.prog 55 #[.string s] w (TrailPost l w) := by
  obtain ⟨i0, hi0, hz0, hz1, hz2⟩ := info_parts infoPtP
  have hlen : Hid (l.length = s.size) := Lib.hid (by rw [hl0.out]; simp)
  have HSt := Lib.hid (coll2_one 63 w (0, 0))
  have HS0 := Lib.hid (coll2_start 63 w)
  by_cases h4 : 400 < s.size
  · have HN : Hid (Plain.pathB l = false) := Lib.hid (by unfold Plain.pathB; rw [hlen.out]; simp; omega)
    go_enter Try.func55, Try.ntmps55
    go_wp2_with fail
    go_ret2
    exact TrailPost.no HN.out rfl HS0.out
  · have HPB : Hid (Plain.pathB l = Plain.okTo l s.size) := Lib.hid (by unfold Plain.pathB; rw [hlen.out]; simp; omega)
    go_enter Try.func55, Try.ntmps55
    go_wp2_with fail
    go_loopw [4, 15] (fun v i wr => ∃ k : Nat, k ≤ s.size ∧ i = .int .i64 k ∧ Plain.okTo l k = true ∧ Coll2 63 (Plain.ptsTo l k) w.heap.size w v wr) (fun _ i _ => s.size - (intOf i).toNat)
    case atStart => exact ⟨0, Nat.zero_le _, rfl, rfl, by rw [Plain.ptsTo_zero]; exact HSt.out⟩
    case round =>
      obtain ⟨k, hk, rfl, hok, hrel⟩ := hrel
      have HC := Lib.hid hrel
      have HOK := Lib.hid hok
      obtain ⟨px, py, hP⟩ : ∃ px py, Plain.atP l k = (px, py) := ⟨_, _, rfl⟩
      have hbd := Plain.at_bd hok (Nat.le_refl k)
      rw [hP] at hbd
      obtain ⟨hb1, hb2, hb3, hb4⟩ := hbd
      simp only [] at hb1 hb2 hb3 hb4
      obtain ⟨a, cap, rfl, hpts, hne, hcap, hcapm⟩ := hrel.1.form
      have hLn : (Plain.ptsTo l k).length = k + 1 := Plain.ptsTo_length l k
      obtain ⟨g, rfl, hg1, hg2, hg3⟩ := hne (by intro e; rw [e] at hLn; cases hLn)
      rw [hLn] at HC hcap ⊢
      have hcell := hpts.cells (Plain.ptsTo_get (Nat.le_refl k))
      rw [hP, Nat.zero_add] at hcell
      have HCELL := Lib.hid hcell
      clear hrel hok hpts hne hg1 hg2 hg3 hcell
      by_cases hlt : k < s.size
      · have hb := bytes_at hl0.out hlt
        have hd := Plain.dx_bd s[k]
        obtain ⟨hd1, hd2, hd3, hd4⟩ := hd
        have HX := Lib.hid (Plain.atP_step hb)
        have HY := Lib.hid (Plain.okTo_get hb)
        rw [hP] at HX HY
        have HPS := Lib.hid (Plain.ptsTo_step l k)
        rw [HX.out] at HPS
        have HP := Lib.hid hP
        have HLN := Lib.hid hLn
        clear hb hP hLn
        have HBH : Hid (∀ W, Calls Try.prog 88 #[.agg #[.int .i64 px, .int .i64 py], .int .u8 s[k].toNat] W (BehindPost px py s[k] W)) := Lib.hid (fun W => behind10_any px py s[k] W (by omega))
        go_upto_region 7 with fail
        go_cut [6] from 18 to 25 (fun p wx => NextPt wr (Plain.nextP (px, py) s[k]) p wx)
        case first =>
          obtain ⟨hc0, hc1⟩ := HCELL.out
          have hc0' : wr.drew.cell? _ = _ := hc0
          have hc1' : wr.drew.cell? _ = _ := hc1
          have hi : (k : Int) < (k : Int) + 1 := by omega
          have hi0 : (0 : Int) ≤ (k : Int) := by omega
          have hi1 : (k : Int) < (s.size : Int) := by omega
          have hBa : Below wr.heap.size wr (wr.alloc (.cells #[.int .i64 0, .int .i64 0] 63)).drew := ((Below.refl _ _).alloc (Nat.le_refl _) _).drew
          have hc0a := cell_later hBa hc0
          have hc1a := cell_later hBa hc1
          have HBA := Lib.hid hBa
          clear hBa
          have HB0 : Hid (Below wr.heap.size wr wr.drew) := Lib.hid (Below.refl _ _).drew
          go_region_law (go_simp; first
            | (go_at_call 88; refine (HBH.out _).mono ?_; rintro e wy ⟨rfl, hb⟩; have hp0 : PtAt wy wr.heap.size (0, 0) := PtAt.on (w := (wr.alloc (.cells #[.int .i64 0, .int .i64 0] 63)).drew) (ptAt_new wr (0, 0)) hb; have HP0 := Lib.hid hp0; have HB1 : Hid (Below wr.heap.size wr wy) := Lib.hid (HBA.out.trans (hb.mono HBA.out.size)); obtain ⟨hq0, hq1⟩ := HP0.out.cells; obtain ⟨hf0, hf1⟩ := HP0.out.free; clear hb hp0)
            | (go_at_call 88; refine (HBH.out _).mono ?_; rintro e wy ⟨rfl, hb⟩; have HB1 : Hid (Below wr.heap.size wr wy) := Lib.hid (HB0.out.trans (hb.mono HB0.out.size)); clear hb))
          all_goals
            go_wp2_with fail
            go_meet
            case rel => first | exact ⟨_, rfl, ptAt_new wy (Plain.nextP (px, py) s[k]), HB1.out.alloc HB1.out.size _⟩ | exact ⟨_, rfl, HP0.out.set (Plain.nextP (px, py) s[k]), (HB1.out.setCell (Nat.le_refl _) _).setCell (Nat.le_refl _) _⟩
        case rest =>
          obtain ⟨g2, rfl, hp, hbw⟩ := hcut
          have HW := Lib.hid hbw
          have HPT := Lib.hid hp
          clear hp hbw
          generalize wc = W1 at HW HPT ⊢
          obtain ⟨q, hq⟩ : ∃ q, q = Plain.nextP (px, py) s[k] := ⟨_, rfl⟩
          obtain ⟨qx, qy⟩ := q
          have hqx : qx = px + Plain.dxB s[k] := congrArg Prod.fst hq
          have hqy : qy = py + Plain.dyB s[k] := congrArg Prod.snd hq
          rw [← hq] at HPT HX HY HPS
          have hq1 : -13 ≤ qx ∧ qx ≤ 13 ∧ -13 ≤ qy ∧ qy ≤ 13 := by omega
          obtain ⟨hq2, hq3, hq4, hq5⟩ := hq1
          have HQ := Lib.hid hq
          have HC1 := Lib.hid (HC.out.later HW.out)
          clear hqx hqy hq hd1 hd2 hd3 hd4
          have HEQ : Hid (∀ w, Sem.run Try.prog (Op.equalIn 10000 63 (.agg #[.int .i64 qx, .int .i64 qy]) (.agg #[.int .i64 px, .int .i64 py])) w = .ok (decide ((qx, qy) = (px, py))) w) := Lib.hid (fun w => run_ptP w (p := (qx, qy)) (q := (px, py)) (by unfold Pt100; simp only []; omega) (by unfold Pt100; simp only []; omega))
          have HNE := Lib.hid (Plain.next_ne (p := (px, py)) (b := s[k]))
          rw [← HQ.out] at HNE
          have HOG : Hid (∀ W, Calls Try.prog 89 #[.agg #[.int .i64 qx, .int .i64 qy]] W (Val (.bool (Plain.inGrid (qx, qy))) W)) := Lib.hid (fun W => onGrid_any qx qy W)
          obtain ⟨h60, h61⟩ := HPT.out.cells
          obtain ⟨h70, h71⟩ := HCELL.out
          have h80 := cell_later HW.out h70
          have h81 := cell_later HW.out h71
          have HC60 := Lib.hid h60
          have HC61 := Lib.hid h61
          have HC80 := Lib.hid h80
          have HC81 := Lib.hid h81
          clear h60 h61 h70 h71 h80 h81
          cases hst : Plain.isStepB s[k] with
          | false =>
            have hE : decide ((qx, qy) = (px, py)) = true := decide_eq_true (HNE.out.2 hst)
            rw [hE] at HEQ
            have HN : Hid (Plain.pathB l = false) := Lib.hid (by rw [HPB.out]; exact Plain.okTo_no (by rw [HY.out, hst]; simp) hlt)
            clear hst hE
            go_upto_region 8 with fail
            go_cut [36] from 26 to 35 (fun s wx => s = .bool true ∧ Below W1.heap.size W1 wx)
            case first =>
              have h1 : W1.drew.cell? _ = _ := HC60.out
              have h2 : W1.drew.cell? _ = _ := HC61.out
              have h3 : W1.drew.cell? _ = _ := HC80.out
              have h4 : W1.drew.cell? _ = _ := HC81.out
              have hi : (k : Int) < (k : Int) + 1 := by omega
              have hi0 : (0 : Int) ≤ (k : Int) := by omega
              have hE := HEQ.out
              go_region_law (go_simp; fail)
              all_goals
                go_wp2_with fail
                go_meet
                case rel => exact ⟨rfl, (Below.refl _ _).drew⟩
            case rest =>
              obtain ⟨rfl, hbw⟩ := hcut
              have HB2 := Lib.hid (HC1.out.2.1.trans (hbw.mono HC1.out.2.2))
              generalize wc = W2 at HB2 ⊢
              clear hbw
              go_wp2_with fail
              go_ret2
              exact TrailPost.no HN.out rfl (coll2_empty HB2.out)
          | true =>
            have hE : decide ((qx, qy) = (px, py)) = false := decide_eq_false (fun e => by have := HNE.out.1 e; rw [hst] at this; cases this)
            rw [hE] at HEQ
            rw [hst] at HY
            clear hst hE
            cases hgr : Plain.inGrid (qx, qy) with
            | false =>
              rw [hgr] at HOG HY
              have HN : Hid (Plain.pathB l = false) := Lib.hid (by rw [HPB.out]; exact Plain.okTo_no (by rw [HY.out]; simp) hlt)
              go_upto_region 8 with fail
              go_cut [36] from 26 to 35 (fun s wx => s = .bool true ∧ Below W1.heap.size W1 wx)
              case first =>
                have h1 : W1.drew.cell? _ = _ := HC60.out
                have h2 : W1.drew.cell? _ = _ := HC61.out
                have h3 : W1.drew.cell? _ = _ := HC80.out
                have h4 : W1.drew.cell? _ = _ := HC81.out
                have hi : (k : Int) < (k : Int) + 1 := by omega
                have hi0 : (0 : Int) ≤ (k : Int) := by omega
                have hE := HEQ.out
                go_region_law (go_simp; first
                  | (go_at_call 89; refine (HOG.out _).mono ?_; rintro e wy ⟨rfl, hb⟩; have HB1 : Hid (Below W1.heap.size W1 wy) := Lib.hid ((Below.refl _ _).drew.trans (hb.mono (Nat.le_refl _))); clear hb))
                all_goals
                  go_wp2_with fail
                  go_meet
                  case rel => exact ⟨rfl, HB1.out⟩
              case rest =>
                obtain ⟨rfl, hbw⟩ := hcut
                have HB2 := Lib.hid (HC1.out.2.1.trans (hbw.mono HC1.out.2.2))
                generalize wc = W2 at HB2 ⊢
                clear hbw
                go_wp2_with fail
                go_ret2
                exact TrailPost.no HN.out rfl (coll2_empty HB2.out)
            | true =>
              rw [hgr] at HOG HY
              have HK : Hid (Plain.okTo l (k + 1) = true) := Lib.hid (by rw [HY.out, HOK.out]; rfl)
              go_upto_region 8 with fail
              go_cut [36] from 26 to 35 (fun s wx => s = .bool false ∧ Below W1.heap.size W1 wx)
              case first =>
                have h1 : W1.drew.cell? _ = _ := HC60.out
                have h2 : W1.drew.cell? _ = _ := HC61.out
                have h3 : W1.drew.cell? _ = _ := HC80.out
                have h4 : W1.drew.cell? _ = _ := HC81.out
                have hi : (k : Int) < (k : Int) + 1 := by omega
                have hi0 : (0 : Int) ≤ (k : Int) := by omega
                have hE := HEQ.out
                go_region_law (go_simp; first
                  | (go_at_call 89; refine (HOG.out _).mono ?_; rintro e wy ⟨rfl, hb⟩; have HB1 : Hid (Below W1.heap.size W1 wy) := Lib.hid ((Below.refl _ _).drew.trans (hb.mono (Nat.le_refl _))); clear hb))
                all_goals
                  go_wp2_with fail
                  go_meet
                  case rel => exact ⟨rfl, HB1.out⟩
              case rest =>
                obtain ⟨rfl, hbw⟩ := hcut
                have HC2 := Lib.hid (HC1.out.later hbw)
                have HPT2 := Lib.hid (HPT.out.on hbw)
                generalize wc = W2 at HC2 HPT2 ⊢
                clear hbw
                obtain ⟨h1, h2⟩ := HPT2.out.cells
                obtain ⟨L, hL⟩ : ∃ L, L = Plain.ptsTo l k := ⟨_, rfl⟩
                rw [← hL] at HC2 HPS HLN
                have hLn2 : k + 1 ≤ 401 := by omega
                have HC3 : Hid (W2.ownsRow w.heap.size 63 2 (.slice (some ⟨g, 0, none⟩) (k + 1) cap) (k + 1) (row2 L)) := Lib.hid (by have := HC2.out.1; unfold PtsRes at this; rw [HLN.out] at this; exact this)
                clear hL
                go_wp2_with (at_builtin; refine wpList_append_own _ rfl _ _ 59 rfl w.heap.size 63 i0 (.agg #[.int .i64 0, .int .i64 0]) 2 16 Try.underlying59 hi0 hz0 hz1 hz2 rfl (by decide) _ _ _ rfl (World.ownsRow.alloc HC3.out _) ⟨W2.heap.size, 0, none⟩ 1 1 [.int .i64 qx, .int .i64 qy] rfl rfl ?c1 ?c2 ?c3 ?c4 ?c5 ?_)
                case c2 => simp [Value.oneCell']
                case c3 => unfold maxLen; omega
                case c4 => omega
                case c5 => exact Nat.le_trans HC2.out.2.2 (by simp)
                intro v' w2 hown' hgrow _
                have hR := Lib.hid (Coll2.push (p := (qx, qy)) HC2.out (by rw [HLN.out]; exact hown') hgrow)
                clear hown' hgrow
                go_wp2_with fail
                go_roundw
                case rel => exact ⟨k + 1, by omega, by go_num, HK.out, by rw [HPS.out]; exact hR.out⟩
                case measure => simp [intOf]; omega
      · obtain rfl : k = s.size := by omega
        have HY : Hid (Plain.pathB l = true) := Lib.hid (by rw [HPB.out]; exact HOK.out)
        have HR : Hid (Coll2 63 (Plain.pts l) w.heap.size w (.slice (some ⟨g, 0, none⟩) (s.size + 1) cap) wr) := Lib.hid (by unfold Plain.pts; rw [hlen.out]; exact HC.out)
        clear hlt hP hLn
        go_wp2_with fail
        go_ret2
        exact TrailPost.yes HY.out rfl HR.out
end Go.Proofs.Ytpaijobmoddgpaa
