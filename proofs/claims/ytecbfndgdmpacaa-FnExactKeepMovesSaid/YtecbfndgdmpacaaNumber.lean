/- Contract: impl's game.number. Conditions: the map holds right numbers alone; sets from 0 to 63. -/
import Derived.Test.YtecbfndgdmpacaaNumReg
namespace Go.Proofs.Ytecbfndgdmpacaa
open Go.ChangeShapes Go.WideShapes Go.ChangeAt Go.RowKit Go.Maps
set_option linter.unusedVariables false

def castZ (l : List Nat) : List Int := l.map fun x : Nat => (x : Int)
theorem castZ_mem {l : List Nat} {j : Nat} : (j : Int) ∈ castZ l ↔ j ∈ l := by
  unfold castZ
  rw [List.mem_map]
  constructor
  · rintro ⟨x, hx, e⟩
    have : x = j := by exact_mod_cast e
    rw [← this]; exact hx
  · intro h; exact ⟨j, h, rfl⟩
theorem castZ_take {l : List Nat} {i x : Nat} (h : l[i]? = some x) : castZ (l.take (i + 1)) = castZ (l.take i) ++ [(x : Int)] := by
  unfold castZ
  rw [List.take_add_one, h, List.map_append]; rfl
theorem castZ_le (l : List Nat) (i : Nat) : (castZ (l.take i)).length ≤ l.length := by
  unfold castZ
  rw [List.length_map, List.length_take]; omega
def GameAt (w : World) (G : Nat) (f : Value) (b : Nat) : Prop := w.heap[G]? = some (.cells (gameC f b) 58 (0, 0))
theorem infoGame (f : Value) (b : Nat) : (Try.prog.info? 58).map (·.size) = some (gameC f b).size := by
  show _ = some 2
  kernel_rfl
theorem game_load {w : World} {G b : Nat} {f : Value} (h : GameAt w G f b) : (loadVar 58 ⟨G, 0, none⟩).run Try.prog w = .ok (.agg (gameC f b)) w :=
  run_loadVar_row w G 58 58 _ (0, 0) _ h Try.underlying58 rfl (infoGame f b)
theorem GameAt.cells {w : World} {G b : Nat} {f : Value} (h : GameAt w G f b) : w.cell? ⟨G, 0, none⟩ = some f ∧ w.cell? ⟨G, 1, none⟩ = some (.map (some b)) := by
  unfold GameAt gameC at h
  refine ⟨?_, ?_⟩ <;> simp [World.cell?, h]
/-- Behind a call that asks for a number. -/
def NumPost (t : Nat → Bool) (m : Nat) (k : Bool) (s b N : Nat) (W : World) (e : Ending) (W' : World) : Prop := e = .returned (.int .i64 (Plain.num t m k s : Int)) ∧ W.grownBy W' (some b) ∧ Gm t m k W' b N
/-- A function value that tells the moves. -/
structure Moves (t : Nat → Bool) (m : Nat) (k : Bool) (g : Nat) : Prop where
  enters : ∀ args w, (callFunc g args).run Try.prog w = .ok (.enter g args) w
  call : ∀ s V, s < 64 → Calls Try.prog g #[.agg (posC t m s)] V (OwnL (nailZ (Plain.movesG t m k s)) V)
set_option maxRecDepth 100000 in
set_option maxHeartbeats 4000000 in
theorem number_any (t : Nat → Bool) (m : Nat) (k : Bool) (g b : Nat) (hm : m < 64) (HG : Hid (Moves t m k g)) : ∀ c s, Plain.cnt m s ≤ c → s < 64 → ∀ (W : World) (N : Nat), Hid (Gm t m k W b N) → N + 7 ^ c ≤ 100000000 →
    Calls Try.prog 55 #[.agg (gameC (.func (.func g) #[] #[]) b), .agg (posC t m s)] W (NumPost t m k s b (N + 7 ^ c) W)
  | c, s, hc, hs, W, N, HM, hN => by
    have IH : Hid (∀ p, p ∈ Plain.movesG t m k s → ∃ c', c = c' + 1 ∧ ∀ (V : World) (N' : Nat), Gm t m k V b N' → N' + 7 ^ c' ≤ 100000000 → Calls Try.prog 55 #[.agg (gameC (.func (.func g) #[] #[]) b), .agg (posC t m (s ||| 2 ^ p))] V (NumPost t m k (s ||| 2 ^ p) b (N' + 7 ^ c') V)) := Lib.hid fun p hp => by
      have hi := Plain.movesG_in hp
      have hl := Plain.cnt_less hi
      match c, hc with
      | 0, hc => omega
      | c' + 1, hc => exact ⟨c', rfl, fun V N' h1 h2 => number_any t m k g b hm HG c' (s ||| 2 ^ p) (by omega) (Plain.or_lt hs (Plain.mem_inP.1 hi).1) V N' (Lib.hid h1) h2⟩
    have hb7 : 1 ≤ 7 ^ c := Nat.pow_pos (by omega)
    have eg := HG.out.enters
    obtain ⟨f, hf⟩ : ∃ f : Value, f = .func (.func g) #[] #[] := ⟨_, rfl⟩
    obtain ⟨W0, hW0⟩ : ∃ W0, W0 = (W.alloc (.cells (gameC (.func (.func g) #[] #[]) b) 58)).alloc (.cells (posC t m s) 52) := ⟨_, rfl⟩
    have hz0 : W0.heap.size = W.heap.size + 2 := by rw [hW0]; simp
    have HGA : Hid (GameAt W0 W.heap.size (.func (.func g) #[] #[]) b) := Lib.hid (by rw [hW0]; exact (heap_alloc_old _ _ (by simp)).trans (heap_alloc_new _ _))
    have HPA : Hid (PosAt W0 (W.heap.size + 1) t m s) := Lib.hid (by rw [hW0]; exact heap_alloc2_new _ _ _)
    have HB0 : Hid (Below W.heap.size W W0) := Lib.hid (by rw [hW0]; exact ((Below.refl _ _).alloc (Nat.le_refl _) _).alloc (by simp) _)
    have hblt := HM.out.lt
    have HM0 : Hid (Gm t m k W0 b N) := Lib.hid (HM.out.kept (grown_none HB0.out) (by simp))
    obtain ⟨c1, c2⟩ := HGA.out.cells
    obtain ⟨n, D, hn, hown, hsound⟩ := HM0.out
    have HO := Lib.hid hown
    have HS := Lib.hid hsound
    have HKEY := Lib.hid (pos_key t m s hm hs)
    have HZ := Lib.hid hz0
    subst hW0
    clear hown hsound hz0 hf f
    go_enter Try.func55, Try.ntmps55
    go_wp2_with (first | (refine wpList_load_row rfl 52 _ rfl (W.heap.size + 1) rfl 52 (posC t m s) (0, 0) _ HPA.out Try.underlying52 rfl (infoPosC _ _ _) ?_) | (at_lookup; refine wpList_lookup_own_ok_int _ rfl _ _ 56 rfl 52 3 .i64 pos_law Try.underlying56 Try.underlying3 (Try.zeroValue3 _) b n D rfl HO.out _ (keyP t m s) rfl HKEY.out ?_))
    intro x0 hat hwc
    cases hh : has D (keyP t m s) with
    | true =>
      have e := HS.out.2.1 s hs hh (.lit (.int .i64 0))
      rw [hat] at e
      have hx0 : x0 = (Plain.num t m k s : Int) := by simpa using e
      have HX := Lib.hid hx0
      clear e hat hwc hh hx0
      go_wp2_with fail
      go_ret
      exact ⟨ret_int HX.out, World.grownBy.but (grown_none HB0.out) _, HM0.out.mono (Nat.le_add_right _ _)⟩
    | false =>
      clear hat hwc hh
      obtain ⟨W0, hW0⟩ : ∃ W0, W0 = ((W.alloc (.cells (gameC (.func (.func g) #[] #[]) b) 58)).alloc (.cells (posC t m s) 52)) := ⟨_, rfl⟩
      rw [← hW0] at HB0 HM0 HO HGA HPA HZ
      obtain ⟨W1, hW1⟩ : ∃ W1, W1 = W0.alloc (.cells #[] 3) := ⟨_, rfl⟩
      have hb1 : Below W0.heap.size W0 W1 := by rw [hW1]; exact (Below.refl _ _).alloc (Nat.le_refl _) _
      have hsz1 : W1.heap.size = W0.heap.size + 1 := by rw [hW1]; simp
      have HP1 : Hid (PosAt W1 (W.heap.size + 1) t m s) := Lib.hid (HPA.out.on hb1)
      have HG1 : Hid (GameAt W1 W.heap.size (.func (.func g) #[] #[]) b) := Lib.hid ((hb1.block _ (by rw [HZ.out]; omega)).trans HGA.out)
      have HU1 : Hid (W1.ownsRow W0.heap.size 3 1 (.slice (some ⟨W.heap.size + 2, 0, none⟩) 0 0) 0 (nums [])) := Lib.hid (by rw [hW1, ← HZ.out]; exact World.ownsRow_made _ #[] 0 (Nat.le_refl _) (Nat.zero_le _) rfl)
      have HB1 := Lib.hid hb1
      have HZ1 := Lib.hid hsz1
      obtain ⟨d1, d2⟩ := HG1.out.cells
      clear hb1 hsz1
      have HPR := HP1
      rw [hW1, hW0] at d1 d2 HPR
      go_wp2_with (first | (refine wpList_load_row rfl 52 _ rfl (W.heap.size + 1) rfl 52 (posC t m s) (0, 0) _ HPR.out Try.underlying52 rfl (infoPosC _ _ _) ?_))
      rw [← hW0, ← hW1]
      clear hW0 hW1 HPR d1 d2 c1 c2
      refine (HG.out.call s _ hs).mono ?_
      rintro e W2 ⟨v, rfl, hown, hb2⟩
      have hblt0 := HM0.out.lt
      obtain ⟨l, hl⟩ : ∃ l, l = Plain.movesG t m k s := ⟨_, rfl⟩
      have hl6 : l.length ≤ 6 := by rw [hl]; exact moves_le _ _ _ _
      have HNUM : Hid (Plain.num t m k s = Plain.mex (l.map fun p => Plain.num t m k (s ||| 2 ^ p))) := Lib.hid (by rw [hl]; exact Plain.num_eq t m k s)
      have HP6 : Hid (∀ p, p ∈ l → p < 6) := Lib.hid (fun p hp => by rw [hl] at hp; exact (Plain.mem_inP.1 (Plain.movesG_in hp)).1)
      rw [← hl] at hown IH
      obtain ⟨vals, hv⟩ : ∃ vals, vals = l.map fun p => Plain.num t m k (s ||| 2 ^ p) := ⟨_, rfl⟩
      rw [← hv] at HNUM
      have hvl : vals.length = l.length := by rw [hv]; simp
      have HV := Lib.hid hv
      obtain ⟨ma, mc, rfl, hm1, -, hm3⟩ := owns_ints hown
      have hnl := nailZ_le l
      rw [hnl] at hm3
      have hmc := hm3.1
      have HNI : Hid (NIn t m k W0 b ma (nailZ l) (.slice (some ⟨W.heap.size + 2, 0, none⟩) 0 0) (castZ (vals.take 0)) N W2) := Lib.hid {
        gr := but_below (World.grownBy.but (grown_none HB1.out) _) hb2
        ow := own_kept HU1.out (grown_none hb2) (fun j hj => by cases hj)
        bs := beside_start hown hm1 (by rw [HZ1.out, HZ.out]; omega)
        lo := fun b' o e => by
          subst e
          have := (hown.lt b' rfl).1
          rw [HZ1.out] at this
          omega
        gm := (HM0.out.kept (grown_none HB1.out) (by simp)).kept (grown_none hb2) (by simp)
        lt := hblt0 }
      clear hown hb2 hm1 hm3 hl hv HU1 HB1 HP1 HG1 HO HS HKEY
      rw [hnl]
      go_wp2_with fail
      go_loopw [7, 26] (fun u i wr => ∃ j : Nat, j ≤ l.length ∧ i = .int .i64 j ∧ ∃ N', N' ≤ N + j * 7 ^ (c - 1) ∧ NIn t m k W0 b ma (nailZ l) u (castZ (vals.take j)) N' wr) (fun _ i _ => 8 - (intOf i).toNat)
      case atStart => exact ⟨0, Nat.zero_le _, rfl, N, by omega, HNI.out⟩
      case round =>
        obtain ⟨j, hj, rfl, N1, hN1, hrel⟩ := hrel
        have HI := Lib.hid hrel
        clear hrel
        by_cases hlt : j < l.length
        · obtain ⟨p, hp⟩ := at_some l j hlt
          obtain ⟨c', hc', HNB⟩ := IH.out p (List.mem_of_getElem? hp)
          have hvp : vals[j]? = some (Plain.num t m k (s ||| 2 ^ p)) := by rw [HV.out, List.getElem?_map, hp]; rfl
          have HST := Lib.hid (castZ_take hvp)
          have hle := castZ_le vals j
          obtain ⟨b0, o0, rfl, hcell⟩ := HI.out.bs.1 j _ (nailZ_at hp)
          have hp6 : p < 6 := HP6.out p (List.mem_of_getElem? hp)
          have hi : (j : Int) < (l.length : Int) := by omega
          have hi00 : (0 : Int) ≤ (j : Int) := by omega
          have hpow : N1 + 7 ^ c' ≤ N + (j + 1) * 7 ^ (c - 1) := by
            subst hc'
            rw [Nat.add_sub_cancel] at hN1 ⊢
            rw [Nat.succ_mul]; omega
          have hbig : N1 + 7 ^ c' ≤ 100000000 := by
            subst hc'
            have : (j + 1) * 7 ^ c' ≤ 7 * 7 ^ c' := Nat.mul_le_mul_right _ (by omega)
            rw [Nat.add_sub_cancel] at hpow
            rw [Nat.pow_succ, Nat.mul_comm] at hN
            omega
          obtain ⟨L, hL⟩ : ∃ L, L = castZ (vals.take j) := ⟨_, rfl⟩
          rw [← hL] at HI HST hle
          have HPW := Lib.hid hpow
          clear hp hL hpow hvp
          go_wp2_with fail
          refine wp_region_any (by kernel_rfl) ?_
          change wpAny _ _ _ _ _ _ _ (World.drew _)
          refine numR t m k W0 W.heap.size b s (s ||| 2 ^ p) p N1 (N1 + 7 ^ c') (.func (.func g) #[] #[]) _ (some ⟨b0, o0, none⟩) (nailZ l) L (Plain.num t m k (s ||| 2 ^ p) : Int) _ _ _ _ _ _ _ _ _ _ _ _ _ _ _ _ _ _ _ _ _ _ _ _ _ _ _ _ _ _ _ _ _ _ _ _ _ _ _ _ _ _ _ _ _ _ _ ⟨fun V => behind_any t m s p V hs hp6, fun V hV => HNB V N1 hV hbig, fun V hg => game_load ((hg.block _ (by rw [HZ.out]; omega) (by simp; omega)).trans HGA.out), fun V hg => pos_load ((hg.block _ (by rw [HZ.out]; omega) (by simp; omega)).trans HPA.out), by omega, fun v2 V z36b hI => ?_⟩ (World.drew _) (Lib.hid HI.out.drew) _ (by kernel_rfl)
          have HI2 := Lib.hid hI
          clear hI
          go_wp2_with fail
          go_roundw
          case rel => exact ⟨j + 1, by omega, by go_num, _, HPW.out, by rw [HST.out]; exact HI2.out⟩
          case measure => simp [intOf]; omega
        · obtain rfl : j = l.length := by omega
          have hcap : N1 + 1 ≤ N + 7 ^ c := by
            by_cases h0 : l.length = 0
            · rw [h0, Nat.zero_mul] at hN1
              omega
            · obtain ⟨p, hp⟩ := at_some l 0 (by omega)
              obtain ⟨c', hc', -⟩ := IH.out p (List.mem_of_getElem? hp)
              subst hc'
              rw [Nat.add_sub_cancel] at hN1
              have h1 : l.length * 7 ^ c' ≤ 6 * 7 ^ c' := Nat.mul_le_mul_right _ hl6
              have h2 : 1 ≤ 7 ^ c' := Nat.pow_pos (by omega)
              rw [Nat.pow_succ]
              omega
          rw [show vals.take l.length = vals from List.take_of_length_le (by omega)] at HI
          obtain ⟨ua, uc, hue, hui, -⟩ := owns_ints HI.out.ow
          obtain ⟨n2, D2, hn2, hown2, hs2⟩ := HI.out.gm
          obtain ⟨mx, hmx⟩ : ∃ mx, mx = Plain.num t m k s := ⟨_, rfl⟩
          obtain ⟨x1, x2, x3⟩ := Plain.mex_spec vals
          rw [← HNUM.out, ← hmx] at x1 x2
          have hmx6 : mx ≤ 6 := by rw [hmx]; exact Plain.num_le t m k s
          have HNM : Hid (n2 < maxLen) := Lib.hid (by unfold maxLen; omega)
          have HUI := Lib.hid hui
          have HO2 := Lib.hid hown2
          have HS2 := Lib.hid hs2
          have HMX := Lib.hid hmx
          have HC1 := Lib.hid hcap
          have X1 := Lib.hid x1
          have X2 := Lib.hid x2
          have hcl : (castZ vals).length ≤ 1048576 := by unfold castZ; rw [List.length_map]; omega
          have HKEY := Lib.hid (pos_key t m s hm hs)
          have HPE : Hid (PosAt wr (W.heap.size + 1) t m s) := Lib.hid ((HI.out.gr.block _ (by rw [HZ.out]; omega) (by simp; omega)).trans HPA.out)
          have HGE : Hid (GameAt wr W.heap.size (.func (.func g) #[] #[]) b) := Lib.hid ((HI.out.gr.block _ (by rw [HZ.out]; omega) (by simp; omega)).trans HGA.out)
          have hbw : b ≠ W.heap.size + 1 := by omega
          obtain ⟨e1, e2⟩ := HGE.out.cells
          subst hue
          clear hown2 hs2 hmx hcap x1 x2 x3 hui HNUM HV hvl hN1 HM0 HGA HPA IH
          go_wp2_with fail
          go_loop [10] (fun i => ∃ x : Nat, x ≤ mx ∧ i = .int .i64 x) (fun i => mx - (intOf i).toNat)
          case atStart => exact ⟨0, Nat.zero_le _, rfl⟩
          case round =>
            obtain ⟨x, hx, rfl⟩ := hrel
            by_cases hxl : x < mx
            · have HD : Hid (decide ((x : Int) ∈ castZ vals) = true) := Lib.hid (by rw [decide_eq_true_eq]; exact castZ_mem.2 (X2.out x hxl))
              go_wp2_with fail
              refine (contains9_any ua uc (castZ vals) x _ HUI hcl).mono ?_
              rw [HD.out]
              rintro e w9 ⟨rfl, rfl⟩
              go_wp2_with fail
              go_round
              case rel => exact ⟨x + 1, by omega, by go_num⟩
              case measure => simp [intOf]; omega
            · obtain rfl : x = mx := by omega
              have HD : Hid (decide ((x : Int) ∈ castZ vals) = false) := Lib.hid (by rw [decide_eq_false_iff_not]; exact fun h => X1.out (castZ_mem.1 h))
              go_wp2_with fail
              refine (contains9_any ua uc (castZ vals) x _ HUI hcl).mono ?_
              rw [HD.out]
              rintro e w9 ⟨rfl, rfl⟩
              go_wp2_with (first | (refine wpList_load_row rfl 52 _ rfl (W.heap.size + 1) rfl 52 (posC t m s) (0, 0) _ HPE.out Try.underlying52 rfl (infoPosC _ _ _) ?_) | (at_mapUpdate; refine wpList_mapUpdate_own _ rfl _ _ _ 56 rfl 52 3 pos_law Try.underlying56 _ b n2 D2 rfl HO2.out HNM.out _ _ (keyP t m s) rfl rfl HKEY.out (.lit (.int .i64 (x : Int))) [] (plainElem_int Try.underlying3 (WalkArith.wf_i64 (by omega))) ?_; intro w8 hown8 hgrow8))
              have HR : Hid (NumPost t m k s b (N + 7 ^ c) W (.returned (.int .i64 (x : Int))) w8) := Lib.hid (by
                refine ⟨by rw [HMX.out], ?_, n2 + 1, _, Nat.le_trans (Nat.succ_le_succ hn2) HC1.out, hown8, ?_⟩
                · exact World.grownBy.trans (World.grownBy.trans (World.grownBy.but (grown_none HB0.out) _) HI.out.gr) hgrow8
                · have := HS2.out.put hm hs (IsMap.put HS2.out.1 _ _)
                  rw [← HMX.out] at this
                  exact this)
              clear hown8 hgrow8
              go_wp2_with fail
              go_ret
              exact HR.out
termination_by c => c

end Go.Proofs.Ytecbfndgdmpacaa
