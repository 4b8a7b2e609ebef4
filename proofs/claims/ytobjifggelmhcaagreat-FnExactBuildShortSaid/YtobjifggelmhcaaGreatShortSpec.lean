/- Contract: spec.l6Orders: all orders of a list of at most 4 numbers, in new memory. Contract: impl.BuildShort. Contracts: spec.BuildShort; BuildShort of both. Conditions: numbers of 64 bits, lengths that fit. -/
import Derived.Test.YtobjifggelmhcaaGreatOrdImpl
import Derived.Deep.RegionLaw
import Derived.Test.YtobjifggelmhcaaGreatBuild6
import Derived.Test.YtobjifggelmhcaaGreatLessWalks
namespace Go.Proofs.YtobjifggelmhcaaGreat
open Go.ChangeShapes Go.WideShapes Go.ChangeAt Go.RowKit
set_option linter.unusedVariables false

/-- An append to a row of one's own, as a step of a region that draws its order. -/
theorem step_append_at {w : World} {ops : Array Oper} {o : Oper} {a : Act} {K : Act → World → Prop} {Q : Exit → Act → World → Prop} {E : Prop} (hgd : o.guard = none) (s x : Operand) (t : TypeId)
    (ho : o.op = .call { callee := .builtin .append, args := #[s, x], argTypes := #[t, t] }) (base : Nat) (e : TypeId) (i : TypeInfo) (z : Value) (size bytes : Nat) (ht : Tryz.prog.underlying t = some (.slice e)) (hi : Tryz.prog.info? e = some i) (hz : i.zero = some z)
    (hsize : i.size = size) (hby : i.bytes = bytes) (hzs : z.cells.size = size) (hsz : 0 < size) (v : Value) (n : Nat) (xs : List Value) (hs : a.eval s = v) (hown : w.ownsRow base e size v n xs)
    (ad : Addr) (m c : Nat) (news : List Value) (hx : a.eval x = .slice (some ad) m c) (hl : news.length = m * size) (hnews : ∀ j u, news[j]? = some u → w.cell? (ad.add j) = some u) (h1 : ∀ u ∈ news, u.oneCell' = true)
    (h63 : n + m ≤ maxLen) (hbytes : (n + m) * bytes ≤ 140737488355328) (hbase : base ≤ w.heap.size)
    (h : ∀ v' w', w'.ownsRow base e size v' (n + m) (xs ++ news) → w.grownBy w' v.ownBlock → (v' = .slice none 0 0 ↔ v = .slice none 0 0 ∧ m = 0) → (v'.ownBlock = v.ownBlock ∨ v'.ownBlock = some w.heap.size) → K (a.put o.dst v') w') : if Region.wanted o (yielded ops a.tmps) = true then Oper.wp Tryz.prog o a w K Q else E := by
  have hw : Region.wanted o (yielded ops a.tmps) = true := by simp [Region.wanted, hgd]
  rw [if_pos hw]
  obtain ⟨v', w', hr, h2, h3, h4, h5⟩ := run_append_own_at (P := Tryz.prog) w base t o.type e i z size bytes ht hi hz hsize hby hzs hsz v n xs hown ad m c news hl hnews h1 h63 hbytes hbase
  unfold Oper.wp
  simp [execOp, ho, resolve, invoke, builtin, hs, hx, hr, Result.andThen]
  exact h v' w' h2 h3 h4 h5
theorem own9_at (a : Option Addr) (cap n : Nat) (xs : List Int) (w : World) (hl : xs.length = n) (h : Hid (Ints w a xs)) (hcp : Hid (Cap a n cap)) (hn : n ≤ 1048576) :
    Calls Tryz.prog 38 #[.slice a n cap] w fun e w' => ∃ v, e = .returned v ∧ Coll xs w.heap.size w v w' ∧ v ≠ .slice none 0 0 := by
  subst hl
  exact l1Own_any a cap xs w h hcp hn
set_option maxRecDepth 100000 in
set_option maxHeartbeats 8000000 in
theorem l6Orders_any : ∀ (n : Nat) (a : Option Addr) (cap : Nat) (l : List Int) (w : World), l.length = n → n ≤ 4 → Hid (Ints w a l) → Hid (Cap a l.length cap) → Calls Tryz.prog 23 #[.slice a l.length cap] w (OrdPost (Plain.ords n l) w)
  | 0, a, cap, l, w, hl, hn, h, hcp => by
    obtain rfl : l = [] := List.eq_nil_of_length_eq_zero hl
    have HS := Lib.hid (ord_none w)
    go_enter Tryz.func23, Tryz.ntmps23
    go_wp2_with fail
    go_ret
    exact ⟨_, _, rfl, rfl, HS.out⟩
  | n + 1, a, cap, l, w, hl, hn, h, hcp => by
    obtain ⟨i0, hi0, hz0, hz1, hz2⟩ := info_partsL infoLL
    obtain ⟨i1, hi1, hy0, hy1, hy2⟩ := info_parts infoInt
    have HT1 : 22 ≠ 3 := by decide
    have HS := Lib.hid (collF_start 22 w)
    have hl4 : l.length ≤ 4 := by omega
    have hl0 : ¬ l.length = 0 := by omega
    have hq : ((l.length : Int) == 0) = false := beq_false_of_ne (by omega)
    have HLN := Lib.hid hl
    have HREC := Lib.hid (fun (a : Option Addr) (cap : Nat) (q : List Int) (w : World) (h1 : q.length = n) (h2 : Hid (Ints w a q)) (h3 : Hid (Cap a q.length cap)) => l6Orders_any n a cap q w h1 (by omega) h2 h3)
    have HN4 := Lib.hid hn
    clear hl hn hl0
    go_enter Tryz.func23, Tryz.ntmps23
    go_wp2_with fail
    go_loopw [3, 4] (fun v i wr => ∃ k : Nat, k ≤ l.length ∧ i = .int .i64 k ∧ ∃ gs, lists gs = Plain.ordsTo n l k ∧ CollF 22 gs w.heap.size w v wr) (fun _ i _ => l.length - (intOf i).toNat)
    case atStart => exact ⟨0, Nat.zero_le _, rfl, [], rfl, HS.out⟩
    case round =>
      clear HS
      obtain ⟨k, hk, rfl, gs, hgl, hrel⟩ := hrel
      by_cases hlt : k < l.length
      · obtain ⟨x, hx⟩ := at_some l k hlt
        obtain ⟨b, o, rfl, hc⟩ := (h.out.on hrel.2.2.1) k x hx
        have HSTEP := Lib.hid (Plain.ordsTo_step n hx)
        have HROW := Lib.hid (fun rs j r => @Plain.ordsRow_step rs j r x)
        have HXX := Lib.hid hx
        have HK := Lib.hid hrel
        have HL := Lib.hid hgl
        have HIX := Lib.hid (h.out.on hrel.2.2.1)
        have hi : (k : Int) < (l.length : Int) := by omega
        have hi0' : (0 : Int) ≤ (k : Int) := by omega
        have hc1 := hcp.out.1
        have hc2 := hcp.out.2.1
        have hk0 : (k : Int) + 1 ≤ (l.length : Int) := by omega
        have hk1 : (k : Int) ≤ (cap : Int) := by omega
        have hk3 : (k : Int) + 1 ≤ (cap : Int) := by omega
        have hk4 : (l.length : Int) ≤ (cap : Int) := by omega
        have hk5 : (0 : Int) ≤ (k : Int) + 1 := by omega
        have hwi : IntKind.i64.wrap ((k : Int) + 1) = (k : Int) + 1 := IntWalk.i64_in _ (by omega)
        have hnt : ((k : Int) + 1).toNat = k + 1 := by omega
        have hzn := Plain.cutAt_length HLN.out hlt
        have HZS : Hid (l.take k ++ l.drop (k + 1) = Plain.cutAt l k) := Lib.hid rfl
        have hzl : (l.take k ++ l.drop (k + 1)).length ≤ 4 := by rw [HZS.out, hzn]; have := HN4.out; omega
        obtain ⟨zs, hzs⟩ : ∃ zs, zs = l.take k ++ l.drop (k + 1) := ⟨_, rfl⟩
        rw [← hzs] at HZS hzl
        have HFL : Hid (∀ (a1 a2 : Option Addr) (c1 c2 : Nat), flat [((a1, c1, l.take k) : Fac), (a2, c2, l.drop (k + 1))] = zs) := Lib.hid (fun a1 a2 c1 c2 => by rw [hzs]; exact flat_cutI _ _ _ _ _ _)
        have HZN := Lib.hid hzn
        obtain ⟨W, hW⟩ : ∃ W, W = wr := ⟨_, rfl⟩
        clear hx hzs hrel hgl HFL
        subst hW
        have HD : Hid (l.take k ++ l.drop (k + 1) = Plain.cutAt l k) := Lib.hid rfl
        obtain ⟨d, hd⟩ : ∃ d, d = Plain.cutAt l k := ⟨_, rfl⟩
        rw [← hd] at HSTEP HZN HD hzn
        clear hd
        have hd4 : d.length ≤ 4 := by have := HN4.out; omega
        have hPl : (Plain.ordsTo n l k).length ≤ 100 := by
          rw [Plain.ordsTo_length HLN.out hk]
          have h1 := Plain.fac_four (n := n) (by have := HN4.out; omega)
          have h2 : k * Plain.fac n ≤ 4 * 24 := Nat.mul_le_mul (by omega) h1
          omega
        have hRl : (Plain.ords n d).length ≤ 24 := by rw [Plain.ords_length n d HZN.out]; exact Plain.fac_four (by have := HN4.out; omega)
        obtain ⟨P, hP⟩ : ∃ P, P = Plain.ordsTo n l k := ⟨_, rfl⟩
        rw [← hP] at hPl HL HSTEP
        clear hP hzn
        have HRECD : Hid (∀ (a5 : Option Addr) (c5 : Nat) (wq : World), Ints wq a5 d → Cap a5 d.length c5 → Calls Tryz.prog 23 #[.slice a5 d.length c5] wq (OrdPost (Plain.ords n d) wq)) := Lib.hid (fun a5 c5 wq q1 q2 => HREC.out a5 c5 d wq HZN.out (Lib.hid q1) (Lib.hid q2))
        go_upto_region 7 with fail
        clear hc
        go_cut [5] from 19 to 28 (fun s wx => ∃ rs wq, lists rs = Plain.ords n d ∧ CollF 22 rs wq.heap.size wq s wx ∧ Below W.heap.size W wq)
        case first =>
          clear HK HL HREC
          have HBD : Hid (Below W.heap.size W W.drew) := Lib.hid (Below.refl _ _).drew
          by_cases hcap : cap = k + 1
          · skip
            have HC := Lib.hid (cut_end HIX.out hcp.out hlt hcap)
            subst hcap
            have hk6 : (k : Int) ≤ (k : Int) + 1 := by omega
            have hk7 : (l.length : Int) ≤ (k : Int) + 1 := by omega
            have HE0 : Hid ((l.drop (k + 1)).length = 0) := Lib.hid (by rw [List.length_drop]; omega)
            have HK0 : Hid (Cap (some ⟨b, o, none⟩) 0 0) := Lib.hid ⟨Nat.le_refl _, by omega, fun h => (by cases h), fun x h => ⟨b, o, by cases h; rfl⟩⟩
            have J7 : Hid (Ints W.drew (some ⟨b, o, none⟩) (l.drop (k + 1))) := Lib.hid HC.out.i2
            have I7 : Hid (Ints W.drew (some ⟨b, o, none⟩) (l.take k)) := Lib.hid HC.out.i1
            have K7 := Lib.hid HC.out.k1
            have E7 := Lib.hid HC.out.e1
            have M7 := Lib.hid (show Cap (some ⟨b, o, none⟩) (0) (0) from HK0.out)
            have L7 := Lib.hid (show (l.drop (k + 1)).length = 0 from HE0.out)
            go_region_law (first
              | (refine step_append_ints rfl (.tmp 22) (.tmp 26) 22 i1 rfl Tryz.underlying22 hi1 hy0 hy1 hy2 W.drew.heap.size v1 k (l.take k) (by simp [Act.eval]) (by have := HC1.out.1; rwa [E7.out] at this) (some ⟨b, o, none⟩) (0) (0) (l.drop (k + 1)) (by simp [Act.eval]) L7.out (J7.out.on HC1.out.2.1) M7.out (by omega) HC1.out.2.2 ?_; intro v2 w2 hown hgrow hnil; have hC2 := coll_more HC1.out L7.out (by rw [E7.out]; exact hown) hgrow; rw [HD.out] at hC2; obtain ⟨⟨a5, c5, rfl, hi5, -, hk5⟩, hb5⟩ := coll_res hC2; have I5 := Lib.hid (And.intro hi5 hk5); have HB2 := Lib.hid (HBD.out.trans hb5); clear hown hgrow hnil hC2 hi5 hk5 hb5)
              | (go_simp; go_at_call 38; refine (own9_at _ _ k (l.take k) _ E7.out I7 K7 (by omega)).mono ?_; rintro e w1 ⟨v1, rfl, hC1, -⟩; have HC1 := Lib.hid hC1; clear hC1)
              | (go_simp; go_at_call 23; refine (HRECD.out a5 c5 _ I5.out.1 I5.out.2).mono ?_; rintro e w3 ⟨v3, rs, rfl, hrl, hC3⟩; have HC3 := Lib.hid (And.intro hrl hC3); clear hrl hC3))
            all_goals
              go_wp2_with fail
              go_meet
              case rel => exact ⟨rs, _, HC3.out.1, HC3.out.2, HB2.out⟩
          · skip
            have HC := Lib.hid (cut_mid HIX.out hcp.out hlt)
            have J7 : Hid (Ints W.drew (some ⟨b, o + (k + 1), none⟩) (l.drop (k + 1))) := Lib.hid HC.out.i2
            have I7 : Hid (Ints W.drew (some ⟨b, o, none⟩) (l.take k)) := Lib.hid HC.out.i1
            have K7 := Lib.hid HC.out.k1
            have E7 := Lib.hid HC.out.e1
            have M7 := Lib.hid (show Cap (some ⟨b, o + (k + 1), none⟩) (l.length - (k + 1)) (cap - (k + 1)) from HC.out.k2)
            have L7 := Lib.hid (show (l.drop (k + 1)).length = l.length - (k + 1) from HC.out.e2)
            go_region_law (first
              | (refine step_append_ints rfl (.tmp 22) (.tmp 26) 22 i1 rfl Tryz.underlying22 hi1 hy0 hy1 hy2 W.drew.heap.size v1 k (l.take k) (by simp [Act.eval]) (by have := HC1.out.1; rwa [E7.out] at this) (some ⟨b, o + (k + 1), none⟩) (l.length - (k + 1)) (cap - (k + 1)) (l.drop (k + 1)) (by simp [Act.eval]) L7.out (J7.out.on HC1.out.2.1) M7.out (by omega) HC1.out.2.2 ?_; intro v2 w2 hown hgrow hnil; have hC2 := coll_more HC1.out L7.out (by rw [E7.out]; exact hown) hgrow; rw [HD.out] at hC2; obtain ⟨⟨a5, c5, rfl, hi5, -, hk5⟩, hb5⟩ := coll_res hC2; have I5 := Lib.hid (And.intro hi5 hk5); have HB2 := Lib.hid (HBD.out.trans hb5); clear hown hgrow hnil hC2 hi5 hk5 hb5)
              | (go_simp; go_at_call 38; refine (own9_at _ _ k (l.take k) _ E7.out I7 K7 (by omega)).mono ?_; rintro e w1 ⟨v1, rfl, hC1, -⟩; have HC1 := Lib.hid hC1; clear hC1)
              | (go_simp; go_at_call 23; refine (HRECD.out a5 c5 _ I5.out.1 I5.out.2).mono ?_; rintro e w3 ⟨v3, rs, rfl, hrl, hC3⟩; have HC3 := Lib.hid (And.intro hrl hC3); clear hrl hC3))
            all_goals
              go_wp2_with fail
              go_meet
              case rel => exact ⟨rs, _, HC3.out.1, HC3.out.2, HB2.out⟩
        case rest =>
          obtain ⟨rs, wq, hrl, hC, hwq⟩ := hcut
          have hrs : rs.length ≤ 24 := by rw [← lists_length, hrl]; exact hRl
          have HLEN : Hid (∀ f ∈ rs, f.2.2.length ≤ 4) := Lib.hid (fun f hf => by
            have h1 : f.2.2 ∈ Plain.ords n d := by rw [← hrl]; exact List.mem_map_of_mem hf
            rw [(Plain.ords_mem n d HZN.out _ h1).1]
            have := HN4.out
            omega)
          rw [← hrl] at HSTEP
          have hWw := hwq.trans (hC.2.2.1.mono hwq.size)
          have HK7 := Lib.hid (HK.out.later hWw)
          have HOK := Lib.hid (fun f hf => (hC.2.1 f hf).mono (Nat.le_trans HK.out.2.2.2 hwq.size))
          obtain ⟨a2, c2, rfl, hf2, -, hbb, -⟩ := collF_facs hC
          have HNE : Hid (∀ b o, a2 = some ⟨b, o, none⟩ → some b ≠ u3.ownBlock) := Lib.hid (fun b o e he => by
            have h1 := (hbb b o e).1
            have h2 := (HK.out.1.lt b he.symm).2
            have h3 := hwq.size
            omega)
          have HF2 := Lib.hid hf2
          clear hC hf2 hbb hrl hRl HK HREC HRECD HLN HN4 HZN hwq hWw HIX
          generalize wc = wy at HK7 HF2 HOK ⊢
          go_wp2_with fail
          go_loopw [3, 6] (fun v i wr => ∃ j : Nat, j ≤ rs.length ∧ i = .int .i64 j ∧ Inner w x P rs a2 v j wr) (fun _ i _ => rs.length - (intOf i).toNat)
          case atStart => exact ⟨0, Nat.zero_le _, rfl, gs, by rw [HL.out]; simp, HK7.out, HF2.out, HOK.out, HNE.out⟩
          case round =>
            clear HK7 HF2 HOK HNE HL
            obtain ⟨j, hj, rfl, hs, hsl, hck, hfa, hok, hne⟩ := hrel
            by_cases hlt2 : j < rs.length
            · obtain ⟨f, hf⟩ := at_some rs j hlt2
              obtain ⟨⟨b2, o2, rfl, hc5⟩, hfi, hfk⟩ := hfa j f hf
              have HR2 := Lib.hid (HROW.out (lists rs) j f.2.2 (lists_at hf))
              have hbl : b2 < wr.heap.size := by have := World.block_lt_of_cell? _ _ hc5; simpa using this
              have hsn : hs.length ≤ 124 := by
                rw [← lists_length, hsl, List.length_append, List.length_map, List.length_take]; omega
              have hfll := HLEN.out f (List.mem_of_getElem? hf)
              obtain ⟨fa, fc, fl⟩ := f
              dsimp only at hc5 hfi hfk HR2 hfll
              have HFI := Lib.hid (And.intro hfi hfk)
              have HCK := Lib.hid hck
              have HSL := Lib.hid hsl
              have HFA := Lib.hid hfa
              have HOK := Lib.hid hok
              have HNE := Lib.hid hne
              have hj2 : (j : Int) < (rs.length : Int) := by omega
              have hj0 : (0 : Int) ≤ (j : Int) := by omega
              clear hf hfi hfk hck hsl hfa hok hne
              obtain ⟨WR, hWR⟩ : ∃ WR, WR = wr := ⟨_, rfl⟩
              subst hWR
              have HCL : Hid (WR.cell? ⟨b, o + k, none⟩ = some (.int .i64 x)) := Lib.hid (by
                obtain ⟨b9, o9, e9, h9⟩ := (h.out.on HCK.out.2.2.1) k x HXX.out
                cases e9
                exact h9)
              have hb1 : Below WR.heap.size WR (WR.alloc (.cells #[.int .i64 x] 3)) := (Below.refl _ WR).alloc (Nat.le_refl _) _
              have g1 : WR.drew.cell? ⟨b, o + k, none⟩ = some (.int .i64 x) := HCL.out
              have g2 : (WR.alloc (.cells #[.int .i64 x] 3)).drew.cell? ⟨b2, o2 + j, none⟩ = some (.slice fa fl.length fc) := cell_later hb1.drew hc5
              have g3 : WR.drew.cell? ⟨b2, o2 + j, none⟩ = some (.slice fa fl.length fc) := hc5
              have hone : (WR.alloc (.cells #[.int .i64 x] 3)).ownsRow WR.heap.size 3 1 (.slice (some ⟨WR.heap.size, 0, none⟩) 1 1) 1 (nums [x]) := ⟨by simp [nums], .inr ⟨WR.heap.size, 1, _, rfl, Nat.le_refl _, heap_alloc_new WR _, Nat.le_refl _, by unfold maxLen; omega, rfl, by simp [nums]⟩⟩
              have HONE : Hid (Coll [x] WR.heap.size WR (.slice (some ⟨WR.heap.size, 0, none⟩) 1 1) ((WR.alloc (.cells #[.int .i64 x] 3)).drew)) := Lib.hid ⟨hone, hb1.drew, by simp⟩
              have HFI2 : Hid (Ints ((WR.alloc (.cells #[.int .i64 x] 3)).drew) fa fl) := Lib.hid (HFI.out.1.on hb1.drew)
              obtain ⟨zs, hzs⟩ : ∃ zs, zs = x :: fl := ⟨_, rfl⟩
              have hzl : zs.length ≤ 5 := by rw [hzs, List.length_cons]; omega
              have HZX : Hid ([x] ++ fl = zs) := Lib.hid (by rw [hzs]; rfl)
              rw [← hzs] at HR2
              have HE : Hid (lists hs ++ [zs] = P ++ ((lists rs).take (j + 1)).map (fun r => x :: r)) := Lib.hid (by rw [HR2.out, HSL.out, List.append_assoc])
              have HB1 := Lib.hid hb1
              clear hzs hc5 hb1 hone HR2
              go_upto_region 11 with fail
              go_region_law (first
                | (refine step_append_ints rfl (.tmp 40) (.tmp 44) 22 i1 rfl Tryz.underlying22 hi1 hy0 hy1 hy2 WR.heap.size (.slice (some ⟨WR.heap.size, 0, none⟩) 1 1) 1 [x] (by simp [Act.eval]) HONE.out.1 fa fl.length fc fl (by simp [Act.eval]) rfl HFI2.out HFI.out.2 (by omega) HONE.out.2.2 ?_; intro v3 w3 hown hgrow hnil; have hC3 := coll_more (m := fl.length) HONE.out rfl hown hgrow; rw [HZX.out] at hC3; obtain ⟨a5, c5, rfl, hok5⟩ := facOk_coll hC3; have H3 := Lib.hid (And.intro hC3.2.1 hok5); clear hown hgrow hnil hC3 hok5)
                | (refine step_append_at rfl (.tmp 35) (.tmp 46) 39 rfl w.heap.size 22 i0 (.slice none 0 0) 1 24 Tryz.underlying39 hi0 hz0 hz1 hz2 rfl (by decide) u3 hs.length (rowOf hs) (by simp [Act.eval]) ((HCK.out.later H3.out.1).1.alloc _) ⟨w3.heap.size, 0, none⟩ 1 1 [.slice a5 zs.length c5] (by simp [Act.eval]) rfl (cell_one_new _ _ _) (by simp [Value.oneCell']) (by unfold maxLen; omega) (by omega) (Nat.le_trans (HCK.out.later H3.out.1).2.2.2 (by simp)) ?_; intro v4 w5 hown hgrow _ hblk; have HH := Lib.hid (And.intro hown (And.intro hgrow hblk)); clear hown hgrow hblk))
              all_goals
                go_wp2_with fail
                have HK3 := HCK.out.later H3.out.1
                have hba : Below w3.heap.size w3 (w3.alloc (.cells #[.slice a5 zs.length c5] 22)) := (Below.refl _ w3).alloc (Nat.le_refl _) _
                have hok3 : ∀ f ∈ rs, FacOk w.heap.size w3 f := fun f hf => (HOK.out f hf).on H3.out.1
                have hR := collF_push (f := (a5, c5, zs)) HT1 HK3 (H3.out.2.mono HCK.out.2.2.2) HH.out.1 HH.out.2.1
                have hok' : ∀ f ∈ rs, FacOk w.heap.size w5 f := fun f hf => ((hok3 f hf).on hba).off HT1 (HK3.1.alloc _) HH.out.2.1
                have hfa' := facs_off ((HFA.out.on H3.out.1).on hba) (fun f hf => (hok' f hf).1) HH.out.2.1 HNE.out
                have hsz3 : WR.heap.size ≤ w3.heap.size := H3.out.1.size
                have hne' : ∀ b o, (some ⟨b2, o2, none⟩ : Option Addr) = some ⟨b, o, none⟩ → some b ≠ v4.ownBlock := by
                  rintro b3 o3 e
                  cases e
                  rcases HH.out.2.2 with h9 | h9
                  · rw [h9]; exact HNE.out _ _ rfl
                  · rw [h9]
                    intro h8
                    simp at h8
                    omega
                have HRR := Lib.hid (And.intro hR (And.intro hfa' (And.intro hok' hne')))
                clear hba hR hok' hfa' hne' hok3 HK3
                go_roundw
                case rel => exact ⟨j + 1, by omega, by go_num, hs ++ [(a5, c5, zs)], by rw [lists_append]; exact HE.out, HRR.out⟩
                case measure => simp [intOf]; omega
            · obtain rfl : j = rs.length := by omega
              have HE : Hid (lists hs = Plain.ordsTo n l (k + 1)) := Lib.hid (by rw [HSTEP.out, hsl, ← lists_length, List.take_length])
              have HCK := Lib.hid hck
              have hj2 : ¬ (rs.length : Int) < (rs.length : Int) := by omega
              clear hsl hck hfa hok hne
              go_wp2_with fail
              go_roundw
              case rel => exact ⟨k + 1, by omega, by go_num, hs, HE.out, HCK.out⟩
              case measure => simp [intOf]; omega
      · obtain rfl : k = l.length := by omega
        have HK := Lib.hid hrel
        have HL := Lib.hid (hgl.trans (Plain.ords_all n l).symm)
        have hi : ¬ (l.length : Int) < (l.length : Int) := by omega
        clear hrel hgl
        go_wp2_with fail
        go_ret
        exact ⟨_, gs, rfl, HL.out, HK.out⟩

end Go.Proofs.YtobjifggelmhcaaGreat

namespace Go.Proofs.YtobjifggelmhcaaGreat
open Go.ChangeShapes Go.WideShapes Go.ChangeAt Go.RowKit
set_option linter.unusedVariables false

/-- What BuildShort answers. -/
def fourB (fs : List Int) : Bool := Plain.famB fs && decide (0 < fs.length ∧ fs.length ≤ 4)
def shB (fs : List Int) : Bool := fourB fs && Plain.shortB fs
def shW (fs : List Int) : List Int := if fourB fs = true then Plain.shortW fs else []
theorem sh_no {fs : List Int} (h : fourB fs = false) : shW fs = [] ∧ shB fs = false := by simp [shW, shB, h]
theorem sh_yes {fs : List Int} (h : fourB fs = true) : shW fs = Plain.shortW fs ∧ shB fs = Plain.shortB fs := by simp [shW, shB, h]
/-- The best word so far, in memory. -/
def Best (w wr : World) (best : Option (List Int)) (v f : Value) : Prop :=
  (∃ a c, v = .slice a (best.getD []).length c ∧ Ints wr a (best.getD []) ∧ Own w.heap.size wr a (best.getD []).length ∧ Cap a (best.getD []).length c) ∧ f = .bool best.isSome ∧ Plain.Letters (best.getD []) ∧ (best.getD []).length ≤ 64
theorem Best.on {w wr w' : World} {best : Option (List Int)} {v f : Value} (h : Best w wr best v f) (hb : Below wr.heap.size wr w') : Best w w' best v f := by
  obtain ⟨⟨a, c, e, h1, h2, h3⟩, h4⟩ := h
  exact ⟨⟨a, c, e, h1.on hb, h2.on hb, h3⟩, h4⟩
theorem best_none {w wr : World} {a : Option Addr} (h : Res w.heap.size wr (.slice a 0 0) []) : Best w wr none (.slice a 0 0) (.bool false) := by
  obtain ⟨a', c', e, h1, h2, h3⟩ := h
  cases e
  exact ⟨⟨_, _, rfl, h1, h2, h3⟩, rfl, fun x hx => (by cases hx), Nat.zero_le _⟩
set_option maxRecDepth 100000 in
set_option maxHeartbeats 4000000 in
theorem implBuildShort_any (a : Option Addr) (c : Nat) (fs : List Int) (w : World) (h1 : Hid (Ints w a fs)) (k1 : Hid (Cap a fs.length c)) (n1 : Hid (In64 fs)) (hx : fs.length ≤ 1048576) :
    Calls Tryz.prog 15 #[.agg #[.slice a fs.length c]] w (SB (shW fs) (shB fs) w) := by
  have hb0 := (Below.refl w.heap.size w).alloc (Nat.le_refl _) (.cells #[.slice a fs.length c] 28)
  have hf0 := famAt_new w (.slice a fs.length c)
  have hcf := hf0.cell
  have H0 := Lib.hid (And.intro hb0 (And.intro (h1.out.on hb0) hf0))
  clear hb0 hf0
  cases hf : Plain.famB fs with
  | false =>
    have HE := Lib.hid (sh_no (fs := fs) (by simp [fourB, hf]))
    have HF := Lib.hid hf
    clear hf
    go_enter Tryz.func15, Tryz.ntmps15
    go_wp2_with fail
    obtain ⟨W, hW⟩ : ∃ W, W = w.alloc (.cells #[.slice a fs.length c] 28) := ⟨_, rfl⟩
    rw [← hW] at H0 ⊢
    clear hW hcf
    refine (implIsFamily_any _ _ fs _ (Lib.hid H0.out.2.1) n1 (by omega)).mono ?_
    rw [HF.out]
    rintro e w2 ⟨rfl, hb⟩
    have H2 := Lib.hid (And.intro (H0.out.1.trans (hb.mono H0.out.1.size)) (And.intro (H0.out.2.1.on hb) (H0.out.2.2.on hb)))
    clear hb
    have hcg := H2.out.2.2.cell
    have HS := Lib.hid (coll_res (coll_start w2))
    go_wp2_with fail
    go_ret2
    exact sb_of HE.out.1.symm HE.out.2.symm ⟨_, rfl, HS.out.1.mono H2.out.1.size, H2.out.1.trans (HS.out.2.mono H2.out.1.size)⟩
  | true =>
    by_cases h0 : fs.length = 0
    · have HE := Lib.hid (sh_no (fs := fs) (by simp [fourB, h0]))
      have hq : ((fs.length : Int) == 0) = true := by simp [h0]
      have HF := Lib.hid hf
      clear hf h0
      go_enter Tryz.func15, Tryz.ntmps15
      go_wp2_with fail
      obtain ⟨W, hW⟩ : ∃ W, W = w.alloc (.cells #[.slice a fs.length c] 28) := ⟨_, rfl⟩
      rw [← hW] at H0 ⊢
      clear hW hcf
      refine (implIsFamily_any _ _ fs _ (Lib.hid H0.out.2.1) n1 (by omega)).mono ?_
      rw [HF.out]
      rintro e w2 ⟨rfl, hb⟩
      have H2 := Lib.hid (And.intro (H0.out.1.trans (hb.mono H0.out.1.size)) (And.intro (H0.out.2.1.on hb) (H0.out.2.2.on hb)))
      clear hb
      have hcg := H2.out.2.2.cell
      have HS := Lib.hid (coll_res (coll_start w2))
      go_wp2_with fail
      go_ret2
      exact sb_of HE.out.1.symm HE.out.2.symm ⟨_, rfl, HS.out.1.mono H2.out.1.size, H2.out.1.trans (HS.out.2.mono H2.out.1.size)⟩
    · by_cases h4 : 4 < fs.length
      · have HE := Lib.hid (sh_no (fs := fs) (by simp [fourB]; omega))
        have hq : ((fs.length : Int) == 0) = false := beq_false_of_ne (by omega)
        have hq4 : (4 : Int) < (fs.length : Int) := by omega
        have HF := Lib.hid hf
        clear hf h0
        go_enter Tryz.func15, Tryz.ntmps15
        go_wp2_with fail
        obtain ⟨W, hW⟩ : ∃ W, W = w.alloc (.cells #[.slice a fs.length c] 28) := ⟨_, rfl⟩
        rw [← hW] at H0 ⊢
        clear hW hcf
        refine (implIsFamily_any _ _ fs _ (Lib.hid H0.out.2.1) n1 (by omega)).mono ?_
        rw [HF.out]
        rintro e w2 ⟨rfl, hb⟩
        have H2 := Lib.hid (And.intro (H0.out.1.trans (hb.mono H0.out.1.size)) (And.intro (H0.out.2.1.on hb) (H0.out.2.2.on hb)))
        clear hb
        have hcg := H2.out.2.2.cell
        have HS := Lib.hid (coll_res (coll_start w2))
        go_wp2_with fail
        go_ret2
        exact sb_of HE.out.1.symm HE.out.2.symm ⟨_, rfl, HS.out.1.mono H2.out.1.size, H2.out.1.trans (HS.out.2.mono H2.out.1.size)⟩
      · have HE := Lib.hid (sh_yes (fs := fs) (by simp [fourB, hf]; omega))
        have hq : ((fs.length : Int) == 0) = false := beq_false_of_ne (by omega)
        have hq4 : ¬ (4 : Int) < (fs.length : Int) := by omega
        have HSB := Lib.hid (Plain.fam_sets hf)
        have HF := Lib.hid hf
        have HP := Lib.hid (And.intro h0 h4)
        clear hf h0 h4
        go_enter Tryz.func15, Tryz.ntmps15
        go_wp2_with fail
        obtain ⟨W, hW⟩ : ∃ W, W = w.alloc (.cells #[.slice a fs.length c] 28) := ⟨_, rfl⟩
        rw [← hW] at H0 ⊢
        clear hW hcf
        refine (implIsFamily_any _ _ fs _ (Lib.hid H0.out.2.1) n1 (by omega)).mono ?_
        rw [HF.out]
        rintro e w2 ⟨rfl, hb⟩
        have H2 := Lib.hid (And.intro (H0.out.1.trans (hb.mono H0.out.1.size)) (And.intro (H0.out.2.1.on hb) (H0.out.2.2.on hb)))
        clear hb
        have hcg := H2.out.2.2.cell
        have hbz : Below w2.heap.size w2 (w2.alloc (.cells #[] 3)) := (Below.refl _ _).alloc (Nat.le_refl _) _
        have hcz := (H2.out.2.2.on hbz).cell
        have HS := Lib.hid (coll_res (coll_start w2))
        go_wp2_with fail
        clear hcg hcz
        have H3 := Lib.hid (And.intro (H2.out.1.trans (HS.out.2.mono H2.out.1.size)) (And.intro (H2.out.2.1.on hbz) (HS.out.1.mono H2.out.1.size)))
        clear hbz HS
        obtain ⟨W3, hW3⟩ : ∃ W3, W3 = w2.alloc (.cells #[] 3) := ⟨_, rfl⟩
        rw [← hW3] at H3 ⊢
        clear hW3 H2 H0
        refine (ordersOf_any fs.length a c fs _ rfl (by have := HP.out; omega) (Lib.hid H3.out.2.1) k1).mono ?_
        rintro e w4 ⟨v4, gs, rfl, hgl, hC⟩
        have H4 := Lib.hid (And.intro (H3.out.1.trans (hC.2.2.1.mono H3.out.1.size)) ((best_none H3.out.2.2).on hC.2.2.1))
        have hgn : gs.length ≤ 24 := by rw [← lists_length, hgl, Plain.ords_length _ _ rfl]; exact Plain.fac_four (by have := HP.out; omega)
        have HGM : Hid (∀ f ∈ gs, Plain.setsB f.2.2 = true ∧ 0 < f.2.2.length ∧ f.2.2.length ≤ 4) := Lib.hid (fun f hf => by
          have h9 : f.2.2 ∈ Plain.ords fs.length fs := by rw [← hgl]; exact List.mem_map_of_mem hf
          have h8 := (Plain.ords_mem _ fs rfl _ h9).1
          exact ⟨Plain.ords_sets HSB.out h9, by have := HP.out; omega, by have := HP.out; omega⟩)
        obtain ⟨a2, c2, rfl, hf2, -, -, -⟩ := collF_facs hC
        have HF2 := Lib.hid hf2
        have HGL := Lib.hid hgl
        clear hC hf2 hgl H3
        go_wp2_with fail
        go_loopw [4, 5, 31] (fun v f i wr => ∃ k : Nat, k ≤ gs.length ∧ i = .int .i64 k ∧ ∃ best, best = Plain.leadTo (lists gs) k ∧ Best w wr best v f ∧ Facs wr a2 gs ∧ Below w.heap.size w wr) (fun _ _ i _ => gs.length - (intOf i).toNat)
        case atStart => exact ⟨0, Nat.zero_le _, rfl, none, by rw [Plain.leadTo_start], H4.out.2, HF2.out, H4.out.1⟩
        case round =>
          clear H4 HF2
          obtain ⟨k, hk, rfl, best, hbest, hB, hfa, hbel⟩ := hrel
          by_cases hlt : k < gs.length
          · obtain ⟨f, hf⟩ := at_some gs k hlt
            obtain ⟨⟨b2, o2, rfl, hc5⟩, hfi, hfk⟩ := hfa k f hf
            have HST := Lib.hid (Plain.leadTo_step (lists_at hf))
            have HFM := Lib.hid (HGM.out f (List.mem_of_getElem? hf))
            obtain ⟨fa, fc, fl⟩ := f
            dsimp only at hc5 hfi hfk HST HFM
            rw [← hbest] at HST
            have HBE := Lib.hid hbest
            clear hbest
            have hwd := Plain.builtW_word fl
            have HI := Lib.hid (And.intro hfi hfk)
            have HB := Lib.hid hB
            have HFA := Lib.hid hfa
            have HBL := Lib.hid hbel
            have hi : (k : Int) < (gs.length : Int) := by omega
            have hi0 : (0 : Int) ≤ (k : Int) := by omega
            obtain ⟨⟨a7, c7, rfl, -, -, -⟩, rfl, -, -⟩ := hB
            clear hf hfi hfk hfa hbel
            go_wp2_with fail
            clear hc5
            refine (builtInOrder_any fa fc fl _ (Lib.hid HI.out.1) (Lib.hid HI.out.2) (Lib.hid HFM.out.1) HFM.out.2.1 (by have := HFM.out.2.2; omega)).mono ?_
            obtain ⟨u, hu⟩ : ∃ u, u = Plain.builtW fl := ⟨_, rfl⟩
            rw [← hu] at hwd ⊢
            have HU := Lib.hid hu
            have HW := Lib.hid hwd
            clear hu hwd
            cases hok : Plain.builtB fl with
            | false =>
              rintro e w5 ⟨_, rfl, ⟨a5, c5, rfl, hi5, ho5, hk5⟩, hb⟩
              have HN := Lib.hid (And.intro (HB.out.on hb) (And.intro (HFA.out.on hb) (HBL.out.trans (hb.mono HBL.out.size))))
              have HQ := Lib.hid (HST.out.trans (Plain.shorter_no hok))
              clear hi5 ho5 hk5 hb hok HST HB HFA HBL
              go_wp2_with fail
              go_roundw
              case rel => exact ⟨k + 1, by omega, by go_num, best, HQ.out.symm, HN.out⟩
              case measure => simp [intOf]; omega
            | true =>
              rintro e w5 ⟨_, rfl, ⟨a5, c5, rfl, hi5, ho5, hk5⟩, hb⟩
              have HM := Lib.hid (And.intro hi5 (And.intro (ho5.mono HBL.out.size) hk5))
              have HN := Lib.hid (And.intro (HB.out.on hb) (And.intro (HFA.out.on hb) (HBL.out.trans (hb.mono HBL.out.size))))
              clear hi5 ho5 hk5 hb HB HFA HBL
              cases best with
              | none =>
                have HQ := Lib.hid (HST.out.trans (Plain.shorter_first hok))
                rw [← HU.out] at HQ
                clear hok HST
                go_wp2_with fail
                go_roundw
                case rel => exact ⟨k + 1, by omega, by go_num, some u, HQ.out.symm, ⟨⟨a5, c5, rfl, HM.out⟩, rfl, HW.out.2, HW.out.1⟩, HN.out.2⟩
                case measure => simp [intOf]; omega
              | some z =>
                have HZ : Hid (Ints w5 a7 z ∧ Plain.Letters z ∧ z.length ≤ 64) := Lib.hid (by
                  obtain ⟨⟨a8, c8, e8, i8, -, -⟩, -, l8, n8⟩ := HN.out.1
                  cases e8
                  exact ⟨i8, l8, n8⟩)
                have hzl := HZ.out.2.2
                have hul := HW.out.1
                go_wp2_with fail
                refine (isBefore_any a5 a7 c5 c7 u z _ (Lib.hid HM.out.1) (Lib.hid HZ.out.1) (Lib.hid HW.out.2) (Lib.hid HZ.out.2.1) (by omega) (by omega)).mono ?_
                cases hlb : Plain.lessB u z with
                | true =>
                  have HQ := Lib.hid (HST.out.trans (Plain.shorter_less hok (by rw [← HU.out]; exact hlb)))
                  rw [← HU.out] at HQ
                  clear hok HST hlb
                  rintro e w6 ⟨rfl, rfl⟩
                  go_wp2_with fail
                  go_roundw
                  case rel => exact ⟨k + 1, by omega, by go_num, some u, HQ.out.symm, ⟨⟨a5, c5, rfl, HM.out⟩, rfl, HW.out.2, HW.out.1⟩, HN.out.2⟩
                  case measure => simp [intOf]; omega
                | false =>
                  have HQ := Lib.hid (HST.out.trans (Plain.shorter_keeps hok (by rw [← HU.out]; exact hlb)))
                  clear hok HST hlb
                  rintro e w6 ⟨rfl, rfl⟩
                  go_wp2_with fail
                  go_roundw
                  case rel => exact ⟨k + 1, by omega, by go_num, some z, HQ.out.symm, HN.out⟩
                  case measure => simp [intOf]; omega
          · obtain rfl : k = gs.length := by omega
            have HQ : Hid (best = Plain.shortOf fs) := Lib.hid (by rw [hbest, Plain.shortOf, ← HGL.out, lists_length])
            have HB := Lib.hid (And.intro hB hbel)
            have hi : ¬ (gs.length : Int) < (gs.length : Int) := by omega
            obtain ⟨⟨a7, c7, rfl, -, -, -⟩, rfl, -, -⟩ := hB
            clear hbest hfa hbel
            go_wp2_with fail
            go_ret2
            refine sb_of (out := best.getD []) (ok := best.isSome) (by rw [HE.out.1, Plain.shortW, HQ.out]) (by rw [HE.out.2, Plain.shortB, HQ.out]) ⟨_, rfl, ?_, HB.out.2⟩
            exact HB.out.1.1

end Go.Proofs.YtobjifggelmhcaaGreat

namespace Go.Proofs.YtobjifggelmhcaaGreat
open Go.ChangeShapes Go.WideShapes Go.ChangeAt Go.RowKit
set_option linter.unusedVariables false

theorem lead_le (L : List (List Int)) (k : Nat) : ((Plain.leadTo L k).getD []).length ≤ 64 := by
  induction k with
  | zero => rw [Plain.leadTo_start]; simp
  | succ k ih =>
    rcases h : L[k]? with _ | r
    · have : Plain.leadTo L (k + 1) = Plain.leadTo L k := by simp only [Plain.leadTo, List.take_add_one, h, Option.toList_none, List.append_nil]
      rw [this]; exact ih
    · rw [Plain.leadTo_step h]
      cases hb : Plain.builtB r with
      | false => rw [Plain.shorter_no hb]; exact ih
      | true =>
        cases hl : Plain.leadTo L k with
        | none => rw [Plain.shorter_first hb]; exact (Plain.builtW_word r).1
        | some b =>
          rw [hl] at ih
          cases hs : Plain.lessB (Plain.builtW r) b with
          | true => rw [Plain.shorter_less hb hs]; exact (Plain.builtW_word r).1
          | false => rw [Plain.shorter_keeps hb hs]; exact ih
theorem shortW_le (fs : List Int) : (shW fs).length ≤ 1048576 := by
  unfold shW
  split
  · exact Nat.le_trans (lead_le _ _) (by decide)
  · simp
set_option maxRecDepth 100000 in
set_option maxHeartbeats 4000000 in
theorem specBuildShort_any (a : Option Addr) (c : Nat) (fs : List Int) (w : World) (h1 : Hid (Ints w a fs)) (k1 : Hid (Cap a fs.length c)) (n1 : Hid (In64 fs)) (hx : fs.length ≤ 1048576) :
    Calls Tryz.prog 14 #[.agg #[.slice a fs.length c]] w (SB (shW fs) (shB fs) w) := by
  have hb0 := (Below.refl w.heap.size w).alloc (Nat.le_refl _) (.cells #[.slice a fs.length c] 28)
  have hf0 := famAt_new w (.slice a fs.length c)
  have hcf := hf0.cell
  have H0 := Lib.hid (And.intro hb0 (And.intro (h1.out.on hb0) hf0))
  clear hb0 hf0
  cases hf : Plain.famB fs with
  | false =>
    have HE := Lib.hid (sh_no (fs := fs) (by simp [fourB, hf]))
    have HF := Lib.hid hf
    clear hf
    go_enter Tryz.func14, Tryz.ntmps14
    go_wp2_with fail
    obtain ⟨W, hW⟩ : ∃ W, W = w.alloc (.cells #[.slice a fs.length c] 28) := ⟨_, rfl⟩
    rw [← hW] at H0 ⊢
    clear hW hcf
    refine (l5Family_any _ _ fs _ (Lib.hid H0.out.2.1) n1 (by omega)).mono ?_
    rw [HF.out]
    rintro e w2 ⟨rfl, hb⟩
    have H2 := Lib.hid (H0.out.1.trans (hb.mono H0.out.1.size))
    clear hb
    have HS := Lib.hid (coll_res (coll_start w2))
    go_wp2_with fail
    go_ret2
    exact sb_of HE.out.1.symm HE.out.2.symm ⟨_, rfl, HS.out.1.mono H2.out.size, H2.out.trans (HS.out.2.mono H2.out.size)⟩
  | true =>
    by_cases hp : 0 < fs.length ∧ fs.length ≤ 4
    case neg =>
      have HE := Lib.hid (sh_no (fs := fs) (by simp only [fourB, decide_eq_false hp, Bool.and_false]))
      have HN : Hid (decide ((1 : Int) ≤ (fs.length : Int) ∧ (fs.length : Int) ≤ 4) = false) := Lib.hid (decide_eq_false (by omega))
      have HF := Lib.hid hf
      clear hf hp
      go_enter Tryz.func14, Tryz.ntmps14
      go_wp2_with fail
      obtain ⟨W, hW⟩ : ∃ W, W = w.alloc (.cells #[.slice a fs.length c] 28) := ⟨_, rfl⟩
      rw [← hW] at H0 ⊢
      clear hW hcf
      refine (l5Family_any _ _ fs _ (Lib.hid H0.out.2.1) n1 (by omega)).mono ?_
      rw [HF.out]
      rintro e w2 ⟨rfl, hb⟩
      have H2 := Lib.hid (And.intro (H0.out.1.trans (hb.mono H0.out.1.size)) (H0.out.2.2.on hb))
      clear hb
      have hcg := H2.out.2.cell
      go_wp2_with fail
      clear hcg
      refine (l1In_any (fs.length : Int) 1 4 _ (by omega)).mono ?_
      rw [HN.out]
      rintro e w' ⟨rfl, rfl⟩
      have HS := Lib.hid (coll_res (coll_start w2))
      go_wp2_with fail
      go_ret2
      exact sb_of HE.out.1.symm HE.out.2.symm ⟨_, rfl, HS.out.1.mono H2.out.1.size, H2.out.1.trans (HS.out.2.mono H2.out.1.size)⟩
    case pos =>
        have HE := Lib.hid (sh_yes (fs := fs) (by simp only [fourB, hf, decide_eq_true hp, Bool.and_true]))
        have HN : Hid (decide ((1 : Int) ≤ (fs.length : Int) ∧ (fs.length : Int) ≤ 4) = true) := Lib.hid (decide_eq_true (by omega))
        have HSB := Lib.hid (Plain.fam_sets hf)
        have HF := Lib.hid hf
        have HP := Lib.hid hp
        clear hf hp
        go_enter Tryz.func14, Tryz.ntmps14
        go_wp2_with fail
        obtain ⟨W, hW⟩ : ∃ W, W = w.alloc (.cells #[.slice a fs.length c] 28) := ⟨_, rfl⟩
        rw [← hW] at H0 ⊢
        clear hW hcf
        refine (l5Family_any _ _ fs _ (Lib.hid H0.out.2.1) n1 (by omega)).mono ?_
        rw [HF.out]
        rintro e w2 ⟨rfl, hb⟩
        have H2 := Lib.hid (And.intro (H0.out.1.trans (hb.mono H0.out.1.size)) (And.intro (H0.out.2.1.on hb) (H0.out.2.2.on hb)))
        clear hb
        have hcg := H2.out.2.2.cell
        go_wp2_with fail
        clear hcg
        refine (l1In_any (fs.length : Int) 1 4 _ (by omega)).mono ?_
        rw [HN.out]
        rintro e w' ⟨rfl, rfl⟩
        have hbz : Below w2.heap.size w2 (w2.alloc (.cells #[] 3)) := (Below.refl _ _).alloc (Nat.le_refl _) _
        have hcz := (H2.out.2.2.on hbz).cell
        have HS := Lib.hid (coll_res (coll_start w2))
        go_wp2_with fail
        clear hcz
        have H3 := Lib.hid (And.intro (H2.out.1.trans (HS.out.2.mono H2.out.1.size)) (And.intro (H2.out.2.1.on hbz) (HS.out.1.mono H2.out.1.size)))
        clear hbz HS
        obtain ⟨W3, hW3⟩ : ∃ W3, W3 = w2.alloc (.cells #[] 3) := ⟨_, rfl⟩
        rw [← hW3] at H3 ⊢
        clear hW3 H2 H0
        refine (l6Orders_any fs.length a c fs _ rfl (by have := HP.out; omega) (Lib.hid H3.out.2.1) k1).mono ?_
        rintro e w4 ⟨v4, gs, rfl, hgl, hC⟩
        have H4 := Lib.hid (And.intro (H3.out.1.trans (hC.2.2.1.mono H3.out.1.size)) ((best_none H3.out.2.2).on hC.2.2.1))
        have hgn : gs.length ≤ 24 := by rw [← lists_length, hgl, Plain.ords_length _ _ rfl]; exact Plain.fac_four (by have := HP.out; omega)
        have HGM : Hid (∀ f ∈ gs, Plain.setsB f.2.2 = true ∧ 0 < f.2.2.length ∧ f.2.2.length ≤ 4) := Lib.hid (fun f hf => by
          have h9 : f.2.2 ∈ Plain.ords fs.length fs := by rw [← hgl]; exact List.mem_map_of_mem hf
          have h8 := (Plain.ords_mem _ fs rfl _ h9).1
          exact ⟨Plain.ords_sets HSB.out h9, by have := HP.out; omega, by have := HP.out; omega⟩)
        obtain ⟨a2, c2, rfl, hf2, -, -, -⟩ := collF_facs hC
        have HF2 := Lib.hid hf2
        have HGL := Lib.hid hgl
        clear hC hf2 hgl H3
        go_wp2_with fail
        go_loopw [4, 5, 7] (fun v f i wr => ∃ k : Nat, k ≤ gs.length ∧ i = .int .i64 k ∧ ∃ best, best = Plain.leadTo (lists gs) k ∧ Best w wr best v f ∧ Facs wr a2 gs ∧ Below w.heap.size w wr) (fun _ _ i _ => gs.length - (intOf i).toNat)
        case atStart => exact ⟨0, Nat.zero_le _, rfl, none, by rw [Plain.leadTo_start], H4.out.2, HF2.out, H4.out.1⟩
        case round =>
          clear H4 HF2
          obtain ⟨k, hk, rfl, best, hbest, hB, hfa, hbel⟩ := hrel
          by_cases hlt : k < gs.length
          · obtain ⟨f, hf⟩ := at_some gs k hlt
            obtain ⟨⟨b2, o2, rfl, hc5⟩, hfi, hfk⟩ := hfa k f hf
            have HST := Lib.hid (Plain.leadTo_step (lists_at hf))
            have HFM := Lib.hid (HGM.out f (List.mem_of_getElem? hf))
            obtain ⟨fa, fc, fl⟩ := f
            dsimp only at hc5 hfi hfk HST HFM
            rw [← hbest] at HST
            have HBE := Lib.hid hbest
            clear hbest
            have hwd := Plain.builtW_word fl
            have HI := Lib.hid (And.intro hfi hfk)
            have HB := Lib.hid hB
            have HFA := Lib.hid hfa
            have HBL := Lib.hid hbel
            have hi : (k : Int) < (gs.length : Int) := by omega
            have hi0 : (0 : Int) ≤ (k : Int) := by omega
            obtain ⟨⟨a7, c7, rfl, -, -, -⟩, rfl, -, -⟩ := hB
            clear hf hfi hfk hfa hbel
            go_wp2_with fail
            clear hc5
            refine (l6Build_any fa fc fl _ (Lib.hid HI.out.1) (Lib.hid HFM.out.1) (by have := HFM.out.2.2; omega)).mono ?_
            obtain ⟨u, hu⟩ : ∃ u, u = Plain.builtW fl := ⟨_, rfl⟩
            rw [← hu] at hwd ⊢
            have HU := Lib.hid hu
            have HW := Lib.hid hwd
            clear hu hwd
            cases hok : Plain.builtB fl with
            | false =>
              rintro e w5 ⟨_, rfl, ⟨a5, c5, rfl, hi5, ho5, hk5⟩, hb⟩
              have HN := Lib.hid (And.intro (HB.out.on hb) (And.intro (HFA.out.on hb) (HBL.out.trans (hb.mono HBL.out.size))))
              have HQ := Lib.hid (HST.out.trans (Plain.shorter_no hok))
              clear hi5 ho5 hk5 hb hok HST HB HFA HBL
              go_wp2_with fail
              go_roundw
              case rel => exact ⟨k + 1, by omega, by go_num, best, HQ.out.symm, HN.out⟩
              case measure => simp [intOf]; omega
            | true =>
              rintro e w5 ⟨_, rfl, ⟨a5, c5, rfl, hi5, ho5, hk5⟩, hb⟩
              have HM := Lib.hid (And.intro hi5 (And.intro (ho5.mono HBL.out.size) hk5))
              have HN := Lib.hid (And.intro (HB.out.on hb) (And.intro (HFA.out.on hb) (HBL.out.trans (hb.mono HBL.out.size))))
              clear hi5 ho5 hk5 hb HB HFA HBL
              cases best with
              | none =>
                have HQ := Lib.hid (HST.out.trans (Plain.shorter_first hok))
                rw [← HU.out] at HQ
                clear hok HST
                go_wp2_with fail
                go_roundw
                case rel => exact ⟨k + 1, by omega, by go_num, some u, HQ.out.symm, ⟨⟨a5, c5, rfl, HM.out⟩, rfl, HW.out.2, HW.out.1⟩, HN.out.2⟩
                case measure => simp [intOf]; omega
              | some z =>
                have HZ : Hid (Ints w5 a7 z ∧ Plain.Letters z ∧ z.length ≤ 64) := Lib.hid (by
                  obtain ⟨⟨a8, c8, e8, i8, -, -⟩, -, l8, n8⟩ := HN.out.1
                  cases e8
                  exact ⟨i8, l8, n8⟩)
                have hzl := HZ.out.2.2
                have hul := HW.out.1
                go_wp2_with fail
                refine (l2Less_any a5 a7 c5 c7 u z _ (Lib.hid HM.out.1) (Lib.hid HZ.out.1) (Lib.hid HW.out.2) (Lib.hid HZ.out.2.1) (by omega) (by omega)).mono ?_
                cases hlb : Plain.lessB u z with
                | true =>
                  have HQ := Lib.hid (HST.out.trans (Plain.shorter_less hok (by rw [← HU.out]; exact hlb)))
                  rw [← HU.out] at HQ
                  clear hok HST hlb
                  rintro e w6 ⟨rfl, m6, rfl⟩
                  have hd6 : Below w5.heap.size w5 (w5.drewN m6) := below_drewN (Below.refl _ _) m6
                  have HM6 : Hid (Ints (w5.drewN m6) a5 u ∧ Own w.heap.size (w5.drewN m6) a5 u.length ∧ Cap a5 u.length c5) := Lib.hid ⟨HM.out.1.on hd6, HM.out.2.1.on hd6, HM.out.2.2⟩
                  have HN6 := Lib.hid (And.intro (HN.out.1.on hd6) (And.intro (HN.out.2.1.on hd6) (HN.out.2.2.trans (hd6.mono HN.out.2.2.size))))
                  clear hd6
                  go_wp2_with fail
                  go_roundw
                  case rel => exact ⟨k + 1, by omega, by go_num, some u, HQ.out.symm, ⟨⟨a5, c5, rfl, HM6.out⟩, rfl, HW.out.2, HW.out.1⟩, HN6.out.2⟩
                  case measure => simp [intOf]; omega
                | false =>
                  have HQ := Lib.hid (HST.out.trans (Plain.shorter_keeps hok (by rw [← HU.out]; exact hlb)))
                  clear hok HST hlb
                  rintro e w6 ⟨rfl, m6, rfl⟩
                  have hd6 : Below w5.heap.size w5 (w5.drewN m6) := below_drewN (Below.refl _ _) m6
                  have HM6 : Hid (Ints (w5.drewN m6) a5 u ∧ Own w.heap.size (w5.drewN m6) a5 u.length ∧ Cap a5 u.length c5) := Lib.hid ⟨HM.out.1.on hd6, HM.out.2.1.on hd6, HM.out.2.2⟩
                  have HN6 := Lib.hid (And.intro (HN.out.1.on hd6) (And.intro (HN.out.2.1.on hd6) (HN.out.2.2.trans (hd6.mono HN.out.2.2.size))))
                  clear hd6
                  go_wp2_with fail
                  go_roundw
                  case rel => exact ⟨k + 1, by omega, by go_num, some z, HQ.out.symm, HN6.out⟩
                  case measure => simp [intOf]; omega
          · obtain rfl : k = gs.length := by omega
            have HQ : Hid (best = Plain.shortOf fs) := Lib.hid (by rw [hbest, Plain.shortOf, ← HGL.out, lists_length])
            have HB := Lib.hid (And.intro hB hbel)
            have hi : ¬ (gs.length : Int) < (gs.length : Int) := by omega
            obtain ⟨⟨a7, c7, rfl, -, -, -⟩, rfl, -, -⟩ := hB
            clear hbest hfa hbel
            go_wp2_with fail
            go_ret2
            refine sb_of (out := best.getD []) (ok := best.isSome) (by rw [HE.out.1, Plain.shortW, HQ.out]) (by rw [HE.out.2, Plain.shortB, HQ.out]) ⟨_, rfl, ?_, HB.out.2⟩
            exact HB.out.1.1

theorem bothBuildShort (fs : List Int) (h64 : Hid (In64 fs)) (hn : fs.length ≤ 1048576) : ∃ (out : List Int) (ok : Bool), out.length ≤ 1048576 ∧
    (∀ a cap w, Hid (Ints w a fs) → Hid (Cap a fs.length cap) → Calls Tryz.prog 14 #[.agg #[.slice a fs.length cap]] w (SB out ok w)) ∧
    (∀ a cap w, Hid (Ints w a fs) → Hid (Cap a fs.length cap) → Calls Tryz.prog 15 #[.agg #[.slice a fs.length cap]] w (SB out ok w)) :=
  ⟨_, _, shortW_le fs, fun a cap w h hc => specBuildShort_any a cap fs w h hc h64 hn, fun a cap w h hc => implBuildShort_any a cap fs w h hc h64 hn⟩

end Go.Proofs.YtobjifggelmhcaaGreat
