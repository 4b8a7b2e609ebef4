/- Contracts: impl's word.trimmedOnce; TrimWord of impl; both. Conditions: numbers of 64 bits, lengths that fit. -/
import Derived.Test.YtepmldbleconfaaTrimSpec
import Derived.Deep.DeepCutAuto
import Derived.Deep.CutRange
namespace Go.Proofs.Ytepmldbleconfaa
open Go.ChangeShapes Go.WideShapes Go.ChangeAt Go.RowKit
set_option linter.unusedVariables false

theorem flat_cut (a1 a2 : Option Addr) (c1 c2 : Nat) (ys zs : List Int) : flat [((a1, c1, ys) : Fac), (a2, c2, zs)] = ys ++ zs := by simp [flat]
/-- What the region of a letter that is taken out leaves. -/
def Less (W : World) (xs : List Int) (i : Nat) (v : Value) (wx : World) : Prop := ∃ a c, v = .slice a (Plain.dropAt xs i).length c ∧ Ints wx a (Plain.dropAt xs i) ∧ Own W.heap.size wx a (Plain.dropAt xs i).length ∧ Cap a (Plain.dropAt xs i).length c ∧ Below W.heap.size W wx
set_option maxRecDepth 100000 in
set_option maxHeartbeats 8000000 in
theorem trimmedOnce_any (a : Option Addr) (cap : Nat) (xs : List Int) (w : World) (h : Hid (Ints w a xs)) (hcp : Hid (Cap a xs.length cap)) (hl : Hid (Plain.Letters xs)) (hn : xs.length ≤ 64) :
    Calls Try.prog 76 #[.slice a xs.length cap] w (SB (onceW xs) (onceB xs) w) := by
  obtain ⟨t, ht⟩ : ∃ t, t = Plain.fallsB xs := ⟨_, rfl⟩
  have HTT := Lib.hid ht
  clear ht
  go_enter Try.func76, Try.ntmps76
  go_wp2_with fail
  refine (fallTable_any a cap xs _ h hl (by omega)).mono ?_
  rw [← HTT.out]
  rintro e w1 ⟨rfl, hb⟩
  have HTN := Lib.hid (tabF_new w1 (fun _ => false))
  have HTF := Lib.hid (tabF_row (t := t) HTN.out)
  have hb5 : Below w1.heap.size w1 ((w1.alloc (.cells (bools fun _ => false) 52)).setRow w1.heap.size (bools t)) := below_setRow ((Below.refl _ w1).alloc (Nat.le_refl _) _) (Nat.le_refl _) _
  have H5 := Lib.hid (hb.trans (hb5.mono hb.size))
  clear hb hb5
  go_wp2_with (refine wpList_store_row rfl 52 _ _ rfl w1.heap.size (bools t) rfl rfl 52 (bools fun _ => false) (by rw [← bools_zero]; exact HTN.out) info64f rfl (bools_one _) ?_)
  rw [← bools_zero]
  obtain ⟨W5, hW5⟩ : ∃ W5, W5 = ((w1.alloc (.cells (bools fun _ => false) 52)).setRow w1.heap.size (bools t)) := ⟨_, rfl⟩
  rw [← hW5] at H5 HTF ⊢
  clear hW5 HTN
  obtain ⟨G, hG⟩ : ∃ G, G = w1.heap.size := ⟨_, rfl⟩
  rw [← hG] at HTF ⊢
  clear hG
  go_loopw [11] (fun i wr => ∃ k : Nat, k ≤ xs.length ∧ i = .int .i64 (k : Int) ∧ (∀ j, j < k → Plain.sparesB t xs j = false) ∧ TabF wr G t ∧ Below w.heap.size w wr) (fun i _ => xs.length - (intOf i).toNat)
  case atStart => exact ⟨0, Nat.zero_le _, rfl, fun j h => by omega, HTF.out, H5.out⟩
  case round =>
    clear H5 HTF
    obtain ⟨i, hk, rfl, hno, htab, hbel⟩ := hrel
    have HNO := Lib.hid hno
    have HTB := Lib.hid htab
    have HB := Lib.hid hbel
    clear hno htab hbel
    by_cases hlt : i < xs.length
    · obtain ⟨x, hx⟩ := at_some xs i hlt
      obtain ⟨b, o, rfl, -⟩ := h.out i x hx
      have hi : (i : Int) < (xs.length : Int) := by omega
      have hi0 : (0 : Int) ≤ (i : Int) := by omega
      have hc1 := hcp.out.1
      have hc2 := hcp.out.2.1
      have hk0 : (i : Int) + 1 ≤ (xs.length : Int) := by omega
      have hk1 : (i : Int) ≤ (cap : Int) := by omega
      have hk3 : (i : Int) + 1 ≤ (cap : Int) := by omega
      have hk4 : (xs.length : Int) ≤ (cap : Int) := by omega
      have hk5 : (0 : Int) ≤ (i : Int) + 1 := by omega
      have hwi : IntKind.i64.wrap ((i : Int) + 1) = (i : Int) + 1 := IntWalk.i64_in _ (by omega)
      have hnt : ((i : Int) + 1).toNat = i + 1 := by omega
      have hdl := Plain.dropAt_len hlt
      have LD := Lib.hid (Plain.dropAt_letters hl.out i)
      have HSP : Hid (Plain.sparesB t xs i = Plain.alike (Plain.fallsB (Plain.dropAt xs i)) t) := Lib.hid rfl
      have LZ : Hid (Plain.Letters (xs.take i ++ xs.drop (i + 1))) := Lib.hid ((hl.out.sub fun y hy => List.mem_of_mem_take hy).append (hl.out.sub fun y hy => List.mem_of_mem_drop hy))
      have HDZ : Hid (Plain.red (xs.take i ++ xs.drop (i + 1)) = Plain.dropAt xs i) := Lib.hid rfl
      have hzl : (xs.take i ++ xs.drop (i + 1)).length ≤ 64 := by rw [List.length_append, List.length_take, List.length_drop]; omega
      obtain ⟨zs, hzs⟩ : ∃ zs, zs = xs.take i ++ xs.drop (i + 1) := ⟨_, rfl⟩
      rw [← hzs] at LZ HDZ hzl
      have HFL : Hid (∀ (a1 a2 : Option Addr) (c1 c2 : Nat), flat [((a1, c1, xs.take i) : Fac), (a2, c2, xs.drop (i + 1))] = zs) := Lib.hid (fun a1 a2 c1 c2 => by rw [hzs]; exact flat_cut _ _ _ _ _ _)
      have HIX := Lib.hid (h.out.on HB.out)
      obtain ⟨W, hW⟩ : ∃ W, W = wr := ⟨_, rfl⟩
      clear hx hzs
      subst hW
      go_upto_region 5 with fail
      go_cut [6] from 14 to 23 (fun s wx => Less W xs i s wx)
      case first =>
        by_cases hcap : cap = i + 1
        · have HC := Lib.hid (cut_end HIX.out hcp.out hlt hcap)
          subst hcap
          have hk6 : (i : Int) ≤ (i : Int) + 1 := by omega
          have hk7 : (xs.length : Int) ≤ (i : Int) + 1 := by omega
          have HK0 : Hid (Cap (some ⟨b, o, none⟩) 0 0) := Lib.hid ⟨Nat.le_refl _, by omega, fun h => (by cases h), fun x h => ⟨b, o, by cases h; rfl⟩⟩
          have HE0 : Hid ((xs.drop (i + 1)).length = 0) := Lib.hid (by rw [List.length_drop]; omega)
          have h0 := fac_new2 W ((some ⟨b, o, none⟩, (i + 1), xs.take i) : Fac) (some ⟨b, o, none⟩, 0, xs.drop (i + 1)) 53 HC.out.i1 (by show Cap _ (xs.take i).length _; rw [HC.out.e1]; exact HC.out.k1) HC.out.i2 (by show Cap _ (xs.drop (i + 1)).length _; rw [HE0.out]; exact HK0.out)
          have h1 : Facs (W.alloc (.cells #[.slice (some ⟨b, o, none⟩) i (i + 1), .slice (some ⟨b, o, none⟩) 0 0] 53)) (some ⟨W.heap.size, 0, none⟩) [((some ⟨b, o, none⟩, (i + 1), xs.take i) : Fac), (some ⟨b, o, none⟩, 0, xs.drop (i + 1))] := by simpa only [HC.out.e1, HE0.out] using h0
          have hfs : Facs ((W.alloc (.cells #[.slice (some ⟨b, o, none⟩) i (i + 1), .slice (some ⟨b, o, none⟩) 0 0] 53)).drew) (some ⟨W.heap.size, 0, none⟩) [((some ⟨b, o, none⟩, (i + 1), xs.take i) : Fac), (some ⟨b, o, none⟩, 0, xs.drop (i + 1))] := h1
          have hcc := concat_any (some ⟨W.heap.size, 0, none⟩) 2 [((some ⟨b, o, none⟩, (i + 1), xs.take i) : Fac), (some ⟨b, o, none⟩, 0, xs.drop (i + 1))] _ (Lib.hid hfs) (by simp) (by rw [HFL.out]; omega)
          rw [HFL.out] at hcc
          have HCC := Lib.hid hcc
          have hbs : Below W.heap.size W ((W.alloc (.cells #[.slice (some ⟨b, o, none⟩) i (i + 1), .slice (some ⟨b, o, none⟩) 0 0] 53)).drew) := ((Below.refl W.heap.size W).alloc (Nat.le_refl _) _).drew
          have HBS := Lib.hid hbs
          clear hcc hfs hbs h0 h1
          go_wp2_with fail
          go_region_law (go_simp; first
            | (go_at_call 98; refine HCC.out.mono ?_; rintro e w1 ⟨v1, rfl, hC⟩; have HRD := Lib.hid (HBS.out.trans (hC.2.1.mono HBS.out.size)); obtain ⟨⟨a5, c5, rfl, hi5, -, -⟩, -⟩ := coll_res hC; have I5 := Lib.hid hi5; clear hC hi5)
            | (go_at_call 75; refine (reduced_any a5 c5 zs _ I5 LZ (by omega)).mono ?_; rintro e w2 ⟨_, rfl, ⟨a6, c6, rfl, hi6, ho6, hk6⟩, hb⟩; have R := Lib.hid (And.intro hi6 (And.intro (ho6.mono HRD.out.size) (And.intro hk6 (HRD.out.trans (hb.mono HRD.out.size))))); clear hi6 ho6 hk6 hb))
          all_goals
            go_wp2_with fail
            go_meet
            case rel => exact ⟨a6, c6, by rw [← HDZ.out], by rw [← HDZ.out]; exact R.out⟩
        · have HC := Lib.hid (cut_mid HIX.out hcp.out hlt)
          have h0 := fac_new2 W ((some ⟨b, o, none⟩, cap, xs.take i) : Fac) (some ⟨b, o + (i + 1), none⟩, (cap - (i + 1)), xs.drop (i + 1)) 53 HC.out.i1 (by show Cap _ (xs.take i).length _; rw [HC.out.e1]; exact HC.out.k1) HC.out.i2 (by show Cap _ (xs.drop (i + 1)).length _; rw [HC.out.e2]; exact HC.out.k2)
          have h1 : Facs (W.alloc (.cells #[.slice (some ⟨b, o, none⟩) i cap, .slice (some ⟨b, o + (i + 1), none⟩) (xs.length - (i + 1)) (cap - (i + 1))] 53)) (some ⟨W.heap.size, 0, none⟩) [((some ⟨b, o, none⟩, cap, xs.take i) : Fac), (some ⟨b, o + (i + 1), none⟩, (cap - (i + 1)), xs.drop (i + 1))] := by simpa only [HC.out.e1, HC.out.e2] using h0
          have hfs : Facs ((W.alloc (.cells #[.slice (some ⟨b, o, none⟩) i cap, .slice (some ⟨b, o + (i + 1), none⟩) (xs.length - (i + 1)) (cap - (i + 1))] 53)).drew) (some ⟨W.heap.size, 0, none⟩) [((some ⟨b, o, none⟩, cap, xs.take i) : Fac), (some ⟨b, o + (i + 1), none⟩, (cap - (i + 1)), xs.drop (i + 1))] := h1
          have hcc := concat_any (some ⟨W.heap.size, 0, none⟩) 2 [((some ⟨b, o, none⟩, cap, xs.take i) : Fac), (some ⟨b, o + (i + 1), none⟩, (cap - (i + 1)), xs.drop (i + 1))] _ (Lib.hid hfs) (by simp) (by rw [HFL.out]; omega)
          rw [HFL.out] at hcc
          have HCC := Lib.hid hcc
          have hbs : Below W.heap.size W ((W.alloc (.cells #[.slice (some ⟨b, o, none⟩) i cap, .slice (some ⟨b, o + (i + 1), none⟩) (xs.length - (i + 1)) (cap - (i + 1))] 53)).drew) := ((Below.refl W.heap.size W).alloc (Nat.le_refl _) _).drew
          have HBS := Lib.hid hbs
          clear hcc hfs hbs h0 h1
          go_wp2_with fail
          go_region_law (go_simp; first
            | (go_at_call 98; refine HCC.out.mono ?_; rintro e w1 ⟨v1, rfl, hC⟩; have HRD := Lib.hid (HBS.out.trans (hC.2.1.mono HBS.out.size)); obtain ⟨⟨a5, c5, rfl, hi5, -, -⟩, -⟩ := coll_res hC; have I5 := Lib.hid hi5; clear hC hi5)
            | (go_at_call 75; refine (reduced_any a5 c5 zs _ I5 LZ (by omega)).mono ?_; rintro e w2 ⟨_, rfl, ⟨a6, c6, rfl, hi6, ho6, hk6⟩, hb⟩; have R := Lib.hid (And.intro hi6 (And.intro (ho6.mono HRD.out.size) (And.intro hk6 (HRD.out.trans (hb.mono HRD.out.size))))); clear hi6 ho6 hk6 hb))
          all_goals
            go_wp2_with fail
            go_meet
            case rel => exact ⟨a6, c6, by rw [← HDZ.out], by rw [← HDZ.out]; exact R.out⟩
      case rest =>
        obtain ⟨a6, c6, rfl, hi6, ho6, hk6, hbx⟩ := hcut
        have HM6 := Lib.hid (And.intro hi6 (And.intro (ho6.mono HB.out.size) (And.intro hk6 (HB.out.trans (hbx.mono HB.out.size)))))
        have HTB6 := Lib.hid (HTB.out.on hbx)
        clear hi6 ho6 hk6 hbx
        obtain ⟨d, hd⟩ : ∃ d, d = Plain.dropAt xs i := ⟨_, rfl⟩
        rw [← hd] at hdl LD HSP HM6 ⊢
        have HD := Lib.hid hd
        clear hd HFL HDZ LZ HIX
        generalize wc = wy at HM6 HTB6 ⊢
        go_wp2_with fail
        have hload : ∀ p : Later wy, (loadVar 52 ⟨G, 0, none⟩).run Try.prog p.W = .ok (.agg (bools t)) p.W := fun p => run_loadVar_row p.W G 52 52 _ (0, 0) _ (HTB6.out.on p.ok) Try.underlying52 rfl info64f
        have HLD := Lib.hid hload
        have hrun : ∀ p : Later wy, Sem.run Try.prog (Op.equalIn 10000 52 (.agg (bools (Plain.fallsB d))) (.agg (bools t))) p.W = .ok (Plain.alike (Plain.fallsB d) t) p.W := fun p => run_tabsF p.W _ _
        clear hload
        refine wp_region_below (by kernel_rfl) (by kernel_rfl) ?_
        repeat (first
          | (refine later_row rfl 52 _ rfl G rfl (bools t) HLD.out ?_)
          | quiet_step ((go_at_call 51; exact later_of (fallTable_any _ _ d _ (Lib.hid (HM6.out.1.on (Later.ok _))) LD (by omega)))))
        refine wpQuiet_nil ?_
        intro _ hw'
        obtain ⟨⟨wx, hwx⟩, rfl⟩ := hw'
        clear hrun HLD
        have HM7 := Lib.hid (And.intro (HM6.out.1.on hwx) (And.intro (HM6.out.2.1.on hwx) (And.intro HM6.out.2.2.1 (HM6.out.2.2.2.trans (hwx.mono HM6.out.2.2.2.size)))))
        have HTB7 := Lib.hid (HTB6.out.on hwx)
        clear hwx
        cases hal : Plain.alike (Plain.fallsB d) t with
        | true =>
          have HE := Lib.hid (once_hit hlt (by rw [← HTT.out]; exact HNO.out) (by rw [← HTT.out, HSP.out]; exact hal))
          clear hal
          go_wp2_with fail
          go_ret2
          exact sb_of (HD.out.trans HE.out.1.symm) HE.out.2.symm ⟨_, rfl, ⟨_, _, rfl, HM7.out.1, HM7.out.2.1, HM7.out.2.2.1⟩, HM7.out.2.2.2⟩
        | false =>
          have HN2 : Hid (∀ j, j < i + 1 → Plain.sparesB t xs j = false) := Lib.hid (fun j hj => by
            by_cases e : j = i
            · subst e; rw [HSP.out]; exact hal
            · exact HNO.out j (by omega))
          clear hal
          go_wp2_with fail
          go_roundw
          case rel => exact ⟨i + 1, by omega, by go_num, HN2.out, HTB7.out, HM7.out.2.2.2⟩
          case measure => simp [intOf]; omega
    · have hke : i = xs.length := by omega
      have HE := Lib.hid (once_none (xs := xs) (by rw [← HTT.out, ← hke]; exact HNO.out))
      have HS := Lib.hid (coll_res (coll_start wr))
      have hi : ¬ ((i : Int) < (xs.length : Int)) := by omega
      clear hke
      go_wp2_with fail
      go_ret2
      exact sb_of HE.out.1.symm HE.out.2.symm ⟨_, rfl, HS.out.1.mono HB.out.size, HB.out.trans (HS.out.2.mono HB.out.size)⟩
theorem Trims.once {xs u : List Int} (h : Trims xs u) : (onceB u = true → Trims xs (onceW u) ∧ (onceW u).length < u.length) ∧ (onceB u = false → u = trimV xs) := by
  have hs := Plain.spares_same h.2.1 u
  rcases hk : onceI u with _ | i
  · have hb : onceB u = false := by simp [onceB, hk]
    refine ⟨fun e => (by rw [hb] at e; cases e), fun _ => ?_⟩
    have hn : ∀ f b, Plain.seekFrom (Plain.sparesB (Plain.fallsB u) u) f b = none → ∀ j, b ≤ j → j < b + f → Plain.sparesB (Plain.fallsB u) u j = false := by
      intro f
      induction f with
      | zero => intro b _ j h1 h2; omega
      | succ f ih =>
        intro b hb' j h1 h2
        rw [Plain.seekFrom] at hb'
        split at hb'
        · cases hb'
        · rename_i hp
          by_cases e : j = b
          · subst e; simpa using hp
          · exact ih (b + 1) hb' j (by omega) (by omega)
    exact h.done (fun j hj => by rw [← hs]; exact hn _ 0 hk j (Nat.zero_le _) (by omega))
  · have hf : ∀ f b, Plain.seekFrom (Plain.sparesB (Plain.fallsB u) u) f b = some i → ∀ j, b ≤ j → j < i → Plain.sparesB (Plain.fallsB u) u j = false := by
      intro f
      induction f with
      | zero => intro b hb'; cases hb'
      | succ f ih =>
        intro b hb' j h1 h2
        rw [Plain.seekFrom] at hb'
        split at hb'
        · cases hb'; omega
        · rename_i hp
          by_cases e : j = b
          · subst e; simpa using hp
          · exact ih (b + 1) hb' j (by omega) h2
    have hsm := Plain.seek_some hk
    have e1 : onceW u = Plain.dropAt u i := by simp [onceW, hk]
    refine ⟨fun _ => ?_, fun e => (by simp [onceB, hk] at e)⟩
    rw [e1]
    exact h.next hsm.2 (fun j hj => by rw [← hs]; exact hf _ 0 hk j (Nat.zero_le _) hj) (by rw [← hs]; exact hsm.1)
set_option maxRecDepth 100000 in
set_option maxHeartbeats 4000000 in
theorem implTrimWord_any (a : Option Addr) (cap : Nat) (xs : List Int) (w : World) (h : Hid (Ints w a xs)) (h64 : Hid (In64 xs)) (hn : xs.length ≤ 1048576) :
    Calls Try.prog 37 #[.slice a xs.length cap] w (SB (trimW xs) (Plain.wordB xs) w) := by
  cases hw : Plain.wordB xs with
  | false =>
    have HE := Lib.hid (trim_no hw)
    have HS := Lib.hid (coll_res (coll_start w))
    have HW := Lib.hid hw
    clear hw
    go_enter Try.func37, Try.ntmps37
    go_wp2_with fail
    refine (isWord_any _ _ xs _ h h64 (by omega)).mono ?_
    rw [HW.out]
    rintro e w' ⟨rfl, rfl⟩
    go_wp2_with fail
    go_ret2
    exact sb_of HE.out.symm rfl ⟨_, rfl, HS.out.1, HS.out.2⟩
  | true =>
    have HE := Lib.hid (trim_yes hw)
    have HW := Lib.hid hw
    have HL := Lib.hid (Plain.wordB_iff.1 hw).2
    have h64' := (Plain.wordB_iff.1 hw).1
    have HT0 := Lib.hid (trims_start hw)
    obtain ⟨r, hr⟩ : ∃ r, r = Plain.red xs := ⟨_, rfl⟩
    rw [← hr] at HT0
    have HRR := Lib.hid hr
    clear hw hr
    go_enter Try.func37, Try.ntmps37
    go_wp2_with fail
    refine (isWord_any _ _ xs _ h h64 (by omega)).mono ?_
    rw [HW.out]
    rintro e w' ⟨rfl, rfl⟩
    go_wp2_with fail
    refine (reduced_any a cap xs _ h HL (by omega)).mono ?_
    rintro e w1 ⟨_, rfl, ⟨a1, c1, rfl, hi1, ho1, hk1⟩, hb⟩
    rw [← HRR.out] at hi1 ho1 hk1 ⊢
    have H1 := Lib.hid (And.intro hi1 (And.intro ho1 (And.intro hk1 hb)))
    clear hi1 ho1 hk1 hb
    go_wp2_with fail
    go_loopw [4] (fun v wr => ∃ u au cu, v = .slice au u.length cu ∧ Trims xs u ∧ (Ints wr au u ∧ Own w.heap.size wr au u.length ∧ Cap au u.length cu ∧ Below w.heap.size w wr)) (fun v _ => lenV v)
    case atStart => exact ⟨r, a1, c1, rfl, HT0.out, H1.out⟩
    case round =>
      clear H1 HT0
      obtain ⟨u, au, cu, rfl, htr, hmem⟩ := hrel
      have HO := Lib.hid htr.once
      have HM := Lib.hid hmem
      have hu64 := htr.2.2.2
      have LU := Lib.hid htr.2.2.1
      clear htr hmem
      go_wp2_with fail
      refine (trimmedOnce_any au cu u _ (Lib.hid HM.out.1) (Lib.hid HM.out.2.2.1) LU hu64).mono ?_
      cases hb : onceB u with
      | true =>
        have HN := Lib.hid (HO.out.1 hb)
        have hln := HN.out.2
        obtain ⟨d, hd⟩ : ∃ d, d = onceW u := ⟨_, rfl⟩
        rw [← hd] at HN hln ⊢
        clear hb hd
        rintro e w2 ⟨_, rfl, ⟨a2, c2, rfl, hi2, ho2, hk2⟩, hb⟩
        have H2 := Lib.hid (And.intro hi2 (And.intro (ho2.mono HM.out.2.2.2.size) (And.intro hk2 (HM.out.2.2.2.trans (hb.mono HM.out.2.2.2.size)))))
        clear hi2 ho2 hk2 hb
        go_wp2_with fail
        go_roundw
        case rel => exact ⟨d, a2, c2, rfl, HN.out.1, H2.out⟩
        case measure => simp [lenV]; omega
      | false =>
        have HD := Lib.hid (HO.out.2 hb)
        clear hb
        rintro e w2 ⟨v2, rfl, -, hb⟩
        have H2 := Lib.hid (And.intro (HM.out.1.on hb) (And.intro (HM.out.2.1.on hb) (And.intro HM.out.2.2.1 (HM.out.2.2.2.trans (hb.mono HM.out.2.2.2.size)))))
        clear hb
        go_wp2_with fail
        go_ret2
        exact sb_of (HD.out.trans HE.out.symm) rfl ⟨_, rfl, ⟨_, _, rfl, H2.out.1, H2.out.2.1, H2.out.2.2.1⟩, H2.out.2.2.2⟩
theorem bothTrimWord (xs : List Int) (n1 : Hid (In64 xs)) (hx : xs.length ≤ 1048576) : ∃ (out : List Int) (ok : Bool), out.length ≤ 1048576 ∧
    (∀ a c w, Hid (Ints w a xs) → Calls Try.prog 36 #[.slice a xs.length c] w (SB out ok w)) ∧
    (∀ a c w, Hid (Ints w a xs) → Calls Try.prog 37 #[.slice a xs.length c] w (SB out ok w)) :=
  ⟨_, _, Nat.le_trans (trimW_le xs) (by decide), fun a c w h => specTrimWord_any a c xs w h n1 hx, fun a c w h => implTrimWord_any a c xs w h n1 hx⟩

end Go.Proofs.Ytepmldbleconfaa
