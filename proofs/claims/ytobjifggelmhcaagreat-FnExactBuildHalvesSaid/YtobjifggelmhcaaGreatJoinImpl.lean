/- Contracts: impl's product, firstJoined, OrWord, AndWord with their closures. Conditions: letters, numbers of 64 bits, lengths that fit. -/
import Derived.Test.YtobjifggelmhcaaGreatJoinSpec
import Derived.Test.YtobjifggelmhcaaGreatCommImpl
import Derived.Test.YtobjifggelmhcaaGreatConjKit
import Derived.Deep.LoopGhost
namespace Go.Proofs.YtobjifggelmhcaaGreat
open Go.ChangeShapes Go.WideShapes Go.ChangeAt Go.RowKit
set_option linter.unusedVariables false

/-- What a joining does. -/
def Joins (g : Nat) (o : Bool) : Prop := ∀ (a1 a2 : Option Addr) (c1 c2 : Nat) (us cs : List Int) (W : World), Hid (Ints W a1 us) → Hid (Cap a1 us.length c1) → Hid (Ints W a2 cs) → Hid (Cap a2 cs.length c2) → Hid (Plain.Letters us) → Hid (Plain.Letters cs) → us.length ≤ 64 → cs.length ≤ 68 →
    Calls Tryz.prog g #[.slice a1 us.length c1, .slice a2 cs.length c2] W (SB (short (Plain.joinOf o us cs)) (shortB (Plain.joinOf o us cs)) W)
theorem joins_comm : Joins 61 true := fun a1 a2 c1 c2 us cs W h1 k1 h2 k2 l1 l2 n1 n2 => commutator_any a1 a2 c1 c2 us cs W h1 k1 h2 k2 l1 l2 (by omega) (by omega)
theorem good_long {o : Bool} {xs ys js : List Int} {k : Nat} (h : Plain.joinAt o xs ys k = js) (hl : ¬ js.length ≤ 64) : Plain.goodAt o xs ys k = false := by rw [Plain.goodAt, h]; simp [hl]
theorem good_miss {o : Bool} {xs ys js : List Int} {k s : Nat} (h : Plain.joinAt o xs ys k = js) (hs : s < 64) (hm : Plain.fallsB js s ≠ Plain.wantB o xs ys s) : Plain.goodAt o xs ys k = false := by
  rw [Plain.goodAt, h]
  cases ha : Plain.alike (Plain.fallsB js) (Plain.wantB o xs ys) with
  | false => simp
  | true => exact absurd ((Plain.alikeTo_iff 64).1 ha s hs) hm
theorem good_hit {o : Bool} {xs ys js : List Int} {k : Nat} (h : Plain.joinAt o xs ys k = js) (hl : js.length ≤ 64) (hs : ∀ s, s < 64 → Plain.fallsB js s = Plain.wantB o xs ys s) : Plain.goodAt o xs ys k = true := by
  rw [Plain.goodAt, h, show Plain.alike (Plain.fallsB js) (Plain.wantB o xs ys) = true from (Plain.alikeTo_iff 64).2 hs]
  simp [hl]
theorem no_more {p : Nat → Bool} {k : Nat} (h : ∀ j, j < k → p j = false) (hk : p k = false) : ∀ j, j < k + 1 → p j = false := fun j hj => by
  by_cases e : j = k
  · subst e; exact hk
  · exact h j (by omega)
set_option maxRecDepth 100000 in
theorem run_indexF (t : Nat → Bool) (k : Nat) (w : World) (hk : k < 64) : (Instr.index 68 (.agg (bools t)) (.int .i64 (k : Int))).run Tryz.prog w = .ok (.bool (t k)) w := by
  have h1 : (0 : Int) ≤ (k : Int) ∧ (k : Int) < 64 := by omega
  have h2 : (bools t)[k]? = some (.bool (t k)) := arr64_at _ hk
  simp [Instr.index, run_underlying Tryz.underlying68, asIntOf, part, go_sem, h1, h2, hk]
set_option maxRecDepth 100000 in
set_option maxHeartbeats 8000000 in
theorem firstJoined_any (g : Nat) (o : Bool) (a1 a2 : Option Addr) (c1 c2 : Nat) (xs ys : List Int) (w : World) (eg : ∀ args w, (callFunc g args).run Tryz.prog w = .ok (.enter g args) w) (HJ : Hid (Joins g o)) (h1 : Hid (Ints w a1 xs)) (k1 : Hid (Cap a1 xs.length c1)) (h2 : Hid (Ints w a2 ys)) (k2 : Hid (Cap a2 ys.length c2))
    (l1 : Hid (Plain.Letters xs)) (l2 : Hid (Plain.Letters ys)) (hx : xs.length ≤ 64) (hy : ys.length ≤ 64) :
    Calls Tryz.prog 60 #[.func (.func g) #[] #[], .slice a1 xs.length c1, .slice a2 ys.length c2, .agg (bools (Plain.wantB o xs ys))] w (SIB (Plain.joinW o xs ys) (Plain.joinN o xs ys : Nat) (Plain.joinOk o xs ys) w) := by
  have HT := Lib.hid (tabF_box w (Plain.wantB o xs ys))
  obtain ⟨t, ht⟩ : ∃ t, t = Plain.wantB o xs ys := ⟨_, rfl⟩
  rw [← ht] at HT ⊢
  have HTW := Lib.hid ht
  clear ht
  go_enter Tryz.func60, Tryz.ntmps60
  go_wp2_with fail
  go_step3
  go_wp2_with fail
  try (go_step3; go_wp2_with fail)
  obtain ⟨W, hW⟩ : ∃ W, W = w.alloc (.cells (bools t) 68) := ⟨_, rfl⟩
  rw [← hW] at HT ⊢
  clear hW
  refine (keys_any _).mono ?_
  rintro e w3 ⟨v, fs, rfl, hl, hc⟩
  obtain ⟨b, cc, rfl⟩ := collF_shape hc hl
  have HC := Lib.hid (And.intro hc (And.intro (HT.out.1.on hc.2.2.1) (HT.out.2.trans (hc.2.2.1.mono HT.out.2.size))))
  have HL := Lib.hid hl
  clear hc hl HT
  go_wp2_with fail
  go_loopg [19] 145 (fun g i wx => ∃ k : Nat, k + g = 145 ∧ i = .int .i64 k ∧ (∀ j, j < k → Plain.goodAt o xs ys j = false) ∧ CollF 22 fs W.heap.size W (.slice (some ⟨b, 0, none⟩) 145 cc) wx ∧ TabF wx w.heap.size t ∧ Below w.heap.size w wx)
  case atStart => exact ⟨0, by omega, rfl, fun j h => by omega, HC.out⟩
  case round =>
    clear HC
    obtain ⟨k, hk, rfl, hno, hrel, htab, hbel⟩ := hrel
    cases gk with
    | succ g1 =>
      have hlt : k < 145 := by omega
      obtain ⟨key, hkey⟩ := Plain.keys_take hlt
      have hkk := Plain.key_at hkey
      have HJA := Lib.hid (Plain.joinAt_key (o := o) (u := xs) (v := ys) hkey)
      obtain ⟨fa, fc, hcell, hok⟩ := key_at_in hrel HL.out hkey
      have HNO := Lib.hid hno
      have HK := Lib.hid (And.intro hrel (And.intro htab hbel))
      have I1 := Lib.hid (h1.out.on hbel)
      have I2 := Lib.hid (h2.out.on hbel)
      have HF := Lib.hid hok
      have LK := Lib.hid hkk.2
      have hkl := hkk.1
      have hi : (k : Int) < 145 := by omega
      have hi0 : (0 : Int) ≤ (k : Int) := by omega
      have hcl := Plain.conj_le key ys
      have LCJ := Lib.hid (Plain.conj_letters LK.out l2.out)
      obtain ⟨cj, hcj⟩ : ∃ cj, cj = Plain.conj key ys := ⟨_, rfl⟩
      rw [← hcj] at hcl LCJ HJA
      have HCJ : Hid (cj = Plain.red (key ++ (ys ++ Plain.inv key))) := Lib.hid hcj
      clear hrel htab hbel hok hkk hno hkey hcj
      go_wp2_with fail
      clear hcell
      refine (conjugate_any a2 fa c2 fc ys key _ I2 k2 (Lib.hid HF.out.1) (Lib.hid HF.out.2.1) l2 LK (by omega) (by omega)).mono ?_
      rw [← HCJ.out]
      rintro e w4 ⟨_, rfl, ⟨a3, c3, rfl, hi3, -, hk3⟩, hb⟩
      have HK4 := Lib.hid (And.intro (HK.out.1.later hb) (And.intro (HK.out.2.1.on hb) (HK.out.2.2.trans (hb.mono HK.out.2.2.size))))
      have I14 := Lib.hid (I1.out.on hb)
      have I3 := Lib.hid hi3
      have K3 := Lib.hid hk3
      clear hb hi3 hk3 HK I1 I2 HF
      have hcl3 : cj.length ≤ 68 := by omega
      clear hcl
      have LJS := Lib.hid (Plain.joinOf_letters (o := o) l1.out LCJ.out)
      have hcall := HJ.out a1 a3 c1 c3 xs cj w4 I14 k1 I3 K3 l1 LCJ hx hcl3
      obtain ⟨js, hjs⟩ : ∃ js, js = Plain.joinOf o xs cj := ⟨_, rfl⟩
      rw [← hjs] at LJS HJA hcall
      clear hjs
      by_cases hl64 : js.length ≤ 64
      · rw [(short_yes hl64).1, (short_yes hl64).2] at hcall
        have HCALL := Lib.hid hcall
        clear hcall
        go_wp2_with fail
        refine HCALL.out.mono ?_
        rintro e w5 ⟨_, rfl, ⟨a5, c5, rfl, hi5, ho5, hk5⟩, hb⟩
        have HK5 := Lib.hid (And.intro (HK4.out.1.later hb) (And.intro (HK4.out.2.1.on hb) (HK4.out.2.2.trans (hb.mono HK4.out.2.2.size))))
        have R5 := Lib.hid (And.intro hi5 (And.intro (ho5.mono HK4.out.2.2.size) hk5))
        clear hb hi5 ho5 hk5 HK4 HCALL I14 I3
        go_wp2_with (refine wpList_load_row rfl 68 _ rfl w.heap.size rfl 68 (bools t) (0, 0) _ HK5.out.2.1 Tryz.underlying68 rfl info64f ?_)
        go_loopg [36] 64 (fun g i wx => ∃ s : Nat, s + g = 64 ∧ i = .int .i64 s ∧ (∀ r, r < s → Plain.fallsB js r = Plain.wantB o xs ys r) ∧ (Ints wx a5 js ∧ Own w.heap.size wx a5 js.length ∧ Cap a5 js.length c5) ∧ CollF 22 fs W.heap.size W (.slice (some ⟨b, 0, none⟩) 145 cc) wx ∧ TabF wx w.heap.size t ∧ Below w.heap.size w wx)
        case atStart => exact ⟨0, by omega, rfl, fun r h => by omega, R5.out, HK5.out⟩
        case round =>
          clear HK5 R5
          obtain ⟨s, hs, rfl, hsame, hres, hrel, htab, hbel⟩ := hrel
          cases gk with
          | succ g2 =>
            have hs64 : s < 64 := by omega
            have HS := Lib.hid hsame
            have HR := Lib.hid hres
            have HK := Lib.hid (And.intro hrel (And.intro htab hbel))
            have hj : (s : Int) < 64 := by omega
            have hj0 : (0 : Int) ≤ (s : Int) := by omega
            have hidx := run_indexF t s wr hs64
            clear hsame hres hrel htab hbel
            go_wp2_with fail
            refine (falls_any a5 c5 js s _ (Lib.hid HR.out.1) LJS (by omega) hs64).mono ?_
            rintro e w6 ⟨rfl, hb⟩
            have HR6 := Lib.hid (And.intro (HR.out.1.on hb) (And.intro (HR.out.2.1.on hb) HR.out.2.2))
            have HK6 := Lib.hid (And.intro (HK.out.1.later hb) (And.intro (HK.out.2.1.on hb) (HK.out.2.2.trans (hb.mono HK.out.2.2.size))))
            have HTS : Hid (t s = Plain.wantB o xs ys s) := Lib.hid (by rw [HTW.out])
            clear hb HR HK
            cases hfv : Plain.fallsB js s with
            | true =>
              cases htv : t s with
              | true =>
                have HS2 := Lib.hid (fun r (hr : r < s + 1) => by
                  by_cases e : r = s
                  · subst e; rw [hfv, ← htv]; exact HTS.out
                  · exact HS.out r (by omega) : ∀ r, r < s + 1 → Plain.fallsB js r = Plain.wantB o xs ys r)
                clear hfv htv
                go_wp2_with fail
                go_roundg g2
                case rel => exact ⟨s + 1, by omega, by go_num, HS2.out, HR6.out, HK6.out⟩
                case measure => omega
              | false =>
                have HG := Lib.hid (no_more HNO.out (good_miss HJA.out hs64 (fun e => by rw [hfv, ← HTS.out, htv] at e; cases e)))
                clear hfv htv
                go_wp2_with fail
                go_roundg g1
                case rel => exact ⟨k + 1, by omega, by go_num, HG.out, HK6.out⟩
                case measure => omega
            | false =>
              cases htv : t s with
              | true =>
                have HG := Lib.hid (no_more HNO.out (good_miss HJA.out hs64 (fun e => by rw [hfv, ← HTS.out, htv] at e; cases e)))
                clear hfv htv
                go_wp2_with fail
                go_roundg g1
                case rel => exact ⟨k + 1, by omega, by go_num, HG.out, HK6.out⟩
                case measure => omega
              | false =>
                have HS2 := Lib.hid (fun r (hr : r < s + 1) => by
                  by_cases e : r = s
                  · subst e; rw [hfv, ← htv]; exact HTS.out
                  · exact HS.out r (by omega) : ∀ r, r < s + 1 → Plain.fallsB js r = Plain.wantB o xs ys r)
                clear hfv htv
                go_wp2_with fail
                go_roundg g2
                case rel => exact ⟨s + 1, by omega, by go_num, HS2.out, HR6.out, HK6.out⟩
                case measure => omega
          | zero =>
            obtain rfl : s = 64 := by omega
            have HG := Lib.hid (Plain.join_hit hlt HNO.out (good_hit HJA.out hl64 hsame))
            have HFIN := Lib.hid (And.intro hres hbel)
            clear hsame hres hrel htab hbel
            go_wp2_with fail
            try rw [Exit.noGoto_ret]
            go_ret3
            exact sib_of (HJA.out.symm.trans HG.out.1.symm) (by rw [HG.out.2.1]) HG.out.2.2.symm ⟨_, rfl, ⟨a5, c5, rfl, HFIN.out.1⟩, HFIN.out.2⟩
      · rw [(short_no hl64).1, (short_no hl64).2] at hcall
        have HCALL := Lib.hid hcall
        have HG := Lib.hid (no_more HNO.out (good_long HJA.out hl64))
        clear hcall hl64
        go_wp2_with fail
        refine HCALL.out.mono ?_
        rintro e w5 ⟨v5, rfl, -, hb⟩
        have HK5 := Lib.hid (And.intro (HK4.out.1.later hb) (And.intro (HK4.out.2.1.on hb) (HK4.out.2.2.trans (hb.mono HK4.out.2.2.size))))
        clear hb HK4 HCALL
        go_wp2_with fail
        go_roundg g1
        case rel => exact ⟨k + 1, by omega, by go_num, HG.out, HK5.out⟩
        case measure => omega
    | zero =>
      have hk145 : k = 145 := by omega
      have hi : ¬ ((k : Int) < 145) := by omega
      rw [hk145] at hno
      have HJN := Lib.hid (Plain.join_none hno)
      have HRES := Lib.hid (coll_res (coll_start wr))
      have HB := Lib.hid hbel
      clear hrel htab hbel hno hk145
      go_wp2_with fail
      try rw [Exit.noGoto_ret]
      go_ret3
      exact sib_of HJN.out.1.symm (by rw [HJN.out.2.1]; rfl) HJN.out.2.2.symm ⟨_, rfl, HRES.out.1.mono HB.out.size, HB.out.trans (HRES.out.2.mono HB.out.size)⟩

end Go.Proofs.YtobjifggelmhcaaGreat
