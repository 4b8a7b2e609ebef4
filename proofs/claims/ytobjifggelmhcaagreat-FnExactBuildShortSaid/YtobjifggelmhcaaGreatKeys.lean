/- Contracts: spec.l6Letter, l6Keys, KeyAt; impl.withOneLetterMore, keys, KeyAt. Conditions: numbers of 64 bits. -/
import Derived.Test.YtobjifggelmhcaaGreatBuildMath
import Derived.Test.YtobjifggelmhcaaGreatLists
import Derived.Test.YtobjifggelmhcaaGreatSetWords
namespace Go.Proofs.YtobjifggelmhcaaGreat
open Go.ChangeShapes Go.WideShapes Go.ChangeAt Go.RowKit
set_option linter.unusedVariables false

def lists (fs : List Fac) : List (List Int) := fs.map (·.2.2)
theorem lists_length (fs : List Fac) : (lists fs).length = fs.length := by simp [lists]
theorem lists_append (fs gs : List Fac) : lists (fs ++ gs) = lists fs ++ lists gs := by simp [lists]
theorem lists_at {fs : List Fac} {k : Nat} {f : Fac} (h : fs[k]? = some f) : (lists fs)[k]? = some f.2.2 := by simp [lists, h]
theorem infoLL : (Tryz.prog.info? 22).map (fun i => (i.zero, i.size, i.bytes)) = some (some (.slice none 0 0), 1, 24) := by kernel_rfl
theorem infoLW : (Tryz.prog.info? 41).map (fun i => (i.zero, i.size, i.bytes)) = some (some (.slice none 0 0), 1, 24) := by kernel_rfl
theorem info_partsL {t : TypeId} {z : Value} {n b : Nat} (h : (Tryz.prog.info? t).map (fun i => (i.zero, i.size, i.bytes)) = some (some z, n, b)) : ∃ i, Tryz.prog.info? t = some i ∧ i.zero = some z ∧ i.size = n ∧ i.bytes = b := by
  rcases hi : Tryz.prog.info? t with _ | i
  · rw [hi] at h; cases h
  · rw [hi] at h
    simp only [Option.map_some, Option.some.injEq, Prod.mk.injEq] at h
    exact ⟨i, rfl, h.1, h.2.1, h.2.2⟩
/-- A row with one empty list, laid at once. -/
theorem collF_first (T : TypeId) (w : World) : CollF T [(some ⟨w.heap.size, 0, none⟩, 0, [])] w.heap.size w (.slice (some ⟨w.heap.size + 1, 0, none⟩) 1 1) ((w.alloc (.cells #[] 3)).alloc (.cells #[.slice (some ⟨w.heap.size, 0, none⟩) 0 0] T)) := by
  have h1 := World.ownsRow_lit (base := w.heap.size) (e := T) (size := 1) (w.alloc (.cells #[] 3)) #[.slice (some ⟨w.heap.size, 0, none⟩) 0 0] 1 (by simp) (by decide) rfl
  rw [show (w.alloc (.cells #[] 3)).heap.size = w.heap.size + 1 by simp] at h1
  refine ⟨h1, fun f hf => ?_, ((Below.refl _ w).alloc (Nat.le_refl _) _).alloc (by simp) _, by simp; omega⟩
  obtain rfl := List.mem_singleton.1 hf
  exact ⟨Ints.nil _ _, ⟨Nat.le_refl _, by show (0 : Nat) ≤ _; decide, fun h => (by cases h), fun x h => ⟨_, _, by cases h; rfl⟩⟩, .inl rfl, .inl rfl⟩
/-- A list that is laid at once goes to the end of the row. -/
theorem collF_lit {T : TypeId} (hT : T ≠ 3) {xs : List Int} {fs : List Fac} {B : Nat} {w wr w1 : World} {v v' : Value} {o : Obj} (h : CollF T fs B w v wr) (hn : xs.length ≤ 1048576)
    (hown : w1.ownsRow B T 1 v' (fs.length + 1) (rowOf fs ++ [.slice (some ⟨wr.heap.size, 0, none⟩) xs.length xs.length])) (hgrow : ((wr.alloc (.cells (nums xs).toArray 3)).alloc o).grownBy w1 v.ownBlock) :
    CollF T (fs ++ [(some ⟨wr.heap.size, 0, none⟩, xs.length, xs)]) B w v' w1 :=
  collF_push hT (h.later ((Below.refl _ wr).alloc (Nat.le_refl _) _)) ((facOk_lit wr xs hn).mono h.2.2.2) hown hgrow
theorem cell_two_new (w : World) (o : Obj) (t : TypeId) (v : Value) : ∀ j u, [v][j]? = some u → ((w.alloc o).alloc (.cells #[v] t)).cell? ((⟨w.heap.size + 1, 0, none⟩ : Addr).add j) = some u := by
  have h := cell_one_new (w.alloc o) v t
  rw [show (w.alloc o).heap.size = w.heap.size + 1 by simp] at h
  exact h
set_option maxHeartbeats 1600000 in
theorem l6Letter_any (k : Nat) (w : World) (hk : k < 12) : Calls Tryz.prog 65 #[.int .i64 (k : Int)] w fun e w' => e = .returned (.int .i64 (Plain.letterAt k)) ∧ w = w' := by
  have hh : k = 0 ∨ k = 1 ∨ k = 2 ∨ k = 3 ∨ k = 4 ∨ k = 5 ∨ k = 6 ∨ k = 7 ∨ k = 8 ∨ k = 9 ∨ k = 10 ∨ k = 11 := by omega
  rcases hh with rfl | rfl | rfl | rfl | rfl | rfl | rfl | rfl | rfl | rfl | rfl | rfl
  · show Calls Tryz.prog 65 #[.int .i64 0] w _
    go_enter Tryz.func65, Tryz.ntmps65
    go_wp2_with fail
    go_ret
    exact ⟨rfl, rfl⟩
  · show Calls Tryz.prog 65 #[.int .i64 1] w _
    go_enter Tryz.func65, Tryz.ntmps65
    go_wp2_with fail
    go_ret
    exact ⟨rfl, rfl⟩
  · show Calls Tryz.prog 65 #[.int .i64 2] w _
    go_enter Tryz.func65, Tryz.ntmps65
    go_wp2_with fail
    go_ret
    exact ⟨rfl, rfl⟩
  · show Calls Tryz.prog 65 #[.int .i64 3] w _
    go_enter Tryz.func65, Tryz.ntmps65
    go_wp2_with fail
    go_ret
    exact ⟨rfl, rfl⟩
  · show Calls Tryz.prog 65 #[.int .i64 4] w _
    go_enter Tryz.func65, Tryz.ntmps65
    go_wp2_with fail
    go_ret
    exact ⟨rfl, rfl⟩
  · show Calls Tryz.prog 65 #[.int .i64 5] w _
    go_enter Tryz.func65, Tryz.ntmps65
    go_wp2_with fail
    go_ret
    exact ⟨rfl, rfl⟩
  · show Calls Tryz.prog 65 #[.int .i64 6] w _
    go_enter Tryz.func65, Tryz.ntmps65
    go_wp2_with fail
    go_ret
    exact ⟨rfl, rfl⟩
  · show Calls Tryz.prog 65 #[.int .i64 7] w _
    go_enter Tryz.func65, Tryz.ntmps65
    go_wp2_with fail
    go_ret
    exact ⟨rfl, rfl⟩
  · show Calls Tryz.prog 65 #[.int .i64 8] w _
    go_enter Tryz.func65, Tryz.ntmps65
    go_wp2_with fail
    go_ret
    exact ⟨rfl, rfl⟩
  · show Calls Tryz.prog 65 #[.int .i64 9] w _
    go_enter Tryz.func65, Tryz.ntmps65
    go_wp2_with fail
    go_ret
    exact ⟨rfl, rfl⟩
  · show Calls Tryz.prog 65 #[.int .i64 10] w _
    go_enter Tryz.func65, Tryz.ntmps65
    go_wp2_with fail
    go_ret
    exact ⟨rfl, rfl⟩
  · show Calls Tryz.prog 65 #[.int .i64 11] w _
    go_enter Tryz.func65, Tryz.ntmps65
    go_wp2_with fail
    go_ret
    exact ⟨rfl, rfl⟩
set_option maxRecDepth 100000 in
set_option maxHeartbeats 2000000 in
theorem l6Keys_any (w : World) : Calls Tryz.prog 45 #[] w (fun e w' => ∃ v fs, e = .returned v ∧ lists fs = Plain.keys ∧ CollF 22 fs w.heap.size w v w') := by
  obtain ⟨i0, hi0, hz0, hz1, hz2⟩ := info_partsL infoLL
  have HT1 : 22 ≠ 3 := by decide
  have HS := Lib.hid (collF_first 22 w)
  go_enter Tryz.func45, Tryz.ntmps45
  go_wp2_with fail
  obtain ⟨W0, hW0⟩ : ∃ W0, W0 = ((w.alloc (.cells #[] 3)).alloc (.cells #[.slice (some ⟨w.heap.size, 0, none⟩) 0 0] 22)) := ⟨_, rfl⟩
  rw [← hW0] at HS ⊢
  clear hW0
  go_loopw [1, 2] (fun v i wr => ∃ k : Nat, k ≤ 12 ∧ i = .int .i64 k ∧ ∃ fs, lists fs = [[]] ++ Plain.oneTo k ∧ CollF 22 fs w.heap.size w v wr) (fun _ i _ => 12 - (intOf i).toNat)
  case atStart => exact ⟨0, Nat.zero_le _, rfl, [(some ⟨w.heap.size, 0, none⟩, 0, [])], rfl, HS.out⟩
  case round =>
    obtain ⟨k, hk, rfl, fs, hl, hrel⟩ := hrel
    have hfl : fs.length = k + 1 := by rw [← lists_length, hl]; simp [Plain.one_len]
    by_cases hlt : k < 12
    · have HK := Lib.hid hrel
      have HL : Hid (lists fs ++ [[Plain.letterAt k]] = [[]] ++ Plain.oneTo (k + 1)) := Lib.hid (by rw [hl, Plain.one_step, List.append_assoc])
      have hi : (k : Int) < 12 := by omega
      have hi0' : (0 : Int) ≤ (k : Int) := by omega
      have hfl2 : fs.length ≤ 1000 := by omega
      have HC := Lib.hid (fun W => l6Letter_any k W hlt)
      obtain ⟨x, hx⟩ : ∃ x, x = Plain.letterAt k := ⟨_, rfl⟩
      rw [← hx] at HC HL
      clear hrel hx hl hfl
      go_wp2_with fail
      refine (HC.out _).mono ?_
      rintro e w' ⟨rfl, rfl⟩
      go_wp2_with (at_builtin; refine wpList_append_own _ rfl _ _ 39 rfl w.heap.size 22 i0 (.slice none 0 0) 1 24 Tryz.underlying39 hi0 hz0 hz1 hz2 rfl (by decide) _ _ _ rfl ((HK.out.1.alloc _).alloc _) ⟨wr.heap.size + 1, 0, none⟩ 1 1 [.slice (some ⟨wr.heap.size, 0, none⟩) 1 1] rfl rfl ?c1 ?c2 ?c3 ?c4 ?c5 ?_)
      case c1 => exact cell_two_new _ _ _ _
      case c2 => simp [Value.oneCell']
      case c3 => unfold maxLen; omega
      case c4 => omega
      case c5 => exact Nat.le_trans HK.out.2.2.2 (by simp; omega)
      intro v' w2 hown' hgrow _
      have hR := Lib.hid (collF_lit (xs := [x]) HT1 HK.out (by simp) hown' hgrow)
      clear hown' hgrow
      go_wp2_with fail
      go_roundw
      case rel => exact ⟨k + 1, by omega, by go_num, _, by rw [lists_append]; exact HL.out, hR.out⟩
      case measure => simp [intOf]; omega
    · have hk12 : k = 12 := by omega
      have hi : ¬ ((k : Int) < 12) := by omega
      rw [hk12] at hl
      have HK := Lib.hid hrel
      have HL := Lib.hid hl
      clear hrel hl hfl hk12
      go_wp2_with fail
      go_loopw [1, 3] (fun v i wr => ∃ k : Nat, k ≤ 12 ∧ i = .int .i64 k ∧ ∃ fs, lists fs = ([[]] ++ Plain.oneTo 12) ++ Plain.twoTo k ∧ CollF 22 fs w.heap.size w v wr) (fun _ i _ => 12 - (intOf i).toNat)
      case atStart => exact ⟨0, Nat.zero_le _, rfl, fs, HL.out.trans (by simp [Plain.twoTo]), HK.out⟩
      case round =>
        clear HK HL
        obtain ⟨k, hk, rfl, fs, hl, hrel⟩ := hrel
        by_cases hlt : k < 12
        · have HK := Lib.hid hrel
          have HL := Lib.hid hl
          have hi : (k : Int) < 12 := by omega
          have hi0' : (0 : Int) ≤ (k : Int) := by omega
          have hPl : (([[]] ++ Plain.oneTo 12) ++ Plain.twoTo k).length ≤ 157 := by have := Plain.two_len k; simp [Plain.one_len]; omega
          obtain ⟨P, hP⟩ : ∃ P, P = ([[]] ++ Plain.oneTo 12) ++ Plain.twoTo k := ⟨_, rfl⟩
          rw [← hP] at hPl HL
          have HN : Hid (P ++ Plain.rowTo k 12 = ([[]] ++ Plain.oneTo 12) ++ Plain.twoTo (k + 1)) := Lib.hid (by rw [Plain.two_step, hP, List.append_assoc ([[]] ++ Plain.oneTo 12)])
          have HC := Lib.hid (fun W => l6Letter_any k W hlt)
          have hxr := Plain.letterAt_ok k hlt
          have HR1 := Lib.hid (Plain.row_step k)
          obtain ⟨x, hx⟩ : ∃ x, x = Plain.letterAt k := ⟨_, rfl⟩
          rw [← hx] at HC hxr HR1
          clear hrel hl hP hx
          go_wp2_with fail
          go_loopw [1, 4] (fun v i wr => ∃ m : Nat, m ≤ 12 ∧ i = .int .i64 m ∧ ∃ fs, lists fs = P ++ Plain.rowTo k m ∧ CollF 22 fs w.heap.size w v wr) (fun _ i _ => 12 - (intOf i).toNat)
          case atStart => exact ⟨0, Nat.zero_le _, rfl, fs, HL.out.trans (by simp [Plain.rowTo]), HK.out⟩
          case round =>
            clear HK HL
            obtain ⟨m, hm, rfl, fs, hl, hrel⟩ := hrel
            by_cases hlt2 : m < 12
            · have HK := Lib.hid hrel
              have HL := Lib.hid hl
              have hrl := Plain.row_len k m
              have hfl : fs.length = P.length + (Plain.rowTo k m).length := by rw [← lists_length, hl, List.length_append]
              have hfl2 : fs.length ≤ 1000 := by omega
              have hi2 : (m : Int) < 12 := by omega
              have hi2' : (0 : Int) ≤ (m : Int) := by omega
              have HC2 := Lib.hid (fun W => l6Letter_any m W hlt2)
              have hyr := Plain.letterAt_ok m hlt2
              have HR2 := Lib.hid (HR1.out m)
              obtain ⟨y, hy⟩ : ∃ y, y = Plain.letterAt m := ⟨_, rfl⟩
              rw [← hy] at HC2 hyr HR2
              clear hrel hl hy hfl hrl
              by_cases hxy : x = -y
              · have HE : Hid (Plain.rowTo k (m + 1) = Plain.rowTo k m) := Lib.hid (HR2.out.trans (if_pos hxy))
                have hneq : (x != -y) = false := by simp [hxy]
                clear hxy
                go_wp2_with fail
                refine (HC.out _).mono ?_
                rintro e w' ⟨rfl, rfl⟩
                go_wp2_with fail
                refine (HC2.out _).mono ?_
                rintro e w' ⟨rfl, rfl⟩
                go_wp2_with fail
                go_roundw
                case rel => exact ⟨m + 1, by omega, by go_num, fs, by rw [HE.out]; exact HL.out, HK.out⟩
                case measure => simp [intOf]; omega
              · have HE : Hid (lists fs ++ [[x, y]] = P ++ Plain.rowTo k (m + 1)) := Lib.hid (by rw [HR2.out, if_neg hxy, HL.out, List.append_assoc])
                have hneq : (x != -y) = true := by simp [hxy]
                clear hxy
                go_wp2_with fail
                refine (HC.out _).mono ?_
                rintro e w' ⟨rfl, rfl⟩
                go_wp2_with fail
                refine (HC2.out _).mono ?_
                rintro e w' ⟨rfl, rfl⟩
                go_wp2_with fail
                refine (HC.out _).mono ?_
                rintro e w' ⟨rfl, rfl⟩
                go_wp2_with fail
                refine (HC2.out _).mono ?_
                rintro e w' ⟨rfl, rfl⟩
                go_wp2_with (at_builtin; refine wpList_append_own _ rfl _ _ 39 rfl w.heap.size 22 i0 (.slice none 0 0) 1 24 Tryz.underlying39 hi0 hz0 hz1 hz2 rfl (by decide) _ _ _ rfl ((HK.out.1.alloc _).alloc _) ⟨wr.heap.size + 1, 0, none⟩ 1 1 [.slice (some ⟨wr.heap.size, 0, none⟩) 2 2] rfl rfl ?c1 ?c2 ?c3 ?c4 ?c5 ?_)
                case c1 => exact cell_two_new _ _ _ _
                case c2 => simp [Value.oneCell']
                case c3 => unfold maxLen; omega
                case c4 => omega
                case c5 => exact Nat.le_trans HK.out.2.2.2 (by simp; omega)
                intro v' w2 hown' hgrow _
                have hR := Lib.hid (collF_lit (xs := [x, y]) HT1 HK.out (by simp) hown' hgrow)
                clear hown' hgrow
                go_wp2_with fail
                go_roundw
                case rel => exact ⟨m + 1, by omega, by go_num, _, by rw [lists_append]; exact HE.out, hR.out⟩
                case measure => simp [intOf]; omega
            · obtain rfl : m = 12 := by omega
              have HK := Lib.hid hrel
              have HE := Lib.hid (hl.trans HN.out)
              clear hrel hl
              go_wp2_with fail
              go_roundw
              case rel => exact ⟨k + 1, by omega, by go_num, fs, HE.out, HK.out⟩
              case measure => simp [intOf]; omega
        · obtain rfl : k = 12 := by omega
          have HK := Lib.hid hrel
          have HL := Lib.hid hl
          clear hrel hl
          go_wp2_with fail
          go_ret
          exact ⟨_, fs, rfl, HL.out, HK.out⟩

end Go.Proofs.YtobjifggelmhcaaGreat
