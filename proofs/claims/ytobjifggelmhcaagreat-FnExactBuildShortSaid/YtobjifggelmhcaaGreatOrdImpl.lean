/- Plain mathematics: all orders of a list, as chapter 6's functions make them; the first shortest one of the words built of them. Contracts: slices.Grow at a nil list, slices.Concat, at lists of int: products of lists, in new memory. Contract: impl.ordersOf: all orders of a list of at most 4 numbers, in new memory. Conditions: lengths that fit. -/
import Derived.Test.YtobjifggelmhcaaGreatBuildMath
import Derived.Test.YtobjifggelmhcaaGreatFamMath
import Derived.Test.YtobjifggelmhcaaGreatConcatWalks
import Derived.Test.YtobjifggelmhcaaGreatKeyAt
import Derived.Test.YtobjifggelmhcaaGreatTrimSpec
import Derived.Maps.AppendAt
import Derived.Deep.DeepCutAuto
import Derived.Deep.CutRange
namespace Go.Proofs.YtobjifggelmhcaaGreat.Plain
set_option linter.unusedVariables false

/-- A list without its number i. -/
def cutAt (l : List Int) (i : Nat) : List Int := l.take i ++ l.drop (i + 1)
theorem cutAt_length {l : List Int} {i n : Nat} (h : l.length = n + 1) (hi : i < l.length) : (cutAt l i).length = n := by
  simp only [cutAt, List.length_append, List.length_take, List.length_drop]; omega
theorem cutAt_mem {l : List Int} {i : Nat} {x : Int} (h : x ∈ cutAt l i) : x ∈ l := by
  rcases List.mem_append.1 h with h | h
  · exact List.mem_of_mem_take h
  · exact List.mem_of_mem_drop h
/-- All orders of a list of n numbers. -/
def ords : Nat → List Int → List (List Int)
  | 0, _ => [[]]
  | n + 1, l => (List.range l.length).flatMap fun i => (ords n (cutAt l i)).map fun r => l.getD i 0 :: r
/-- Those that begin with one of the first k numbers. -/
def ordsTo (n : Nat) (l : List Int) (k : Nat) : List (List Int) := (List.range k).flatMap fun i => (ords n (cutAt l i)).map fun r => l.getD i 0 :: r
theorem ords_all (n : Nat) (l : List Int) : ords (n + 1) l = ordsTo n l l.length := rfl
theorem ordsTo_start (n : Nat) (l : List Int) : ordsTo n l 0 = [] := rfl
theorem ordsTo_step (n : Nat) {l : List Int} {k : Nat} {x : Int} (hx : l[k]? = some x) : ordsTo n l (k + 1) = ordsTo n l k ++ (ords n (cutAt l k)).map fun r => x :: r := by
  simp [ordsTo, List.range_succ, List.flatMap_append, List.getD, hx]
/-- The inner loop's: the first j of what is behind the number x. -/
theorem ordsRow_step {rs : List (List Int)} {j : Nat} {r : List Int} (x : Int) (h : rs[j]? = some r) : (rs.take (j + 1)).map (fun r => x :: r) = (rs.take j).map (fun r => x :: r) ++ [x :: r] := by
  rw [List.take_add_one, h]; simp
def fac : Nat → Nat
  | 0 => 1
  | n + 1 => (n + 1) * fac n
theorem flat_length {α : Type} {f : Nat → List α} {m : Nat} : ∀ {k : Nat}, (∀ i, i < k → (f i).length = m) → ((List.range k).flatMap f).length = k * m
  | 0, _ => by simp
  | k + 1, h => by
    rw [List.range_succ, List.flatMap_append, List.length_append, flat_length (fun i hi => h i (by omega))]
    simp [h k (by omega), Nat.add_mul]
theorem ords_length : ∀ (n : Nat) (l : List Int), l.length = n → (ords n l).length = fac n
  | 0, l, _ => rfl
  | n + 1, l, h => by
    rw [ords, flat_length (m := fac n) (fun i hi => by rw [List.length_map, ords_length n _ (cutAt_length h hi)]), h, fac]
theorem ordsTo_length {n : Nat} {l : List Int} (h : l.length = n + 1) {k : Nat} (hk : k ≤ l.length) : (ordsTo n l k).length = k * fac n := by
  rw [ordsTo, flat_length (m := fac n) (fun i hi => by rw [List.length_map, ords_length n _ (cutAt_length h (by omega))])]
theorem fac_four {n : Nat} (h : n ≤ 4) : fac n ≤ 24 := by
  rcases (by omega : n = 0 ∨ n = 1 ∨ n = 2 ∨ n = 3 ∨ n = 4) with rfl | rfl | rfl | rfl | rfl <;> decide
theorem ords_mem : ∀ (n : Nat) (l : List Int), l.length = n → ∀ r ∈ ords n l, r.length = n ∧ ∀ x ∈ r, x ∈ l
  | 0, l, _, r, hr => by
    obtain rfl : r = [] := by simpa [ords] using hr
    exact ⟨rfl, fun x hx => by simp at hx⟩
  | n + 1, l, h, r, hr => by
    rw [ords, List.mem_flatMap] at hr
    obtain ⟨i, hi, hr⟩ := hr
    obtain ⟨q, hq, rfl⟩ := List.mem_map.1 hr
    have hi2 : i < l.length := by simpa using hi
    obtain ⟨h1, h2⟩ := ords_mem n _ (cutAt_length h hi2) q hq
    refine ⟨by rw [List.length_cons, h1], fun x hx => ?_⟩
    rcases List.mem_cons.1 hx with rfl | hx
    · rw [List.getD, List.getElem?_eq_getElem hi2]; exact List.getElem_mem hi2
    · exact cutAt_mem (h2 x hx)
theorem ords_sets {l r : List Int} (h : setsB l = true) (hr : r ∈ ords l.length l) : setsB r = true := by
  simp only [setsB, List.all_eq_true] at h ⊢
  exact fun x hx => h x ((ords_mem _ l rfl r hr).2 x hx)
/-! the first shortest one -/
def shorter (best : Option (List Int)) (r : List Int) : Option (List Int) := if builtB r = true then (match best with | none => some (builtW r) | some b => if lessB (builtW r) b = true then some (builtW r) else some b) else best
def leadTo (L : List (List Int)) (k : Nat) : Option (List Int) := (L.take k).foldl shorter none
theorem leadTo_start (L : List (List Int)) : leadTo L 0 = none := by simp [leadTo]
theorem leadTo_step {L : List (List Int)} {k : Nat} {r : List Int} (h : L[k]? = some r) : leadTo L (k + 1) = shorter (leadTo L k) r := by
  rw [leadTo, leadTo, List.take_add_one, h]; simp [List.foldl_append]
def shortOf (l : List Int) : Option (List Int) := leadTo (ords l.length l) (ords l.length l).length
def shortW (l : List Int) : List Int := (shortOf l).getD []
def shortB (l : List Int) : Bool := (shortOf l).isSome
theorem shorter_no {best : Option (List Int)} {r : List Int} (h : builtB r = false) : shorter best r = best := by simp [shorter, h]
theorem shorter_first {r : List Int} (h : builtB r = true) : shorter none r = some (builtW r) := by simp [shorter, h]
theorem shorter_less {b r : List Int} (h : builtB r = true) (hl : lessB (builtW r) b = true) : shorter (some b) r = some (builtW r) := by simp [shorter, h, hl]
theorem shorter_keeps {b r : List Int} (h : builtB r = true) (hl : lessB (builtW r) b = false) : shorter (some b) r = some b := by simp [shorter, h, hl]
end Go.Proofs.YtobjifggelmhcaaGreat.Plain

namespace Go.Proofs.YtobjifggelmhcaaGreat
open Go.ChangeShapes Go.WideShapes Go.ChangeAt Go.RowKit
set_option linter.unusedVariables false

set_option maxRecDepth 100000 in
theorem growI_nil (n : Nat) (hn : n ≤ 1048576) (w : World) :
    Calls Tryz.prog 62 #[.slice none 0 0, .int .i64 (n : Int)] w fun e w' => ∃ v, e = .returned v ∧ Coll [] w.heap.size w v w' := by
  by_cases h0 : n = 0
  · subst h0
    go_enter Tryz.func62, Tryz.ntmps62
    go_wp2
    go_ret
    exact ⟨_, rfl, World.ownsRow_nil _ _ _ _, Below.refl _ _, Nat.le_refl _⟩
  · obtain ⟨i0, hi0, hz0, hz1, hz2⟩ := info_parts infoInt
    have hrz : ∀ ty, (Builtin.append_ #[22, 3] ty #[.slice none 0 0, .int .i64 (n : Int)]).run Tryz.prog w =
        .ok (.slice (some ⟨w.heap.size, 0, none⟩) n (grownCap w n 0 3)) (w.drew.alloc (.cells (Builtin.zeroCells (Value.int .i64 0).cells n ++ Builtin.zeroCells (Value.int .i64 0).cells (grownCap w n 0 3 - n)) 3)) := fun ty => by
      have h := Lib.run_append_grow_zeros w 22 3 ty 3 i0 (.int .i64 0) .i64 .i64 Tryz.underlying22 Tryz.underlying3 hi0 hz0 none 0 0 [] (run_firstCells_none w.drew i0.size 0 0 0) n (by omega) (by rw [hz1]; decide) (by omega) (by omega) (by rw [hz2]; omega)
        (by simp only [Nat.zero_add]; exact growslice_fits (by omega) (by rw [hz2]; omega))
      simpa using h
    have hGn : n ≤ grownCap w n 0 3 := grownCap_ge w _ _ _
    have hGm : grownCap w n 0 3 ≤ maxLen := grownCap_le_maxLen w n 0 3 (by unfold maxLen; omega)
    obtain ⟨G, hG⟩ : ∃ G, G = grownCap w n 0 3 := ⟨_, rfl⟩
    rw [← hG] at hrz hGn hGm
    have hG63 : G ≤ 9223372036854775807 := by unfold maxLen at hGm; omega
    have HR : Hid (Coll [] w.heap.size w (.slice (some ⟨w.heap.size, 0, none⟩) 0 G) (w.drew.alloc (.cells (Builtin.zeroCells (Value.int .i64 0).cells n ++ Builtin.zeroCells (Value.int .i64 0).cells (G - n)) 3))) := Lib.hid (by
      refine ⟨?_, ((Below.refl _ w).drew).alloc (Nat.le_refl _) _, by simp⟩
      exact World.ownsRow_made (base := w.heap.size) (size := 1) (e := 3) w.drew _ G (Nat.le_refl _) hGm (by rw [Array.size_append, zeroCells_size, zeroCells_size]; simp [Value.cells]; omega))
    clear hG hGm
    have hn0 : ¬ ((n : Int) < 0) := by omega
    have hn1 : (0 : Int) < (n : Int) := by omega
    go_enter Tryz.func62, Tryz.ntmps62
    go_wp2_with (at_builtin; refine Lib.wpList_append_run _ rfl _ _ _ _ rfl _ _ rfl rfl _ _ (hrz _) ?_)
    all_goals (go_ret; exact ⟨_, rfl, HR.out⟩)

set_option maxRecDepth 100000 in
set_option maxHeartbeats 800000 in
theorem concatI_any (a : Option Addr) (cap : Nat) (fs : List Fac) (w : World) (h : Hid (Facs w a fs)) (hn : fs.length ≤ 1048576) (hf : (flat fs).length ≤ 1048576) :
    Calls Tryz.prog 40 #[.slice a fs.length cap] w fun e w' => ∃ v, e = .returned v ∧ Coll (flat fs) w.heap.size w v w' := by
  obtain ⟨i0, hi0, hz0, hz1, hz2⟩ := info_parts infoInt
  go_enter Tryz.func40, Tryz.ntmps40
  go_wp2
  go_loop [3, 11] (fun s i => ∃ k : Nat, k ≤ fs.length ∧ i = .int .i64 k ∧ s = .int .i64 ((flat (fs.take k)).length : Nat)) (fun _ i => fs.length - (intOf i).toNat)
  case atStart => exact ⟨0, Nat.zero_le _, rfl, rfl⟩
  case round =>
    obtain ⟨k, hk, rfl, rfl⟩ := hrel
    have hle := flat_le fs k
    by_cases hlt : k < fs.length
    · obtain ⟨f, hx⟩ := at_some fs k hlt
      obtain ⟨⟨b, o, rfl, hc⟩, hfi, hfk⟩ := h.out k f hx
      have hft := flat_take hx
      have hle2 := flat_le fs (k + 1)
      obtain ⟨fa, fc, fl⟩ := f
      dsimp only at hc hft
      have hlen : (flat (fs.take (k + 1))).length = (flat (fs.take k)).length + fl.length := by rw [hft, List.length_append]
      have HL := Lib.hid hlen
      rw [hlen] at hle2
      generalize (flat (fs.take k)).length = s at HL hle hle2 ⊢
      clear hft hlen hx hfi hfk
      go_wp2
      go_round
      case rel => exact ⟨k + 1, by omega, by go_num, by rw [HL.out]; go_num⟩
      case measure => simp [intOf]; omega
    · obtain rfl : k = fs.length := by omega
      rw [flat_all] at hle ⊢
      go_wp2_with (go_at_call 62; refine (growI_nil _ hf _).mono ?_; rintro e w1 ⟨v1, rfl, hC⟩)
      have HC := Lib.hid hC
      clear hC
      go_wp2
      go_loopw [6, 27] (fun v i wr => ∃ k : Nat, k ≤ fs.length ∧ i = .int .i64 k ∧ Coll (flat (fs.take k)) w.heap.size w v wr) (fun _ i _ => fs.length - (intOf i).toNat)
      case atStart => exact ⟨0, Nat.zero_le _, rfl, HC.out⟩
      case round =>
        obtain ⟨k, hk, rfl, hrel⟩ := hrel
        have hle := flat_le fs k
        by_cases hlt : k < fs.length
        · obtain ⟨f, hx⟩ := at_some fs k hlt
          obtain ⟨⟨b, o, rfl, hc⟩, hfi, hfk⟩ := (h.out.on hrel.2.1) k f hx
          have HL := Lib.hid (flat_take hx)
          have hle2 := flat_le fs (k + 1)
          rw [flat_take hx, List.length_append] at hle2
          obtain ⟨fa, fc, fl⟩ := f
          have HI := Lib.hid hfi
          have HK := Lib.hid hfk
          dsimp only at hc HL HI HK hle2
          have HR := Lib.hid hrel
          generalize flat (fs.take k) = L at HL hle hle2 HR ⊢
          clear hx hfi hfk hrel
          go_wp2_with (at_builtin; refine wpList_append_ints rfl _ _ 22 i0 rfl Tryz.underlying22 hi0 hz0 hz1 hz2 w.heap.size _ L.length L rfl HR.out.1 fa fl.length fc fl rfl rfl HI.out HK.out (by omega) HR.out.2.2 ?_)
          intro v' w2 hown hgrow hnil
          have HN := Lib.hid (coll_more HR.out rfl hown hgrow)
          clear hown hgrow hnil
          go_wp2
          go_roundw
          case rel => exact ⟨k + 1, by omega, by go_num, by rw [HL.out]; exact HN.out⟩
          case measure => simp [intOf]; omega
        · obtain rfl : k = fs.length := by omega
          rw [flat_all] at hrel
          have HR := Lib.hid hrel
          clear hrel
          go_wp2
          go_ret
          exact ⟨_, rfl, HR.out⟩

end Go.Proofs.YtobjifggelmhcaaGreat

namespace Go.Proofs.YtobjifggelmhcaaGreat
open Go.ChangeShapes Go.WideShapes Go.ChangeAt Go.RowKit
set_option linter.unusedVariables false

theorem flat_cutI (a1 a2 : Option Addr) (c1 c2 : Nat) (ys zs : List Int) : flat [((a1, c1, ys) : Fac), (a2, c2, zs)] = ys ++ zs := by simp [flat]
/-- What both functions of orders hand back. -/
def OrdPost (L : List (List Int)) (w : World) (e : Ending) (w' : World) : Prop := ∃ v fs, e = .returned v ∧ lists fs = L ∧ CollF 22 fs w.heap.size w v w'
/-- One empty list among others. -/
theorem ord_none (w : World) : CollF 22 [((some ⟨w.heap.size, 0, none⟩, 0, []) : Fac)] w.heap.size w (.slice (some ⟨w.heap.size + 1, 0, none⟩) 1 1) ((w.alloc (.cells #[] 3)).alloc (.cells #[.slice (some ⟨w.heap.size, 0, none⟩) 0 0] 22)) := by
  have hb1 : Below w.heap.size w (w.alloc (.cells #[] 3)) := (Below.refl _ _).alloc (Nat.le_refl _) _
  have hb : Below w.heap.size w ((w.alloc (.cells #[] 3)).alloc (.cells #[.slice (some ⟨w.heap.size, 0, none⟩) 0 0] 22)) := hb1.alloc (by simp) _
  have hh : ((w.alloc (.cells #[] 3)).alloc (.cells #[.slice (some ⟨w.heap.size, 0, none⟩) 0 0] 22)).heap[w.heap.size + 1]? = some (.cells #[.slice (some ⟨w.heap.size, 0, none⟩) 0 0] 22 (0, 0)) := heap_alloc2_new w _ _
  refine ⟨⟨by simp [rowOf], .inr ⟨w.heap.size + 1, 1, _, rfl, by omega, hh, Nat.le_refl _, by unfold maxLen; omega, rfl, by simp [rowOf, facVal]⟩⟩, fun f hf => ?_, hb, hb.size⟩
  obtain rfl := List.mem_singleton.1 hf
  exact ⟨Ints.nil _ _, ⟨Nat.le_refl _, Nat.zero_le _, fun h => (by cases h), fun x h => ⟨_, _, by cases h; rfl⟩⟩, .inl rfl, .inl rfl⟩
/-- The inner loop's relation. -/
def Inner (w : World) (x : Int) (P : List (List Int)) (rs : List Fac) (a2 : Option Addr) (v : Value) (j : Nat) (wr : World) : Prop :=
  ∃ hs, lists hs = P ++ ((lists rs).take j).map (fun r => x :: r) ∧ CollF 22 hs w.heap.size w v wr ∧ Facs wr a2 rs ∧ (∀ f ∈ rs, FacOk w.heap.size wr f) ∧ (∀ b o, a2 = some ⟨b, o, none⟩ → some b ≠ v.ownBlock)
/-- What the region of a number that is taken out leaves. -/
def CutI (W : World) (l : List Int) (k : Nat) (v : Value) (wx : World) : Prop := ∃ a c, v = .slice a (Plain.cutAt l k).length c ∧ Ints wx a (Plain.cutAt l k) ∧ Cap a (Plain.cutAt l k).length c ∧ Below W.heap.size W wx
set_option maxRecDepth 100000 in
set_option maxHeartbeats 8000000 in
theorem ordersOf_any : ∀ (n : Nat) (a : Option Addr) (cap : Nat) (l : List Int) (w : World), l.length = n → n ≤ 4 → Hid (Ints w a l) → Hid (Cap a l.length cap) → Calls Tryz.prog 26 #[.slice a l.length cap] w (OrdPost (Plain.ords n l) w)
  | 0, a, cap, l, w, hl, hn, h, hcp => by
    obtain rfl : l = [] := List.eq_nil_of_length_eq_zero hl
    have HS := Lib.hid (ord_none w)
    go_enter Tryz.func26, Tryz.ntmps26
    go_wp2_with fail
    go_ret
    exact ⟨_, _, rfl, rfl, HS.out⟩
  | n + 1, a, cap, l, w, hl, hn, h, hcp => by
    obtain ⟨i0, hi0, hz0, hz1, hz2⟩ := info_partsL infoLL
    have HT1 : 22 ≠ 3 := by decide
    have HS := Lib.hid (collF_start 22 w)
    have hl4 : l.length ≤ 4 := by omega
    have hl0 : ¬ l.length = 0 := by omega
    have hq : ((l.length : Int) == 0) = false := beq_false_of_ne (by omega)
    have HLN := Lib.hid hl
    have HREC := Lib.hid (fun (a : Option Addr) (cap : Nat) (q : List Int) (w : World) (h1 : q.length = n) (h2 : Hid (Ints w a q)) (h3 : Hid (Cap a q.length cap)) => ordersOf_any n a cap q w h1 (by omega) h2 h3)
    have HN4 := Lib.hid hn
    clear hl hn hl0
    go_enter Tryz.func26, Tryz.ntmps26
    go_wp2_with fail
    go_loopw [3, 17] (fun v i wr => ∃ k : Nat, k ≤ l.length ∧ i = .int .i64 k ∧ ∃ gs, lists gs = Plain.ordsTo n l k ∧ CollF 22 gs w.heap.size w v wr) (fun _ i _ => l.length - (intOf i).toNat)
    case atStart => exact ⟨0, Nat.zero_le _, rfl, [], rfl, HS.out⟩
    case round =>
      clear HS
      obtain ⟨k, hk, rfl, gs, hgl, hrel⟩ := hrel
      by_cases hlt : k < l.length
      · obtain ⟨x, hx⟩ := at_some l k hlt
        obtain ⟨b, o, rfl, hc⟩ := (h.out.on hrel.2.2.1) k x hx
        have HSTEP := Lib.hid (Plain.ordsTo_step n hx)
        have HROW := Lib.hid (fun rs j r => @Plain.ordsRow_step rs j r x)
        have HK := Lib.hid hrel
        have HL := Lib.hid hgl
        have HIX := Lib.hid (h.out.on hrel.2.2.1)
        have hi : (k : Int) < (l.length : Int) := by omega
        have hi0' : (0 : Int) ≤ (k : Int) := by omega
        have hc1 := hcp.out.1
        have hc2 := hcp.out.2.1
        have hk0 : (k : Int) + 1 ≤ (l.length : Int) := by omega
        have hk1 : (k : Int) ≤ (cap : Int) := by omega
        have hk3 : (k : Int) + 1 ≤ (cap : Int) := by omega
        have hk4 : (l.length : Int) ≤ (cap : Int) := by omega
        have hk5 : (0 : Int) ≤ (k : Int) + 1 := by omega
        have hwi : IntKind.i64.wrap ((k : Int) + 1) = (k : Int) + 1 := IntWalk.i64_in _ (by omega)
        have hnt : ((k : Int) + 1).toNat = k + 1 := by omega
        have hzn := Plain.cutAt_length HLN.out hlt
        have HZS : Hid (l.take k ++ l.drop (k + 1) = Plain.cutAt l k) := Lib.hid rfl
        have hzl : (l.take k ++ l.drop (k + 1)).length ≤ 4 := by rw [HZS.out, hzn]; have := HN4.out; omega
        obtain ⟨zs, hzs⟩ : ∃ zs, zs = l.take k ++ l.drop (k + 1) := ⟨_, rfl⟩
        rw [← hzs] at HZS hzl
        have HFL : Hid (∀ (a1 a2 : Option Addr) (c1 c2 : Nat), flat [((a1, c1, l.take k) : Fac), (a2, c2, l.drop (k + 1))] = zs) := Lib.hid (fun a1 a2 c1 c2 => by rw [hzs]; exact flat_cutI _ _ _ _ _ _)
        have HZN := Lib.hid hzn
        obtain ⟨W, hW⟩ : ∃ W, W = wr := ⟨_, rfl⟩
        clear hx hzs hrel hgl hzn
        subst hW
        go_upto_region 7 with fail
        clear hc
        go_cut [6] from 22 to 30 (fun s wx => CutI W l k s wx)
        case first =>
          clear HK HL HREC
          by_cases hcap : cap = k + 1
          · skip
            have HC := Lib.hid (cut_end HIX.out hcp.out hlt hcap)
            subst hcap
            have hk6 : (k : Int) ≤ (k : Int) + 1 := by omega
            have hk7 : (l.length : Int) ≤ (k : Int) + 1 := by omega
            have HK0 : Hid (Cap (some ⟨b, o, none⟩) 0 0) := Lib.hid ⟨Nat.le_refl _, by omega, fun h => (by cases h), fun x h => ⟨b, o, by cases h; rfl⟩⟩
            have HE0 : Hid ((l.drop (k + 1)).length = 0) := Lib.hid (by rw [List.length_drop]; omega)
            have h0 := fac_new2 W ((some ⟨b, o, none⟩, (k + 1), l.take k) : Fac) (some ⟨b, o, none⟩, 0, l.drop (k + 1)) 22 HC.out.i1 (by show Cap _ (l.take k).length _; rw [HC.out.e1]; exact HC.out.k1) HC.out.i2 (by show Cap _ (l.drop (k + 1)).length _; rw [HE0.out]; exact HK0.out)
            have h1 : Facs (W.alloc (.cells #[.slice (some ⟨b, o, none⟩) k (k + 1), .slice (some ⟨b, o, none⟩) 0 0] 22)) (some ⟨W.heap.size, 0, none⟩) [((some ⟨b, o, none⟩, (k + 1), l.take k) : Fac), (some ⟨b, o, none⟩, 0, l.drop (k + 1))] := by simpa only [HC.out.e1, HE0.out] using h0
            have hfs : Facs ((W.alloc (.cells #[.slice (some ⟨b, o, none⟩) k (k + 1), .slice (some ⟨b, o, none⟩) 0 0] 22)).drew) (some ⟨W.heap.size, 0, none⟩) [((some ⟨b, o, none⟩, (k + 1), l.take k) : Fac), (some ⟨b, o, none⟩, 0, l.drop (k + 1))] := h1
            have hcc := concatI_any (some ⟨W.heap.size, 0, none⟩) 2 [((some ⟨b, o, none⟩, (k + 1), l.take k) : Fac), (some ⟨b, o, none⟩, 0, l.drop (k + 1))] _ (Lib.hid hfs) (by simp) (by rw [HFL.out]; omega)
            rw [HFL.out] at hcc
            have HCC := Lib.hid hcc
            have hbs : Below W.heap.size W ((W.alloc (.cells #[.slice (some ⟨b, o, none⟩) k (k + 1), .slice (some ⟨b, o, none⟩) 0 0] 22)).drew) := ((Below.refl W.heap.size W).alloc (Nat.le_refl _) _).drew
            have HBS := Lib.hid hbs
            clear hcc hfs hbs h0 h1
            go_wp2_with fail
            go_region_law (go_simp; first
              | (go_at_call 40; refine HCC.out.mono ?_; rintro e w1 ⟨v1, rfl, hC⟩; have HRD := Lib.hid (HBS.out.trans (hC.2.1.mono HBS.out.size)); obtain ⟨⟨a5, c5, rfl, hi5, -, hk5⟩, -⟩ := coll_res hC; have I5 := Lib.hid (And.intro hi5 hk5); clear hC hi5 hk5))
            all_goals
              go_wp2_with fail
              go_meet
              case rel => exact ⟨a5, c5, by rw [← HZS.out], by rw [← HZS.out]; exact I5.out.1, by rw [← HZS.out]; exact I5.out.2, HRD.out⟩
          · skip
            have HC := Lib.hid (cut_mid HIX.out hcp.out hlt)
            have h0 := fac_new2 W ((some ⟨b, o, none⟩, cap, l.take k) : Fac) (some ⟨b, o + (k + 1), none⟩, (cap - (k + 1)), l.drop (k + 1)) 22 HC.out.i1 (by show Cap _ (l.take k).length _; rw [HC.out.e1]; exact HC.out.k1) HC.out.i2 (by show Cap _ (l.drop (k + 1)).length _; rw [HC.out.e2]; exact HC.out.k2)
            have h1 : Facs (W.alloc (.cells #[.slice (some ⟨b, o, none⟩) k cap, .slice (some ⟨b, o + (k + 1), none⟩) (l.length - (k + 1)) (cap - (k + 1))] 22)) (some ⟨W.heap.size, 0, none⟩) [((some ⟨b, o, none⟩, cap, l.take k) : Fac), (some ⟨b, o + (k + 1), none⟩, (cap - (k + 1)), l.drop (k + 1))] := by simpa only [HC.out.e1, HC.out.e2] using h0
            have hfs : Facs ((W.alloc (.cells #[.slice (some ⟨b, o, none⟩) k cap, .slice (some ⟨b, o + (k + 1), none⟩) (l.length - (k + 1)) (cap - (k + 1))] 22)).drew) (some ⟨W.heap.size, 0, none⟩) [((some ⟨b, o, none⟩, cap, l.take k) : Fac), (some ⟨b, o + (k + 1), none⟩, (cap - (k + 1)), l.drop (k + 1))] := h1
            have hcc := concatI_any (some ⟨W.heap.size, 0, none⟩) 2 [((some ⟨b, o, none⟩, cap, l.take k) : Fac), (some ⟨b, o + (k + 1), none⟩, (cap - (k + 1)), l.drop (k + 1))] _ (Lib.hid hfs) (by simp) (by rw [HFL.out]; omega)
            rw [HFL.out] at hcc
            have HCC := Lib.hid hcc
            have hbs : Below W.heap.size W ((W.alloc (.cells #[.slice (some ⟨b, o, none⟩) k cap, .slice (some ⟨b, o + (k + 1), none⟩) (l.length - (k + 1)) (cap - (k + 1))] 22)).drew) := ((Below.refl W.heap.size W).alloc (Nat.le_refl _) _).drew
            have HBS := Lib.hid hbs
            clear hcc hfs hbs h0 h1
            go_wp2_with fail
            go_region_law (go_simp; first
              | (go_at_call 40; refine HCC.out.mono ?_; rintro e w1 ⟨v1, rfl, hC⟩; have HRD := Lib.hid (HBS.out.trans (hC.2.1.mono HBS.out.size)); obtain ⟨⟨a5, c5, rfl, hi5, -, hk5⟩, -⟩ := coll_res hC; have I5 := Lib.hid (And.intro hi5 hk5); clear hC hi5 hk5))
            all_goals
              go_wp2_with fail
              go_meet
              case rel => exact ⟨a5, c5, by rw [← HZS.out], by rw [← HZS.out]; exact I5.out.1, by rw [← HZS.out]; exact I5.out.2, HRD.out⟩
        case rest =>
          obtain ⟨a6, c6, rfl, hi6, hk6, hbx⟩ := hcut
          have HM6 := Lib.hid (And.intro hi6 hk6)
          have HK6 := Lib.hid (HK.out.later hbx)
          clear hi6 hk6 hbx HFL HZS HIX HK
          generalize wc = wy at HM6 HK6 ⊢
          obtain ⟨d, hd⟩ : ∃ d, d = Plain.cutAt l k := ⟨_, rfl⟩
          rw [← hd] at HM6 HSTEP HZN ⊢
          clear hd
          have hPl : (Plain.ordsTo n l k).length ≤ 100 := by
            rw [Plain.ordsTo_length HLN.out hk]
            have h1 := Plain.fac_four (n := n) (by have := HN4.out; omega)
            have h2 : k * Plain.fac n ≤ 4 * 24 := Nat.mul_le_mul (by omega) h1
            omega
          have hRl : (Plain.ords n d).length ≤ 24 := by rw [Plain.ords_length n d HZN.out]; exact Plain.fac_four (by have := HN4.out; omega)
          obtain ⟨P, hP⟩ : ∃ P, P = Plain.ordsTo n l k := ⟨_, rfl⟩
          rw [← hP] at hPl HL HSTEP
          clear hP
          go_wp2_with fail
          refine (HREC.out _ _ d _ HZN.out (Lib.hid HM6.out.1) (Lib.hid HM6.out.2)).mono ?_
          rintro e w2 ⟨v2, rs, rfl, hrl, hC⟩
          have hrs : rs.length ≤ 24 := by rw [← lists_length, hrl]; exact hRl
          have HLEN : Hid (∀ f ∈ rs, f.2.2.length ≤ 4) := Lib.hid (fun f hf => by
            have h1 : f.2.2 ∈ Plain.ords n d := by rw [← hrl]; exact List.mem_map_of_mem hf
            rw [(Plain.ords_mem n d HZN.out _ h1).1]
            have := HN4.out
            omega)
          rw [← hrl] at HSTEP
          have HK7 := Lib.hid (HK6.out.later hC.2.2.1)
          have HOK := Lib.hid (fun f hf => (hC.2.1 f hf).mono HK6.out.2.2.2)
          obtain ⟨a2, c2, rfl, hf2, -, hbb, -⟩ := collF_facs hC
          have HNE : Hid (∀ b o, a2 = some ⟨b, o, none⟩ → some b ≠ u3.ownBlock) := Lib.hid (fun b o e he => by
            have h1 := (hbb b o e).1
            have h2 := (HK6.out.1.lt b he.symm).2
            omega)
          have HF2 := Lib.hid hf2
          clear hC hf2 hbb hrl hRl HM6 HK6 HREC HLN HN4 HZN
          go_wp2_with fail
          go_loopw [3, 34] (fun v i wr => ∃ j : Nat, j ≤ rs.length ∧ i = .int .i64 j ∧ Inner w x P rs a2 v j wr) (fun _ i _ => rs.length - (intOf i).toNat)
          case atStart => exact ⟨0, Nat.zero_le _, rfl, gs, by rw [HL.out]; simp, HK7.out, HF2.out, HOK.out, HNE.out⟩
          case round =>
            clear HK7 HF2 HOK HNE HL
            obtain ⟨j, hj, rfl, hs, hsl, hck, hfa, hok, hne⟩ := hrel
            by_cases hlt2 : j < rs.length
            · obtain ⟨f, hf⟩ := at_some rs j hlt2
              obtain ⟨⟨b2, o2, rfl, hc5⟩, hfi, hfk⟩ := hfa j f hf
              have HR2 := Lib.hid (HROW.out (lists rs) j f.2.2 (lists_at hf))
              have hbl : b2 < wr.heap.size := by have := World.block_lt_of_cell? _ _ hc5; simpa using this
              have hsn : hs.length ≤ 124 := by
                rw [← lists_length, hsl, List.length_append, List.length_map, List.length_take]; omega
              have hfll := HLEN.out f (List.mem_of_getElem? hf)
              obtain ⟨fa, fc, fl⟩ := f
              dsimp only at hc5 hfi hfk HR2 hfll
              have HFI := Lib.hid (And.intro hfi hfk)
              have HCK := Lib.hid hck
              have HSL := Lib.hid hsl
              have HFA := Lib.hid hfa
              have HOK := Lib.hid hok
              have HNE := Lib.hid hne
              have hj2 : (j : Int) < (rs.length : Int) := by omega
              have hj0 : (0 : Int) ≤ (j : Int) := by omega
              clear hf hfi hfk hck hsl hfa hok hne
              go_wp2_with fail
              have hlit := facOk_lit wr [x] (by simp)
              have hb1 : Below wr.heap.size wr (wr.alloc (.cells #[.int .i64 x] 3)) := (Below.refl _ wr).alloc (Nat.le_refl _) _
              have hfs := fac_new2 (wr.alloc (.cells #[.int .i64 x] 3)) (some ⟨wr.heap.size, 0, none⟩, 1, [x]) (fa, fc, fl) 22 hlit.1 hlit.2.1 (HFI.out.1.on hb1) HFI.out.2
              rw [show (wr.alloc (.cells #[.int .i64 x] 3)).heap.size = wr.heap.size + 1 by simp] at hfs
              have hb2 : Below wr.heap.size wr ((wr.alloc (.cells #[.int .i64 x] 3)).alloc (.cells #[.slice (some ⟨wr.heap.size, 0, none⟩) 1 1, .slice fa fl.length fc] 22)) := hb1.alloc (by simp) _
              have hok2 : ∀ f ∈ rs, FacOk w.heap.size ((wr.alloc (.cells #[.int .i64 x] 3)).alloc (.cells #[.slice (some ⟨wr.heap.size, 0, none⟩) 1 1, .slice fa fl.length fc] 22)) f := fun f hf => (HOK.out f hf).on hb2
              have H2 := Lib.hid (And.intro (HCK.out.later hb2) (And.intro (HFA.out.on hb2) (And.intro hok2 (And.intro hfs hb2.size))))
              clear hlit hb1 hfs hb2 hok2 HCK HFA HOK HFI
              obtain ⟨W2, hW2⟩ : ∃ W2, W2 = ((wr.alloc (.cells #[.int .i64 x] 3)).alloc (.cells #[.slice (some ⟨wr.heap.size, 0, none⟩) 1 1, .slice fa fl.length fc] 22)) := ⟨_, rfl⟩
              have H3 : Hid (CollF 22 hs w.heap.size w u3 W2 ∧ Facs W2 (some ⟨b2, o2, none⟩) rs ∧ (∀ f ∈ rs, FacOk w.heap.size W2 f) ∧ Facs W2 (some ⟨wr.heap.size + 1, 0, none⟩) [(some ⟨wr.heap.size, 0, none⟩, 1, [x]), (fa, fc, fl)] ∧ wr.heap.size ≤ W2.heap.size) := Lib.hid (by rw [hW2]; exact H2.out)
              rw [← hW2]
              clear hW2 H2
              have hcc := concatI_any (some ⟨wr.heap.size + 1, 0, none⟩) 2 [((some ⟨wr.heap.size, 0, none⟩, 1, [x]) : Fac), (fa, fc, fl)] W2 (Lib.hid H3.out.2.2.2.1) (by simp) (by simp [flat]; omega)
              rw [show flat [((some ⟨wr.heap.size, 0, none⟩, 1, [x]) : Fac), (fa, fc, fl)] = x :: fl by simp [flat]] at hcc
              obtain ⟨zs, hzs⟩ : ∃ zs, zs = x :: fl := ⟨_, rfl⟩
              have hzl : zs.length ≤ 5 := by rw [hzs, List.length_cons]; omega
              rw [← hzs] at hcc HR2
              have HE : Hid (lists hs ++ [zs] = P ++ ((lists rs).take (j + 1)).map (fun r => x :: r)) := Lib.hid (by rw [HR2.out, HSL.out, List.append_assoc])
              refine Calls.mono hcc ?_
              clear hcc hzs
              rintro e w3 ⟨v3, rfl, hC⟩
              obtain ⟨a5, c5, rfl, hok5⟩ := facOk_coll hC
              have hok3 : ∀ f ∈ rs, FacOk w.heap.size w3 f := fun f hf => (H3.out.2.2.1 f hf).on hC.2.1
              have HK3 := Lib.hid (And.intro (H3.out.1.later hC.2.1) (And.intro (H3.out.2.1.on hC.2.1) (And.intro hok3 (hok5.mono H3.out.1.2.2.2))))
              have hsz3 : wr.heap.size ≤ w3.heap.size := Nat.le_trans H3.out.2.2.2.2 hC.2.1.size
              clear hC hok5 hok3 H3
              go_wp2_with (at_builtin; refine wpList_append_own_at _ rfl _ _ 39 rfl w.heap.size 22 i0 (.slice none 0 0) 1 24 Tryz.underlying39 hi0 hz0 hz1 hz2 rfl (by decide) _ _ _ rfl (HK3.out.1.1.alloc _) ⟨w3.heap.size, 0, none⟩ 1 1 [.slice a5 zs.length c5] rfl rfl ?dd1 ?dd2 ?dd3 ?dd4 ?dd5 ?_)
              case dd1 => exact cell_one_new _ _ _
              case dd2 => simp [Value.oneCell']
              case dd3 => unfold maxLen; omega
              case dd4 => omega
              case dd5 => exact Nat.le_trans HK3.out.1.2.2.2 (by simp)
              intro v' w5 hown hgrow _ hblk
              have hba : Below w3.heap.size w3 (w3.alloc (.cells #[.slice a5 zs.length c5] 22)) := (Below.refl _ w3).alloc (Nat.le_refl _) _
              have hR := collF_push (f := (a5, c5, zs)) HT1 HK3.out.1 HK3.out.2.2.2 hown hgrow
              have hok' : ∀ f ∈ rs, FacOk w.heap.size w5 f := fun f hf => ((HK3.out.2.2.1 f hf).on hba).off HT1 (HK3.out.1.1.alloc _) hgrow
              have hfa' := facs_off (HK3.out.2.1.on hba) (fun f hf => (hok' f hf).1) hgrow HNE.out
              have hne' : ∀ b o, (some ⟨b2, o2, none⟩ : Option Addr) = some ⟨b, o, none⟩ → some b ≠ v'.ownBlock := by
                rintro b3 o3 e
                cases e
                rcases hblk with h9 | h9
                · rw [h9]; exact HNE.out _ _ rfl
                · rw [h9]
                  intro h8
                  simp at h8
                  omega
              have HRR := Lib.hid (And.intro hR (And.intro hfa' (And.intro hok' hne')))
              clear hown hgrow hblk hba hR hok' hfa' hne' HK3 HNE
              go_wp2_with fail
              go_roundw
              case rel => exact ⟨j + 1, by omega, by go_num, hs ++ [(a5, c5, zs)], by rw [lists_append]; exact HE.out, HRR.out⟩
              case measure => simp [intOf]; omega
            · obtain rfl : j = rs.length := by omega
              have HE : Hid (lists hs = Plain.ordsTo n l (k + 1)) := Lib.hid (by rw [HSTEP.out, hsl, ← lists_length, List.take_length])
              have HCK := Lib.hid hck
              have hj2 : ¬ (rs.length : Int) < (rs.length : Int) := by omega
              clear hsl hck hfa hok hne
              go_wp2_with fail
              go_roundw
              case rel => exact ⟨k + 1, by omega, by go_num, hs, HE.out, HCK.out⟩
              case measure => simp [intOf]; omega
      · obtain rfl : k = l.length := by omega
        have HK := Lib.hid hrel
        have HL := Lib.hid (hgl.trans (Plain.ords_all n l).symm)
        have hi : ¬ (l.length : Int) < (l.length : Int) := by omega
        clear hrel hgl
        go_wp2_with fail
        go_ret
        exact ⟨_, gs, rfl, HL.out, HK.out⟩

end Go.Proofs.YtobjifggelmhcaaGreat
