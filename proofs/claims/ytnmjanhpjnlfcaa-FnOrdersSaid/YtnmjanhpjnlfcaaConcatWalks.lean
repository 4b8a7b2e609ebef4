/- Contracts: spec.l2Join; slices.Grow at a nil list, slices.Concat, impl.productOf: products of lists of letters, in new memory. Conditions: letters, lengths that fit. -/
import Derived.Test.YtnmjanhpjnlfcaaProd
import Derived.Test.YtnmjanhpjnlfcaaReducedWalks
import Derived.Lib.AppendZerosOnto
namespace Go.Proofs.Ytnmjanhpjnlfcaa
open Go.ChangeShapes Go.WideShapes Go.ChangeAt Go.RowKit

theorem zeroCells_size (z : Value) (n : Nat) : (Builtin.zeroCells z.cells n).size = n * z.cells.size := size_zeroCells _ _

set_option maxRecDepth 100000 in
theorem grow_nil (n : Nat) (hn : n ≤ 1048576) (w : World) :
    Calls Try.prog 65 #[.slice none 0 0, .int .i64 (n : Int)] w fun e w' => ∃ v, e = .returned v ∧ Coll [] w.heap.size w v w' := by
  by_cases h0 : n = 0
  · subst h0
    go_enter Try.func65, Try.ntmps65
    go_wp2
    go_ret
    exact ⟨_, rfl, World.ownsRow_nil _ _ _ _, Below.refl _ _, Nat.le_refl _⟩
  · obtain ⟨i0, hi0, hz0, hz1, hz2⟩ := info_parts infoInt
    have hrz : ∀ ty, (Builtin.append_ #[43, 3] ty #[.slice none 0 0, .int .i64 (n : Int)]).run Try.prog w =
        .ok (.slice (some ⟨w.heap.size, 0, none⟩) n (grownCap w n 0 3)) (w.drew.alloc (.cells (Builtin.zeroCells (Value.int .i64 0).cells n ++ Builtin.zeroCells (Value.int .i64 0).cells (grownCap w n 0 3 - n)) 3)) := fun ty => by
      have h := Lib.run_append_grow_zeros w 43 3 ty 3 i0 (.int .i64 0) .i64 .i64 Try.underlying43 Try.underlying3 hi0 hz0 none 0 0 [] (run_firstCells_none w.drew i0.size 0 0 0) n (by omega) (by rw [hz1]; decide) (by omega) (by omega) (by rw [hz2]; omega)
        (by simp only [Nat.zero_add]; exact growslice_fits (by omega) (by rw [hz2]; omega))
      simpa using h
    have hGn : n ≤ grownCap w n 0 3 := grownCap_ge w _ _ _
    have hGm : grownCap w n 0 3 ≤ maxLen := grownCap_le_maxLen w n 0 3 (by unfold maxLen; omega)
    obtain ⟨G, hG⟩ : ∃ G, G = grownCap w n 0 3 := ⟨_, rfl⟩
    rw [← hG] at hrz hGn hGm
    have hG63 : G ≤ 9223372036854775807 := by unfold maxLen at hGm; omega
    have HR : Hid (Coll [] w.heap.size w (.slice (some ⟨w.heap.size, 0, none⟩) 0 G) (w.drew.alloc (.cells (Builtin.zeroCells (Value.int .i64 0).cells n ++ Builtin.zeroCells (Value.int .i64 0).cells (G - n)) 3))) := Lib.hid (by
      refine ⟨?_, ((Below.refl _ w).drew).alloc (Nat.le_refl _) _, by simp⟩
      exact World.ownsRow_made (base := w.heap.size) (size := 1) (e := 3) w.drew _ G (Nat.le_refl _) hGm (by rw [Array.size_append, zeroCells_size, zeroCells_size]; simp [Value.cells]; omega))
    clear hG hGm
    have hn0 : ¬ ((n : Int) < 0) := by omega
    have hn1 : (0 : Int) < (n : Int) := by omega
    go_enter Try.func65, Try.ntmps65
    go_wp2_with (at_builtin; refine Lib.wpList_append_run _ rfl _ _ _ _ rfl _ _ rfl rfl _ _ (hrz _) ?_)
    all_goals (go_ret; exact ⟨_, rfl, HR.out⟩)

/-- A list of lists: where each lies, its room, its numbers. -/
abbrev Fac := Option Addr × Nat × List Int
def flat (fs : List Fac) : List Int := (fs.map (·.2.2)).flatten
def facVal (f : Fac) : Value := .slice f.1 f.2.2.length f.2.1
/-- At an address lie these lists. -/
def Facs (w : World) (a : Option Addr) (fs : List Fac) : Prop := ∀ j f, fs[j]? = some f → (∃ b o, a = some ⟨b, o, none⟩ ∧ w.cell? ⟨b, o + j, none⟩ = some (.slice f.1 f.2.2.length f.2.1)) ∧ Ints w f.1 f.2.2 ∧ Cap f.1 f.2.2.length f.2.1
theorem Facs.on {w w' : World} {a : Option Addr} {fs : List Fac} (h : Facs w a fs) (hb : Below w.heap.size w w') : Facs w' a fs := fun j f hf => by
  obtain ⟨⟨b, o, e, hc⟩, hi, hk⟩ := h j f hf
  exact ⟨⟨b, o, e, cell_later hb hc⟩, hi.on hb, hk⟩
theorem flat_take {fs : List Fac} {k : Nat} {f : Fac} (h : fs[k]? = some f) : flat (fs.take (k + 1)) = flat (fs.take k) ++ f.2.2 := by
  unfold flat
  rw [List.take_add_one, h]
  simp
theorem flat_all (fs : List Fac) : flat (fs.take fs.length) = flat fs := by rw [List.take_length]
theorem flat_le (fs : List Fac) (k : Nat) : (flat (fs.take k)).length ≤ (flat fs).length := by
  unfold flat
  conv => rhs; rw [← List.take_append_drop k fs]
  rw [List.map_append, List.flatten_append, List.length_append]
  omega

set_option maxRecDepth 100000 in
set_option maxHeartbeats 800000 in
theorem concat_any (a : Option Addr) (cap : Nat) (fs : List Fac) (w : World) (h : Hid (Facs w a fs)) (hn : fs.length ≤ 1048576) (hf : (flat fs).length ≤ 1048576) :
    Calls Try.prog 58 #[.slice a fs.length cap] w fun e w' => ∃ v, e = .returned v ∧ Coll (flat fs) w.heap.size w v w' := by
  obtain ⟨i0, hi0, hz0, hz1, hz2⟩ := info_parts infoInt
  go_enter Try.func58, Try.ntmps58
  go_wp2
  go_loop [3, 11] (fun s i => ∃ k : Nat, k ≤ fs.length ∧ i = .int .i64 k ∧ s = .int .i64 ((flat (fs.take k)).length : Nat)) (fun _ i => fs.length - (intOf i).toNat)
  case atStart => exact ⟨0, Nat.zero_le _, rfl, rfl⟩
  case round =>
    obtain ⟨k, hk, rfl, rfl⟩ := hrel
    have hle := flat_le fs k
    by_cases hlt : k < fs.length
    · obtain ⟨f, hx⟩ := at_some fs k hlt
      obtain ⟨⟨b, o, rfl, hc⟩, hfi, hfk⟩ := h.out k f hx
      have hft := flat_take hx
      have hle2 := flat_le fs (k + 1)
      obtain ⟨fa, fc, fl⟩ := f
      dsimp only at hc hft
      have hlen : (flat (fs.take (k + 1))).length = (flat (fs.take k)).length + fl.length := by rw [hft, List.length_append]
      have HL := Lib.hid hlen
      rw [hlen] at hle2
      generalize (flat (fs.take k)).length = s at HL hle hle2 ⊢
      clear hft hlen hx hfi hfk
      go_wp2
      go_round
      case rel => exact ⟨k + 1, by omega, by go_num, by rw [HL.out]; go_num⟩
      case measure => simp [intOf]; omega
    · obtain rfl : k = fs.length := by omega
      rw [flat_all] at hle ⊢
      go_wp2_with (go_at_call 65; refine (grow_nil _ hf _).mono ?_; rintro e w1 ⟨v1, rfl, hC⟩)
      have HC := Lib.hid hC
      clear hC
      go_wp2
      go_loopw [6, 27] (fun v i wr => ∃ k : Nat, k ≤ fs.length ∧ i = .int .i64 k ∧ Coll (flat (fs.take k)) w.heap.size w v wr) (fun _ i _ => fs.length - (intOf i).toNat)
      case atStart => exact ⟨0, Nat.zero_le _, rfl, HC.out⟩
      case round =>
        obtain ⟨k, hk, rfl, hrel⟩ := hrel
        have hle := flat_le fs k
        by_cases hlt : k < fs.length
        · obtain ⟨f, hx⟩ := at_some fs k hlt
          obtain ⟨⟨b, o, rfl, hc⟩, hfi, hfk⟩ := (h.out.on hrel.2.1) k f hx
          have HL := Lib.hid (flat_take hx)
          have hle2 := flat_le fs (k + 1)
          rw [flat_take hx, List.length_append] at hle2
          obtain ⟨fa, fc, fl⟩ := f
          have HI := Lib.hid hfi
          have HK := Lib.hid hfk
          dsimp only at hc HL HI HK hle2
          have HR := Lib.hid hrel
          generalize flat (fs.take k) = L at HL hle hle2 HR ⊢
          clear hx hfi hfk hrel
          go_wp2_with (at_builtin; refine wpList_append_ints rfl _ _ 43 i0 rfl Try.underlying43 hi0 hz0 hz1 hz2 w.heap.size _ L.length L rfl HR.out.1 fa fl.length fc fl rfl rfl HI.out HK.out (by omega) HR.out.2.2 ?_)
          intro v' w2 hown hgrow hnil
          have HN := Lib.hid (coll_more HR.out rfl hown hgrow)
          clear hown hgrow hnil
          go_wp2
          go_roundw
          case rel => exact ⟨k + 1, by omega, by go_num, by rw [HL.out]; exact HN.out⟩
          case measure => simp [intOf]; omega
        · obtain rfl : k = fs.length := by omega
          rw [flat_all] at hrel
          have HR := Lib.hid hrel
          clear hrel
          go_wp2
          go_ret
          exact ⟨_, rfl, HR.out⟩

set_option maxRecDepth 100000 in
set_option maxHeartbeats 400000 in
theorem product_any (a : Option Addr) (cap : Nat) (fs : List Fac) (w : World) (h : Hid (Facs w a fs)) (hl : Hid (Plain.Letters (flat fs))) (hn : fs.length ≤ 1048576) (hf : (flat fs).length ≤ 1048576) :
    Calls Try.prog 41 #[.slice a fs.length cap] w (SB (short (Plain.red (flat fs))) (shortB (Plain.red (flat fs))) w) := by
  obtain ⟨zs, hzs⟩ : ∃ zs, zs = flat fs := ⟨_, rfl⟩
  rw [← hzs] at hl hf ⊢
  have HZ := Lib.hid hzs
  clear hzs
  go_enter Try.func41, Try.ntmps41
  go_wp2_with fail
  refine (concat_any _ _ fs _ h hn (by rw [← HZ.out]; exact hf)).mono ?_
  rintro e w1 ⟨v1, rfl, hC⟩
  rw [← HZ.out] at hC
  obtain ⟨⟨a3, c3, rfl, hi3, -, -⟩, hb3⟩ := coll_res hC
  have I3 := Lib.hid hi3
  have B3 := Lib.hid hb3
  clear hi3 hb3 hC
  go_wp2_with fail
  refine (reduced_any _ _ zs _ I3 hl hf).mono ?_
  rintro e w3 ⟨v, rfl, hr, hb⟩
  obtain ⟨a4, c4, rfl, hi4, ho4, hk4⟩ := hr
  have R : Hid (Res w.heap.size w3 (.slice a4 (Plain.red zs).length c4) (Plain.red zs)) := Lib.hid ⟨a4, c4, rfl, hi4, ho4.mono B3.out.size, hk4⟩
  have B4 := Lib.hid (B3.out.trans (hb.mono B3.out.size))
  have hlr : (Plain.red zs).length ≤ 1048576 := Nat.le_trans (Plain.red_length zs) hf
  clear hb hi4 ho4 hk4
  by_cases hs : (Plain.red zs).length ≤ 64
  · have HS := Lib.hid (short_yes hs)
    go_wp2
    go_ret2
    exact sb_eq HS.out.1 HS.out.2 ⟨_, rfl, R.out, B4.out⟩
  · have HS := Lib.hid (short_no hs)
    go_wp2
    go_ret2
    exact sb_eq HS.out.1 HS.out.2 ⟨_, rfl, (coll_res (coll_start w3)).1.mono B4.out.size, B4.out.trans ((coll_start w3).2.1.mono B4.out.size)⟩
end Go.Proofs.Ytnmjanhpjnlfcaa
