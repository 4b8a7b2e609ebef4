/- Fields and places of the coefficients as values. Contract: spec.l8Get. Condition: a list of at most three nails. -/
import Derived.Test.YtnmjanhpjnlfcaaWindImpl
import Derived.Test.YtnmjanhpjnlfcaaWindList
import Derived.Test.YtnmjanhpjnlfcaaWindOf
namespace Go.Proofs.Ytnmjanhpjnlfcaa
open Go.ChangeShapes Go.WideShapes Go.ChangeAt Go.RowKit
set_option linter.unusedVariables false
set_option maxRecDepth 100000

def c259 (c : Nat → Int) : Array Value := arrN 259 (fun i => .int .i64 (c i))
theorem coefs_cut (l : Int) (c : Nat → Int) : (coefs l c).extract 1 260 = c259 c := by
  refine arrN_ext (by simp [coefs_size]) fun i hi => ?_
  rw [Array.getElem?_extract, if_pos (by rw [coefs_size]; omega)]
  refine (arrN_at _ (by omega)).trans ?_
  unfold coefV
  rw [if_neg (by omega), show 1 + i - 1 = i by omega]
theorem field_cut (cs : Array Value) (w : World) : Sem.run Try.prog (Instr.field 55 (.agg cs) 1) w = .ok (.agg (cs.extract 1 260)) w := by
  unfold Instr.field
  go_simp
  rfl
theorem field_coefs (l : Int) (c : Nat → Int) (w : World) : Sem.run Try.prog (Instr.field 55 (.agg (coefs l c)) 1) w = .ok (.agg (c259 c)) w := by
  rw [← coefs_cut l c]
  exact field_cut _ w
theorem index_c259 (c : Nat → Int) (k : Nat) (w : World) (hk : (k : Int) < 259) : Sem.run Try.prog (Instr.index 53 (.agg (c259 c)) (.int .i64 (k : Int))) w = .ok (.int .i64 (c k)) w := by
  have h2 : (c259 c)[k]? = some (.int .i64 (c k)) := arrN_at (n := 259) (fun i => Value.int .i64 (c i)) (i := k) (by omega)
  unfold Instr.index
  go_simp
  intro h
  omega
theorem extract_arr {n m d : Nat} (f : Nat → Value) (h : d + m ≤ n) : (arrN n f).extract d (d + m) = arrN m (fun i => f (d + i)) := by
  refine arrN_ext (by simp [arrN_size]; omega) fun i hi => ?_
  rw [Array.getElem?_extract, if_pos (by rw [arrN_size]; omega)]
  exact arrN_at _ (by omega)

theorem ser_new (w : World) (c : Nat → Int) : SerAt (w.alloc (.cells (sers c) 49)) w.heap.size c := heap_alloc_new w _
set_option maxHeartbeats 800000 in
theorem l8Get_any (a : Option Addr) (cap : Nat) (ls : List Int) (c : Nat → Int) (w : World) (h : Hid (Ints w a ls)) (hL : Hid (Plain.listB ls = true)) (h0 : Hid (c 0 = 1)) :
    Calls Try.prog 31 #[.agg (sers c), .slice a ls.length cap] w (Val (.int .i64 (c (Plain.placeL ls))) w) := by
  obtain ⟨hl, hn⟩ := Plain.listB_iff.1 hL.out
  have hb0 := (Below.refl w.heap.size w).alloc (Nat.le_refl _) (.cells (sers c) 49)
  have HI := h.out.on hb0
  have HB := Lib.hid hb0
  have HS := Lib.hid (ser_new w c)
  clear hb0
  match ls, hl, hn, h, HI with
  | [], _, _, _, _ =>
    have HE : Hid ((1 : Int) = c (Plain.placeL [])) := Lib.hid h0.out.symm
    simp only [List.length_nil]
    go_enter Try.func31, Try.ntmps31
    go_wp2_with fail
    go_ret
    exact ⟨ret_int HE.out, HB.out⟩
  | [x], _, hn, _, HI =>
    obtain ⟨b, o, rfl, hx⟩ := HI 0 x rfl
    have h1 := hn x (by simp)
    obtain ⟨X, rfl⟩ : ∃ X : Nat, x = (X : Int) + 1 := ⟨(x - 1).toNat, by omega⟩
    have hX : (X : Int) < 6 := by omega
    have hwX : IntKind.i64.wrap (X : Int) = (X : Int) := Go.IntWalk.i64_in _ ⟨by omega, by omega⟩
    have e1 := HS.out.cell (k := X) (by omega)
    have HE : Hid (c (X + 1) = c (Plain.placeL [(X : Int) + 1])) := Lib.hid (by congr 1; first | (simp [Plain.placeL]; done) | (simp [Plain.placeL]; omega))
    simp only [List.length_cons, List.length_nil, Nat.zero_add, Nat.add_zero] at hx ⊢
    clear hn
    go_enter Try.func31, Try.ntmps31
    go_wp2_with fail
    go_ret
    exact ⟨ret_int HE.out, HB.out⟩
  | [x, y], _, hn, _, HI =>
    obtain ⟨b, o, rfl, hx⟩ := HI 0 x rfl
    obtain ⟨_, _, e, hy⟩ := HI 1 y rfl
    cases e
    have h1 := hn x (by simp)
    have h2 := hn y (by simp)
    obtain ⟨X, rfl⟩ : ∃ X : Nat, x = (X : Int) + 1 := ⟨(x - 1).toNat, by omega⟩
    obtain ⟨Y, rfl⟩ : ∃ Y : Nat, y = (Y : Int) + 1 := ⟨(y - 1).toNat, by omega⟩
    have hX : (X : Int) < 6 := by omega
    have hwX : IntKind.i64.wrap (X : Int) = (X : Int) := Go.IntWalk.i64_in _ ⟨by omega, by omega⟩
    have hY : (Y : Int) < 6 := by omega
    have hwY : IntKind.i64.wrap (Y : Int) = (Y : Int) := Go.IntWalk.i64_in _ ⟨by omega, by omega⟩
    have e1 := HS.out.cell (k := 6 + X * 6 + Y) (by omega)
    have HE : Hid (c (6 + X * 6 + Y + 1) = c (Plain.placeL [(X : Int) + 1, (Y : Int) + 1])) := Lib.hid (by congr 1; first | (simp [Plain.placeL]; done) | (simp [Plain.placeL]; omega))
    simp only [List.length_cons, List.length_nil, Nat.zero_add, Nat.reduceAdd, Nat.add_zero] at hx hy ⊢
    clear hn
    go_enter Try.func31, Try.ntmps31
    go_wp2_with fail
    generalize (w.alloc (.cells (sers c) 49)) = W at hx hy e1 HB ⊢
    have d1 : W.drew.cell? _ = _ := hx
    have d2 : W.drew.cell? _ = _ := hy
    have d3 : W.drew.cell? _ = _ := e1
    have HB2 : Hid (Below w.heap.size w W.drew) := Lib.hid HB.out.drew
    clear hx hy e1 HB
    refine wp_region_still_lit (by kernel_rfl) (by kernel_rfl) ?_
    change wpStill _ _ (World.drew _) (fun a' => Exit.then _ _ _ a' (World.drew _)) _ _
    generalize (World.drew _) = V at d1 d2 d3 HB2 ⊢
    repeat still_step
    refine wpStill_nil ?_
    go_wp2_with fail
    go_ret
    exact ⟨ret_int HE.out, HB2.out⟩
  | [x, y, z], _, hn, _, HI =>
    obtain ⟨b, o, rfl, hx⟩ := HI 0 x rfl
    obtain ⟨_, _, e, hy⟩ := HI 1 y rfl
    cases e
    obtain ⟨_, _, e, hz⟩ := HI 2 z rfl
    cases e
    have h1 := hn x (by simp)
    have h2 := hn y (by simp)
    have h3 := hn z (by simp)
    obtain ⟨X, rfl⟩ : ∃ X : Nat, x = (X : Int) + 1 := ⟨(x - 1).toNat, by omega⟩
    obtain ⟨Y, rfl⟩ : ∃ Y : Nat, y = (Y : Int) + 1 := ⟨(y - 1).toNat, by omega⟩
    obtain ⟨Z, rfl⟩ : ∃ Z : Nat, z = (Z : Int) + 1 := ⟨(z - 1).toNat, by omega⟩
    have hX : (X : Int) < 6 := by omega
    have hwX : IntKind.i64.wrap (X : Int) = (X : Int) := Go.IntWalk.i64_in _ ⟨by omega, by omega⟩
    have hY : (Y : Int) < 6 := by omega
    have hwY : IntKind.i64.wrap (Y : Int) = (Y : Int) := Go.IntWalk.i64_in _ ⟨by omega, by omega⟩
    have hZ : (Z : Int) < 6 := by omega
    have hwZ : IntKind.i64.wrap (Z : Int) = (Z : Int) := Go.IntWalk.i64_in _ ⟨by omega, by omega⟩
    have e1 := HS.out.cell (k := 42 + X * 36 + Y * 6 + Z) (by omega)
    have HE : Hid (c (42 + X * 36 + Y * 6 + Z + 1) = c (Plain.placeL [(X : Int) + 1, (Y : Int) + 1, (Z : Int) + 1])) := Lib.hid (by congr 1; first | (simp [Plain.placeL]; done) | (simp [Plain.placeL]; omega))
    simp only [List.length_cons, List.length_nil, Nat.zero_add, Nat.reduceAdd, Nat.add_zero] at hx hy hz ⊢
    clear hn
    go_enter Try.func31, Try.ntmps31
    go_wp2_with fail
    generalize (w.alloc (.cells (sers c) 49)) = W at hx hy hz e1 HB ⊢
    have d1 : W.drew.cell? _ = _ := hx
    have d2 : W.drew.cell? _ = _ := hy
    have d4 : W.drew.cell? _ = _ := hz
    have d3 : W.drew.cell? _ = _ := e1
    have HB2 : Hid (Below w.heap.size w W.drew) := Lib.hid HB.out.drew
    clear hx hy hz e1 HB
    refine wp_region_still_lit (by kernel_rfl) (by kernel_rfl) ?_
    change wpStill _ _ (World.drew _) (fun a' => Exit.then _ _ _ a' (World.drew _)) _ _
    generalize (World.drew _) = V at d1 d2 d3 d4 HB2 ⊢
    repeat still_step
    refine wpStill_nil ?_
    go_wp2_with fail
    go_ret
    exact ⟨ret_int HE.out, HB2.out⟩

end Go.Proofs.Ytnmjanhpjnlfcaa
