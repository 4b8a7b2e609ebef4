/- Contract: impl.ParseInt returns the number whose decimal text is given, or fails. Condition: the library's table and its two error values lie as their initialisers lay them. -/
import Derived.Test.YthcggmjgecdfgaaDoorReadWalks
import Derived.Lib.AtoiBound
import Derived.WalkSmall
namespace Go.Proofs.YthcggmjgecdfgaaDoor
open Go.ChangeShapes Go.WideShapes Go.ChangeAt Go.RowKit

/-- The library's two error variables hold some value of an interface's type each. -/
def ErrsAre (w : World) : Prop := (∃ tp p, w.var? Tryd.prog "strconv.ErrSyntax" = some #[.iface tp p]) ∧ (∃ tp p, w.var? Tryd.prog "strconv.ErrRange" = some #[.iface tp p])
theorem ErrsAre.on {w w' : World} (h : ErrsAre w) (hb : Below w.heap.size w w') : ErrsAre w' := by
  obtain ⟨⟨t1, p1, h1⟩, ⟨t2, p2, h2⟩⟩ := h
  have c1 := World.block_lt_of_cell? w _ (show w.cell? ⟨0, 0, none⟩ = some (.iface t1 p1) by have h0 := World.var?_cell gSyntax h1 0; simpa using h0)
  have c2 := World.block_lt_of_cell? w _ (show w.cell? ⟨1, 0, none⟩ = some (.iface t2 p2) by have h0 := World.var?_cell gRange h2 0; simpa using h0)
  exact ⟨⟨t1, p1, var?_below hb gSyntax c1 h1⟩, ⟨t2, p2, var?_below hb gRange c2 h2⟩⟩

theorem star : "*" ++ "errors.errorString" = "*errors.errorString" := by decide
theorem rowErr (u : TypeId) (h : Tryd.prog.typeName? 3 u = some "*errors.errorString") : u = 86 :=
  typeName_ptr_named (nm := "errors.errorString") (by rw [star]; kernel_rfl) (by kernel_rfl) (by decide) u (by rw [star]; exact h)
theorem cellsErr : Tryd.prog.cellsOf 88 = 1 := by kernel_rfl
theorem cellsStr : Tryd.prog.cellsOf 9 = 1 := by kernel_rfl

theorem errs_of {W : World} {a b c : String × DataW Unit} (h : laidMet Tryd.prog [a, b, c, ("strconv.ErrRange", Rows.laid_strconv_ErrRange), ("strconv.ErrSyntax", Rows.laid_strconv_ErrSyntax)] W) : ErrsAre W := by
  obtain ⟨a0, s0, h0, -, -, -⟩ := laid_sentinel h.tail.tail.tail gRange gRangeType Tryd.underlying46 rowErr Tryd.underlying86 Tryd.underlying88 rfl rfl Tryd.underlying9 cellsErr cellsStr
  obtain ⟨a1, s1, h1, -, -, -⟩ := laid_sentinel h.tail.tail.tail.tail gSyntax gSyntaxType Tryd.underlying46 rowErr Tryd.underlying86 Tryd.underlying88 rfl rfl Tryd.underlying9 cellsErr cellsStr
  exact ⟨⟨_, _, h1⟩, ⟨_, _, h0⟩⟩
theorem errs5 {W : World} (h : laidMetH Tryd.prog Rows.fnExactParseIntRow.laid W) : ErrsAre W := errs_of h

theorem atoi_ok (s : ByteArray) (w : World) (hs : s.size ≤ 1048576) (v : Int) (h : Lib.atoiAll s.data.toList = .ok v) :
    Calls Tryd.prog 28 #[.string s] w fun e w' => e = .returned (.tuple #[.int .i64 v, .nilIface]) ∧ Below w.heap.size w w' := by
  have hc : Calls Tryd.prog 28 #[.string s] w fun e w' => e = .returned (.tuple #[.int .i64 v, .nilIface]) ∧ (w' = w ∨ ∃ t, w' = Lib.bytesWorld w 5 t) := Any.strconv_Atoi_ok Tryd.laysC172 s (by omega) v h w
  refine hc.mono ?_
  rintro e w' ⟨rfl, hw⟩
  refine ⟨rfl, ?_⟩
  rcases hw with rfl | ⟨t, rfl⟩
  · exact Below.refl _ _
  · exact Lib.bytesWorld_below _ _ _

theorem atoi_bad (s : ByteArray) (w : World) (hs : s.size ≤ 1048576) (h : ∀ v, ¬ Lib.atoiAll s.data.toList = .ok v) (hE : ErrsAre w) :
    Calls Tryd.prog 28 #[.string s] w fun e w' => ∃ n N, e = .returned (.tuple #[.int .i64 n, .iface 65 (.pointer (some ⟨N, 0, none⟩))]) ∧ Below w.heap.size w w' := by
  obtain ⟨⟨t1, p1, h1⟩, ⟨t2, p2, h2⟩⟩ := hE
  rcases hx : Lib.atoiAll s.data.toList with v | _ | _
  · exact absurd hx (h v)
  · refine Calls.mono (show Calls Tryd.prog 28 #[.string s] w _ from Any.strconv_Atoi_syntax_var Tryd.laysC172 s (by omega) hx t1 p1 w h1) ?_
    rintro e w' ⟨N, rfl, _, _, hb⟩
    exact ⟨_, N, rfl, hb⟩
  · refine Calls.mono (show Calls Tryd.prog 28 #[.string s] w _ from Any.strconv_Atoi_range_var Tryd.laysC172 s (by omega) hx t2 p2 w h2) ?_
    rintro e w' ⟨N, rfl, _, _, hb⟩
    exact ⟨_, N, rfl, hb⟩

theorem no_out {s : ByteArray} {m : Int} {b : Bool} (h : RdOut s m b) (hn : ∀ n, -999999 ≤ n → n ≤ 999999 → ¬ Plain.intS n = s) : m = 0 ∧ b = false := by
  rcases h with ⟨rfl, ⟨h0, h1⟩, h2⟩ | ⟨rfl, rfl, h⟩
  · exact absurd h2 (hn m h0 h1)
  · exact ⟨rfl, rfl⟩

theorem implParse_bad (s : ByteArray) (w : World) (hs : s.size ≤ 1048576) (h : ∀ v, ¬ Lib.atoiAll s.data.toList = .ok v) (hE : Hid (ErrsAre w)) :
    Calls Tryd.prog 13 #[.string s] w fun e w' => e = .returned (.tuple #[.int .i64 0, .bool false]) ∧ Below w.heap.size w w' := by
  have HA := Lib.hid (atoi_bad s w hs h hE.out)
  clear h
  go_enter Tryd.func13, Tryd.ntmps13
  go_wp2_with (go_at_call 28; refine HA.out.mono ?_; rintro e w1 ⟨n, N, rfl, hb⟩)
  go_ret2
  exact ⟨rfl, hb⟩

theorem implParse_out (s : ByteArray) (w : World) (hs : s.size ≤ 1048576) (v : Int) (h : Lib.atoiAll s.data.toList = .ok v) (hv : v < -999999 ∨ 999999 < v) :
    Calls Tryd.prog 13 #[.string s] w fun e w' => e = .returned (.tuple #[.int .i64 0, .bool false]) ∧ Below w.heap.size w w' := by
  have HA := Lib.hid (atoi_ok s w hs v h)
  have hbd := Lib.atoiAll_bounds h
  have HF := Lib.hid (implFormatInt_out v hbd.1 hbd.2 hv)
  clear h hv hbd
  go_enter Tryd.func13, Tryd.ntmps13
  go_wp2_with (first | (go_at_call 28; refine HA.out.mono ?_; rintro e w1 ⟨rfl, hb⟩) | (go_at_call 10; refine (HF.out _).mono ?_; rintro e w' ⟨rfl, rfl⟩))
  go_ret2
  exact ⟨rfl, hb⟩

theorem implParse_other (s : ByteArray) (w : World) (hs : s.size ≤ 1048576) (v : Int) (h : Lib.atoiAll s.data.toList = .ok v) (h0 : -999999 ≤ v) (h1 : v ≤ 999999) (hne : ¬ Plain.intS v = s) (hT : Hid (Tab w)) :
    Calls Tryd.prog 13 #[.string s] w fun e w' => e = .returned (.tuple #[.int .i64 0, .bool false]) ∧ Below w.heap.size w w' := by
  have HA := Lib.hid (atoi_ok s w hs v h)
  have hq := str_ne hne
  clear h hne
  go_enter Tryd.func13, Tryd.ntmps13
  go_wp2_with (first | (go_at_call 28; refine HA.out.mono ?_; rintro e w1 ⟨rfl, hb⟩) | (go_at_call 10; refine (implFormatInt_any v h0 h1 _ (Lib.hid (hT.out.on hb))).mono ?_; rintro e w2 ⟨rfl, hb2⟩))
  go_ret2
  exact ⟨rfl, hb.trans (hb2.mono hb.size)⟩

theorem implParse_yes (s : ByteArray) (w : World) (hs : s.size ≤ 1048576) (v : Int) (h : Lib.atoiAll s.data.toList = .ok v) (h0 : -999999 ≤ v) (h1 : v ≤ 999999) (he : Plain.intS v = s) (hT : Hid (Tab w)) :
    Calls Tryd.prog 13 #[.string s] w fun e w' => e = .returned (.tuple #[.int .i64 v, .bool true]) ∧ Below w.heap.size w w' := by
  have HA := Lib.hid (atoi_ok s w hs v h)
  have hq := str_eq he
  clear h he
  go_enter Tryd.func13, Tryd.ntmps13
  go_wp2_with (first | (go_at_call 28; refine HA.out.mono ?_; rintro e w1 ⟨rfl, hb⟩) | (go_at_call 10; refine (implFormatInt_any v h0 h1 _ (Lib.hid (hT.out.on hb))).mono ?_; rintro e w2 ⟨rfl, hb2⟩))
  go_ret2
  exact ⟨rfl, hb.trans (hb2.mono hb.size)⟩

theorem implParse_is (s : ByteArray) (m : Int) (b : Bool) (h : RdOut s m b) (w : World) (hs : s.size ≤ 1048576) (hT : Tab w) (hE : ErrsAre w) :
    Calls Tryd.prog 13 #[.string s] w fun e w' => e = .returned (.tuple #[.int .i64 m, .bool b]) ∧ Below w.heap.size w w' := by
  have hrt : ∀ n, -999999 ≤ n → n ≤ 999999 → Plain.intS n = s → Lib.atoiAll s.data.toList = .ok n := fun n h0 h1 e => by rw [← e]; exact Plain.atoi_intS n h0 h1
  by_cases hx : ∃ v, Lib.atoiAll s.data.toList = .ok v
  · obtain ⟨v, hv⟩ := hx
    have hveq : ∀ n, -999999 ≤ n → n ≤ 999999 → Plain.intS n = s → n = v := fun n h0 h1 e => by
      have := hrt n h0 h1 e
      rw [hv] at this
      injection this with this
      exact this.symm
    by_cases hb : v < -999999 ∨ 999999 < v
    · obtain ⟨rfl, rfl⟩ := no_out h (fun n h0 h1 e => by have := hveq n h0 h1 e; omega)
      exact implParse_out s w hs v hv hb
    · by_cases he : Plain.intS v = s
      · obtain ⟨rfl, rfl⟩ := (show RdOut s v true from .inl ⟨rfl, ⟨by omega, by omega⟩, he⟩).same h
        exact implParse_yes s w hs _ hv (by omega) (by omega) he (Lib.hid hT)
      · obtain ⟨rfl, rfl⟩ := no_out h (fun n h0 h1 e => he (by rw [← hveq n h0 h1 e]; exact e))
        exact implParse_other s w hs v hv (by omega) (by omega) he (Lib.hid hT)
  · obtain ⟨rfl, rfl⟩ := no_out h (fun n h0 h1 e => hx ⟨n, hrt n h0 h1 e⟩)
    exact implParse_bad s w hs (fun v hv => hx ⟨v, hv⟩) (Lib.hid hE)

end Go.Proofs.YthcggmjgecdfgaaDoor
