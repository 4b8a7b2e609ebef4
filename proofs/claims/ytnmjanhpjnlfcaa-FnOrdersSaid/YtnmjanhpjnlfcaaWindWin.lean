/- Contracts: WindingsOf of both, impl's word.windings. Conditions: numbers of 64 bits, lengths that fit. -/
import Derived.Test.YtnmjanhpjnlfcaaWindGet
namespace Go.Proofs.Ytnmjanhpjnlfcaa
open Go.ChangeShapes Go.WideShapes Go.ChangeAt Go.RowKit
set_option linter.unusedVariables false

/-- Seven numbers in a block. -/
def ints7 (v : Nat → Int) : Array Value := arrN 7 (fun i => .int .i64 (v i))
theorem ints7_lit (v : Nat → Int) : ints7 v = #[.int .i64 (v 0), .int .i64 (v 1), .int .i64 (v 2), .int .i64 (v 3), .int .i64 (v 4), .int .i64 (v 5), .int .i64 (v 6)] := rfl
theorem ints7_size (v : Nat → Int) : (ints7 v).size = 7 := arrN_size _ _
theorem ints7_one (v : Nat → Int) : (ints7 v).all (·.oneCell') = true := arrN_one fun i => rfl
theorem ints7_cong {v u : Nat → Int} (h : ∀ i, i < 7 → v i = u i) : ints7 v = ints7 u := arrN_cong fun i hi => by rw [h i hi]
theorem wresults2 {fn : Func} {p q : Tmp} {ty : TypeId} (h : fn.results = #[.cell p ty, .tmp q]) (tmps : Array Value) (w : World) (g : Nat) (cs : Array Value) {b : Value}
    (hp : tmps.getD p undef = .pointer (some ⟨g, 0, none⟩)) (hl : (loadVar ty ⟨g, 0, none⟩).run Try.prog w = .ok (.agg cs) w) (hq : tmps.getD q undef = b) :
    (results fn tmps).run Try.prog w = .ok (.tuple #[.agg cs, b]) w := by
  have hp' : tmps[p]?.getD undef = .pointer (some ⟨g, 0, none⟩) := by simpa using hp
  have hq' : tmps[q]?.getD undef = b := by simpa using hq
  simp [results, h, hp', hq', asAddr, hl]

/-- What WindingsOf answers. -/
def windV (xs : List Int) (i : Nat) : Int := if i = 0 then 0 else Plain.cof xs i
def windW (xs : List Int) (i : Nat) : Int := if Plain.wordB xs = true then windV xs i else 0
theorem wind_no {xs : List Int} (h : Plain.wordB xs = false) : windW xs = fun _ => 0 := by funext i; exact if_neg (by rw [h]; simp)
theorem wind_yes {xs : List Int} (h : Plain.wordB xs = true) : windW xs = windV xs := by funext i; exact if_pos h
def windTo (xs : List Int) (k : Nat) (i : Nat) : Int := if i ≤ k then windV xs i else 0
theorem windTo_zero (xs : List Int) : windTo xs 0 = fun _ => 0 := by
  funext i
  unfold windTo windV
  split
  · rw [if_pos (by omega)]
  · rfl
theorem windTo_all {xs : List Int} {i : Nat} (h : i < 7) : windTo xs 6 i = windV xs i := if_pos (by omega)
theorem windTo_step {xs : List Int} {k i : Nat} : windTo xs (k + 1) i = if i = k + 1 then Plain.cof xs (k + 1) else windTo xs k i := by
  unfold windTo windV
  by_cases e : i = k + 1
  · subst e; rw [if_pos (by omega), if_pos rfl, if_neg (by omega)]
  · rw [if_neg e]
    by_cases h : i ≤ k
    · rw [if_pos (by omega), if_pos h]
    · rw [if_neg (by omega), if_neg h]

-- impl's half

end Go.Proofs.Ytnmjanhpjnlfcaa
