/- The runs of comparisons of coefficients: the program's struct, the specification's arrays. Condition: coefficients that are small. -/
import Derived.Test.YtnmjanhpjnlfcaaWindGet
import Derived.DeepKeys
import Derived.Deep.MidRow
namespace Go.Proofs.Ytnmjanhpjnlfcaa
open Go.ChangeShapes Go.WideShapes Go.ChangeAt Go.RowKit
set_option linter.unusedVariables false
set_option linter.unusedSimpArgs false
set_option maxRecDepth 100000

/-- The first n places agree. -/
def eqTo (n : Nat) (f g : Nat → Int) : Bool := (List.range n).all fun i => f i == g i
theorem eqTo_iff {n : Nat} {f g : Nat → Int} : eqTo n f g = true ↔ ∀ i, i < n → f i = g i := by simp [eqTo]
theorem eqTo_add (a b : Nat) (f g : Nat → Int) : eqTo (a + b) f g = (eqTo a f g && eqTo b (fun i => f (a + i)) (fun i => g (a + i))) := by
  unfold eqTo
  rw [List.range_add, List.all_append, List.all_map]
  rfl
theorem eqTo_cong {n : Nat} {f f' g g' : Nat → Int} (h1 : ∀ i, i < n → f i = f' i) (h2 : ∀ i, i < n → g i = g' i) : eqTo n f g = eqTo n f' g' := by
  rw [Bool.eq_iff_iff, eqTo_iff, eqTo_iff]
  exact ⟨fun h i hi => by rw [← h1 i hi, ← h2 i hi]; exact h i hi, fun h i hi => by rw [h1 i hi, h2 i hi]; exact h i hi⟩
theorem eqTo_cut {m : Nat} {f g : Nat → Int} (hm : m ≤ 259) : eqTo 259 (Plain.cutC m f) (Plain.cutC m g) = eqTo m f g := by
  rw [Bool.eq_iff_iff, eqTo_iff, eqTo_iff]
  constructor
  · intro h i hi
    have := h i (by omega)
    rwa [Plain.cutC_in hi, Plain.cutC_in hi] at this
  · intro h i _
    by_cases hi : i < m
    · rw [Plain.cutC_in hi, Plain.cutC_in hi]; exact h i hi
    · rw [Plain.cutC_out hi, Plain.cutC_out hi]
def SmallN (n : Nat) (f : Nat → Int) : Prop := ∀ i, i < n → -262144 ≤ f i ∧ f i ≤ 262144
theorem Plain.Small.to {c : Nat → Int} (h : Plain.Small c) : SmallN 259 c := h
theorem SmallN.part {n m d : Nat} {f : Nat → Int} (h : SmallN n f) (hm : d + m ≤ n) : SmallN m (fun i => f (d + i)) := fun i hi => h (d + i) (by omega)

def litsN (n : Nat) (f : Nat → Int) : List Lit := (List.range n).map fun i => Lit.int .i64 (f i)
theorem litsN_iff {n : Nat} {f g : Nat → Int} : litsN n f = litsN n g ↔ eqTo n f g = true := by
  rw [eqTo_iff]
  constructor
  · intro h i hi
    have := congrArg (fun l => l[i]?) h
    simp [litsN, hi] at this
    exact this
  · intro h
    exact List.map_congr_left fun i hi => by rw [h i (by simpa using hi)]
theorem litsN_add (a b : Nat) (f : Nat → Int) : litsN (a + b) f = litsN a f ++ litsN b (fun i => f (a + i)) := by
  unfold litsN
  rw [List.range_add, List.map_append, List.map_map]
  rfl
theorem lits_flat (m : Nat) (f : Nat → Int) : ∀ n : Nat, ((List.range n).map fun i => litsN m (fun j => f (i * m + j))).flatten = litsN (n * m) f
  | 0 => by simp [litsN]
  | n + 1 => by
    rw [List.range_succ, List.map_append, List.flatten_append, lits_flat m f n, Nat.succ_mul, litsN_add]
    simp
theorem arrN_list (n : Nat) (F : Nat → Value) : (arrN n F).toList = (List.range n).map F := by simp [arrN]
theorem chunkN {n m d : Nat} (F : Nat → Value) (h : d + m ≤ n) : (((List.range n).map F).drop d).take m = (List.range m).map (fun i => F (d + i)) := by
  apply List.ext_getElem?
  intro i
  rw [List.getElem?_take]
  by_cases hi : i < m
  · rw [if_pos hi, List.getElem?_drop, List.getElem?_map, List.getElem?_map, List.getElem?_range (by omega), List.getElem?_range hi]
    rfl
  · rw [if_neg hi, List.getElem?_eq_none (by simp; omega)]
def intsV (f : Nat → Int) : Nat → Value := fun i => .int .i64 (f i)
theorem mapM_all {α β : Type} (g : α → β) (f : α → Option β) : ∀ l : List α, (∀ x ∈ l, f x = some (g x)) → l.mapM f = some (l.map g)
  | [], _ => rfl
  | x :: l, h => by
    rw [List.mapM_cons, h x (by simp), mapM_all g f l (fun y hy => h y (by simp [hy]))]
    rfl
theorem lits_int (D : Nat) (f : Nat → Int) (hs : SmallN 1 f) : Try.prog.keyLits (D + 1) 3 ((List.range 1).map (intsV f)) = some (litsN 1 f) := by
  have h0 := hs 0 (by omega)
  have hw : (Lit.int .i64 (f 0)).wf = true := by
    have e1 : IntKind.i64.min = -9223372036854775808 := by decide
    have e2 : IntKind.i64.max = 9223372036854775807 := by decide
    simp [Lit.wf]
    omega
  show Try.prog.keyLits (D + 1) 3 [.int .i64 (f 0)] = some [.int .i64 (f 0)]
  unfold Program.keyLits
  rw [Try.underlying3]
  simp [hw]
theorem lits_rows {T e : TypeId} {n m D : Nat} (hu : Try.prog.underlying T = some (.array n e)) (hT : Try.prog.cellsOf T = n * m) (he : Try.prog.cellsOf e = m)
    (IH : ∀ f, SmallN m f → Try.prog.keyLits D e ((List.range m).map (intsV f)) = some (litsN m f)) (f : Nat → Int) (hs : SmallN (n * m) f) :
    Try.prog.keyLits (D + 1) T ((List.range (n * m)).map (intsV f)) = some (litsN (n * m) f) := by
  unfold Program.keyLits
  rw [hu]
  simp only [hT, he]
  rw [if_pos (by simp), mapM_all (fun i => litsN m (fun j => f (i * m + j))) _ _ (fun i hi => ?_)]
  · rw [Option.map_some, lits_flat]
  · have hi' : i < n := by simpa using hi
    have hle : i * m + m ≤ n * m := by rw [← Nat.succ_mul]; exact Nat.mul_le_mul_right _ hi'
    rw [chunkN _ hle]
    exact IH _ (hs.part hle)
theorem one_cells : Try.prog.cellsOf 3 = 1 := by kernel_rfl
theorem lits_six (D : Nat) (f : Nat → Int) (hs : SmallN 6 f) : Try.prog.keyLits (D + 2) 45 ((List.range 6).map (intsV f)) = some (litsN 6 f) :=
  lits_rows (n := 6) (m := 1) Try.underlying45 (by kernel_rfl) one_cells (lits_int D) f hs
theorem lits_36 (D : Nat) (f : Nat → Int) (hs : SmallN 36 f) : Try.prog.keyLits (D + 3) 46 ((List.range 36).map (intsV f)) = some (litsN 36 f) :=
  lits_rows (n := 6) (m := 6) Try.underlying46 (by kernel_rfl) (by kernel_rfl) (lits_six D) f hs
theorem lits_216 (D : Nat) (f : Nat → Int) (hs : SmallN 216 f) : Try.prog.keyLits (D + 4) 47 ((List.range 216).map (intsV f)) = some (litsN 216 f) :=
  lits_rows (n := 6) (m := 36) Try.underlying47 (by kernel_rfl) (by kernel_rfl) (lits_36 D) f hs
theorem lits_259 (D : Nat) (f : Nat → Int) (hs : SmallN 259 f) : Try.prog.keyLits (D + 2) 53 ((List.range 259).map (intsV f)) = some (litsN 259 f) :=
  lits_rows (n := 259) (m := 1) Try.underlying53 (by kernel_rfl) one_cells (lits_int D) f hs
/-- The run of a comparison of two rows. -/
theorem run_rows {T : TypeId} {n : Nat} (hk : Try.prog.keyTypeAt 5 T = true) (hT : Try.prog.cellsOf T = n) (hu : ∃ d, Try.prog.underlying T = some d ∧ d.isRow = true) (w : World) (f g : Nat → Int)
    (hf : Try.prog.keyLits 5 T ((List.range n).map (intsV f)) = some (litsN n f)) (hg : Try.prog.keyLits 5 T ((List.range n).map (intsV g)) = some (litsN n g)) :
    Sem.run Try.prog (Op.equalIn 10000 T (.agg (arrN n (intsV f))) (.agg (arrN n (intsV g)))) w = .ok (eqTo n f g) w := by
  have hF : ∀ v : Nat → Int, (Value.agg (arrN n (intsV v))).formed Try.prog T = true := fun v => by
    obtain ⟨d, hd, hr⟩ := hu
    unfold Value.formed
    rw [hd]
    cases d <;> simp_all [arrN_size]
  have hc : ∀ v : Nat → Int, (Value.agg (arrN n (intsV v))).cells.toList = (List.range n).map (intsV v) := fun v => by simp [Value.cells, arrN]
  obtain ⟨r, hr, hiff⟩ := run_equalIn_deep (P := Try.prog) 9995 5 T hk w 5 5 _ _ _ _ (hF f) (hF g) (by rw [hc]; exact hf) (by rw [hc]; exact hg)
  rw [hr]
  have e : r = eqTo n f g := by rw [Bool.eq_iff_iff, hiff, litsN_iff]
  rw [e]
theorem run_six (w : World) (f g : Nat → Int) (hf : SmallN 6 f) (hg : SmallN 6 g) : Sem.run Try.prog (Op.equalIn 10000 45 (.agg (arrN 6 (intsV f))) (.agg (arrN 6 (intsV g)))) w = .ok (eqTo 6 f g) w :=
  run_rows (by kernel_rfl) (by kernel_rfl) ⟨_, Try.underlying45, rfl⟩ w f g (lits_six 3 f hf) (lits_six 3 g hg)
theorem run_36 (w : World) (f g : Nat → Int) (hf : SmallN 36 f) (hg : SmallN 36 g) : Sem.run Try.prog (Op.equalIn 10000 46 (.agg (arrN 36 (intsV f))) (.agg (arrN 36 (intsV g)))) w = .ok (eqTo 36 f g) w :=
  run_rows (by kernel_rfl) (by kernel_rfl) ⟨_, Try.underlying46, rfl⟩ w f g (lits_36 2 f hf) (lits_36 2 g hg)
theorem run_216 (w : World) (f g : Nat → Int) (hf : SmallN 216 f) (hg : SmallN 216 g) : Sem.run Try.prog (Op.equalIn 10000 47 (.agg (arrN 216 (intsV f))) (.agg (arrN 216 (intsV g)))) w = .ok (eqTo 216 f g) w :=
  run_rows (by kernel_rfl) (by kernel_rfl) ⟨_, Try.underlying47, rfl⟩ w f g (lits_216 1 f hf) (lits_216 1 g hg)

/-! the program's struct -/
theorem coefs_list (l : Int) (c : Nat → Int) : (coefs l c).toList = (List.range 260).map (coefV l c) := by simp [coefs, arrN]
theorem coef_lits (l : Nat) (c : Nat → Int) (hl : l ≤ 3) (hs : Plain.Small c) : Try.prog.keyLits 5 55 (coefs l c).toList = some (Lit.int .i64 (l : Int) :: litsN 259 c) := by
  rw [coefs_list]
  unfold Program.keyLits
  rw [Try.underlying55]
  have hT : Try.prog.cellsOf 55 = 260 := by kernel_rfl
  have h259 : Try.prog.cellsOf 53 = 259 := by kernel_rfl
  have hc1 := chunkN (n := 260) (m := 1) (d := 0) (coefV l c) (by omega)
  have hc2 := chunkN (n := 260) (m := 259) (d := 1) (coefV l c) (by omega)
  have e2 : ((List.range 259).map fun i => coefV l c (1 + i)) = (List.range 259).map (intsV c) := List.map_congr_left fun i _ => by unfold coefV intsV; rw [if_neg (by omega), show 1 + i - 1 = i by omega]
  have e1 : ((List.range 1).map fun i => coefV l c (0 + i)) = (List.range 1).map (intsV fun _ => (l : Int)) := rfl
  have k1 := lits_int 3 (fun _ => (l : Int)) (fun i _ => ⟨by show -262144 ≤ (l : Int); omega, by show (l : Int) ≤ 262144; omega⟩)
  have k2 := lits_259 2 c hs
  have k1' := hc1.trans e1
  simp only [hT, one_cells, h259]
  rw [if_pos ⟨by simp, by kernel_rfl⟩]
  simp only [List.mapM_cons, List.mapM_nil, one_cells, h259, k1', hc2, e2, k1, k2]
  show some (litsN 1 (fun _ => (l : Int)) ++ (litsN 259 c ++ [])) = _
  rw [List.append_nil]
  rfl
theorem run_coefs (l : Nat) (hl : l ≤ 3) (w : World) (c d : Nat → Int) (hc : Plain.Small c) (hd : Plain.Small d) : Sem.run Try.prog (Op.equalIn 10000 55 (.agg (coefs (l : Int) c)) (.agg (coefs (l : Int) d))) w = .ok (eqTo 259 c d) w := by
  have hT : Try.prog.cellsOf 55 = 260 := by kernel_rfl
  have hF : ∀ v : Nat → Int, (Value.agg (coefs (l : Int) v)).formed Try.prog 55 = true := fun v => by
    unfold Value.formed
    rw [Try.underlying55]
    simp [hT, coefs_size]
  have hcl : ∀ v : Nat → Int, (Value.agg (coefs (l : Int) v)).cells.toList = (coefs (l : Int) v).toList := fun v => by simp [Value.cells]
  obtain ⟨r, hr, hiff⟩ := run_equalIn_deep (P := Try.prog) 9995 5 55 (by kernel_rfl) w 5 5 _ _ _ _ (hF c) (hF d) (by rw [hcl]; exact coef_lits l c hl hc) (by rw [hcl]; exact coef_lits l d hl hd)
  rw [hr]
  have e : r = eqTo 259 c d := by rw [Bool.eq_iff_iff, hiff, ← litsN_iff]; simp
  rw [e]

end Go.Proofs.Ytnmjanhpjnlfcaa
