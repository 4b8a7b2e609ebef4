/- Contracts: spec.NailsOf, impl.NailsOf and what they call return the set of the nails of a word. Conditions: numbers of 64 bits, a length that fits. -/
import Derived.Test.YtnmjanhpjnlfcaaBdNailOf
import Derived.Test.YtnmjanhpjnlfcaaBdSetKit
import Derived.Test.YtnmjanhpjnlfcaaBuildMath
import Derived.Test.YtnmjanhpjnlfcaaInvWalks
import Derived.Test.YtnmjanhpjnlfcaaLawKit
import Derived.Test.YtnmjanhpjnlfcaaLists
import Derived.Test.YtnmjanhpjnlfcaaWord
import Derived.Test.YtnmjanhpjnlfcaaWordWalks
import Derived.Laws.BitsAllLaws
namespace Go.Proofs.Ytnmjanhpjnlfcaa
open Go.ChangeShapes Go.WideShapes Go.ChangeAt Go.RowKit
set_option linter.unusedVariables false

/-- The set of the nails of a list of letters. -/
def nailStep (s : Nat) (x : Int) : Nat := s ||| 2 ^ ((Plain.nail x).toNat - 1)
def nailSet (l : List Int) : Nat := l.foldl nailStep 0
theorem nailStep_lt {s : Nat} {x : Int} (hs : s < 64) (hx : -6 ≤ x ∧ x ≤ 6) : nailStep s x < 64 := by
  have h : (Plain.nail x).toNat - 1 ≤ 5 := by unfold Plain.nail; split <;> omega
  exact Nat.or_lt_two_pow (n := 6) hs (Nat.lt_of_le_of_lt (Nat.pow_le_pow_right (by decide) h) (by decide))
theorem nailFold_lt (l : List Int) : ∀ s, s < 64 → Plain.Letters l → l.foldl nailStep s < 64 := by
  induction l with
  | nil => intro s hs _; exact hs
  | cons x l ih => intro s hs hl; exact ih _ (nailStep_lt hs (hl x (by simp)).2) (fun y hy => hl y (List.mem_cons_of_mem _ hy))
theorem nailSet_lt {l : List Int} (hl : Plain.Letters l) : nailSet l < 64 := nailFold_lt l 0 (by decide) hl
theorem nailSet_take {l : List Int} {k : Nat} {x : Int} (h : l[k]? = some x) : nailSet (l.take (k + 1)) = nailStep (nailSet (l.take k)) x := by
  rw [Plain.take_snoc h, nailSet, List.foldl_append]
  rfl
theorem take_letters {l : List Int} (h : Plain.Letters l) (k : Nat) : Plain.Letters (l.take k) := fun x hx => h x (List.mem_of_mem_take hx)
/-- The nail of a letter, as a place and a power. -/
theorem nail_parts {x : Int} (hx : x ≠ 0 ∧ -6 ≤ x ∧ x ≤ 6) : ∃ p q : Nat, Plain.nail x = (p : Int) + 1 ∧ p ≤ 5 ∧ (2 : Int) ^ p = (q : Int) ∧ q ≤ 32 ∧ ∀ s, nailStep s x = s ||| q := by
  have h : ∃ p : Nat, Plain.nail x = (p : Int) + 1 ∧ p ≤ 5 := ⟨(Plain.nail x).toNat - 1, by unfold Plain.nail; split <;> omega, by unfold Plain.nail; split <;> omega⟩
  obtain ⟨p, hp, hp5⟩ := h
  refine ⟨p, 2 ^ p, hp, hp5, by simp, ?_, fun s => ?_⟩
  · exact Nat.le_trans (Nat.pow_le_pow_right (by decide) hp5) (by decide)
  · rw [nailStep, hp]
    congr 2


theorem ret_ib {a b : Int} {c d : Bool} (h1 : a = b) (h2 : c = d) : Ending.returned (.tuple #[.int .i64 a, .bool c]) = .returned (.tuple #[.int .i64 b, .bool d]) := by rw [h1, h2]
def nailsOut (xs : List Int) : Int := if Plain.wordB xs = true then (nailSet xs : Nat) else 0
theorem nails_yes {xs : List Int} (h : Plain.wordB xs = true) : nailsOut xs = (nailSet xs : Nat) := if_pos h
theorem nails_no {xs : List Int} (h : Plain.wordB xs = false) : nailsOut xs = 0 := if_neg (by rw [h]; simp)


end Go.Proofs.Ytnmjanhpjnlfcaa

/- Contracts: spec.l3Set, l3In, l3Take, TakeOut, l3Falls, DoesFall: what is left of a word when nails are taken out. Conditions: letters, sets from 0 to 63, lengths that fit. -/
namespace Go.Proofs.Ytnmjanhpjnlfcaa
open Go.ChangeShapes Go.WideShapes Go.ChangeAt Go.RowKit
set_option linter.unusedVariables false



/-- What TakeOut answers. -/
def takeB (xs : List Int) (n : Int) : Bool := Plain.wordB xs && setB n
def takeW (xs : List Int) (n : Int) : List Int := if takeB xs n = true then Plain.takeOut xs n.toNat else []
theorem takeW_le (xs : List Int) (n : Int) : (takeW xs n).length ≤ xs.length := by
  unfold takeW
  split
  · exact Plain.takeOut_le xs _
  · simp
theorem take_yes {xs : List Int} {s : Nat} (h : Plain.wordB xs = true) (hs : setB (s : Int) = true) : takeW xs (s : Int) = Plain.takeOut xs s ∧ takeB xs (s : Int) = true := by
  have hb : takeB xs (s : Int) = true := by simp [takeB, h, hs]
  exact ⟨by rw [takeW, if_pos hb]; rfl, hb⟩
theorem take_no {xs : List Int} {n : Int} (h : Plain.wordB xs = false ∨ setB n = false) : takeW xs n = [] ∧ takeB xs n = false := by
  have hb : takeB xs n = false := by rcases h with h | h <;> simp [takeB, h]
  exact ⟨by rw [takeW, if_neg (by rw [hb]; simp)], hb⟩


def fallW (xs : List Int) (n : Int) : Bool := takeB xs n && Plain.fallsB xs n.toNat
theorem fall_yes {xs : List Int} {s : Nat} (h : Plain.wordB xs = true) (hs : setB (s : Int) = true) : fallW xs (s : Int) = Plain.fallsB xs s ∧ takeB xs (s : Int) = true := by
  have hb := (take_yes h hs).2
  exact ⟨by rw [fallW, hb]; rfl, hb⟩
theorem fall_no {xs : List Int} {n : Int} (h : Plain.wordB xs = false ∨ setB n = false) : fallW xs n = false ∧ takeB xs n = false := by
  have hb := (take_no h).2
  exact ⟨by rw [fallW, hb]; rfl, hb⟩

end Go.Proofs.Ytnmjanhpjnlfcaa

/- Contracts: spec.l6Set, impl.setWord, SetWord of both. Conditions: sets from 0 to 63, numbers of 64 bits. -/
namespace Go.Proofs.Ytnmjanhpjnlfcaa
open Go.ChangeShapes Go.WideShapes Go.ChangeAt Go.RowKit
set_option linter.unusedVariables false

/-- What SetWord answers. -/
def setwW (n : Int) : List Int := if setB n = true then Plain.setWord n.toNat else []
theorem setwW_le (n : Int) : (setwW n).length ≤ 64 := by
  unfold setwW
  split
  · have := Plain.setWord_le n.toNat; omega
  · simp
theorem setw_no {n : Int} (h : setB n = false) : setwW n = [] := if_neg (by rw [h]; simp)
theorem setw_yes {s : Nat} (h : setB (s : Int) = true) : setwW (s : Int) = Plain.setWord s := by rw [setwW, if_pos h, Int.toNat_natCast]

end Go.Proofs.Ytnmjanhpjnlfcaa

/- Contracts: spec.l6Letter, l6Keys, KeyAt; impl.withOneLetterMore, keys, KeyAt. Conditions: numbers of 64 bits. -/
namespace Go.Proofs.Ytnmjanhpjnlfcaa
open Go.ChangeShapes Go.WideShapes Go.ChangeAt Go.RowKit
set_option linter.unusedVariables false

def lists (fs : List Fac) : List (List Int) := fs.map (·.2.2)
theorem lists_length (fs : List Fac) : (lists fs).length = fs.length := by simp [lists]
theorem lists_append (fs gs : List Fac) : lists (fs ++ gs) = lists fs ++ lists gs := by simp [lists]
theorem lists_at {fs : List Fac} {k : Nat} {f : Fac} (h : fs[k]? = some f) : (lists fs)[k]? = some f.2.2 := by simp [lists, h]
theorem infoLL : (Try.prog.info? 24).map (fun i => (i.zero, i.size, i.bytes)) = some (some (.slice none 0 0), 1, 24) := by kernel_rfl
theorem infoLW : (Try.prog.info? 43).map (fun i => (i.zero, i.size, i.bytes)) = some (some (.slice none 0 0), 1, 24) := by kernel_rfl
theorem info_partsL {t : TypeId} {z : Value} {n b : Nat} (h : (Try.prog.info? t).map (fun i => (i.zero, i.size, i.bytes)) = some (some z, n, b)) : ∃ i, Try.prog.info? t = some i ∧ i.zero = some z ∧ i.size = n ∧ i.bytes = b := by
  rcases hi : Try.prog.info? t with _ | i
  · rw [hi] at h; cases h
  · rw [hi] at h
    simp only [Option.map_some, Option.some.injEq, Prod.mk.injEq] at h
    exact ⟨i, rfl, h.1, h.2.1, h.2.2⟩
/-- A row with one empty list, laid at once. -/
theorem collF_first (T : TypeId) (w : World) : CollF T [(some ⟨w.heap.size, 0, none⟩, 0, [])] w.heap.size w (.slice (some ⟨w.heap.size + 1, 0, none⟩) 1 1) ((w.alloc (.cells #[] 3)).alloc (.cells #[.slice (some ⟨w.heap.size, 0, none⟩) 0 0] T)) := by
  have h1 := World.ownsRow_lit (base := w.heap.size) (e := T) (size := 1) (w.alloc (.cells #[] 3)) #[.slice (some ⟨w.heap.size, 0, none⟩) 0 0] 1 (by simp) (by decide) rfl
  rw [show (w.alloc (.cells #[] 3)).heap.size = w.heap.size + 1 by simp] at h1
  refine ⟨h1, fun f hf => ?_, ((Below.refl _ w).alloc (Nat.le_refl _) _).alloc (by simp) _, by simp; omega⟩
  obtain rfl := List.mem_singleton.1 hf
  exact ⟨Ints.nil _ _, ⟨Nat.le_refl _, by show (0 : Nat) ≤ _; decide, fun h => (by cases h), fun x h => ⟨_, _, by cases h; rfl⟩⟩, .inl rfl, .inl rfl⟩
/-- A list that is laid at once goes to the end of the row. -/
theorem collF_lit {T : TypeId} (hT : T ≠ 3) {xs : List Int} {fs : List Fac} {B : Nat} {w wr w1 : World} {v v' : Value} {o : Obj} (h : CollF T fs B w v wr) (hn : xs.length ≤ 1048576)
    (hown : w1.ownsRow B T 1 v' (fs.length + 1) (rowOf fs ++ [.slice (some ⟨wr.heap.size, 0, none⟩) xs.length xs.length])) (hgrow : ((wr.alloc (.cells (nums xs).toArray 3)).alloc o).grownBy w1 v.ownBlock) :
    CollF T (fs ++ [(some ⟨wr.heap.size, 0, none⟩, xs.length, xs)]) B w v' w1 :=
  collF_push hT (h.later ((Below.refl _ wr).alloc (Nat.le_refl _) _)) ((facOk_lit wr xs hn).mono h.2.2.2) hown hgrow
theorem cell_two_new (w : World) (o : Obj) (t : TypeId) (v : Value) : ∀ j u, [v][j]? = some u → ((w.alloc o).alloc (.cells #[v] t)).cell? ((⟨w.heap.size + 1, 0, none⟩ : Addr).add j) = some u := by
  have h := cell_one_new (w.alloc o) v t
  rw [show (w.alloc o).heap.size = w.heap.size + 1 by simp] at h
  exact h

end Go.Proofs.Ytnmjanhpjnlfcaa
