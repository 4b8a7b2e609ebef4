/- Plain mathematics of building: set words, keys, joined words, built words, trimmed words. No condition. -/
import Derived.Test.YtnmjanhpjnlfcaaBdCommSpec
import Derived.Test.YtnmjanhpjnlfcaaWord
import Derived.WalkKit
import Derived.ProofKit
namespace Go.Proofs.Ytnmjanhpjnlfcaa.Plain
set_option linter.unusedVariables false

/-! the first number that serves -/
def seekFrom (p : Nat → Bool) : Nat → Nat → Option Nat
  | 0, _ => none
  | f + 1, k => if p k = true then some k else seekFrom p f (k + 1)
/-- The first number below n that serves. -/
def seek (p : Nat → Bool) (n : Nat) : Option Nat := seekFrom p n 0
theorem seekFrom_hit {p : Nat → Bool} : ∀ f b k, b ≤ k → k < b + f → (∀ j, b ≤ j → j < k → p j = false) → p k = true → seekFrom p f b = some k := by
  intro f
  induction f with
  | zero => intro b k h1 h2; omega
  | succ f ih =>
    intro b k h1 h2 h3 h4
    rw [seekFrom]
    by_cases e : b = k
    · subst e; rw [if_pos h4]
    · rw [if_neg (by rw [h3 b (Nat.le_refl _) (by omega)]; simp)]
      exact ih (b + 1) k (by omega) (by omega) (fun j hj => h3 j (by omega)) h4
theorem seekFrom_none {p : Nat → Bool} : ∀ f b, (∀ j, b ≤ j → j < b + f → p j = false) → seekFrom p f b = none := by
  intro f
  induction f with
  | zero => intro b h; rfl
  | succ f ih =>
    intro b h
    rw [seekFrom, if_neg (by rw [h b (Nat.le_refl _) (by omega)]; simp)]
    exact ih (b + 1) (fun j h1 h2 => h j (by omega) (by omega))
theorem seek_hit {p : Nat → Bool} {n k : Nat} (hk : k < n) (h : ∀ j, j < k → p j = false) (hp : p k = true) : seek p n = some k :=
  seekFrom_hit n 0 k (Nat.zero_le _) (by omega) (fun j _ => h j) hp
theorem seek_none {p : Nat → Bool} {n : Nat} (h : ∀ j, j < n → p j = false) : seek p n = none :=
  seekFrom_none n 0 (fun j _ hj => h j (by omega))
theorem seekFrom_some {p : Nat → Bool} : ∀ f b k, seekFrom p f b = some k → p k = true ∧ k < b + f := by
  intro f
  induction f with
  | zero => intro b k h; cases h
  | succ f ih =>
    intro b k h
    rw [seekFrom] at h
    split at h
    · rename_i hp; cases h; exact ⟨hp, by omega⟩
    · have := ih (b + 1) k h; exact ⟨this.1, by omega⟩
theorem seek_some {p : Nat → Bool} {n k : Nat} (h : seek p n = some k) : p k = true ∧ k < n := by
  have := seekFrom_some n 0 k h; exact ⟨this.1, by omega⟩

/-! set words -/
def nailsTo (s : Nat) : Nat → List Int
  | 0 => []
  | k + 1 => if s.testBit k = true then nailsTo s k ++ [(k : Int) + 1] else nailsTo s k
/-- The set word of a set. -/
def setWord (s : Nat) : List Int := nailsTo s 6
theorem nailsTo_le (s k : Nat) : (nailsTo s k).length ≤ k := by
  induction k with
  | zero => exact Nat.le_refl _
  | succ k ih =>
    rw [nailsTo]
    split
    · simp; omega
    · omega
theorem nailsTo_letters (s : Nat) : ∀ k, k ≤ 6 → Letters (nailsTo s k) := by
  intro k
  induction k with
  | zero => intro _; exact Letters.nil
  | succ k ih =>
    intro hk
    rw [nailsTo]
    split
    · exact (ih (by omega)).append fun x hx => by simp at hx; omega
    · exact ih (by omega)
theorem setWord_le (s : Nat) : (setWord s).length ≤ 6 := nailsTo_le s 6
theorem setWord_letters (s : Nat) : Letters (setWord s) := nailsTo_letters s 6 (Nat.le_refl _)
theorem word_of {l : List Int} (h : Letters l) (hn : l.length ≤ 64) : wordB l = true := wordB_iff.2 ⟨hn, h⟩
theorem setWord_word (s : Nat) : wordB (setWord s) = true := word_of (setWord_letters s) (by have := setWord_le s; omega)

/-! keys -/
/-- The letter with a place in the order of all letters. -/
def letterAt (k : Nat) : Int := if k % 2 = 0 then ((k / 2 : Nat) : Int) + 1 else -(((k / 2 : Nat) : Int) + 1)
def oneTo (k : Nat) : List (List Int) := (List.range k).map fun j => [letterAt j]
def rowTo (k m : Nat) : List (List Int) := ((List.range m).filter fun j => decide (letterAt k ≠ -letterAt j)).map fun j => [letterAt k, letterAt j]
def twoTo (k : Nat) : List (List Int) := (List.range k).flatMap fun j => rowTo j 12
def keys : List (List Int) := [[]] ++ oneTo 12 ++ twoTo 12
theorem keys_len : keys.length = 145 := by kernel_rfl
theorem keys_ok : (keys.all fun k => decide (k.length ≤ 2) && k.all letterB) = true := by kernel_rfl
theorem key_at {k : Nat} {key : List Int} (h : keys[k]? = some key) : key.length ≤ 2 ∧ Letters key := by
  have := List.all_eq_true.1 keys_ok key (List.mem_of_getElem? h)
  simp only [Bool.and_eq_true, decide_eq_true_eq, List.all_eq_true, letterB_iff] at this
  exact this
theorem keys_take {k : Nat} (h : k < 145) : ∃ key, keys[k]? = some key := ⟨keys[k]'(by rw [keys_len]; exact h), List.getElem?_eq_getElem _⟩
theorem letterAt_ok (k : Nat) (h : k < 12) : letterAt k ≠ 0 ∧ -6 ≤ letterAt k ∧ letterAt k ≤ 6 := by
  unfold letterAt
  split <;> omega
theorem one_step (k : Nat) : oneTo (k + 1) = oneTo k ++ [[letterAt k]] := by simp [oneTo, List.range_succ]
theorem row_step (k m : Nat) : rowTo k (m + 1) = if letterAt k = -letterAt m then rowTo k m else rowTo k m ++ [[letterAt k, letterAt m]] := by
  rw [rowTo, List.range_succ, List.filter_append, List.map_append, ← rowTo]
  split
  · rename_i h; simp [h]
  · rename_i h; simp [h]
theorem two_step (k : Nat) : twoTo (k + 1) = twoTo k ++ rowTo k 12 := by simp [twoTo, List.range_succ]
theorem one_len (k : Nat) : (oneTo k).length = k := by simp [oneTo]
theorem row_len (k m : Nat) : (rowTo k m).length ≤ m := by
  rw [rowTo, List.length_map]
  exact Nat.le_trans (List.length_filter_le _ _) (by simp)
theorem two_len (k : Nat) : (twoTo k).length ≤ 12 * k := by
  induction k with
  | zero => simp [twoTo]
  | succ k ih => rw [two_step, List.length_append]; have := row_len k 12; omega

/-- The words with one letter more. -/
def moreRow (w : List Int) (m : Nat) : List (List Int) := ((List.range m).filter fun j => decide ((red (w ++ [letterAt j])).length = w.length + 1)).map fun j => w ++ [letterAt j]
def moreTo (ws : List (List Int)) (k : Nat) : List (List Int) := (ws.take k).flatMap fun w => moreRow w 12
theorem moreRow_step (w : List Int) (m : Nat) : moreRow w (m + 1) = if (red (w ++ [letterAt m])).length = w.length + 1 then moreRow w m ++ [w ++ [letterAt m]] else moreRow w m := by
  rw [moreRow, List.range_succ, List.filter_append, List.map_append, ← moreRow]
  split
  · rename_i h; simp [h]
  · rename_i h; simp [h]
theorem moreTo_step {ws : List (List Int)} {k : Nat} {w : List Int} (h : ws[k]? = some w) : moreTo ws (k + 1) = moreTo ws k ++ moreRow w 12 := by
  rw [moreTo, List.take_add_one, h]
  simp [moreTo]
theorem moreRow_len (w : List Int) (m : Nat) : (moreRow w m).length ≤ m := by
  rw [moreRow, List.length_map]
  exact Nat.le_trans (List.length_filter_le _ _) (by simp)
theorem moreTo_len (ws : List (List Int)) : ∀ k, (moreTo ws k).length ≤ 12 * k := by
  intro k
  induction k with
  | zero => simp [moreTo]
  | succ k ih =>
    rcases h : ws[k]? with _ | w
    · have : moreTo ws (k + 1) = moreTo ws k := by rw [moreTo, List.take_add_one, h]; simp [moreTo]
      rw [this]; omega
    · rw [moreTo_step h, List.length_append]; have := moreRow_len w 12; omega
theorem moreRow_mem {w v : List Int} {m : Nat} (h : v ∈ moreRow w m) : ∃ j, j < m ∧ v = w ++ [letterAt j] := by
  rw [moreRow, List.mem_map] at h
  obtain ⟨j, hj, rfl⟩ := h
  exact ⟨j, by have := List.mem_filter.1 hj; simpa using this.1, rfl⟩
def keys1 : List (List Int) := moreTo [[]] 1
def keys2 : List (List Int) := moreTo keys1 12
theorem keys1_len : keys1.length = 12 := by kernel_rfl
theorem keys1_ok : (keys1.all fun k => decide (k.length = 1) && k.all letterB) = true := by kernel_rfl
theorem keys_made : [[]] ++ keys1 ++ keys2 = keys := by kernel_rfl
theorem keys2_len : keys2.length = 132 := by kernel_rfl

/-! joined words -/
def conj (g v : List Int) : List Int := red (g ++ (v ++ inv g))
theorem conj_letters {g v : List Int} (h1 : Letters g) (h2 : Letters v) : Letters (conj g v) := (h1.append (h2.append h1.inv)).red
theorem conj_le (g v : List Int) : (conj g v).length ≤ 2 * g.length + v.length := by
  refine Nat.le_trans (red_length _) ?_
  rw [List.length_append, List.length_append, inv_length]; omega
/-- What two words are joined to: the commutator, or the product. -/
def joinOf (o : Bool) (u c : List Int) : List Int := if o = true then comm u c else red (u ++ c)
theorem joinOf_letters {o : Bool} {u c : List Int} (h1 : Letters u) (h2 : Letters c) : Letters (joinOf o u c) := by
  unfold joinOf
  split
  · exact h1.comm h2
  · exact (h1.append h2).red
theorem joinOf_le (o : Bool) (u c : List Int) : (joinOf o u c).length ≤ 2 * u.length + 2 * c.length := by
  unfold joinOf
  split
  · exact comm_le u c
  · exact Nat.le_trans (red_length _) (by rw [List.length_append]; omega)
def wantB (o : Bool) (u v : List Int) (s : Nat) : Bool := if o = true then fallsB u s || fallsB v s else fallsB u s && fallsB v s
theorem want_spec (o a b : Bool) : (a && b || o && (a || b)) = if o = true then a || b else a && b := by cases o <;> cases a <;> cases b <;> rfl
/-- The key with a number serves. -/
def joinAt (o : Bool) (u v : List Int) (k : Nat) : List Int := joinOf o u (conj (keys.getD k []) v)
def goodAt (o : Bool) (u v : List Int) (k : Nat) : Bool := decide ((joinAt o u v k).length ≤ 64) && alike (fallsB (joinAt o u v k)) (wantB o u v)
def joinK (o : Bool) (u v : List Int) : Option Nat := seek (goodAt o u v) 145
def joinOk (o : Bool) (u v : List Int) : Bool := (joinK o u v).isSome
def joinN (o : Bool) (u v : List Int) : Nat := (joinK o u v).getD 0
def joinW (o : Bool) (u v : List Int) : List Int := match joinK o u v with
  | some k => joinAt o u v k
  | none => []
theorem join_hit {o : Bool} {u v : List Int} {k : Nat} (hk : k < 145) (h : ∀ j, j < k → goodAt o u v j = false) (hg : goodAt o u v k = true) : joinW o u v = joinAt o u v k ∧ joinN o u v = k ∧ joinOk o u v = true := by
  have e : joinK o u v = some k := seek_hit hk h hg
  simp [joinW, joinN, joinOk, e]
theorem join_none {o : Bool} {u v : List Int} (h : ∀ j, j < 145 → goodAt o u v j = false) : joinW o u v = [] ∧ joinN o u v = 0 ∧ joinOk o u v = false := by
  have e : joinK o u v = none := seek_none h
  simp [joinW, joinN, joinOk, e]
theorem key_getD {k : Nat} {key : List Int} (h : keys[k]? = some key) : keys.getD k [] = key := by rw [List.getD_eq_getElem?_getD, h]; rfl
theorem joinAt_key {o : Bool} {u v : List Int} {k : Nat} {key : List Int} (h : keys[k]? = some key) : joinAt o u v k = joinOf o u (conj key v) := by rw [joinAt, key_getD h]
theorem joinW_le (o : Bool) (u v : List Int) : (joinW o u v).length ≤ 64 := by
  unfold joinW
  split
  · rename_i k h
    have := (seek_some h).1
    simp only [goodAt, Bool.and_eq_true, decide_eq_true_eq] at this
    exact this.1
  · simp
theorem joinW_letters {o : Bool} {u v : List Int} (h1 : Letters u) (h2 : Letters v) : Letters (joinW o u v) := by
  unfold joinW
  split
  · rename_i k h
    obtain ⟨key, hk⟩ := keys_take (seek_some h).2
    rw [joinAt_key hk]
    exact joinOf_letters h1 (conj_letters (key_at hk).2 h2)
  · exact Letters.nil
theorem joinW_word {o : Bool} {u v : List Int} (h1 : Letters u) (h2 : Letters v) : wordB (joinW o u v) = true := word_of (joinW_letters h1 h2) (joinW_le o u v)

/-! words that are built in order -/
def setAt (xs : List Int) (k : Nat) : List Int := setWord (xs.getD k 0).toNat
/-- What the first k + 1 sets give. -/
def buildTo (xs : List Int) : Nat → Option (List Int)
  | 0 => some (setAt xs 0)
  | k + 1 => match buildTo xs k with
    | none => none
    | some u => if joinOk true u (setAt xs (k + 1)) = true then some (joinW true u (setAt xs (k + 1))) else none
def built (xs : List Int) : Option (List Int) := if xs.length = 0 then none else buildTo xs (xs.length - 1)
theorem buildTo_word {xs : List Int} : ∀ k u, buildTo xs k = some u → wordB u = true := by
  intro k
  induction k with
  | zero => intro u h; cases h; exact setWord_word _
  | succ k ih =>
    intro u h
    rw [buildTo] at h
    split at h
    · cases h
    · rename_i v hv
      split at h
      · cases h; exact joinW_word (wordB_iff.1 (ih v hv)).2 (setWord_letters _)
      · cases h
theorem buildTo_stop {xs : List Int} {k : Nat} (h : buildTo xs k = none) : ∀ m, k ≤ m → buildTo xs m = none := by
  intro m hm
  induction m with
  | zero => rw [Nat.le_zero] at hm; subst hm; exact h
  | succ m ih =>
    by_cases e : k = m + 1
    · subst e; exact h
    · rw [buildTo, ih (by omega)]
theorem buildTo_step {xs : List Int} {k : Nat} {u : List Int} (h : buildTo xs k = some u) : buildTo xs (k + 1) = if joinOk true u (setAt xs (k + 1)) = true then some (joinW true u (setAt xs (k + 1))) else none := by rw [buildTo, h]
def builtW (xs : List Int) : List Int := (built xs).getD []
def builtB (xs : List Int) : Bool := (built xs).isSome
theorem built_nil {xs : List Int} (h : xs.length = 0) : builtW xs = [] ∧ builtB xs = false := by simp [builtW, builtB, built, h]
theorem built_no {xs : List Int} {k : Nat} (hk : k < xs.length) (h : buildTo xs k = none) : builtW xs = [] ∧ builtB xs = false := by
  have e : built xs = none := by rw [built, if_neg (by omega)]; exact buildTo_stop h _ (by omega)
  simp [builtW, builtB, e]
theorem built_yes {xs : List Int} {k : Nat} {u : List Int} (hk : k + 1 = xs.length) (h : buildTo xs k = some u) : builtW xs = u ∧ builtB xs = true := by
  have e : built xs = some u := by rw [built, if_neg (by omega), show xs.length - 1 = k by omega]; exact h
  simp [builtW, builtB, e]
theorem builtW_word (xs : List Int) : (builtW xs).length ≤ 64 ∧ Letters (builtW xs) := by
  unfold builtW built
  split
  · exact ⟨by simp, Letters.nil⟩
  · rcases h : buildTo xs (xs.length - 1) with _ | u
    · exact ⟨by simp, Letters.nil⟩
    · exact wordB_iff.1 (buildTo_word _ _ h)

/-! words that are built of halves -/
def halves : Nat → List Int → Option (List Int)
  | 0, _ => none
  | f + 1, xs => if xs.length = 0 then none else if xs.length = 1 then some (setAt xs 0) else
    match halves f (xs.take ((xs.length + 1) / 2)), halves f (xs.drop ((xs.length + 1) / 2)) with
    | some u, some v => if joinOk true u v = true then some (joinW true u v) else none
    | _, _ => none
theorem halves_eq (f : Nat) (xs : List Int) : halves (f + 1) xs = if xs.length = 0 then none else if xs.length = 1 then some (setAt xs 0) else
    match halves f (xs.take ((xs.length + 1) / 2)), halves f (xs.drop ((xs.length + 1) / 2)) with
    | some u, some v => if joinOk true u v = true then some (joinW true u v) else none
    | _, _ => none := rfl
theorem halves_word (f : Nat) : ∀ xs u, halves f xs = some u → wordB u = true := by
  induction f with
  | zero => intro xs u h; cases h
  | succ f ih =>
    intro xs u h
    rw [halves] at h
    split at h
    · cases h
    · split at h
      · cases h; exact setWord_word _
      · split at h
        · rename_i u1 u2 h1 h2
          split at h
          · cases h; exact joinW_word (wordB_iff.1 (ih _ _ h1)).2 (wordB_iff.1 (ih _ _ h2)).2
          · cases h
        · cases h
theorem halves_more (f : Nat) : ∀ g xs, xs.length ≤ f → xs.length ≤ g → halves (f + 1) xs = halves (g + 1) xs := by
  induction f with
  | zero =>
    intro g xs h _
    rw [halves_eq 0 xs, halves_eq g xs, if_pos (by omega), if_pos (by omega)]
  | succ f ih =>
    intro g xs h1 h2
    rw [halves_eq (f + 1) xs, halves_eq g xs]
    by_cases e0 : xs.length = 0
    · rw [if_pos e0, if_pos e0]
    · rw [if_neg e0, if_neg e0]
      by_cases e1 : xs.length = 1
      · rw [if_pos e1, if_pos e1]
      · rw [if_neg e1, if_neg e1]
        obtain ⟨g', rfl⟩ : ∃ g', g = g' + 1 := ⟨g - 1, by omega⟩
        rw [ih g' (xs.take ((xs.length + 1) / 2)) (by rw [List.length_take]; omega) (by rw [List.length_take]; omega), ih g' (xs.drop ((xs.length + 1) / 2)) (by rw [List.length_drop]; omega) (by rw [List.length_drop]; omega)]

/-! trimmed words -/
def dropAt (w : List Int) (i : Nat) : List Int := red (w.take i ++ w.drop (i + 1))
theorem dropAt_len {w : List Int} {i : Nat} (h : i < w.length) : (dropAt w i).length < w.length := by
  refine Nat.lt_of_le_of_lt (red_length _) ?_
  rw [List.length_append, List.length_take, List.length_drop]; omega
theorem dropAt_letters {w : List Int} (h : Letters w) (i : Nat) : Letters (dropAt w i) := ((h.sub fun x hx => List.mem_of_mem_take hx).append (h.sub fun x hx => List.mem_of_mem_drop hx)).red
def sparesB (t : Nat → Bool) (w : List Int) (i : Nat) : Bool := alike (fallsB (dropAt w i)) t
/-- What is left when letters are taken out, at most f of them. -/
def trimTo (t : Nat → Bool) : Nat → List Int → List Int
  | 0, w => w
  | f + 1, w => match seek (sparesB t w) w.length with
    | none => w
    | some i => trimTo t f (dropAt w i)
theorem trimTo_more (t : Nat → Bool) (f : Nat) : ∀ g w, w.length ≤ f → w.length ≤ g → trimTo t f w = trimTo t g w := by
  induction f with
  | zero =>
    intro g w h _
    cases g with
    | zero => rfl
    | succ g => rw [trimTo, trimTo, show w.length = 0 by omega]; rfl
  | succ f ih =>
    intro g w h1 h2
    cases g with
    | zero => rw [trimTo, trimTo, show w.length = 0 by omega]; rfl
    | succ g =>
      rw [trimTo, trimTo]
      rcases h : seek (sparesB t w) w.length with _ | i
      · rfl
      · have := dropAt_len (seek_some h).2
        exact ih g (dropAt w i) (by omega) (by omega)
def trim (w : List Int) : List Int := trimTo (fallsB w) w.length w
theorem trim_none {t : Nat → Bool} {w : List Int} {n : Nat} (h : ∀ j, j < w.length → sparesB t w j = false) (hn : w.length ≤ n) : trimTo t n w = w := by
  cases n with
  | zero => rfl
  | succ n => rw [trimTo, seek_none h]
theorem trim_hit {t : Nat → Bool} {w : List Int} {n i : Nat} (hi : i < w.length) (h : ∀ j, j < i → sparesB t w j = false) (hg : sparesB t w i = true) (hn : w.length ≤ n) : trimTo t n w = trimTo t n (dropAt w i) := by
  obtain ⟨m, rfl⟩ : ∃ m, n = m + 1 := ⟨n - 1, by omega⟩
  have := dropAt_len hi
  rw [trimTo_more t (m + 1) m (dropAt w i) (by omega) (by omega)]
  conv => lhs; rw [trimTo, seek_hit hi h hg]
theorem alike_left {t u : Nat → Bool} (h : alike t u = true) (v : Nat → Bool) : alike v t = alike v u := by
  have h1 := (alikeTo_iff 64).1 h
  rw [Bool.eq_iff_iff]
  constructor
  · intro k; exact (alikeTo_iff 64).2 fun i hi => ((alikeTo_iff 64).1 k i hi).trans (h1 i hi)
  · intro k; exact (alikeTo_iff 64).2 fun i hi => ((alikeTo_iff 64).1 k i hi).trans (h1 i hi).symm
theorem trimTo_le (t : Nat → Bool) (f : Nat) : ∀ w, (trimTo t f w).length ≤ w.length := by
  induction f with
  | zero => intro w; exact Nat.le_refl _
  | succ f ih =>
    intro w
    rw [trimTo]
    split
    · exact Nat.le_refl _
    · rename_i i h
      have := dropAt_len (seek_some h).2
      exact Nat.le_trans (ih _) (by omega)

end Go.Proofs.Ytnmjanhpjnlfcaa.Plain
