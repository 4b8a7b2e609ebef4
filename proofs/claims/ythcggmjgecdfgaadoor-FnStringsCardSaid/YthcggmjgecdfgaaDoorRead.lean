/- Plain mathematics of reading decimal texts: digits back to their number, and the library's reading of a written number. No condition. -/
import Derived.Test.YthcggmjgecdfgaaDoorSeal
import Derived.Lib.AtoiAll
namespace Go.Proofs.YthcggmjgecdfgaaDoor.Plain
open Go

def isDig (c : UInt8) : Prop := 48 ≤ c.toNat ∧ c.toNat ≤ 57
def valFrom (a : Int) (l : List UInt8) : Int := l.foldl (fun a c => 10 * a + ((c.toNat : Int) - 48)) a
def valI (l : List UInt8) : Int := valFrom 0 l

theorem valFrom_append (a : Int) (l r : List UInt8) : valFrom a (l ++ r) = valFrom (valFrom a l) r := by
  unfold valFrom; rw [List.foldl_append]
theorem valI_snoc (l : List UInt8) (c : UInt8) : valI (l ++ [c]) = 10 * valI l + ((c.toNat : Int) - 48) := by
  unfold valI; rw [valFrom_append]; rfl

theorem digit_toNat (d : Nat) (h : d < 10) : (UInt8.ofNat (48 + d)).toNat = 48 + d := by
  have e : (UInt8.ofNat (48 + d)).toNat = (48 + d) % 256 := by simp [UInt8.toNat_ofNat']
  omega

theorem decDigits_big (u : Nat) (h : ¬ u < 10) : Lib.decDigits u = Lib.decDigits (u / 10) ++ [UInt8.ofNat (48 + u % 10)] := by
  conv => lhs; rw [Lib.decDigits, dif_neg h]

theorem dec_isDig (u : Nat) : ∀ c ∈ Lib.decDigits u, isDig c := by
  induction u using Nat.strongRecOn with
  | _ u ih =>
    by_cases h : u < 10
    · rw [Lib.decDigits_one h]
      intro c hc
      obtain rfl : c = _ := List.mem_singleton.1 hc
      unfold isDig
      rw [digit_toNat u h]; omega
    · rw [decDigits_big u h]
      intro c hc
      rcases List.mem_append.1 hc with hc | hc
      · exact ih (u / 10) (by omega) c hc
      · obtain rfl : c = _ := List.mem_singleton.1 hc
        unfold isDig
        rw [digit_toNat _ (Nat.mod_lt _ (by omega))]; omega

theorem dec_val (u : Nat) : valI (Lib.decDigits u) = (u : Int) := by
  induction u using Nat.strongRecOn with
  | _ u ih =>
    by_cases h : u < 10
    · rw [Lib.decDigits_one h]
      show 10 * (0 : Int) + (((UInt8.ofNat (48 + u)).toNat : Int) - 48) = u
      rw [digit_toNat u h]; omega
    · rw [decDigits_big u h, valI_snoc, ih (u / 10) (by omega), digit_toNat _ (Nat.mod_lt _ (by omega))]
      omega

theorem valI_bound : ∀ (k : Nat) (l : List UInt8), l.length = k → (∀ c ∈ l, isDig c) → 0 ≤ valI l ∧ valI l + 1 ≤ ((10 ^ k : Nat) : Int)
  | 0, l, hl, _ => by
    obtain rfl : l = [] := List.eq_nil_of_length_eq_zero hl
    exact ⟨by decide, by decide⟩
  | k + 1, l, hl, hd => by
    have hne : l ≠ [] := by intro e; simp [e] at hl
    obtain ⟨i, c, rfl⟩ : ∃ i c, l = i ++ [c] := ⟨l.dropLast, l.getLast hne, (List.dropLast_concat_getLast hne).symm⟩
    have hc : isDig c := hd c (by simp)
    obtain ⟨h1, h2⟩ := valI_bound k i (by simpa using hl) (fun x hx => hd x (by simp [hx]))
    rw [valI_snoc, Nat.pow_succ]
    unfold isDig at hc
    omega

theorem valI_le (l : List UInt8) (k b : Nat) (hb : 10 ^ k ≤ b + 1) (hl : l.length ≤ k) (hd : ∀ c ∈ l, isDig c) : 0 ≤ valI l ∧ valI l ≤ (b : Int) := by
  obtain ⟨h1, h2⟩ := valI_bound l.length l rfl hd
  have h3 : 10 ^ l.length ≤ 10 ^ k := Nat.pow_le_pow_right (by decide) hl
  omega

/-- Is there a sign, and what stands behind it? -/
def neg (s : ByteArray) : Prop := ∃ r, s.data.toList = 45 :: r ∧ r ≠ []
def unsigned (s : ByteArray) : ByteArray := s.extract 1 s.size

theorem unsigned_list (s : ByteArray) : (unsigned s).data.toList = s.data.toList.drop 1 := by
  unfold unsigned
  rw [ByteArray.data_extract, Array.toList_extract, List.extract_eq_take_drop]
  exact List.take_of_length_le (by rw [List.length_drop, Array.length_toList]; exact Nat.le_refl _)

theorem dec_length (u : Nat) (h : u ≤ 999999) : 1 ≤ (Lib.decDigits u).length ∧ (Lib.decDigits u).length ≤ 6 := by
  rw [Lib.decDigits_length]
  exact ⟨Lib.nDigits_pos u, nDigits_le 5 u (by omega)⟩


/-- Reading back a number that is at least 0. -/
theorem back_nat {s : ByteArray} {u : Nat} (hu : u ≤ 999999) (h : intS (u : Int) = s) :
    (1 ≤ s.size ∧ s.size ≤ 6) ∧ (∀ c ∈ s.data.toList, isDig c) ∧ valI s.data.toList = (u : Int) := by
  rw [intS_nat] at h
  subst h
  have e : (numS u).data.toList = Lib.decDigits u := by unfold numS; simp
  rw [size_list, e]
  exact ⟨dec_length u hu, dec_isDig u, dec_val u⟩

theorem back_neg {s : ByteArray} {u : Nat} (h1 : 1 ≤ u) (hu : u ≤ 999999) (h : intS (-(u : Int)) = s) :
    s.data.toList = 45 :: (unsigned s).data.toList ∧ s.size = (unsigned s).size + 1 ∧ (1 ≤ (unsigned s).size ∧ (unsigned s).size ≤ 6) ∧ (∀ c ∈ (unsigned s).data.toList, isDig c) ∧ valI (unsigned s).data.toList = (u : Int) := by
  rw [intS_neg u h1] at h
  have e : s.data.toList = 45 :: Lib.decDigits u := by
    subst h; unfold numS; simp [ByteArray.data_append]
  have e2 : (unsigned s).data.toList = Lib.decDigits u := by rw [unsigned_list, e]; rfl
  rw [size_list s, size_list (unsigned s), e, e2]
  exact ⟨rfl, rfl, dec_length u hu, dec_isDig u, dec_val u⟩

/-- The library's reading of a written number. -/
theorem parse_append : ∀ (a b : List UInt8) (acc v : Nat), Lib.parseUint10 acc a = .ok v → Lib.parseUint10 acc (a ++ b) = Lib.parseUint10 v b
  | [], b, acc, v, h => by
    simp only [Lib.parseUint10] at h
    injection h with h
    subst h; rfl
  | c :: r, b, acc, v, h => by
    rw [List.cons_append, Lib.parseUint10]
    rw [Lib.parseUint10] at h
    by_cases h1 : 48 ≤ c.toNat ∧ c.toNat ≤ 57
    · rw [if_pos h1] at h ⊢
      by_cases h2 : 1844674407370955162 ≤ acc
      · rw [if_pos h2] at h; cases h
      · rw [if_neg h2] at h ⊢
        by_cases h3 : 18446744073709551616 ≤ acc * 10 + (c.toNat - 48)
        · rw [if_pos h3] at h; cases h
        · rw [if_neg h3] at h ⊢
          exact parse_append r b _ v h
    · rw [if_neg h1] at h; cases h

theorem parse_one (acc d : Nat) (hd : d < 10) (ha : acc ≤ 1000000) : Lib.parseUint10 acc [UInt8.ofNat (48 + d)] = .ok (acc * 10 + d) := by
  have e := digit_toNat d hd
  unfold Lib.parseUint10
  rw [e, if_pos (by omega), if_neg (by omega), if_neg (by omega)]
  unfold Lib.parseUint10
  congr 1
  omega

theorem parse_dec (u : Nat) : u ≤ 1000000 → Lib.parseUint10 0 (Lib.decDigits u) = .ok u := by
  induction u using Nat.strongRecOn with
  | _ u ih =>
    intro hu
    by_cases h : u < 10
    · rw [Lib.decDigits_one h, parse_one 0 u h (by omega)]
      congr 1
      omega
    · rw [decDigits_big u h, parse_append _ _ 0 (u / 10) (ih (u / 10) (by omega) (by omega)), parse_one _ _ (Nat.mod_lt _ (by omega)) (by omega)]
      congr 1
      omega

theorem mag_dec (u : Nat) (hu : u ≤ 999999) : Lib.parseMag (Lib.decDigits u) = .ok u := by
  have hl := (dec_length u hu).1
  unfold Lib.parseMag
  rw [if_neg (by intro e; rw [e] at hl; simp at hl), parse_dec u (by omega)]

theorem atoi_intS (n : Int) (h0 : -999999 ≤ n) (h1 : n ≤ 999999) : Lib.atoiAll (intS n).data.toList = .ok n := by
  by_cases hn : 0 ≤ n
  · obtain ⟨u, rfl⟩ : ∃ u : Nat, n = u := ⟨n.toNat, by omega⟩
    have e : (intS (u : Int)).data.toList = Lib.decDigits u := by rw [intS_nat]; unfold numS; simp
    have hl := (dec_length u (by omega)).1
    have hd := dec_isDig u
    have hm := mag_dec u (by omega)
    rw [e]
    cases hc : Lib.decDigits u with
    | nil => rw [hc] at hl; simp at hl
    | cons c r =>
      rw [hc] at hd hm
      have hcd := hd c (by simp)
      unfold isDig at hcd
      unfold Lib.atoiAll
      simp only []
      rw [if_neg (by omega), hm]
      simp only []
      rw [if_neg (by omega), if_neg (by omega), if_neg (by omega)]
  · obtain ⟨u, rfl⟩ : ∃ u : Nat, n = -(u : Int) := ⟨n.natAbs, by omega⟩
    have e : (intS (-(u : Int))).data.toList = 45 :: Lib.decDigits u := by rw [intS_neg u (by omega)]; unfold numS; simp [ByteArray.data_append]
    have hm := mag_dec u (by omega)
    rw [e]
    unfold Lib.atoiAll
    simp only []
    rw [if_pos (Or.inr (by decide)), hm]
    simp only []
    rw [if_neg (by intro hh; exact hh.1 (by decide)), if_neg (by omega), if_pos (by decide)]

theorem intS_inj {n m : Int} (h0 : -999999 ≤ n) (h1 : n ≤ 999999) (h2 : -999999 ≤ m) (h3 : m ≤ 999999) (h : intS n = intS m) : n = m := by
  have e1 := atoi_intS n h0 h1
  have e2 := atoi_intS m h2 h3
  rw [h, e2] at e1
  injection e1 with e1
  exact e1.symm

end Go.Proofs.YthcggmjgecdfgaaDoor.Plain
