/- Contracts: spec.l1In, spec.l1Read, spec.ParseInt, impl.ParseInt: the number whose decimal text is given, or failure. Condition of the last: the library's table and its two error values lie as their initialisers lay them. -/
import Derived.Test.YthcggmjgecdfgaaDoorFmtWalks
import Derived.Test.YthcggmjgecdfgaaDoorVerWalks
import Derived.Test.YthcggmjgecdfgaaDoorRead
namespace Go.Proofs.YthcggmjgecdfgaaDoor
open Go.ChangeShapes Go.WideShapes Go.ChangeAt Go.RowKit

theorem l1In_yes (x a b : Int) (h0 : a ≤ x) (h1 : x ≤ b) (w : World) :
    Calls Tryd.prog 24 #[.int .i64 x, .int .i64 a, .int .i64 b] w fun e w' => e = .returned (.bool true) ∧ w = w' := by
  go_enter Tryd.func24, Tryd.ntmps24
  go_wp2
  go_ret
  exact ⟨ret_bool (by simp), rfl⟩
theorem l1In_no (x a b : Int) (h : x < a ∨ b < x) (w : World) :
    Calls Tryd.prog 24 #[.int .i64 x, .int .i64 a, .int .i64 b] w fun e w' => e = .returned (.bool false) ∧ w = w' := by
  by_cases h1 : a ≤ x
  · have h2 : b < x := by omega
    clear h
    go_enter Tryd.func24, Tryd.ntmps24
    go_wp2
    go_ret
    exact ⟨ret_bool (by simp; omega), rfl⟩
  · have h2 : x < a := by omega
    clear h
    go_enter Tryd.func24, Tryd.ntmps24
    go_wp2
    go_ret
    exact ⟨ret_bool (by simp), rfl⟩

/-- What reading a decimal text comes to. -/
def RdOut (s : ByteArray) (m : Int) (b : Bool) : Prop :=
  (b = true ∧ (-999999 ≤ m ∧ m ≤ 999999) ∧ Plain.intS m = s) ∨ (b = false ∧ m = 0 ∧ ∀ n, -999999 ≤ n → n ≤ 999999 → ¬ Plain.intS n = s)
theorem RdOut.same {s : ByteArray} {m m' : Int} {b b' : Bool} (h : RdOut s m b) (k : RdOut s m' b') : m' = m ∧ b' = b := by
  rcases h with ⟨rfl, ⟨h0, h1⟩, h2⟩ | ⟨rfl, rfl, h⟩ <;> rcases k with ⟨rfl, ⟨k0, k1⟩, k2⟩ | ⟨rfl, rfl, k⟩
  · exact ⟨Plain.intS_inj k0 k1 h0 h1 (k2.trans h2.symm), rfl⟩
  · exact absurd h2 (k m h0 h1)
  · exact absurd k2 (h m' k0 k1)
  · exact ⟨rfl, rfl⟩
theorem RdOut.some (s : ByteArray) : ∃ m b, RdOut s m b := by
  by_cases h : ∃ n, -999999 ≤ n ∧ n ≤ 999999 ∧ Plain.intS n = s
  · obtain ⟨n, h0, h1, h2⟩ := h
    exact ⟨n, true, .inl ⟨rfl, ⟨h0, h1⟩, h2⟩⟩
  · exact ⟨0, false, .inr ⟨rfl, rfl, fun n h0 h1 h2 => h ⟨n, h0, h1, h2⟩⟩⟩

def RdPost (s : ByteArray) (w : World) (e : Ending) (w' : World) : Prop := ∃ m b q, e = .returned (.tuple #[.int .i64 m, .bool b]) ∧ RdOut s m b ∧ w' = w.drewN q
theorem rd_no {s : ByteArray} {w : World} {q : Nat} (h : ∀ n, -999999 ≤ n → n ≤ 999999 → ¬ Plain.intS n = s) : RdPost s w (.returned (.tuple #[.int .i64 0, .bool false])) (w.drewN q) := ⟨0, false, q, rfl, .inr ⟨rfl, rfl, h⟩, rfl⟩
theorem rd_yes {s : ByteArray} {w : World} {q : Nat} {m : Int} (h0 : -999999 ≤ m) (h1 : m ≤ 999999) (h : Plain.intS m = s) : RdPost s w (.returned (.tuple #[.int .i64 m, .bool true])) (w.drewN q) := ⟨m, true, q, rfl, .inl ⟨rfl, ⟨h0, h1⟩, h⟩, rfl⟩

/-- What the two roads of the reader know: t is what is read as digits, sg the number's sign. -/
structure Road (s t : ByteArray) (sg : Int) : Prop where
  back : ∀ n, -999999 ≤ n → n ≤ 999999 → Plain.intS n = s → (1 ≤ t.size ∧ t.size ≤ 6) ∧ (∀ c ∈ t.data.toList, Plain.isDig c) ∧ sg * Plain.valI t.data.toList = n

theorem road_plain (s : ByteArray) (h : ¬ (1 < s.size ∧ s.data.toList.head? = some 45)) : Road s s 1 := by
  refine ⟨fun n h0 h1 e => ?_⟩
  by_cases hn : 0 ≤ n
  · obtain ⟨u, rfl⟩ : ∃ u : Nat, n = u := ⟨n.toNat, by omega⟩
    obtain ⟨k1, k2, k3⟩ := Plain.back_nat (by omega) e
    exact ⟨k1, k2, by omega⟩
  · obtain ⟨u, rfl⟩ : ∃ u : Nat, n = -(u : Int) := ⟨n.natAbs, by omega⟩
    obtain ⟨k1, k2, k3, -, -⟩ := Plain.back_neg (by omega) (by omega) e
    exact absurd ⟨by omega, by rw [k1]; rfl⟩ h

theorem road_minus (s : ByteArray) (h : s.data.toList.head? = some 45) : Road s (Plain.unsigned s) (-1) := by
  refine ⟨fun n h0 h1 e => ?_⟩
  by_cases hn : 0 ≤ n
  · obtain ⟨u, rfl⟩ : ∃ u : Nat, n = u := ⟨n.toNat, by omega⟩
    obtain ⟨k1, k2, k3⟩ := Plain.back_nat (by omega) e
    have := k2 45 (List.mem_of_mem_head? (by rw [h]; rfl))
    unfold Plain.isDig at this
    exact absurd this (by decide)
  · obtain ⟨u, rfl⟩ : ∃ u : Nat, n = -(u : Int) := ⟨n.natAbs, by omega⟩
    obtain ⟨k1, k2, k3, k4, k5⟩ := Plain.back_neg (by omega) (by omega) e
    exact ⟨k3, k4, by omega⟩

theorem head_of (s : ByteArray) (h : 0 < s.size) : s.data.toList.head? = some s[0] := by
  have h' : 0 < s.data.toList.length := by rw [Array.length_toList]; exact h
  rw [List.head?_eq_getElem?, List.getElem?_eq_getElem h']
  rfl

theorem rd_no0 {s : ByteArray} {w : World} (h : ∀ n, -999999 ≤ n → n ≤ 999999 → ¬ Plain.intS n = s) : RdPost s w (.returned (.tuple #[.int .i64 0, .bool false])) w := rd_no (q := 0) h
theorem rd_size {s t : ByteArray} {sg : Int} (R : Road s t sg) (h : ¬ (1 ≤ t.size ∧ t.size ≤ 6)) : ∀ n, -999999 ≤ n → n ≤ 999999 → ¬ Plain.intS n = s := fun n h0 h1 e => h (R.back n h0 h1 e).1
theorem rd_dig {s t : ByteArray} {sg : Int} (R : Road s t sg) {k : Nat} (hk : k < t.size) (h : ¬ Plain.isDig t[k]) : ∀ n, -999999 ≤ n → n ≤ 999999 → ¬ Plain.intS n = s := fun n h0 h1 e =>
  h ((R.back n h0 h1 e).2.1 _ (by
    have h' : k < t.data.toList.length := by rw [Array.length_toList]; exact hk
    exact List.getElem_mem h'))
theorem rd_other {s t : ByteArray} {sg m : Int} (R : Road s t sg) (hm : sg * Plain.valI t.data.toList = m) (h : ¬ Plain.intS m = s) : ∀ n, -999999 ≤ n → n ≤ 999999 → ¬ Plain.intS n = s := fun n h0 h1 e => by
  have := (R.back n h0 h1 e).2.2
  rw [hm] at this
  subst this
  exact h e
theorem dig_snoc {t : ByteArray} {k : Nat} (hk : k < t.size) (h : ∀ c ∈ t.data.toList.take k, Plain.isDig c) (hc : Plain.isDig t[k]) : ∀ c ∈ t.data.toList.take (k + 1), Plain.isDig c := by
  rw [Plain.take_snoc t k hk]
  intro c hm
  rcases List.mem_append.1 hm with hm | hm
  · exact h c hm
  · obtain rfl : c = _ := List.mem_singleton.1 hm
    exact hc

set_option maxHeartbeats 1000000 in
theorem l1Read_minus (s t : ByteArray) (w : World) (h1 : 1 < s.size) (hs : s.size ≤ 1048576) (hq : ((s[0].toNat : Int) == 45) = true) (ht : Plain.unsigned s = t) (R : Hid (Road s t (-1))) (hts : t.size < s.size) :
    Calls Tryd.prog 29 #[.string s] w (RdPost s w) := by
  have hsl : ∀ wx, (Instr.slice 9 (.string s) (some (.int .i64 1)) none none).run Tryd.prog wx = .ok (.string t) wx := fun wx => by
    rw [← ht]; unfold Plain.unsigned
    simp [go_sem, Tryd.underlying9]
    intro hh
    omega
  clear ht
  · go_enter Tryd.func29, Tryd.ntmps29
    go_wp2_with fail
    by_cases hz : 1 ≤ t.size ∧ t.size ≤ 6
    · obtain ⟨hz1, hz2⟩ := hz
      go_wp2_with (go_at_call 24; refine (l1In_yes _ _ _ (by omega) (by omega) _).mono ?_; rintro e w' ⟨rfl, rfl⟩)
      go_loop [5, 6] (fun n i => ∃ k : Nat, k ≤ t.size ∧ i = .int .i64 k ∧ n = .int .i64 (Plain.valI (t.data.toList.take k)) ∧ ∀ c ∈ t.data.toList.take k, Plain.isDig c) (fun _ i => t.size - (intOf i).toNat)
      case atStart => exact ⟨0, Nat.zero_le _, rfl, rfl, by simp⟩
      case round =>
        obtain ⟨k, hk, rfl, rfl, hdig⟩ := hrel
        have hvb := Plain.valI_le (t.data.toList.take k) 6 999999 (by decide) (by rw [List.length_take]; omega) hdig
        have HD := Lib.hid hdig
        by_cases hlt : k < t.size
        · have hv5 := Plain.valI_le (t.data.toList.take k) 5 99999 (by decide) (by rw [List.length_take]; omega) hdig
          have HS := Lib.hid (show Plain.valI (t.data.toList.take (k + 1)) = 10 * Plain.valI (t.data.toList.take k) + ((t[k].toNat : Int) - 48) by rw [Plain.take_snoc t k hlt, Plain.valI_snoc])
          generalize Plain.valI (t.data.toList.take k) = v at HS hvb hv5 ⊢
          obtain ⟨hv0, hv9⟩ := hv5
          have hb : (t[k].toNat : Int) ≤ 255 := by have := UInt8.toNat_lt t[k]; omega
          have hb0 : (0 : Int) ≤ (t[k].toNat : Int) := by omega
          clear hdig hvb
          by_cases hlo : (t[k].toNat : Int) < 48
          · have HN := Lib.hid (rd_dig R.out hlt (by unfold Plain.isDig; omega))
            go_wp2
            go_ret2
            exact rd_no0 HN.out
          · by_cases hhi : 57 < (t[k].toNat : Int)
            · have HN := Lib.hid (rd_dig R.out hlt (by unfold Plain.isDig; omega))
              go_wp2
              go_ret2
              exact rd_no0 HN.out
            · have HC := Lib.hid (dig_snoc hlt HD.out (by unfold Plain.isDig; omega))
              go_wp2
              go_round
              case rel => exact ⟨k + 1, by omega, by go_num, by rw [HS.out], HC.out⟩
              case measure => simp [intOf]; omega
        · have HT := Lib.hid (Plain.take_all t k (by omega))
          obtain ⟨v, hv⟩ : ∃ v, v = Plain.valI (t.data.toList.take k) := ⟨_, rfl⟩
          have HM := Lib.hid (show (-1) * Plain.valI t.data.toList = -v by rw [hv, HT.out]; omega)
          rw [← hv] at hvb ⊢
          clear hv
          obtain ⟨hv0, hv9⟩ := hvb
          have hn := Lib.hid (l1Num_any (-v) (by omega) (by omega))
          clear hdig
          by_cases hE : Plain.intS (-v) = s
          · have hq2 := str_eq hE
            have HE := Lib.hid hE
            clear hE
            go_wp2_with (go_at_call 25; refine (hn.out _).mono ?_; rintro e w' ⟨rfl, q, rfl⟩)
            go_ret2
            exact rd_yes (by omega) (by omega) HE.out
          · have hq2 := str_ne hE
            have HN := Lib.hid (rd_other R.out HM.out hE)
            clear hE
            go_wp2_with (go_at_call 25; refine (hn.out _).mono ?_; rintro e w' ⟨rfl, q, rfl⟩)
            go_ret2
            exact rd_no HN.out
    · have HN := Lib.hid (rd_size R.out hz)
      go_wp2_with (go_at_call 24; refine (l1In_no _ _ _ (by omega) _).mono ?_; rintro e w' ⟨rfl, rfl⟩)
      go_ret2
      exact rd_no0 HN.out

set_option maxHeartbeats 1000000 in
theorem l1Read_plain (s : ByteArray) (w : World) (h1 : 1 < s.size) (hs : s.size ≤ 1048576) (hq : ((s[0].toNat : Int) == 45) = false) (R : Hid (Road s s 1)) :
    Calls Tryd.prog 29 #[.string s] w (RdPost s w) := by
  · go_enter Tryd.func29, Tryd.ntmps29
    go_wp2_with fail
    by_cases hz : 1 ≤ s.size ∧ s.size ≤ 6
    · obtain ⟨hz1, hz2⟩ := hz
      go_wp2_with (go_at_call 24; refine (l1In_yes _ _ _ (by omega) (by omega) _).mono ?_; rintro e w' ⟨rfl, rfl⟩)
      go_loop [5, 6] (fun n i => ∃ k : Nat, k ≤ s.size ∧ i = .int .i64 k ∧ n = .int .i64 (Plain.valI (s.data.toList.take k)) ∧ ∀ c ∈ s.data.toList.take k, Plain.isDig c) (fun _ i => s.size - (intOf i).toNat)
      case atStart => exact ⟨0, Nat.zero_le _, rfl, rfl, by simp⟩
      case round =>
        obtain ⟨k, hk, rfl, rfl, hdig⟩ := hrel
        have hvb := Plain.valI_le (s.data.toList.take k) 6 999999 (by decide) (by rw [List.length_take]; omega) hdig
        have HD := Lib.hid hdig
        by_cases hlt : k < s.size
        · have hv5 := Plain.valI_le (s.data.toList.take k) 5 99999 (by decide) (by rw [List.length_take]; omega) hdig
          have HS := Lib.hid (show Plain.valI (s.data.toList.take (k + 1)) = 10 * Plain.valI (s.data.toList.take k) + ((s[k].toNat : Int) - 48) by rw [Plain.take_snoc s k hlt, Plain.valI_snoc])
          generalize Plain.valI (s.data.toList.take k) = v at HS hvb hv5 ⊢
          obtain ⟨hv0, hv9⟩ := hv5
          have hb : (s[k].toNat : Int) ≤ 255 := by have := UInt8.toNat_lt s[k]; omega
          have hb0 : (0 : Int) ≤ (s[k].toNat : Int) := by omega
          clear hdig hvb
          by_cases hlo : (s[k].toNat : Int) < 48
          · have HN := Lib.hid (rd_dig R.out hlt (by unfold Plain.isDig; omega))
            go_wp2
            go_ret2
            exact rd_no0 HN.out
          · by_cases hhi : 57 < (s[k].toNat : Int)
            · have HN := Lib.hid (rd_dig R.out hlt (by unfold Plain.isDig; omega))
              go_wp2
              go_ret2
              exact rd_no0 HN.out
            · have HC := Lib.hid (dig_snoc hlt HD.out (by unfold Plain.isDig; omega))
              go_wp2
              go_round
              case rel => exact ⟨k + 1, by omega, by go_num, by rw [HS.out], HC.out⟩
              case measure => simp [intOf]; omega
        · have HT := Lib.hid (Plain.take_all s k (by omega))
          obtain ⟨v, hv⟩ : ∃ v, v = Plain.valI (s.data.toList.take k) := ⟨_, rfl⟩
          have HM := Lib.hid (show (1) * Plain.valI s.data.toList = v by rw [hv, HT.out]; omega)
          rw [← hv] at hvb ⊢
          clear hv
          obtain ⟨hv0, hv9⟩ := hvb
          have hn := Lib.hid (l1Num_any (v) (by omega) (by omega))
          clear hdig
          by_cases hE : Plain.intS (v) = s
          · have hq2 := str_eq hE
            have HE := Lib.hid hE
            clear hE
            go_wp2_with (go_at_call 25; refine (hn.out _).mono ?_; rintro e w' ⟨rfl, q, rfl⟩)
            go_ret2
            exact rd_yes (by omega) (by omega) HE.out
          · have hq2 := str_ne hE
            have HN := Lib.hid (rd_other R.out HM.out hE)
            clear hE
            go_wp2_with (go_at_call 25; refine (hn.out _).mono ?_; rintro e w' ⟨rfl, q, rfl⟩)
            go_ret2
            exact rd_no HN.out
    · have HN := Lib.hid (rd_size R.out hz)
      go_wp2_with (go_at_call 24; refine (l1In_no _ _ _ (by omega) _).mono ?_; rintro e w' ⟨rfl, rfl⟩)
      go_ret2
      exact rd_no0 HN.out

set_option maxHeartbeats 1000000 in
theorem l1Read_one (s : ByteArray) (w : World) (h1 : ¬ 1 < s.size) (R : Hid (Road s s 1)) :
    Calls Tryd.prog 29 #[.string s] w (RdPost s w) := by
  · go_enter Tryd.func29, Tryd.ntmps29
    go_wp2_with fail
    by_cases hz : 1 ≤ s.size ∧ s.size ≤ 6
    · obtain ⟨hz1, hz2⟩ := hz
      go_wp2_with (go_at_call 24; refine (l1In_yes _ _ _ (by omega) (by omega) _).mono ?_; rintro e w' ⟨rfl, rfl⟩)
      go_loop [5, 6] (fun n i => ∃ k : Nat, k ≤ s.size ∧ i = .int .i64 k ∧ n = .int .i64 (Plain.valI (s.data.toList.take k)) ∧ ∀ c ∈ s.data.toList.take k, Plain.isDig c) (fun _ i => s.size - (intOf i).toNat)
      case atStart => exact ⟨0, Nat.zero_le _, rfl, rfl, by simp⟩
      case round =>
        obtain ⟨k, hk, rfl, rfl, hdig⟩ := hrel
        have hvb := Plain.valI_le (s.data.toList.take k) 6 999999 (by decide) (by rw [List.length_take]; omega) hdig
        have HD := Lib.hid hdig
        by_cases hlt : k < s.size
        · have hv5 := Plain.valI_le (s.data.toList.take k) 5 99999 (by decide) (by rw [List.length_take]; omega) hdig
          have HS := Lib.hid (show Plain.valI (s.data.toList.take (k + 1)) = 10 * Plain.valI (s.data.toList.take k) + ((s[k].toNat : Int) - 48) by rw [Plain.take_snoc s k hlt, Plain.valI_snoc])
          generalize Plain.valI (s.data.toList.take k) = v at HS hvb hv5 ⊢
          obtain ⟨hv0, hv9⟩ := hv5
          have hb : (s[k].toNat : Int) ≤ 255 := by have := UInt8.toNat_lt s[k]; omega
          have hb0 : (0 : Int) ≤ (s[k].toNat : Int) := by omega
          clear hdig hvb
          by_cases hlo : (s[k].toNat : Int) < 48
          · have HN := Lib.hid (rd_dig R.out hlt (by unfold Plain.isDig; omega))
            go_wp2
            go_ret2
            exact rd_no0 HN.out
          · by_cases hhi : 57 < (s[k].toNat : Int)
            · have HN := Lib.hid (rd_dig R.out hlt (by unfold Plain.isDig; omega))
              go_wp2
              go_ret2
              exact rd_no0 HN.out
            · have HC := Lib.hid (dig_snoc hlt HD.out (by unfold Plain.isDig; omega))
              go_wp2
              go_round
              case rel => exact ⟨k + 1, by omega, by go_num, by rw [HS.out], HC.out⟩
              case measure => simp [intOf]; omega
        · have HT := Lib.hid (Plain.take_all s k (by omega))
          obtain ⟨v, hv⟩ : ∃ v, v = Plain.valI (s.data.toList.take k) := ⟨_, rfl⟩
          have HM := Lib.hid (show (1) * Plain.valI s.data.toList = v by rw [hv, HT.out]; omega)
          rw [← hv] at hvb ⊢
          clear hv
          obtain ⟨hv0, hv9⟩ := hvb
          have hn := Lib.hid (l1Num_any (v) (by omega) (by omega))
          clear hdig
          by_cases hE : Plain.intS (v) = s
          · have hq2 := str_eq hE
            have HE := Lib.hid hE
            clear hE
            go_wp2_with (go_at_call 25; refine (hn.out _).mono ?_; rintro e w' ⟨rfl, q, rfl⟩)
            go_ret2
            exact rd_yes (by omega) (by omega) HE.out
          · have hq2 := str_ne hE
            have HN := Lib.hid (rd_other R.out HM.out hE)
            clear hE
            go_wp2_with (go_at_call 25; refine (hn.out _).mono ?_; rintro e w' ⟨rfl, q, rfl⟩)
            go_ret2
            exact rd_no HN.out
    · have HN := Lib.hid (rd_size R.out hz)
      go_wp2_with (go_at_call 24; refine (l1In_no _ _ _ (by omega) _).mono ?_; rintro e w' ⟨rfl, rfl⟩)
      go_ret2
      exact rd_no0 HN.out

theorem l1Read_any (s : ByteArray) (w : World) (hs : s.size ≤ 1048576) : Calls Tryd.prog 29 #[.string s] w (RdPost s w) := by
  by_cases h1 : 1 < s.size
  · have hh := head_of s (by omega)
    by_cases hc : s[0] = 45
    · have hd : s.data.toList.head? = some 45 := by rw [hh, hc]
      have hl := Plain.unsigned_list s
      have hz : (Plain.unsigned s).size < s.size := by rw [Plain.size_list, Plain.size_list s, hl, List.length_drop]; rw [Plain.size_list] at h1; omega
      exact l1Read_minus s _ w h1 hs (by rw [hc]; rfl) rfl (Lib.hid (road_minus s hd)) hz
    · refine l1Read_plain s w h1 hs ?_ (Lib.hid (road_plain s (fun hx => hc ?_)))
      · rw [beq_eq_false_iff_ne]
        intro e
        exact hc (UInt8.toNat_inj.1 (by have : (45 : UInt8).toNat = 45 := rfl; omega))
      · have := hx.2
        rw [hh] at this
        exact Option.some.inj this
  · exact l1Read_one s w h1 (Lib.hid (road_plain s (fun hx => h1 hx.1)))

theorem specParse_is (s : ByteArray) (m : Int) (b : Bool) (h : RdOut s m b) (w : World) (hs : s.size ≤ 1048576) :
    Calls Tryd.prog 14 #[.string s] w fun e w' => e = .returned (.tuple #[.int .i64 m, .bool b]) ∧ Below w.heap.size w w' := by
  have HR : Hid (∀ w, Calls Tryd.prog 29 #[.string s] w fun e w' => e = .returned (.tuple #[.int .i64 m, .bool b]) ∧ Below w.heap.size w w') := by
    refine Lib.hid (fun w => (l1Read_any s w hs).mono ?_)
    rintro e w' ⟨m', b', q, rfl, ho, rfl⟩
    obtain ⟨rfl, rfl⟩ := h.same ho
    exact ⟨rfl, below_drewN (Below.refl _ _) q⟩
  clear h
  go_enter Tryd.func14, Tryd.ntmps14
  go_wp2_with (go_at_call 29; refine (HR.out _).mono ?_; rintro e w1 ⟨rfl, hb⟩)
  go_ret2
  exact ⟨rfl, hb⟩

end Go.Proofs.YthcggmjgecdfgaaDoor
