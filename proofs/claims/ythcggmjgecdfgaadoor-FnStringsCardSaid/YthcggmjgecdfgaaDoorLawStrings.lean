/- Proved: for every list of bytes, laws.FnStrings returns true and leaves its argument as it was, the library tables and errors being as the program text lays them. No other condition. -/
import Derived.Test.YthcggmjgecdfgaaDoorLaid
import Derived.Test.YthcggmjgecdfgaaDoorDrawsD
import Derived.Test.YthcggmjgecdfgaaDoorFlip
import Derived.Test.YthcggmjgecdfgaaDoorVerWalks
import Derived.Test.YthcggmjgecdfgaaDoorParseWalks
import Derived.Test.YthcggmjgecdfgaaDoorSealWalks
namespace Go.Proofs.YthcggmjgecdfgaaDoor.fnStrings
open Go.ChangeShapes Go.WideShapes Go.ChangeAt Go.RowKit
open Go.ChangeMaps (open_string shut_string)
set_option linter.unusedVariables false

theorem laidOut : laidOutB Tryd.prog = true := by kernel_rfl

def IsRow (k : IntKind) (w : World) (a : Option Addr) (len cap : Nat) (zs : List Int) : Prop :=
  (a = none ∧ len = 0 ∧ cap = 0 ∧ zs = []) ∨
  ∃ x, a = some x ∧ len ≤ cap ∧ cap ≤ maxLen ∧ zs.length = cap ∧ (∀ i, i < zs.length → w.cell? (x.add i) = some (.int k (zs.getD i 0))) ∧ ∀ n ∈ zs, (Lit.int k n).wf = true

theorem code_of {W : World} {a : Option Addr} {len cap : Nat} {zs : List Int} (h : IsRow .u8 W a len cap zs) : Code8 W a len ∧ len ≤ 9223372036854775807 := by
  rcases h with ⟨rfl, rfl, rfl, rfl⟩ | ⟨x, rfl, hl, hm, hz, hc, hw⟩
  · exact ⟨fun i hi => absurd hi (by omega), by omega⟩
  · unfold maxLen at hm
    refine ⟨fun i hi => ?_, by omega⟩
    have hc' := hc i (by omega)
    obtain ⟨b, o, s⟩ := x
    have hsp : s = none := by simpa [Addr.add] using World.cell?_spot (hc 0 (by omega))
    subst hsp
    have hmem : zs.getD i 0 ∈ zs := by
      rw [List.getD_eq_getElem?_getD, List.getElem?_eq_getElem (by omega)]
      exact List.getElem_mem _
    have hb := hw _ hmem
    obtain ⟨z, hz⟩ : ∃ z, z = zs.getD i 0 := ⟨_, rfl⟩
    rw [← hz] at hb hc'
    have e1 : IntKind.u8.min = 0 := by decide
    have e2 : IntKind.u8.max = 255 := by decide
    simp [Lit.wf] at hb
    exact ⟨b, o, z, rfl, by rw [← add_plain]; exact hc', by omega, by omega⟩

theorem vBig_any (a : Option Addr) (len cap : Nat) (w : World) (h : len ≤ 9223372036854775807) : Calls Tryd.prog 8 #[.slice a len cap] w fun e w' => e = .returned (.bool (decide (65536 < len))) ∧ w = w' := by
  by_cases hb : 65536 < len
  · go_enter Tryd.func8, Tryd.ntmps8
    go_wp2
    go_ret
    exact ⟨by simp [hb]; omega, rfl⟩
  · go_enter Tryd.func8, Tryd.ntmps8
    go_wp2
    go_ret
    exact ⟨by simp [hb]; omega, rfl⟩

set_option maxHeartbeats 400000 in
theorem vAt_any (a : Option Addr) (len cap i : Nat) (w : World) (hC : Hid (Code8 w a len)) (hi : i ≤ 1000) (hlen : len ≤ 65536) : Calls Tryd.prog 19 #[.slice a len cap, .int .i64 (i : Int)] w fun e w' => ∃ r : Nat, e = .returned (.int .i64 (r : Int)) ∧ r ≤ 255 ∧ w = w' := by
  by_cases hb : i < len
  · obtain ⟨b, o, z, rfl, hz, hz0, hz1⟩ := hC.out i hb
    have h1 : (i : Int) < (len : Int) := by omega
    have h2 : (0 : Int) ≤ (i : Int) := by omega
    go_enter Tryd.func19, Tryd.ntmps19
    go_wp2
    go_ret
    obtain ⟨u, rfl⟩ := Int.eq_ofNat_of_zero_le hz0
    exact ⟨u, rfl, by omega, rfl⟩
  · have h1 : ¬ (i : Int) < (len : Int) := by omega
    go_enter Tryd.func19, Tryd.ntmps19
    go_wp2
    go_ret
    have e : (((i * 7 + len) % 256 : Nat) : Int) = ((i : Int) * 7 + (len : Int)) % 256 := by omega
    exact ⟨(i * 7 + len) % 256, by rw [e]; rfl, by omega, rfl⟩

theorem vAt_nine (a : Option Addr) (len cap : Nat) (w : World) (hC : Hid (Code8 w a len)) (hlen : len ≤ 65536) : Calls Tryd.prog 19 #[.slice a len cap, .int .i64 9] w fun e w' => ∃ r : Nat, e = .returned (.int .i64 (r : Int)) ∧ r ≤ 255 ∧ w = w' := vAt_any a len cap 9 w hC (by omega) hlen
theorem vAt_ten (a : Option Addr) (len cap : Nat) (w : World) (hC : Hid (Code8 w a len)) (hlen : len ≤ 65536) : Calls Tryd.prog 19 #[.slice a len cap, .int .i64 10] w fun e w' => ∃ r : Nat, e = .returned (.int .i64 (r : Int)) ∧ r ≤ 255 ∧ w = w' := vAt_any a len cap 10 w hC (by omega) hlen

/-- Both formatters come to the same, and what is read back is the number. -/
theorem formats (n : Int) (h0 : -1000000 ≤ n) (h1 : n ≤ 1000000) (w : World) (hT : Tab w) : ∃ s ok m b, RdOut s m b ∧ (ok = true → b = true ∧ m = n) ∧ s.size ≤ 30 ∧
    (∀ v, Below w.heap.size w v → Calls Tryd.prog 10 #[.int .i64 n] v fun e w' => e = .returned (.tuple #[.string s, .bool ok]) ∧ Below v.heap.size v w') ∧
    ∀ v, Calls Tryd.prog 11 #[.int .i64 n] v fun e w' => e = .returned (.tuple #[.string s, .bool ok]) ∧ Below v.heap.size v w' := by
  by_cases h : n < -999999 ∨ 999999 < n
  · obtain ⟨m, b, hr⟩ := RdOut.some ByteArray.empty
    refine ⟨ByteArray.empty, false, m, b, hr, (fun h => by cases h), by decide, fun v _ => (implFormatInt_out n (by omega) (by omega) h v).mono ?_, fun v => (specFormatInt_out n (by omega) (by omega) h v).mono ?_⟩
    all_goals
      rintro e w' ⟨rfl, rfl⟩
      exact ⟨rfl, Below.refl _ _⟩
  · refine ⟨Plain.intS n, true, n, true, .inl ⟨rfl, ⟨by omega, by omega⟩, rfl⟩, fun _ => ⟨rfl, rfl⟩, intS_small n (by omega) (by omega), fun v hb => implFormatInt_any n (by omega) (by omega) v (Lib.hid (hT.on hb)), fun v => (specFormatInt_any n (by omega) (by omega) v).mono ?_⟩
    rintro e w' ⟨rfl, q, rfl⟩
    exact ⟨rfl, below_drewN (Below.refl _ _) q⟩

theorem seals (x : ByteArray) (hx : x.size ≤ 5000) (w : World) (hT : Tab w) : ∃ y b, ((b = true ∧ sealOk x = true ∧ y = Plain.sealS x) ∨ (b = false ∧ y = ByteArray.empty)) ∧
    (∀ v, Below w.heap.size w v → Calls Tryd.prog 16 #[.string x] v fun e w' => e = .returned (.tuple #[.string y, .bool b]) ∧ Below v.heap.size v w') ∧
    ∀ v, Calls Tryd.prog 17 #[.string x] v fun e w' => e = .returned (.tuple #[.string y, .bool b]) ∧ Below v.heap.size v w' := by
  cases h : sealOk x with
  | true =>
    refine ⟨_, true, .inl ⟨rfl, rfl, rfl⟩, fun v hb => implAppend_yes x v (Lib.hid (hT.on hb)) h, fun v => (specAppend_yes x v h).mono ?_⟩
    rintro e w' ⟨rfl, q, rfl⟩
    exact ⟨rfl, below_drewN (Below.refl _ _) q⟩
  | false =>
    refine ⟨_, false, .inr ⟨rfl, rfl⟩, fun v hb => implAppend_no x v (Lib.hid (hT.on hb)) (by omega) h, fun v => (specAppend_no x v (by omega) h).mono ?_⟩
    rintro e w' ⟨rfl, q, rfl⟩
    exact ⟨rfl, below_drewN (Below.refl _ _) q⟩

theorem sealOk_parts {x : ByteArray} (h : sealOk x = true) : Plain.has x 35 = false ∧ (Plain.sealS x).size ≤ 4000 := by
  unfold sealOk at h
  simp only [Bool.and_eq_true, decide_eq_true_eq, Bool.not_eq_true'] at h
  exact ⟨h.1.2, h.2⟩
theorem before_seal {x : ByteArray} (h : sealOk x = true) : Plain.before (Plain.sealS x) 35 = x := by
  have hx : 35 ∉ x.data.toList := by simpa [Plain.has] using (sealOk_parts h).1
  apply Plain.eq_of_list
  unfold Plain.before
  rw [Plain.seal_list, Plain.pre_app 35 _ _ hx]
theorem verify_yes (x : ByteArray) (h : sealOk x = true) (w : World) (hT : Hid (Tab w)) (hM : Hid (MaxIs w)) :
    Calls Tryd.prog 18 #[.string (Plain.sealS x)] w fun e w' => e = .returned (.tuple #[.string x, .bool true]) ∧ Below w.heap.size w w' := by
  have hb := before_seal h
  have hz := (sealOk_parts h).2
  have hc := implVerify_yes (Plain.sealS x) w hT hM (by omega) (by rw [hb]; exact h) (by rw [hb])
  rw [hb] at hc
  exact hc
theorem verify_no (x b : ByteArray) (k : Nat) (v : UInt8) (h : sealOk x = true) (hb : b.data.toList = (Plain.sealS x).data.toList.set k v) (hne : (Plain.sealS x).data.toList.set k v ≠ (Plain.sealS x).data.toList) (w : World) (hT : Hid (Tab w)) (hM : Hid (MaxIs w)) :
    Calls Tryd.prog 18 #[.string b] w fun e w' => e = .returned (.tuple #[.string ByteArray.empty, .bool false]) ∧ Below w.heap.size w w' := by
  have hz := (sealOk_parts h).2
  have hbs : b.size = (Plain.sealS x).size := by rw [Plain.size_list, Plain.size_list, hb]; simp
  have hn := Plain.flip_no x b k v (sealOk_parts h).1 hb hne
  cases hk : sealOk (Plain.before b 35) with
  | true => exact implVerify_no b w hT hM (by omega) hk hn
  | false => exact implVerify_unsealed b w hT hM (by omega) hk

/-- The bytes of a text in a new row. -/
theorem toBytes (y : ByteArray) (w : World) : ∃ (C : Nat) (w' : World), (convert 9 22 (.string y)).run Tryd.prog w = .ok (.slice (some ⟨w.heap.size, 0, none⟩) y.size C) w' ∧
    (∀ j (hj : j < y.data.toList.length), w'.cell? ⟨w.heap.size, j, none⟩ = some (.int .u8 (y.data.toList[j].toNat : Int))) ∧ (∀ j, j < y.size → w'.frozen? ⟨w.heap.size, j, none⟩ = false) ∧ Below w.heap.size w w' := by
  refine ⟨_, _, run_bytes_of_string w 9 22 5 y Tryd.underlying9 Tryd.underlying22 Tryd.underlying5, fun j hj => ?_, fun j hj => ?_, ?_⟩
  · have hj' : j < y.data.size := by simpa using hj
    have h := World.cell?_alloc_mark w.drew (bytesRow y (grownCap w y.size 0 5)) 5 ((bytesRow y (grownCap w y.size 0 5)).size, (bytesRow y (grownCap w y.size 0 5)).size + 1) j
    rw [bytesRow_at y _ j hj'] at h
    exact h
  · have h := World.frozen?_alloc_mark w.drew (bytesRow y (grownCap w y.size 0 5)) 5 (bytesRow y (grownCap w y.size 0 5)).size ((bytesRow y (grownCap w y.size 0 5)).size + 1) j
    have hs : y.size ≤ (bytesRow y (grownCap w y.size 0 5)).size := by
      unfold bytesRow
      rw [Array.size_append, Array.size_map]
      exact Nat.le_add_right _ _
    rw [decide_eq_false (by omega), Bool.false_and] at h
    exact h
  · exact ((Below.refl _ w).drew).alloc (Nat.le_refl _) _

theorem ten_fin : ∀ r : Fin 256, IntKind.u8.wrap (IntKind.i64.wrap (1 + ((r.val : Nat) : Int).tmod 255)) = ((1 + r.val % 255 : Nat) : Int) := by decide +kernel
theorem other_byte (z : UInt8) (r : Nat) (hr : r ≤ 255) : ∃ v : UInt8, v ≠ z ∧ bits .xor .u8 (z.toNat : Int) (IntKind.u8.wrap (IntKind.i64.wrap (1 + (r : Int).tmod 255))) = (v.toNat : Int) := by
  have h1 := ten_fin ⟨r, by omega⟩
  have hz := z.toNat_lt
  have hm : 1 + r % 255 < 256 := by omega
  have hx := u8_xor_nat z.toNat (1 + r % 255) (by omega) hm
  have hl : z.toNat ^^^ (1 + r % 255) < 2 ^ 8 := Nat.xor_lt_two_pow (by omega) (by omega)
  have ht : (UInt8.ofNat (z.toNat ^^^ (1 + r % 255))).toNat = z.toNat ^^^ (1 + r % 255) := by
    rw [UInt8.toNat_ofNat']
    exact Nat.mod_eq_of_lt hl
  refine ⟨UInt8.ofNat (z.toNat ^^^ (1 + r % 255)), fun e => ?_, ?_⟩
  · have e1 : z.toNat ^^^ (1 + r % 255) = z.toNat := by rw [← ht, e]
    have e2 : z.toNat ^^^ (z.toNat ^^^ (1 + r % 255)) = 1 + r % 255 := by rw [← Nat.xor_assoc, Nat.xor_self, Nat.zero_xor]
    rw [e1, Nat.xor_self] at e2
    omega
  · have h1' : IntKind.u8.wrap (IntKind.i64.wrap (1 + (r : Int).tmod 255)) = ((1 + r % 255 : Nat) : Int) := h1
    rw [h1', ht]
    exact hx

/-- The row of a checksummed text of which one byte is changed, turned into a text again: it is verified no more. -/
theorem flipped (x y : ByteArray) (hok : sealOk x = true) (hyx : y = Plain.sealS x) (w w11 w12 : World) (C k r : Nat) (z : UInt8) (hr : r ≤ 255)
    (hcell : ∀ j (hj : j < y.data.toList.length), w12.cell? ⟨w11.heap.size, j, none⟩ = some (.int .u8 (y.data.toList[j].toNat : Int))) (hk : k < y.size) (hzv : y.data.toList[k]? = some z)
    (h11 : w.heap.size ≤ w11.heap.size) (h12 : Below w.heap.size w w12) :
    ∃ (b : ByteArray) (W : World), (w12.setCell ⟨w11.heap.size, k, none⟩ (.int .u8 (bits .xor .u8 (z.toNat : Int) (IntKind.u8.wrap (IntKind.i64.wrap (1 + (r : Int).tmod 255)))))).drew = W ∧
      (convert 22 9 (.slice (some ⟨w11.heap.size, 0, none⟩) y.size C)).run Tryd.prog W = .ok (.string b) W ∧ Below w.heap.size w W ∧
      ∀ v, Hid (Tab v) → Hid (MaxIs v) → Calls Tryd.prog 18 #[.string b] v fun e w' => e = .returned (.tuple #[.string ByteArray.empty, .bool false]) ∧ Below v.heap.size v w' := by
  obtain ⟨v, hv, he⟩ := other_byte z r hr
  rw [he]
  have hl : (y.data.toList.set k v).length = y.size := by rw [List.length_set, ← Plain.size_list]
  have hne : y.data.toList.set k v ≠ y.data.toList := by
    intro e
    have h1 : (y.data.toList.set k v)[k]? = some v := List.getElem?_set_self (by rw [← Plain.size_list]; exact hk)
    rw [e, hzv] at h1
    exact hv (Option.some.inj h1).symm
  refine ⟨⟨(y.data.toList.set k v).toArray⟩, _, rfl, ?_, (h12.setCell (p := ⟨w11.heap.size, k, none⟩) h11 _).drew, fun u hT hM => ?_⟩
  · have h := run_convert_bytes_back (P := Tryd.prog) ((w12.setCell ⟨w11.heap.size, k, none⟩ (.int .u8 (v.toNat : Int))).drew) 22 9 5 ⟨w11.heap.size, 0, none⟩ C (y.data.toList.set k v) Tryd.underlying22 Tryd.underlying5 Tryd.underlying9 (fun j hj => by
      have hj' : j < y.data.toList.length := by simpa using hj
      rw [add_plain, Nat.zero_add]
      show (w12.setCell ⟨w11.heap.size, k, none⟩ (.int .u8 (v.toNat : Int))).cell? ⟨w11.heap.size, j, none⟩ = _
      by_cases e : k = j
      · subst e
        rw [World.cell?_setCell_same w12 _ _ (hcell k hj')]
        simp
      · have hne2 : (⟨w11.heap.size, k, none⟩ : Addr) ≠ ⟨w11.heap.size, j, none⟩ := by
          intro h
          simp at h
        rw [World.cell?_setCell_other w12 _ _ _ hne2, hcell j hj']
        simp [List.getElem_set_ne e])
    rw [hl] at h
    exact h
  · rw [hyx] at hne
    exact verify_no x _ k v hok (by simp [hyx]) hne u hT hM

set_option maxRecDepth 20000 in
set_option maxHeartbeats 4000000 in
theorem walk (a0 : Option Addr) (len0 cap0 : Nat) (z0 : List Int) {w : World} (w0 : IsRow .u8 w a0 len0 cap0 z0) (hL : laidMetH Tryd.prog Rows.fnStringsRow.laid w) (hsh : w.ShapedOpen Tryd.prog) :
    Calls Tryd.prog 3 #[.slice a0 len0 cap0] w fun e w' => e = .returned (.bool true) ∧ Below w.heap.size w w' := by
  obtain ⟨hC0, hlen⟩ := code_of w0
  have hT : Tab w := pow5 hL
  have hE : ErrsAre w := errs5 hL
  have hM : MaxIs w := Tryd.laysM145.s1_3 w hsh
  have C0 := Lib.hid hC0
  have TT := Lib.hid hT
  have EE := Lib.hid hE
  have MM := Lib.hid hM
  clear hC0 w0 hL hsh hT hE hM
  by_cases hbig : 65536 < len0
  · go_enter Tryd.func3, Tryd.ntmps3
    go_wp2_with fail
    refine (vBig_any a0 len0 cap0 _ hlen).mono ?_
    rintro e w' ⟨rfl, rfl⟩
    rw [decide_eq_true hbig]
    go_wp2_with fail
    go_ret
    exact ⟨rfl, Below.refl _ _⟩
  · go_enter Tryd.func3, Tryd.ntmps3
    go_wp2_with fail
    refine (vBig_any a0 len0 cap0 _ hlen).mono ?_
    rintro e w' ⟨rfl, rfl⟩
    rw [decide_eq_false hbig]
    go_wp2_with fail
    refine (drawFormat_any a0 len0 cap0 _ C0).mono ?_
    rintro e w1 ⟨n, rfl, hn0, hn1, hb1⟩
    have B1 := Lib.hid hb1
    obtain ⟨s, ok, m1, b1, hr1, hrt, hss, hfi, hfs⟩ := formats n hn0 hn1 w TT.out
    have FI := Lib.hid hfi
    have FS := Lib.hid hfs
    have R1 := Lib.hid hr1
    have RT := Lib.hid hrt
    have qs := str_eq (rfl : s = s)
    clear hb1 hfi hfs hr1 hrt
    go_wp2_with fail
    refine (FI.out _ B1.out).mono ?_
    rintro e w2 ⟨rfl, hb⟩
    have B2 := Lib.hid (B1.out.trans (hb.mono B1.out.size))
    clear hb
    go_wp2_with fail
    refine (FS.out _).mono ?_
    rintro e w3 ⟨rfl, hb⟩
    have B3 := Lib.hid (B2.out.trans (hb.mono B2.out.size))
    clear hb
    go_wp2_with fail
    refine (drawParse_any a0 len0 cap0 _ (Lib.hid (C0.out.on B3.out))).mono ?_
    rintro e w4 ⟨t, rfl, ht, hb⟩
    have B4 := Lib.hid (B3.out.trans (hb.mono B3.out.size))
    obtain ⟨m2, b2, hr2⟩ := RdOut.some t
    have R2 := Lib.hid hr2
    clear hb hr2
    go_wp2_with fail
    refine (implParse_is t m2 b2 R2.out _ (by omega) (TT.out.on B4.out) (EE.out.on B4.out)).mono ?_
    rintro e w5 ⟨rfl, hb⟩
    have B5 := Lib.hid (B4.out.trans (hb.mono B4.out.size))
    clear hb
    go_wp2_with fail
    refine (specParse_is t m2 b2 R2.out _ (by omega)).mono ?_
    rintro e w6 ⟨rfl, hb⟩
    have B6 := Lib.hid (B5.out.trans (hb.mono B5.out.size))
    clear hb
    go_wp2_with fail
    refine (drawAppend_any a0 len0 cap0 _ (Lib.hid (C0.out.on B6.out))).mono ?_
    rintro e w7 ⟨x, rfl, hx, hb⟩
    have B7 := Lib.hid (B6.out.trans (hb.mono B6.out.size))
    obtain ⟨y, b3, hy, hai, has⟩ := seals x hx w TT.out
    have HY := Lib.hid hy
    have AI := Lib.hid hai
    have AS := Lib.hid has
    have qy := str_eq (rfl : y = y)
    clear hb hy hai has
    go_wp2_with fail
    refine (AI.out _ B7.out).mono ?_
    rintro e w8 ⟨rfl, hb⟩
    have B8 := Lib.hid (B7.out.trans (hb.mono B7.out.size))
    clear hb
    go_wp2_with fail
    refine (AS.out _).mono ?_
    rintro e w9 ⟨rfl, hb⟩
    have B9 := Lib.hid (B8.out.trans (hb.mono B8.out.size))
    clear hb
    go_wp2_with fail
    refine (implParse_is s m1 b1 R1.out _ (by omega) (TT.out.on B9.out) (EE.out.on B9.out)).mono ?_
    rintro e w10 ⟨rfl, hb⟩
    have B10 := Lib.hid (B9.out.trans (hb.mono B9.out.size))
    clear hb
    have qx := str_eq (rfl : x = x)
    rcases HY.out with ⟨rfl, hok, hyx⟩ | ⟨rfl, rfl⟩
    · have hz : y.size ≤ 4000 := by rw [hyx]; exact (sealOk_parts hok).2
      have hz1 : 0 < y.size := by rw [hyx, Plain.sealS_size]; omega
      have HYX := Lib.hid hyx
      have VY := Lib.hid (fun v hT hM => verify_yes x hok v hT hM)
      rw [← hyx] at VY
      clear hyx
      cases ok
      · skip
        go_wp2_with fail
        refine (VY.out _ (Lib.hid (TT.out.on B10.out)) (Lib.hid (MM.out.on B10.out))).mono ?_
        rintro e w11 ⟨rfl, hb⟩
        have B11 := Lib.hid (B10.out.trans (hb.mono B10.out.size))
        obtain ⟨C, w12, hcv, hcell, hfroz, hb12⟩ := toBytes y w11
        have B12 := Lib.hid (B11.out.trans (hb12.mono B11.out.size))
        have HC := Lib.hid hcell
        have HF := Lib.hid hfroz
        clear hb hcell hfroz hb12
        go_wp2_with fail
        refine (vAt_nine a0 len0 cap0 _ (Lib.hid (C0.out.on B12.out)) (by omega)).mono ?_
        rintro e w' ⟨r9, rfl, hr9, rfl⟩
        obtain ⟨k, hk, hky⟩ : ∃ k : Nat, (r9 : Int) % (y.size : Int) = (k : Int) ∧ k < y.size := ⟨r9 % y.size, by omega, Nat.mod_lt _ hz1⟩
        have hnz : (y.size : Int) ≠ 0 := by omega
        have hk0 : (0 : Int) ≤ (k : Int) := by omega
        have hk1 : (k : Int) < (y.size : Int) := by omega
        obtain ⟨z, hzc, hzv⟩ : ∃ z : UInt8, w12.cell? ⟨w11.heap.size, k, none⟩ = some (.int .u8 (z.toNat : Int)) ∧ y.data.toList[k]? = some z := by
          have hkl : k < y.data.toList.length := by rw [← Plain.size_list]; exact hky
          exact ⟨_, HC.out k hkl, List.getElem?_eq_getElem hkl⟩
        have hfz := HF.out k hky
        go_wp2_with fail
        have VT := Lib.hid (fun (v : World) (hb : Below w.heap.size w v) => vAt_ten a0 len0 cap0 v (Lib.hid (C0.out.on hb)) (by omega))
        go_region_with (go_at_call 19; (first | refine (VT.out _ B12.out).mono ?_ | refine (VT.out _ B12.out.drew).mono ?_ | refine (VT.out _ (below_drewN B12.out _)).mono ?_); rintro e w' ⟨r10, rfl, hr10, rfl⟩)
        all_goals
          obtain ⟨b, w13, hW, hcv2, hb13, hvn⟩ := flipped x y hok HYX.out w w11 w12 C k r10 z hr10 HC.out hky hzv B11.out.size B12.out
          rw [hW]
          have B13 := Lib.hid hb13
          have VN := Lib.hid hvn
          clear hW hb13 hvn
          go_wp2_with fail
          refine (VN.out _ (Lib.hid (TT.out.on B13.out)) (Lib.hid (MM.out.on B13.out))).mono ?_
          rintro e w14 ⟨rfl, hb⟩
          have B14 := Lib.hid (B13.out.trans (hb.mono B13.out.size))
          clear hb
          go_wp2_with fail
          go_ret
          exact ⟨rfl, B14.out⟩
      · obtain ⟨rfl, rfl⟩ := RT.out rfl
        go_wp2_with fail
        refine (VY.out _ (Lib.hid (TT.out.on B10.out)) (Lib.hid (MM.out.on B10.out))).mono ?_
        rintro e w11 ⟨rfl, hb⟩
        have B11 := Lib.hid (B10.out.trans (hb.mono B10.out.size))
        obtain ⟨C, w12, hcv, hcell, hfroz, hb12⟩ := toBytes y w11
        have B12 := Lib.hid (B11.out.trans (hb12.mono B11.out.size))
        have HC := Lib.hid hcell
        have HF := Lib.hid hfroz
        clear hb hcell hfroz hb12
        go_wp2_with fail
        refine (vAt_nine a0 len0 cap0 _ (Lib.hid (C0.out.on B12.out)) (by omega)).mono ?_
        rintro e w' ⟨r9, rfl, hr9, rfl⟩
        obtain ⟨k, hk, hky⟩ : ∃ k : Nat, (r9 : Int) % (y.size : Int) = (k : Int) ∧ k < y.size := ⟨r9 % y.size, by omega, Nat.mod_lt _ hz1⟩
        have hnz : (y.size : Int) ≠ 0 := by omega
        have hk0 : (0 : Int) ≤ (k : Int) := by omega
        have hk1 : (k : Int) < (y.size : Int) := by omega
        obtain ⟨z, hzc, hzv⟩ : ∃ z : UInt8, w12.cell? ⟨w11.heap.size, k, none⟩ = some (.int .u8 (z.toNat : Int)) ∧ y.data.toList[k]? = some z := by
          have hkl : k < y.data.toList.length := by rw [← Plain.size_list]; exact hky
          exact ⟨_, HC.out k hkl, List.getElem?_eq_getElem hkl⟩
        have hfz := HF.out k hky
        go_wp2_with fail
        have VT := Lib.hid (fun (v : World) (hb : Below w.heap.size w v) => vAt_ten a0 len0 cap0 v (Lib.hid (C0.out.on hb)) (by omega))
        go_region_with (go_at_call 19; (first | refine (VT.out _ B12.out).mono ?_ | refine (VT.out _ B12.out.drew).mono ?_ | refine (VT.out _ (below_drewN B12.out _)).mono ?_); rintro e w' ⟨r10, rfl, hr10, rfl⟩)
        all_goals
          obtain ⟨b, w13, hW, hcv2, hb13, hvn⟩ := flipped x y hok HYX.out w w11 w12 C k r10 z hr10 HC.out hky hzv B11.out.size B12.out
          rw [hW]
          have B13 := Lib.hid hb13
          have VN := Lib.hid hvn
          clear hW hb13 hvn
          go_wp2_with fail
          refine (VN.out _ (Lib.hid (TT.out.on B13.out)) (Lib.hid (MM.out.on B13.out))).mono ?_
          rintro e w14 ⟨rfl, hb⟩
          have B14 := Lib.hid (B13.out.trans (hb.mono B13.out.size))
          clear hb
          go_wp2_with fail
          go_ret
          exact ⟨rfl, B14.out⟩
    · cases ok
      · skip
        go_wp2_with fail
        go_ret
        exact ⟨rfl, B10.out⟩
      · obtain ⟨rfl, rfl⟩ := RT.out rfl
        go_wp2_with fail
        go_ret
        exact ⟨rfl, B10.out⟩

theorem contract (H : Type) (enc : TypeId × Value → H) (W : World) (base : Nat) (args : Array Value) (ds gs : List (DataW H)) (before : List MemPlace)
    (hval0 : ∀ (j : Nat) t v, Tryd.f3.params[j]? = some t → args[j]? = some v → Value.okWide Tryd.prog W .any base t v)
    (hW : DataW.Whole enc Tryd.prog Tryd.f3.params.toList Rows.fnStringsSpec.vars false W args.toList ds gs before)
    (hsz0 : (DataW.weightsEach Tryd.prog (Tryd.f3.params.toList ++ Rows.fnStringsSpec.plain.varTypes Tryd.prog) (ds ++ gs)).all (· ≤ reachBytes) = true)
    (hL : laidMetH Tryd.prog Rows.fnStringsRow.laid W) (hsh : W.ShapedOpen Tryd.prog) :
    Calls Tryd.prog 3 args W fun e W' => ∃ v, e = .returned v ∧ Rows.fnStringsSpec.post enc Tryd.prog Tryd.f3 false true false false W args v W' := by
  have hval : ∀ (j : Nat) t v, Tryd.f3.params[j]? = some t → args[j]? = some v → Value.okWide Tryd.prog W .any base t v := hval0
  have hsz : (DataW.weightsEach Tryd.prog (Tryd.f3.params.toList ++ Rows.fnStringsSpec.plain.varTypes Tryd.prog) (ds ++ gs)).all (· ≤ reachBytes) = true := hsz0
  clear hsz0
  have hW' := hW
  obtain ⟨p, q, hA0, hV, rfl, hfz, hnd⟩ := hW
  have hA : DataW.TrodAll enc Tryd.prog W 0 (fun _ => true) true Tryd.f3.params.toList args.toList ds p := hA0
  rw [Tryd.params3] at hA hval hsz
  obtain ⟨v0, vs0, d0, ds0, p0, q0, hargs, rfl, rfl, h0, r0⟩ := trodAll_cons hA
  obtain ⟨rfl, rfl, rfl⟩ := trodAll_nil r0
  obtain rfl : args = #[v0] := by cases args; simp_all
  obtain ⟨rfl, rfl⟩ := trodVars_none hV
  obtain ⟨a0, len0, cap0, rfl⟩ := okWide_slice Tryd.underlying22 (hval 0 22 v0 rfl rfl)
  have k0 := h0
  have lt0 : ∀ x ∈ p0, x.block < W.heap.size := by obtain ⟨m, hm⟩ := k0; exact DataW.trod_lt m _ _ _ hm
  obtain ⟨z0, w0⟩ : ∃ zs, IsRow .u8 W a0 len0 cap0 zs := by
    obtain ⟨fuel, hf⟩ := h0
    rcases open_ints Tryd.underlying22 Tryd.underlying5 (by kernel_rfl) hf with ⟨hcs, _⟩ | ⟨x, l, c, zs, hcs, _, hl, hm, hz, _, hcell, hwz⟩
    · simp [Value.cells] at hcs
      obtain ⟨rfl, rfl, rfl⟩ := hcs
      exact ⟨[], .inl ⟨rfl, rfl, rfl, rfl⟩⟩
    · simp [Value.cells] at hcs
      obtain ⟨rfl, rfl, rfl⟩ := hcs
      exact ⟨zs, .inr ⟨_, rfl, hl, hm, by simpa using hz, hcell, hwz⟩⟩
  clear hA0 hval0
  refine (walk a0 len0 cap0 z0 w0 hL hsh).mono fun e W' ⟨he, bel⟩ => ?_
  subst he
  exact ⟨_, rfl, _, _, _, [], _, [], hW', trodAll_mk1 (shut_bool Tryd.underlying4 _), (trodAll_cons_mk (Below.trod laidOut (by kernel_rfl) (of_decide_eq_true (by kernel_rfl)) k0 bel lt0) trodAll_mk0), rfl, bel.frame _, fun h => by cases h⟩

theorem reads (os : Os) {H : Type} (enc : TypeId × Value → H) : ∃ places, DataW.whole enc Tryd.prog ((laidWorld os).forCall (fun _ _ => 0) ⟨#[], #[.slice none 0 0], []⟩).memory Tryd.f3.params.toList Rows.fnStringsSpec.vars false #[Value.slice none 0 0].toList 8 = some ([.nil], [], places) :=
  ⟨[], by kernel_rfl⟩

set_option maxRecDepth 100000 in
theorem lifted (os : Os) (started : os.Started) (H : Type) (enc : TypeId × Value → H) (F : Stop.Interp) :
    ReturnsInHanded {} Tryd.checked os 3 .any ((OpenSpec.ofChange Rows.fnStringsSpec).preRow enc Tryd.prog Tryd.f3 Rows.fnStringsRow.domain false Rows.fnStringsRow.laid) (((OpenSpec.ofChange Rows.fnStringsSpec).at F).post enc Tryd.prog Tryd.f3 false true false false) := by
  obtain ⟨places, hx⟩ := reads os enc
  refine returnsInHanded_of_row (C := Tryd.checked) (s := OpenSpec.ofChange Rows.fnStringsSpec) own started (by kernel_rfl) Tryd.func3
    (witness_row_at (enc := enc) (C := Tryd.checked) false (laidWorld os) #[.slice none 0 0] rfl (by kernel_rfl) (by kernel_rfl) (by kernel_rfl)
      (OpenSpec.preRow_of_cond 8 hx (by kernel_rfl) (fun k hk => by cases hk) (by kernel_rfl) (met5 os _))) ?_
  intro W base args ds gs before hval hW _ _ hsz hL hsh _
  exact contract H enc W base args ds gs before hval hW hsz hL hsh

theorem said : Rows.FnStringsSaid :=
  OpenClaim.holds_of_cond 3 Tryd.f3 rfl rfl rfl rfl rfl rfl rfl ⟨rfl, rfl, rfl, rfl, rfl⟩ rfl rfl rfl rfl rfl (by kernel_rfl) Tryd.func3 (by kernel_rfl)
    (of_decide_eq_true (by kernel_rfl)) (by unfold Func.isWrapper; first | (rw [if_pos (by decide +kernel)]; kernel_rfl) | (rw [if_neg (by decide +kernel)]; exact ⟨rfl, rfl⟩))
    (fun os started H enc _ F => by rw [OpenClaim.pre_eq_preRow]; exact lifted os started H enc F)

theorem plain (f : FuncId) (fn : Func) (hf : Tryd.pinned.checked.prog.funcNamed "loop.example/g01206/laws.FnStrings" = some f) (hfn : Tryd.pinned.checked.prog.funcs[f]? = some fn) :
    true = Tryd.pinned.checked.prog.looks [] ∧ ∀ (j : Nat) t, fn.params[j]? = some t → Tryd.pinned.checked.prog.wantsStandIn t = false := by
  obtain rfl : f = 3 := Option.some.inj ((show Tryd.prog.funcNamed "loop.example/g01206/laws.FnStrings" = some 3 by kernel_rfl).symm.trans hf) |>.symm
  obtain rfl : fn = Tryd.f3 := (Option.some.inj (Tryd.func3.symm.trans hfn)).symm
  refine ⟨by kernel_rfl, fun j t ht => ?_⟩
  rw [Tryd.params3] at ht
  obtain rfl : t = 22 := by simpa using Array.mem_of_getElem? ht
  exact (show Tryd.prog.wantsStandIn 22 = false by kernel_rfl)

theorem card : Rows.FnStringsCardSaid :=
  Claim7.holds_tied_plain_at .later [] _ _ _ _ said (fun _ h => by cases h) (by kernel_rfl) (fun _ h => by cases h) fnStrings_row_tie rfl ⟨rfl, rfl⟩ (by kernel_rfl) rfl plain (by kernel_rfl)
end Go.Proofs.YthcggmjgecdfgaaDoor.fnStrings
