/- Contracts: impl's loopOf, spec's l10Times, LoopPath of both programs. Condition: words whose length fits. -/
import Derived.Test.YtpaijobmoddgpaaPathBack
import Derived.Test.YtpaijobmoddgpaaWordWalks
import Derived.Test.YtpaijobmoddgpaaNailOf
import Derived.Test.YtpaijobmoddgpaaShelf
namespace Go.Proofs.Ytpaijobmoddgpaa
open Go.ChangeShapes Go.WideShapes Go.ChangeAt Go.RowKit
set_option linter.unusedVariables false
set_option linter.unusedSimpArgs false

theorem repeat_one (b : UInt8) : ∀ n, Lib.repeatL [b] n = List.replicate n b
  | 0 => rfl
  | n + 1 => by
    have := repeat_one b n
    simp only [Lib.repeatL] at *
    simp [List.replicate_succ, this]
def oneT (b : UInt8) (n : Nat) : ByteArray := ⟨(List.replicate n b).toArray⟩
theorem oneT_list (b : UInt8) (n : Nat) : (oneT b n).data.toList = List.replicate n b := rfl
theorem oneT_size (b : UInt8) (n : Nat) : (oneT b n).size = n := by simp [oneT, ByteArray.size]
namespace Plain
/-- The loop of a letter. -/
def loopL (x : Int) : List UInt8 := if 0 < x then List.replicate (nail x).toNat 114 ++ [117, 114, 100] ++ List.replicate ((nail x).toNat + 1) 108 else List.replicate ((nail x).toNat + 1) 114 ++ [117, 108, 100] ++ List.replicate (nail x).toNat 108
def loopsL (xs : List Int) : List UInt8 := xs.flatMap loopL
theorem loopsL_snoc (xs : List Int) (x : Int) : loopsL (xs ++ [x]) = loopsL xs ++ loopL x := by simp [loopsL]
theorem loopL_le {x : Int} (h : -6 ≤ x ∧ x ≤ 6) : (loopL x).length ≤ 16 := by
  unfold loopL nail
  split
  · simp; omega
  · simp; omega
theorem loopsL_le : ∀ (xs : List Int), (∀ x ∈ xs, -6 ≤ x ∧ x ≤ 6) → (loopsL xs).length ≤ 16 * xs.length
  | [], _ => Nat.le_refl _
  | x :: xs, h => by
    have h1 := loopL_le (h x (by simp))
    have h2 := loopsL_le xs (fun y hy => h y (by simp [hy]))
    have e : loopsL (x :: xs) = loopL x ++ loopsL xs := by simp [loopsL]
    rw [e, List.length_append, List.length_cons]
    omega
end Plain
set_option maxRecDepth 100000 in
theorem l10Times_any (b : UInt8) (n : Nat) (w : World) (hn : n ≤ 100) : Calls Try.prog 63 #[.string ⟨#[b]⟩, .int .i64 n] w fun e w' => e = .returned (.string (oneT b n)) ∧ w = w' := by
  obtain ⟨S, hS⟩ : ∃ S : ByteArray, S = ⟨#[b]⟩ := ⟨_, rfl⟩
  have hSs : S.size ≤ 1 := by rw [hS]; exact Nat.le_refl _
  have HS : Hid (S.data.toList = [b]) := Lib.hid (by rw [hS])
  rw [← hS]
  clear hS
  go_enter Try.func63, Try.ntmps63
  go_wp2_with fail
  go_loop [1, 5] (fun i t => ∃ (m k : Nat) (T : ByteArray), k + m = n ∧ i = .int .i64 m ∧ t = .string T ∧ T.data.toList = List.replicate k b) (fun i _ => (intOf i).toNat)
  case atStart => exact ⟨n, 0, ⟨#[]⟩, by omega, rfl, rfl, rfl⟩
  case round =>
    obtain ⟨m, k, T, hk, rfl, rfl, hT⟩ := hrel
    have hTs : T.size ≤ 100 := by rw [size_list hT, List.length_replicate]; omega
    have HT := Lib.hid hT
    have HK := Lib.hid hk
    clear hT
    cases m with
    | zero =>
      have HE : Hid (T = oneT b n) := Lib.hid (by have := text_of HT.out; rw [this]; unfold oneT; rw [show k = n from HK.out])
      clear hk
      go_wp2_with fail
      go_ret
      exact ⟨by rw [HE.out]; rfl, rfl⟩
    | succ m =>
      have hm1 : (0 : Int) < ((m + 1 : Nat) : Int) := by omega
      have hm2 : m ≤ 100 := by omega
      clear hk
      go_wp2_with fail
      go_round
      case rel => exact ⟨m, k + 1, _, by have := HK.out; omega, by first | go_num | (congr 1; omega), rfl, by rw [cat_list, HT.out, HS.out, List.replicate_succ']⟩
      case measure => simp [intOf]; try omega
theorem repeat10_any (b : UInt8) (n : Nat) (w : World) (hn : n ≤ 100) : Calls Try.prog 94 #[.string ⟨#[b]⟩, .int .i64 n] w (Val (.string (oneT b n)) w) := by
  have h := Try.strings_Repeat ⟨#[b]⟩ n w (by omega) (by show 1 * n ≤ _; omega)
  refine h.mono ?_
  rintro e w' ⟨rfl, hb⟩
  refine ⟨?_, hb⟩
  rw [show (ByteArray.mk #[b]).data.toList = [b] from rfl, repeat_one]
  rfl
set_option maxRecDepth 100000 in
set_option maxHeartbeats 1600000 in
theorem loopOf_any (x : Int) (w : World) (hx : x ≠ 0 ∧ -6 ≤ x ∧ x ≤ 6) : Calls Try.prog 65 #[.int .i64 x] w (Val (.string ⟨(Plain.loopL x).toArray⟩) w) := by
  obtain ⟨n, hn⟩ : ∃ n : Nat, Plain.nail x = (n : Int) := ⟨(Plain.nail x).toNat, by unfold Plain.nail; split <;> omega⟩
  have hn6 : n ≤ 6 := by unfold Plain.nail at hn; split at hn <;> omega
  have HNO : Hid (∀ W, Calls Try.prog 86 #[.int .i64 x] W fun e w' => e = .returned (.int .i64 (n : Int)) ∧ W = w') := Lib.hid (fun W => by rw [← hn]; exact nailOf_left x W hx.2)
  have s1 : (oneT 114 n).size = n := oneT_size _ _
  have s2 : (oneT 108 n).size = n := oneT_size _ _
  have s3 : (oneT 114 (n + 1)).size = n + 1 := oneT_size _ _
  have s4 : (oneT 108 (n + 1)).size = n + 1 := oneT_size _ _
  have r1 : ∀ W, Calls Try.prog 94 #[.string ⟨#[114]⟩, .int .i64 n] W (Val (.string (oneT 114 n)) W) := fun W => repeat10_any 114 n W (by omega)
  have r2 : ∀ W, Calls Try.prog 94 #[.string ⟨#[108]⟩, .int .i64 n] W (Val (.string (oneT 108 n)) W) := fun W => repeat10_any 108 n W (by omega)
  have r3 : ∀ W, Calls Try.prog 94 #[.string ⟨#[114]⟩, .int .i64 ((n : Int) + 1)] W (Val (.string (oneT 114 (n + 1))) W) := fun W => repeat10_any 114 (n + 1) W (by omega)
  have r4 : ∀ W, Calls Try.prog 94 #[.string ⟨#[108]⟩, .int .i64 ((n : Int) + 1)] W (Val (.string (oneT 108 (n + 1))) W) := fun W => repeat10_any 108 (n + 1) W (by omega)
  have R1 := Lib.hid r1
  have R2 := Lib.hid r2
  have R3 := Lib.hid r3
  have R4 := Lib.hid r4
  have q1 : (oneT 114 n).size ≤ 10 := by omega
  have q2 : (oneT 108 n).size ≤ 10 := by omega
  have q3 : (oneT 114 (n + 1)).size ≤ 10 := by omega
  have q4 : (oneT 108 (n + 1)).size ≤ 10 := by omega
  clear r1 r2 r3 r4 s1 s2 s3 s4
  by_cases h0 : 0 < x
  · have HV : Hid ((⟨(Plain.loopL x).toArray⟩ : ByteArray) = oneT 114 n ++ ⟨#[117, 114, 100]⟩ ++ oneT 108 (n + 1)) := Lib.hid (by
      refine (text_of ?_).symm
      rw [cat_list, cat_list, oneT_list, oneT_list]
      unfold Plain.loopL
      rw [if_pos h0, hn]; rfl)
    rw [HV.out]
    generalize oneT 114 n = A1 at R1 q1 ⊢
    generalize oneT 108 (n + 1) = A2 at R4 q4 ⊢
    clear hn
    go_enter Try.func65, Try.ntmps65
    go_wp2_with fail
    refine (HNO.out _).mono ?_
    rintro e w' ⟨rfl, rfl⟩
    go_wp2_with fail
    refine (R1.out _).mono ?_
    rintro e w1 ⟨rfl, hb⟩
    have HB1 := Lib.hid hb
    clear hb
    go_wp2_with fail
    refine (R4.out _).mono ?_
    rintro e w2 ⟨rfl, hb⟩
    have HB2 := Lib.hid (HB1.out.trans (hb.mono HB1.out.size))
    clear hb
    go_wp2_with fail
    go_ret
    exact ⟨rfl, HB2.out⟩
  · have HV : Hid ((⟨(Plain.loopL x).toArray⟩ : ByteArray) = oneT 114 (n + 1) ++ ⟨#[117, 108, 100]⟩ ++ oneT 108 n) := Lib.hid (by
      refine (text_of ?_).symm
      rw [cat_list, cat_list, oneT_list, oneT_list]
      unfold Plain.loopL
      rw [if_neg h0, hn]; rfl)
    rw [HV.out]
    generalize oneT 114 (n + 1) = A1 at R3 q3 ⊢
    generalize oneT 108 n = A2 at R2 q2 ⊢
    clear hn
    go_enter Try.func65, Try.ntmps65
    go_wp2_with fail
    refine (HNO.out _).mono ?_
    rintro e w' ⟨rfl, rfl⟩
    go_wp2_with fail
    refine (R3.out _).mono ?_
    rintro e w1 ⟨rfl, hb⟩
    have HB1 := Lib.hid hb
    clear hb
    go_wp2_with fail
    refine (R2.out _).mono ?_
    rintro e w2 ⟨rfl, hb⟩
    have HB2 := Lib.hid (HB1.out.trans (hb.mono HB1.out.size))
    clear hb
    go_wp2_with fail
    go_ret
    exact ⟨rfl, HB2.out⟩
def loopPB (xs : List Int) : Bool := Plain.wordB xs && decide ((Plain.loopsL xs).length ≤ 400)
def loopPV (xs : List Int) : ByteArray := if loopPB xs = true then ⟨(Plain.loopsL xs).toArray⟩ else ⟨#[]⟩
theorem loopP_no {xs : List Int} (h : loopPB xs = false) : loopPV xs = ⟨#[]⟩ := by unfold loopPV; rw [h]; rfl
theorem loopP_yes {xs : List Int} (h : loopPB xs = true) : loopPV xs = ⟨(Plain.loopsL xs).toArray⟩ := by unfold loopPV; rw [h]; rfl
set_option maxRecDepth 100000 in
set_option maxHeartbeats 3200000 in
theorem implLoopPath_any (a : Option Addr) (cap : Nat) (xs : List Int) (w : World) (h : Hid (Ints w a xs)) (h64 : Hid (In64 xs)) (hn : xs.length ≤ 9223372036854775807) :
    Calls Try.prog 31 #[.slice a xs.length cap] w (Val (.tuple #[.string (loopPV xs), .bool (loopPB xs)]) w) := by
  cases hw : Plain.wordB xs with
  | false =>
    have HW := Lib.hid hw
    have HB : Hid (loopPB xs = false) := Lib.hid (by unfold loopPB; rw [hw]; rfl)
    rw [loopP_no HB.out, HB.out]
    clear hw
    go_enter Try.func31, Try.ntmps31
    go_wp2_with fail
    refine (isWord_any a cap xs _ h h64 hn).mono ?_
    rw [HW.out]
    rintro e w' ⟨rfl, rfl⟩
    go_wp2_with fail
    go_ret2
    exact ⟨rfl, Below.refl _ _⟩
  | true =>
    have HW := Lib.hid hw
    obtain ⟨h64l, hlet⟩ := Plain.wordB_iff.1 hw
    have HL := Lib.hid hlet
    have HLB : Hid (∀ k, (Plain.loopsL (xs.take k)).length ≤ 1024) := Lib.hid (fun k => by
      have h1 := Plain.loopsL_le (xs.take k) (fun x hx => (hlet x (List.mem_of_mem_take hx)).2)
      have h2 : (xs.take k).length ≤ 64 := by rw [List.length_take]; omega
      omega)
    have HPB : Hid (loopPB xs = decide ((Plain.loopsL xs).length ≤ 400)) := Lib.hid (by unfold loopPB; rw [hw]; rfl)
    clear hw hlet
    obtain ⟨B, hB⟩ : ∃ B, B = loopPB xs := ⟨_, rfl⟩
    obtain ⟨V, hV⟩ : ∃ V, V = loopPV xs := ⟨_, rfl⟩
    rw [← hB, ← hV]
    have HB := Lib.hid hB
    have HV := Lib.hid hV
    clear hB hV
    go_enter Try.func31, Try.ntmps31
    go_wp2_with fail
    refine (isWord_any a cap xs _ h h64 hn).mono ?_
    rw [HW.out]
    rintro e w' ⟨rfl, rfl⟩
    go_wp2_with fail
    go_loopw [4, 12] (fun t i wr => ∃ (k : Nat) (T : ByteArray), k ≤ xs.length ∧ i = .int .i64 k ∧ t = .string T ∧ T.data.toList = Plain.loopsL (xs.take k) ∧ Below w.heap.size w wr) (fun _ i _ => xs.length - (intOf i).toNat)
    case atStart => exact ⟨0, ⟨#[]⟩, Nat.zero_le _, rfl, rfl, rfl, Below.refl _ _⟩
    case round =>
      obtain ⟨k, T, hk, rfl, rfl, hT, hbw⟩ := hrel
      have hTs : T.size ≤ 1024 := by rw [size_list hT]; exact HLB.out k
      have HT := Lib.hid hT
      have HBW := Lib.hid hbw
      clear hT hbw
      by_cases hlt : k < xs.length
      · obtain ⟨x, hx⟩ := at_some xs k hlt
        obtain ⟨b, o, rfl, hc⟩ := (h.out.on HBW.out) k x hx
        have HX := Lib.hid (HL.out x (List.mem_of_getElem? hx))
        have HS : Hid (Plain.loopsL (xs.take (k + 1)) = Plain.loopsL (xs.take k) ++ Plain.loopL x) := Lib.hid (by rw [Plain.take_snoc hx, Plain.loopsL_snoc])
        obtain ⟨Y, hY⟩ : ∃ Y : ByteArray, Y = ⟨(Plain.loopL x).toArray⟩ := ⟨_, rfl⟩
        have HYL : Hid (Y.data.toList = Plain.loopL x) := Lib.hid (by rw [hY])
        have hYs : Y.size ≤ 16 := by rw [size_list HYL.out]; exact Plain.loopL_le HX.out.2
        have HLO : Hid (∀ W, Calls Try.prog 65 #[.int .i64 x] W (Val (.string Y) W)) := Lib.hid (fun W => by rw [hY]; exact loopOf_any x W HX.out)
        clear hx hY
        go_wp2_with fail
        refine (HLO.out _).mono ?_
        rintro e w2 ⟨rfl, hb⟩
        have HB2 := Lib.hid (HBW.out.trans (hb.mono HBW.out.size))
        clear hb
        go_wp2_with fail
        go_roundw
        case rel => exact ⟨k + 1, _, by omega, by go_num, rfl, by rw [cat_list, HT.out, HYL.out, HS.out], HB2.out⟩
        case measure => simp [intOf]; omega
      · obtain rfl : k = xs.length := by omega
        have HTE : Hid (T = ⟨(Plain.loopsL xs).toArray⟩) := Lib.hid (text_of (by rw [HT.out, List.take_length]))
        have HTS : Hid (T.size = (Plain.loopsL xs).length) := Lib.hid (by rw [size_list HT.out, List.take_length])
        clear hlt
        by_cases h4 : T.size ≤ 400
        · have HBT : Hid (B = true) := Lib.hid (by rw [HB.out, HPB.out, ← HTS.out]; simpa using h4)
          have HVT : Hid (V = T) := Lib.hid (by rw [HV.out, loopP_yes (by rw [← HB.out]; exact HBT.out), HTE.out])
          go_wp2_with fail
          go_ret2
          rw [HBT.out, HVT.out]
          exact ⟨rfl, HBW.out⟩
        · have HBT : Hid (B = false) := Lib.hid (by rw [HB.out, HPB.out, ← HTS.out]; simpa using h4)
          have HVT : Hid (V = ⟨#[]⟩) := Lib.hid (by rw [HV.out, loopP_no (by rw [← HB.out]; exact HBT.out)])
          go_wp2_with fail
          go_ret2
          rw [HBT.out, HVT.out]
          exact ⟨rfl, HBW.out⟩
set_option maxRecDepth 100000 in
set_option maxHeartbeats 6400000 in
theorem specLoopPath_any (a : Option Addr) (cap : Nat) (xs : List Int) (w : World) (h : Hid (Ints w a xs)) (h64 : Hid (In64 xs)) (hn : xs.length ≤ 9223372036854775807) :
    Calls Try.prog 29 #[.slice a xs.length cap] w (Val (.tuple #[.string (loopPV xs), .bool (loopPB xs)]) w) := by
  cases hw : Plain.wordB xs with
  | false =>
    have HW := Lib.hid hw
    have HB : Hid (loopPB xs = false) := Lib.hid (by unfold loopPB; rw [hw]; rfl)
    rw [loopP_no HB.out, HB.out]
    clear hw
    go_enter Try.func29, Try.ntmps29
    go_wp2_with fail
    refine (l2Word_any a cap xs _ h h64 hn).mono ?_
    rw [HW.out]
    rintro e w' ⟨rfl, rfl⟩
    go_wp2_with fail
    go_ret2
    exact ⟨rfl, Below.refl _ _⟩
  | true =>
    have HW := Lib.hid hw
    obtain ⟨h64l, hlet⟩ := Plain.wordB_iff.1 hw
    have HL := Lib.hid hlet
    have HLB : Hid (∀ k, (Plain.loopsL (xs.take k)).length ≤ 1024) := Lib.hid (fun k => by
      have h1 := Plain.loopsL_le (xs.take k) (fun x hx => (hlet x (List.mem_of_mem_take hx)).2)
      have h2 : (xs.take k).length ≤ 64 := by rw [List.length_take]; omega
      omega)
    have HPB : Hid (loopPB xs = decide ((Plain.loopsL xs).length ≤ 400)) := Lib.hid (by unfold loopPB; rw [hw]; rfl)
    clear hw hlet
    obtain ⟨B, hB⟩ : ∃ B, B = loopPB xs := ⟨_, rfl⟩
    obtain ⟨V, hV⟩ : ∃ V, V = loopPV xs := ⟨_, rfl⟩
    rw [← hB, ← hV]
    have HB := Lib.hid hB
    have HV := Lib.hid hV
    clear hB hV
    go_enter Try.func29, Try.ntmps29
    go_wp2_with fail
    refine (l2Word_any a cap xs _ h h64 hn).mono ?_
    rw [HW.out]
    rintro e w' ⟨rfl, rfl⟩
    go_wp2_with fail
    go_loop [4, 5] (fun t i => ∃ (k : Nat) (T : ByteArray), k ≤ xs.length ∧ i = .int .i64 k ∧ t = .string T ∧ T.data.toList = Plain.loopsL (xs.take k)) (fun _ i => xs.length - (intOf i).toNat)
    case atStart => exact ⟨0, ⟨#[]⟩, Nat.zero_le _, rfl, rfl, rfl⟩
    case round =>
      obtain ⟨k, T, hk, rfl, rfl, hT⟩ := hrel
      have hTs : T.size ≤ 1024 := by rw [size_list hT]; exact HLB.out k
      have HT := Lib.hid hT
      clear hT
      by_cases hlt : k < xs.length
      · obtain ⟨x, hx⟩ := at_some xs k hlt
        obtain ⟨b, o, rfl, hc⟩ := h.out k x hx
        have hxx := HL.out x (List.mem_of_getElem? hx)
        have HS : Hid (Plain.loopsL (xs.take (k + 1)) = Plain.loopsL (xs.take k) ++ Plain.loopL x) := Lib.hid (by rw [Plain.take_snoc hx, Plain.loopsL_snoc])
        obtain ⟨n, hnx⟩ : ∃ n : Nat, Plain.nail x = (n : Int) := ⟨(Plain.nail x).toNat, by unfold Plain.nail; split <;> omega⟩
        have hn6 : n ≤ 6 := by unfold Plain.nail at hnx; split at hnx <;> omega
        have HNO : Hid (∀ W, Calls Try.prog 62 #[.int .i64 x] W fun e w' => e = .returned (.int .i64 (n : Int)) ∧ W = w') := Lib.hid (fun W => by rw [← hnx]; exact l2Nail_any x W hxx.2)
        have R1 : Hid (∀ W, Calls Try.prog 63 #[.string ⟨#[114]⟩, .int .i64 n] W fun e w' => e = .returned (.string (oneT 114 n)) ∧ W = w') := Lib.hid (fun W => l10Times_any 114 n W (by omega))
        have R2 : Hid (∀ W, Calls Try.prog 63 #[.string ⟨#[108]⟩, .int .i64 n] W fun e w' => e = .returned (.string (oneT 108 n)) ∧ W = w') := Lib.hid (fun W => l10Times_any 108 n W (by omega))
        have R3 : Hid (∀ W, Calls Try.prog 63 #[.string ⟨#[114]⟩, .int .i64 ((n : Int) + 1)] W fun e w' => e = .returned (.string (oneT 114 (n + 1))) ∧ W = w') := Lib.hid (fun W => l10Times_any 114 (n + 1) W (by omega))
        have R4 : Hid (∀ W, Calls Try.prog 63 #[.string ⟨#[108]⟩, .int .i64 ((n : Int) + 1)] W fun e w' => e = .returned (.string (oneT 108 (n + 1))) ∧ W = w') := Lib.hid (fun W => l10Times_any 108 (n + 1) W (by omega))
        have q1 : (oneT 114 n).size ≤ 10 := by rw [oneT_size]; omega
        have q2 : (oneT 108 n).size ≤ 10 := by rw [oneT_size]; omega
        have q3 : (oneT 114 (n + 1)).size ≤ 10 := by rw [oneT_size]; omega
        have q4 : (oneT 108 (n + 1)).size ≤ 10 := by rw [oneT_size]; omega
        have L1 : Hid ((oneT 114 n).data.toList = List.replicate n 114) := Lib.hid rfl
        have L2 : Hid ((oneT 108 n).data.toList = List.replicate n 108) := Lib.hid rfl
        have L3 : Hid ((oneT 114 (n + 1)).data.toList = List.replicate (n + 1) 114) := Lib.hid rfl
        have L4 : Hid ((oneT 108 (n + 1)).data.toList = List.replicate (n + 1) 108) := Lib.hid rfl
        have HNX := Lib.hid hnx
        generalize oneT 114 n = A1 at R1 q1 L1
        generalize oneT 108 n = A2 at R2 q2 L2
        generalize oneT 114 (n + 1) = A3 at R3 q3 L3
        generalize oneT 108 (n + 1) = A4 at R4 q4 L4
        clear hx hnx
        obtain ⟨hx0, hx1, hx2⟩ := hxx
        by_cases h0 : 0 < x
        · have HLL : Hid (Plain.loopL x = A1.data.toList ++ [117, 114, 100] ++ A4.data.toList) := Lib.hid (by unfold Plain.loopL; rw [if_pos h0, HNX.out, L1.out, L4.out]; rfl)
          clear L1 L2 L3 L4
          go_wp2_with fail
          refine (HNO.out _).mono ?_
          rintro e w' ⟨rfl, rfl⟩
          go_wp2_with fail
          refine (R1.out _).mono ?_
          rintro e w' ⟨rfl, rfl⟩
          go_wp2_with fail
          refine (R4.out _).mono ?_
          rintro e w' ⟨rfl, rfl⟩
          go_wp2_with fail
          go_round
          case rel => exact ⟨k + 1, _, by omega, by go_num, rfl, by rw [cat_list, cat_list, cat_list, HT.out, HS.out, HLL.out]; simp⟩
          case measure => simp [intOf]; omega
        · have HLL : Hid (Plain.loopL x = A3.data.toList ++ [117, 108, 100] ++ A2.data.toList) := Lib.hid (by unfold Plain.loopL; rw [if_neg h0, HNX.out, L3.out, L2.out]; rfl)
          clear L1 L2 L3 L4
          go_wp2_with fail
          refine (HNO.out _).mono ?_
          rintro e w' ⟨rfl, rfl⟩
          go_wp2_with fail
          refine (R3.out _).mono ?_
          rintro e w' ⟨rfl, rfl⟩
          go_wp2_with fail
          refine (R2.out _).mono ?_
          rintro e w' ⟨rfl, rfl⟩
          go_wp2_with fail
          go_round
          case rel => exact ⟨k + 1, _, by omega, by go_num, rfl, by rw [cat_list, cat_list, cat_list, HT.out, HS.out, HLL.out]; simp⟩
          case measure => simp [intOf]; omega
      · obtain rfl : k = xs.length := by omega
        have HTE : Hid (T = ⟨(Plain.loopsL xs).toArray⟩) := Lib.hid (text_of (by rw [HT.out, List.take_length]))
        have HTS : Hid (T.size = (Plain.loopsL xs).length) := Lib.hid (by rw [size_list HT.out, List.take_length])
        clear hlt
        by_cases h4 : T.size ≤ 400
        · have HBT : Hid (B = true) := Lib.hid (by rw [HB.out, HPB.out, ← HTS.out]; simpa using h4)
          have HVT : Hid (V = T) := Lib.hid (by rw [HV.out, loopP_yes (by rw [← HB.out]; exact HBT.out), HTE.out])
          go_wp2_with fail
          go_ret2
          rw [HBT.out, HVT.out]
          exact ⟨rfl, Below.refl _ _⟩
        · have HBT : Hid (B = false) := Lib.hid (by rw [HB.out, HPB.out, ← HTS.out]; simpa using h4)
          have HVT : Hid (V = ⟨#[]⟩) := Lib.hid (by rw [HV.out, loopP_no (by rw [← HB.out]; exact HBT.out)])
          go_wp2_with fail
          go_ret2
          rw [HBT.out, HVT.out]
          exact ⟨rfl, Below.refl _ _⟩
theorem bothLoopPath (xs : List Int) (h64 : Hid (In64 xs)) (hn : xs.length ≤ 1048576) : ∃ (t : ByteArray) (b : Bool),
    (∀ a cap w, Hid (Ints w a xs) → Calls Try.prog 29 #[.slice a xs.length cap] w (Val (.tuple #[.string t, .bool b]) w)) ∧
    (∀ a cap w, Hid (Ints w a xs) → Calls Try.prog 31 #[.slice a xs.length cap] w (Val (.tuple #[.string t, .bool b]) w)) :=
  ⟨_, _, fun a cap w h => specLoopPath_any a cap xs w h h64 (by omega), fun a cap w h => implLoopPath_any a cap xs w h h64 (by omega)⟩
end Go.Proofs.Ytpaijobmoddgpaa
