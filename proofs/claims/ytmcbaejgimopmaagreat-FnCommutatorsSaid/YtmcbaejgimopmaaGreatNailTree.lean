/- Contracts: impl.nailTree, leftTree, balancedTree lay trees of single letters in new memory. Conditions: letters, lengths that fit. -/
import Derived.Test.YtmcbaejgimopmaaGreatBdPTree
import Derived.Test.YtmcbaejgimopmaaGreatLenImpl
import Derived.BigRegion
import Derived.Deep.RegionWith
namespace Go.Proofs.YtmcbaejgimopmaaGreat
open Go.ChangeShapes Go.WideShapes Go.ChangeAt Go.RowKit
set_option linter.unusedVariables false

/-- A tree in new memory. -/
def NewTree (T : PT) (w : World) (e : Ending) (w' : World) : Prop := ∃ p, e = .returned (.pointer (some ⟨p, 0, none⟩)) ∧ PTree 0 w' T p ∧ Below w.heap.size w w'
def leftT (ns : List Int) : Nat → PT
  | 0 => .leaf (ns.take 1)
  | k + 1 => .node (leftT ns k) (.leaf [ns.getD (k + 1) 0])
def balT : Nat → List Int → PT
  | 0, ns => .leaf (ns.take 1)
  | f + 1, ns => if ns.length = 1 then .leaf (ns.take 1) else .node (balT f (ns.take ((ns.length + 1) / 2))) (balT f (ns.drop ((ns.length + 1) / 2)))

theorem one_leaf (W : World) (n : Int) : PTree 0 ((W.alloc (.cells #[.int .i64 n] 3)).alloc (.cells #[.slice (some ⟨W.heap.size, 0, none⟩) 1 1, .pointer none, .pointer none] 78)) (.leaf [n]) (W.heap.size + 1) := by
  have hb : Below (W.alloc (.cells #[.int .i64 n] 3)).heap.size (W.alloc (.cells #[.int .i64 n] 3)) ((W.alloc (.cells #[.int .i64 n] 3)).alloc (.cells #[.slice (some ⟨W.heap.size, 0, none⟩) 1 1, .pointer none, .pointer none] 78)) := (Below.refl _ _).alloc (Nat.le_refl _) _
  have hz : (W.alloc (.cells #[.int .i64 n] 3)).heap.size = W.heap.size + 1 := by simp
  refine ⟨Nat.zero_le _, some ⟨W.heap.size, 0, none⟩, 1, ?_, (ints_one W n).on hb, (own_one W n (Nat.zero_le _) 1).on hb, cap_copy _ (Nat.le_of_ble_eq_true rfl)⟩
  rw [← hz]
  exact heap_alloc_new _ _
set_option maxHeartbeats 400000 in
theorem nailTree_any (n : Int) (w : World) : Calls Tryz.prog 80 #[.int .i64 n] w (NewTree (.leaf [n]) w) := by
  go_enter Tryz.func80, Tryz.ntmps80
  go_wp2_with fail
  go_ret
  exact ⟨_, rfl, one_leaf w n, ((Below.refl _ w).alloc (Nat.le_refl _) _).alloc (by simp) _⟩
theorem take_single {ns : List Int} {x : Int} (hx : ns[0]? = some x) : ns.take 1 = [x] := by
  cases ns with
  | nil => simp at hx
  | cons y t => simp at hx; rw [hx]; rfl
theorem new_is {T T' : PT} {w w' : World} {e : Ending} (h : T = T') (k : NewTree T' w e w') : NewTree T w e w' := by subst h; exact k
theorem fork_new {l r : PT} {w w2 : World} {p1 p2 : Nat} (h1 : PTree 0 w2 l p1) (h2 : PTree 0 w2 r p2) (hb : Below w.heap.size w w2) :
    NewTree (.node l r) w (.returned (.pointer (some ⟨w2.heap.size, 0, none⟩))) (w2.alloc (.cells #[.slice none 0 0, .pointer (some ⟨p1, 0, none⟩), .pointer (some ⟨p2, 0, none⟩)] 78)) := by
  have hb2 := (Below.refl w2.heap.size w2).alloc (Nat.le_refl _) (.cells #[.slice none 0 0, .pointer (some ⟨p1, 0, none⟩), .pointer (some ⟨p2, 0, none⟩)] 78)
  exact ⟨_, rfl, ⟨Nat.zero_le _, p1, p2, heap_alloc_new w2 _, PTree.on hb2 h1, PTree.on hb2 h2⟩, hb.trans (hb2.mono hb.size)⟩
set_option maxRecDepth 100000 in
set_option maxHeartbeats 2000000 in
theorem balancedTree_any (f : Nat) : ∀ (a : Option Addr) (cap n : Nat) (ns : List Int) (w : World), f ≤ 10 → ns.length = n → 1 ≤ n → n ≤ 2 ^ f → Hid (Ints w a ns) → Hid (Cap a n cap) →
    Calls Tryz.prog 45 #[.slice a n cap] w (NewTree (balT f ns) w) := by
  induction f with
  | zero =>
    intro a cap n ns w _ hn h1 h2 h hcp
    obtain rfl : n = 1 := by simp at h2; omega
    obtain ⟨x, hx⟩ := at_some ns 0 (by omega)
    obtain ⟨b, o, rfl, hc⟩ := h.out 0 x hx
    rw [Nat.add_zero] at hc
    have HE : Hid (balT 0 ns = .leaf [x]) := Lib.hid (by rw [balT, take_single hx])
    clear hx hn
    go_enter Tryz.func45, Tryz.ntmps45
    go_wp2_with fail
    refine (nailTree_any x _).mono ?_
    rintro e w1 ⟨p, rfl, h1, h2⟩
    go_wp2_with fail
    go_ret
    exact new_is HE.out ⟨p, rfl, h1, h2⟩
  | succ f ih =>
    intro a cap n ns w hf hn h1 h2 h hcp
    by_cases he : n = 1
    · subst he
      obtain ⟨x, hx⟩ := at_some ns 0 (by omega)
      obtain ⟨b, o, rfl, hc⟩ := h.out 0 x hx
      rw [Nat.add_zero] at hc
      have HE : Hid (balT (f + 1) ns = .leaf [x]) := Lib.hid (by rw [balT, if_pos hn, take_single hx])
      clear hx hn ih
      go_enter Tryz.func45, Tryz.ntmps45
      go_wp2_with fail
      refine (nailTree_any x _).mono ?_
      rintro e w1 ⟨p, rfl, h1, h2⟩
      go_wp2_with fail
      go_ret
      exact new_is HE.out ⟨p, rfl, h1, h2⟩
    · obtain ⟨x, hx⟩ := at_some ns 0 (by omega)
      obtain ⟨b, o, rfl, -⟩ := h.out 0 x hx
      clear hx
      have hpow : n ≤ 2 * 2 ^ f := by rw [Nat.pow_succ] at h2; omega
      have hp10 : 2 ^ f ≤ 2 ^ 10 := Nat.pow_le_pow_right (by decide) (by omega)
      have hn2 : n ≤ 1048576 := by omega
      have HF := Lib.hid (firstHalf_any n w hn2)
      obtain ⟨k, hk⟩ : ∃ k, k = (n + 1) / 2 := ⟨_, rfl⟩
      rw [← hk] at HF
      have hkn : k < n := by omega
      have hk1 : 1 ≤ k := by omega
      have hkp : k ≤ 2 ^ f := by omega
      have hmp : n - k ≤ 2 ^ f := by omega
      have hc1 := hcp.out.1
      have hc2 := hcp.out.2.1
      have ht : (ns.take k).length = k := by simp; omega
      have hd : (ns.drop k).length = n - k := by simp; omega
      have HI1 : Hid (Ints w.drew (some ⟨b, o, none⟩) (ns.take k)) := Lib.hid (h.out.upto k)
      have HI2 : Hid (Ints w.drew (some ⟨b, o + k, none⟩) (ns.drop k)) := Lib.hid (h.out.from k)
      have HK1 := Lib.hid (cap_upto hcp.out (k := k) (by omega))
      have HK2 := Lib.hid (cap_from hcp.out (k := k) (by omega))
      have hE : balT (f + 1) ns = .node (balT f (ns.take k)) (balT f (ns.drop k)) := by rw [balT, if_neg (by omega), hn, ← hk]
      have c1 := fun W (hh : Hid (Ints W (some ⟨b, o, none⟩) (ns.take k))) => ih (some ⟨b, o, none⟩) cap k (ns.take k) W (by omega) ht hk1 hkp hh HK1
      have c2 := fun W (hh : Hid (Ints W (some ⟨b, o + k, none⟩) (ns.drop k))) => ih (some ⟨b, o + k, none⟩) (cap - k) (n - k) (ns.drop k) W (by omega) hd (by omega) hmp hh HK2
      obtain ⟨us, hus⟩ : ∃ z, z = balT f (ns.take k) := ⟨_, rfl⟩
      obtain ⟨vs, hvs⟩ : ∃ z, z = balT f (ns.drop k) := ⟨_, rfl⟩
      rw [← hus] at c1 hE
      rw [← hvs] at c2 hE
      have C1 := Lib.hid c1
      have C2 := Lib.hid c2
      have HE := Lib.hid hE
      have hne : ¬ cap = k := by omega
      have hq1 : (k : Int) ≤ (n : Int) := by omega
      have hq2 : (0 : Int) ≤ (k : Int) := by omega
      have hq3 : (k : Int) ≤ (cap : Int) := by omega
      have hq4 : (n : Int) ≤ (cap : Int) := by omega
      have hneq : ((n : Int) == 1) = false := by simp; omega
      clear ih c1 c2 hE hus hvs ht hd hpow hk hn hkp hmp h2 h hp10
      go_enter Tryz.func45, Tryz.ntmps45
      go_wp2_with fail
      refine HF.out.mono ?_
      rintro e w' ⟨rfl, rfl⟩
      go_wp2_with fail
      go_region_with (first
        | (refine (C1.out _ HI1).mono ?_; rintro e w1 ⟨p1, rfl, ht1, hb⟩; have T1 := Lib.hid ht1; have B1 := Lib.hid ((Below.refl w.heap.size w).drew.trans hb); have J2 := Lib.hid (HI2.out.on hb); clear ht1 hb HI1)
        | (refine (C2.out _ J2).mono ?_; rintro e w2 ⟨p2, rfl, ht2, hb⟩; have T2 := Lib.hid ht2; have U1 := Lib.hid (PTree.on hb T1.out); have B2 := Lib.hid (B1.out.trans (hb.mono B1.out.size)); clear ht2 hb T1 J2))
      all_goals
        go_wp2_with fail
        go_ret
        exact new_is HE.out (fork_new U1.out T2.out B2.out)

theorem Letters_at {ns : List Int} {k : Nat} {x : Int} (hx : ns[k]? = some x) : ns.getD k 0 = x := by rw [List.getD_eq_getElem?_getD, hx]; rfl
set_option maxRecDepth 100000 in
set_option maxHeartbeats 1000000 in
theorem leftTree_any (a : Option Addr) (cap : Nat) (ns : List Int) (w : World) (h1 : 1 ≤ ns.length) (hn : ns.length ≤ 1048576) (h : Hid (Ints w a ns)) (hcp : Hid (Cap a ns.length cap)) :
    Calls Tryz.prog 42 #[.slice a ns.length cap] w (NewTree (leftT ns (ns.length - 1)) w) := by
  obtain ⟨x, hx⟩ := at_some ns 0 (by omega)
  obtain ⟨b, o, rfl, hc⟩ := h.out 0 x hx
  rw [Nat.add_zero] at hc
  have HE : Hid (leftT ns 0 = .leaf [x]) := Lib.hid (by rw [leftT, take_single hx])
  have hp : (0 : Int) < (ns.length : Int) := by omega
  have hp1 : (1 : Int) ≤ (ns.length : Int) := by omega
  have hc1 := hcp.out.1
  have hc2 := hcp.out.2.1
  have hc3 : (1 : Int) ≤ (cap : Int) := by omega
  have hc4 : (ns.length : Int) ≤ (cap : Int) := by omega
  clear hx
  by_cases hone : ns.length = 1
  · have HL : Hid (leftT ns (ns.length - 1) = .leaf [x]) := Lib.hid (by rw [hone]; exact HE.out)
    go_enter Tryz.func42, Tryz.ntmps42
    go_wp2_with fail
    refine (nailTree_any x _).mono ?_
    rintro e w1 ⟨p, rfl, h1, h2⟩
    have HT := Lib.hid h1
    have HB := Lib.hid h2
    clear h1 h2
    go_wp2_with fail
    all_goals
      go_loop [3, 13] (fun v i => v = .pointer (some ⟨p, 0, none⟩) ∧ i = .int .i64 0) (fun _ _ => 0)
      case atStart => exact ⟨rfl, rfl⟩
      case round =>
        obtain ⟨rfl, rfl⟩ := hrel
        go_wp2_with fail
        go_ret
        exact new_is (by first | exact HL.out | (rw [hone] at HL; exact HL.out)) ⟨p, rfl, HT.out, HB.out⟩
  · have hcap : ¬ cap = 1 := by omega
    have hm : ((ns.length - 1 : Nat) : Int) = (ns.length : Int) - 1 := by omega
    go_enter Tryz.func42, Tryz.ntmps42
    go_wp2_with fail
    refine (nailTree_any x _).mono ?_
    rintro e w1 ⟨p, rfl, h1, h2⟩
    have HT := Lib.hid h1
    have HB := Lib.hid h2
    have HI := Lib.hid (h.out.on h2)
    clear h1 h2
    go_wp2_with fail
    go_loopw [3, 13] (fun v i wr => ∃ (k p : Nat), k < ns.length ∧ i = .int .i64 (k : Int) ∧ v = .pointer (some ⟨p, 0, none⟩) ∧ PTree 0 wr (leftT ns k) p ∧ Ints wr (some ⟨b, o, none⟩) ns ∧ Below w.heap.size w wr) (fun _ i _ => ns.length - (intOf i).toNat)
    case atStart => exact ⟨0, p, by omega, rfl, rfl, by rw [HE.out]; exact HT.out, HI.out, HB.out⟩
    case round =>
      obtain ⟨k, q, hk, rfl, rfl, hT, hI, hB⟩ := hrel
      have T1 := Lib.hid hT
      have I1 := Lib.hid hI
      have B1 := Lib.hid hB
      clear hT hI hB HT HB HI
      by_cases hlt : k + 1 < ns.length
      · obtain ⟨y, hy⟩ := at_some ns (k + 1) hlt
        obtain ⟨b', o', e', hc⟩ := I1.out (k + 1) y hy
        cases e'
        rw [show o + (k + 1) = o + 1 + k by omega] at hc
        have HN : Hid (leftT ns (k + 1) = .node (leftT ns k) (.leaf [y])) := Lib.hid (by rw [leftT, Letters_at hy])
        have hi : (k : Int) < (ns.length : Int) - 1 := by omega
        have hi2 : (k : Int) < ((ns.length - 1 : Nat) : Int) := by omega
        have hi3 : k < ns.length - 1 := by omega
        clear hy
        go_wp2_with fail
        refine (nailTree_any y _).mono ?_
        rintro e w2 ⟨p2, rfl, h1, h2⟩
        have HF := Lib.hid (fork_new (PTree.on h2 T1.out) h1 (B1.out.trans (h2.mono B1.out.size)))
        have HI2 := Lib.hid ((I1.out.on h2).on ((Below.refl w2.heap.size w2).alloc (Nat.le_refl _) (.cells #[.slice none 0 0, .pointer (some ⟨q, 0, none⟩), .pointer (some ⟨p2, 0, none⟩)] 78)))
        clear h1 h2 T1 I1 B1
        go_wp2_with fail
        go_roundw
        case rel =>
          obtain ⟨p3, e3, hp3, hb3⟩ := HF.out
          cases e3
          exact ⟨k + 1, w2.heap.size, by omega, by go_num, rfl, by rw [HN.out]; exact hp3, HI2.out, hb3⟩
        case measure => simp [intOf]; omega
      · have hke : ns.length - 1 = k := by omega
        have hi : ¬ (k : Int) < (ns.length : Int) - 1 := by omega
        have hi2 : ¬ (k : Int) < ((ns.length - 1 : Nat) : Int) := by omega
        go_wp2_with fail
        go_ret
        exact ⟨q, rfl, by first | exact T1.out | (rw [hke]; exact T1.out), B1.out⟩


/-! trees of single letters are trees of words -/
theorem single_good {n : Int} (h : 1 ≤ n ∧ n ≤ 6) : (PT.leaf [n]).good := ⟨⟨by simp, fun x hx => by simp at hx; subst hx; omega⟩, by simp [PT.few]⟩
theorem red_single (n : Int) : Plain.red [n] = [n] := rfl
theorem node_good {l r : PT} (h1 : l.good) (h2 : r.good) : (PT.node l r).good := ⟨⟨h1.1, h2.1⟩, by simp [PT.few, h1.2, h2.2]⟩
theorem take_one_some {ns : List Int} (h : 1 ≤ ns.length) : ∃ x, ns.take 1 = [x] ∧ ns[0]? = some x := by
  cases ns with
  | nil => simp at h
  | cons x t => exact ⟨x, rfl, rfl⟩
theorem balT_good (f : Nat) : ∀ {ns : List Int}, 1 ≤ ns.length → ns.length ≤ 2 ^ f → (∀ x ∈ ns, 1 ≤ x ∧ x ≤ 6) → (balT f ns).good := by
  induction f with
  | zero =>
    intro ns h1 h2 h
    obtain ⟨x, e1, e2⟩ := take_one_some h1
    rw [balT, e1]
    exact single_good (h x (List.mem_of_getElem? e2))
  | succ f ih =>
    intro ns h1 h2 h
    rw [Nat.pow_succ] at h2
    rw [balT]
    split
    · obtain ⟨x, e1, e2⟩ := take_one_some h1
      rw [e1]
      exact single_good (h x (List.mem_of_getElem? e2))
    · exact node_good (ih (by simp; omega) (by simp; omega) (fun x hx => h x (List.mem_of_mem_take hx))) (ih (by simp; omega) (by simp; omega) (fun x hx => h x (List.mem_of_mem_drop hx)))

end Go.Proofs.YtmcbaejgimopmaaGreat
