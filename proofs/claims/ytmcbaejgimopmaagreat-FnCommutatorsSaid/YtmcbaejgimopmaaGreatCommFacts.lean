/- Plain mathematics for FnCommutators: left and balanced words are reduced as they stand and have their lengths; a turned core of Wicks' form is a commutator. No condition. -/
import Derived.Test.YtmcbaejgimopmaaGreatBdWicksMath
import Derived.Test.YtmcbaejgimopmaaGreatNailTops
namespace Go.Proofs.YtmcbaejgimopmaaGreat
open Go.ChangeShapes Go.WideShapes Go.ChangeAt Go.RowKit
set_option linter.unusedVariables false

/-! inverses of reduced lists -/
theorem red_of_inv (x : List Int) : Plain.red (Plain.inv (Plain.red x)) = Plain.red (Plain.inv x) := by
  have e1 : Plain.red (Plain.inv (Plain.red x) ++ (Plain.red x ++ Plain.inv x)) = Plain.red (Plain.inv (Plain.red x)) := by
    rw [← Plain.red_append_red, Plain.red_red_append, Plain.red_inv, List.append_nil]
  have e2 : Plain.red (Plain.inv (Plain.red x) ++ (Plain.red x ++ Plain.inv x)) = Plain.red (Plain.inv x) := by
    rw [← List.append_assoc, ← Plain.red_red_append]
    have : Plain.red (Plain.inv (Plain.red x) ++ Plain.red x) = [] := by
      have := Plain.red_inv (Plain.inv (Plain.red x))
      rwa [Plain.inv_inv] at this
    rw [this, List.nil_append]
  rw [← e1, e2]
theorem lit_inv {y : List Int} (h : Plain.Reduced y) : Plain.Reduced (Plain.inv y) := by
  have h1 := Plain.red_length (Plain.inv y)
  have h2 := Plain.red_length (Plain.inv (Plain.red (Plain.inv y)))
  rw [red_of_inv, Plain.inv_inv, Plain.red_of_reduced h, Plain.inv_length] at h2
  refine Plain.red_length_eq.1 ?_
  rw [Plain.inv_length] at h1 ⊢
  omega
theorem head_inv {x : List Int} {a : Int} (h : (Plain.inv x).head? = some a) : x.getLast? = some (-a) := by
  unfold Plain.inv at h
  rw [List.head?_reverse, List.getLast?_map] at h
  cases hx : x.getLast? with
  | none => rw [hx] at h; simp at h
  | some b => rw [hx] at h; simp at h; rw [← h, Int.neg_neg]
theorem last_inv {x : List Int} {a : Int} (h : (Plain.inv x).getLast? = some a) : x.head? = some (-a) := by
  unfold Plain.inv at h
  rw [List.getLast?_reverse, List.head?_map] at h
  cases hx : x.head? with
  | none => rw [hx] at h; simp at h
  | some b => rw [hx] at h; simp at h; rw [← h, Int.neg_neg]
theorem mem_inv {x : List Int} {a : Int} (h : a ∈ Plain.inv x) : -a ∈ x := by
  unfold Plain.inv at h
  simp only [List.mem_reverse, List.mem_map] at h
  obtain ⟨b, hb, rfl⟩ := h
  rwa [Int.neg_neg]

/-! letters of some nails -/
def From (ns L : List Int) : Prop := ∀ x ∈ L, x ∈ ns ∨ -x ∈ ns
theorem From.inv {ns L : List Int} (h : From ns L) : From ns (Plain.inv L) := fun x hx => by
  rcases h _ (mem_inv hx) with h1 | h1
  · exact .inr h1
  · rw [Int.neg_neg] at h1; exact .inl h1
theorem From.app {ns L M : List Int} (h : From ns L) (k : From ns M) : From ns (L ++ M) := fun x hx => by
  rcases List.mem_append.1 hx with hx | hx
  · exact h x hx
  · exact k x hx
theorem From.up {ns ms L : List Int} (h : From ns L) (k : ∀ x ∈ ns, x ∈ ms) : From ms L := fun x hx => by
  rcases h x hx with h1 | h1
  · exact .inl (k _ h1)
  · exact .inr (k _ h1)
/-- No letter of the one, nor its inverse, is one of the other. -/
def Off (U V : List Int) : Prop := ∀ x ∈ U, ∀ y ∈ V, x ≠ y ∧ x ≠ -y
theorem off_of {us bs U V : List Int} (hU : From us U) (hV : From bs V) (ha : ∀ x ∈ us, 1 ≤ x) (hb : ∀ x ∈ bs, 1 ≤ x) (hd : ∀ x ∈ us, x ∉ bs) : Off U V := fun x hx y hy => by
  rcases hU x hx with h1 | h1 <;> rcases hV y hy with h2 | h2
  · have p1 := ha _ h1; have p2 := hb _ h2
    exact ⟨fun e => hd _ h1 (e ▸ h2), by omega⟩
  · have p1 := ha _ h1; have p2 := hb _ h2
    exact ⟨by omega, fun e => hd _ h1 (e ▸ h2)⟩
  · have p1 := ha _ h1; have p2 := hb _ h2
    exact ⟨by omega, fun e => hd _ h1 (by rw [e, Int.neg_neg]; exact h2)⟩
  · have p1 := ha _ h1; have p2 := hb _ h2
    exact ⟨fun e => hd _ h1 (by rw [e]; exact h2), by omega⟩
theorem last_mem {x : List Int} {a : Int} (h : x.getLast? = some a) : a ∈ x := List.mem_of_getLast? h
theorem head_mem {x : List Int} {a : Int} (h : x.head? = some a) : a ∈ x := List.mem_of_head? h
theorem lit_comm {U V : List Int} (hU : Plain.Reduced U) (hV : Plain.Reduced V) (nU : U ≠ []) (nV : V ≠ []) (hd : Off U V) : Plain.Reduced (U ++ (V ++ (Plain.inv U ++ Plain.inv V))) := by
  have last_cut : ∀ {x y : List Int}, x ≠ [] → (x ++ y).head? = x.head? := fun {x y} h => by cases x with | nil => exact absurd rfl h | cons a t => rfl
  have nI : Plain.inv U ≠ [] := fun e => nU (by have := congrArg List.length e; rw [Plain.inv_length] at this; exact List.eq_nil_of_length_eq_zero this)
  refine Plain.reduced_append.2 ⟨hU, Plain.reduced_append.2 ⟨hV, Plain.reduced_append.2 ⟨lit_inv hU, lit_inv hV, fun x y hx hy => ?_⟩, fun x y hx hy => ?_⟩, fun x y hx hy => ?_⟩
  · have h1 := hd _ (head_mem (last_inv hx)) _ (last_mem (head_inv hy))
    intro e
    exact h1.2 (by rw [e])
  · rw [last_cut nI] at hy
    have h1 := hd _ (last_mem (head_inv hy)) _ (last_mem hx)
    intro e
    exact h1.1 (by rw [e])
  · rw [last_cut nV] at hy
    exact (hd _ (last_mem hx) _ (head_mem hy)).2
theorem comm_lit {U V : List Int} (hU : Plain.Reduced U) (hV : Plain.Reduced V) (nU : U ≠ []) (nV : V ≠ []) (hd : Off U V) : Plain.comm U V = U ++ (V ++ (Plain.inv U ++ Plain.inv V)) := Plain.red_of_reduced (lit_comm hU hV nU nV hd)
/-- A list is reduced as it stands, has letters of these nails alone, and this many. -/
def Lit (ns : List Int) (L : List Int) (m : Nat) : Prop := Plain.Reduced L ∧ From ns L ∧ L ≠ [] ∧ L.length = m
theorem Lit.comm {us bs cs U V : List Int} {m n : Nat} (hU : Lit us U m) (hV : Lit bs V n) (ha : ∀ x ∈ us, 1 ≤ x) (hb : ∀ x ∈ bs, 1 ≤ x) (hd : ∀ x ∈ us, x ∉ bs) (h1 : ∀ x ∈ us, x ∈ cs) (h2 : ∀ x ∈ bs, x ∈ cs) : Lit cs (Plain.comm U V) (2 * m + 2 * n) := by
  have ho := off_of hU.2.1 hV.2.1 ha hb hd
  have e := comm_lit hU.1 hV.1 hU.2.2.1 hV.2.2.1 ho
  refine ⟨Plain.red_reduced _, ?_, ?_, ?_⟩
  · rw [e]
    exact (hU.2.1.up h1).app ((hV.2.1.up h2).app ((hU.2.1.up h1).inv.app (hV.2.1.up h2).inv))
  · rw [e]
    intro h
    exact hU.2.2.1 (List.append_eq_nil_iff.1 h).1
  · rw [e]
    simp only [List.length_append, Plain.inv_length, hU.2.2.2, hV.2.2.2]
    omega
theorem lit_single {ns : List Int} {x : Int} (h : x ∈ ns) : Lit ns [x] 1 := ⟨trivial, fun y hy => by simp at hy; subst hy; exact .inl h, by simp, rfl⟩
theorem nodup_of {ns : List Int} : ∀ k, k ≤ ns.length → Plain.goodTo ns k = true → (ns.take k).Nodup
  | 0, _, _ => by simp
  | k + 1, hk, h => by
    obtain ⟨x, hx⟩ := at_some ns k (by omega)
    rw [Plain.goodTo, Bool.and_eq_true] at h
    have hn := h.2
    unfold Plain.nailAt at hn
    rw [List.getD_eq_getElem?_getD, hx] at hn
    simp [Plain.memB] at hn
    rw [Plain.take_snoc hx, List.nodup_append]
    refine ⟨nodup_of k (by omega) h.1, by simp, fun a ha b hb => ?_⟩
    simp at hb
    subst hb
    exact hn.2 a ha
theorem nails_nodup {ns : List Int} (h : Plain.nailsOk ns = true) : ns.Nodup := by
  have := nodup_of ns.length (Nat.le_refl _) (Plain.nailsOk_iff.1 h).2
  rwa [List.take_length] at this
theorem left_lit {ns : List Int} (h : ∀ x ∈ ns, 1 ≤ x) (hd : ns.Nodup) : ∀ k, k < ns.length → Lit (ns.take (k + 1)) (Plain.leftTo ns k) (Plain.leftLen k)
  | 0, hk => by
    obtain ⟨x, h1, h2⟩ := take_one_some (ns := ns) (by omega)
    rw [Plain.leftTo, Plain.leftLen, Nat.zero_add, h1]
    exact lit_single (by simp)
  | k + 1, hk => by
    obtain ⟨x, hx⟩ := at_some ns (k + 1) hk
    have ht := Plain.take_snoc hx
    have hn : (ns.take (k + 1 + 1)).Nodup := hd.sublist (List.take_sublist _ _)
    rw [ht, List.nodup_append] at hn
    rw [Plain.leftTo, Plain.leftLen, Letters_at hx, show 2 * Plain.leftLen k + 2 = 2 * Plain.leftLen k + 2 * 1 by omega, ht]
    exact Lit.comm (left_lit h hd k (by omega)) (lit_single (ns := [x]) (by simp)) (fun y hy => h y (List.mem_of_mem_take hy)) (fun y hy => by simp at hy; subst hy; exact h _ (List.mem_of_getElem? hx)) (fun y hy hyx => hn.2.2 y hy _ hyx rfl) (fun y hy => List.mem_append.2 (.inl hy)) (fun y hy => List.mem_append.2 (.inr hy))
theorem bal_lit (f : Nat) : ∀ {ns : List Int}, 1 ≤ ns.length → ns.length ≤ 2 ^ f → (∀ x ∈ ns, 1 ≤ x) → ns.Nodup → Lit ns (Plain.bal f ns) (Plain.balLen f ns.length) := by
  induction f with
  | zero =>
    intro ns h1 h2 h hd
    obtain ⟨x, e1, e2⟩ := take_one_some h1
    rw [Plain.bal, Plain.balLen, e1]
    exact lit_single (List.mem_of_getElem? e2)
  | succ f ih =>
    intro ns h1 h2 h hd
    rw [Nat.pow_succ] at h2
    rw [Plain.bal, Plain.balLen]
    split
    · rename_i hone
      obtain ⟨x, e1, e2⟩ := take_one_some h1
      rw [e1]
      exact lit_single (List.mem_of_getElem? e2)
    · have l1 : (ns.take ((ns.length + 1) / 2)).length = (ns.length + 1) / 2 := by simp; omega
      have l2 : (ns.drop ((ns.length + 1) / 2)).length = ns.length / 2 := by simp; omega
      have i1 := ih (ns := ns.take ((ns.length + 1) / 2)) (by omega) (by omega) (fun x hx => h x (List.mem_of_mem_take hx)) (hd.sublist (List.take_sublist _ _))
      have i2 := ih (ns := ns.drop ((ns.length + 1) / 2)) (by omega) (by omega) (fun x hx => h x (List.mem_of_mem_drop hx)) (hd.sublist (List.drop_sublist _ _))
      rw [l1] at i1
      rw [l2] at i2
      have hn : (ns.take ((ns.length + 1) / 2) ++ ns.drop ((ns.length + 1) / 2)).Nodup := by rw [List.take_append_drop]; exact hd
      rw [List.nodup_append] at hn
      rw [Nat.mul_add]
      exact Lit.comm i1 i2 (fun x hx => h x (List.mem_of_mem_take hx)) (fun x hx => h x (List.mem_of_mem_drop hx)) (fun x hx hx2 => hn.2.2 x hx _ hx2 rfl) (fun x hx => List.mem_of_mem_take hx) (fun x hx => List.mem_of_mem_drop hx)
theorem balT_raw (f : Nat) : ∀ {ns : List Int}, 1 ≤ ns.length → ns.length ≤ 2 ^ f → (balT f ns).raw = Plain.balLen f ns.length ∧ (balT f ns).txt.length + 3 = 4 * ns.length := by
  induction f with
  | zero =>
    intro ns h1 h2
    obtain ⟨x, e1, e2⟩ := take_one_some h1
    simp at h2
    rw [balT, e1, Plain.balLen]
    exact ⟨rfl, by simp [PT.txt, textB]; omega⟩
  | succ f ih =>
    intro ns h1 h2
    rw [Nat.pow_succ] at h2
    rw [balT, Plain.balLen]
    split
    · obtain ⟨x, e1, e2⟩ := take_one_some h1
      rw [e1]
      exact ⟨rfl, by simp [PT.txt, textB]; omega⟩
    · have l1 : (ns.take ((ns.length + 1) / 2)).length = (ns.length + 1) / 2 := by simp; omega
      have l2 : (ns.drop ((ns.length + 1) / 2)).length = ns.length / 2 := by simp; omega
      have i1 := ih (ns := ns.take ((ns.length + 1) / 2)) (by omega) (by omega)
      have i2 := ih (ns := ns.drop ((ns.length + 1) / 2)) (by omega) (by omega)
      rw [l1] at i1
      rw [l2] at i2
      refine ⟨by rw [PT.raw, i1.1, i2.1], ?_⟩
      have e : (PT.node (balT f (ns.take ((ns.length + 1) / 2))) (balT f (ns.drop ((ns.length + 1) / 2)))).txt.length = 3 + (balT f (ns.take ((ns.length + 1) / 2))).txt.length + (balT f (ns.drop ((ns.length + 1) / 2))).txt.length := by simp [PT.txt]; omega
      rw [e]
      omega
theorem balLen_six {n : Nat} (h1 : 1 ≤ n) (h2 : n ≤ 6) : Plain.balLen 3 n = Plain.balLen 6 n := by
  rcases (by omega : n = 1 ∨ n = 2 ∨ n = 3 ∨ n = 4 ∨ n = 5 ∨ n = 6) with rfl | rfl | rfl | rfl | rfl | rfl <;> decide

/-! a turned core of Wicks' form -/
theorem jC_hit {t : List Int} {i : Nat} : ∀ {f k q : Nat}, jC t i f k = some q → midB t i (i + q) = true ∧ tailB t (i + q) = true
  | 0, k, q, h => by simp [jC] at h
  | f + 1, k, q, h => by
    rw [jC] at h
    split at h
    · rename_i hc
      cases h
      simpa using hc
    · exact jC_hit h
theorem iC_hit {t : List Int} {n : Nat} : ∀ {f i p q : Nat}, iC t n f i = some (p, q) → headB t p = true ∧ midB t p (p + q) = true ∧ tailB t (p + q) = true
  | 0, i, p, q, h => by simp [iC] at h
  | f + 1, i, p, q, h => by
    rw [iC] at h
    split at h
    · rename_i hh
      split at h
      · rename_i k hk
        cases h
        exact ⟨hh, jC_hit hk⟩
      · exact iC_hit h
    · exact iC_hit h
theorem tC_some {c : List Int} : ∀ {f j p i k : Nat}, tC c f j = some (p, i, k) → j ≤ p ∧ p < j + f ∧ iC (turn c p) (c.length / 2) (c.length / 2 + 1) 0 = some (i, k)
  | 0, j, p, i, k, h => by simp [tC] at h
  | f + 1, j, p, i, k, h => by
    rw [tC] at h
    split at h
    · rename_i a b hab
      cases h
      exact ⟨Nat.le_refl _, by omega, hab⟩
    · have := tC_some h
      exact ⟨by omega, by omega, this.2.2⟩
theorem three_parts (t : List Int) (i k : Nat) : t = t.take i ++ ((t.drop i).take k ++ t.drop (i + k)) := by
  rw [← List.drop_drop, List.take_append_drop, List.take_append_drop]
theorem comm_reds (P Q : List Int) : Plain.red (commZ (Plain.red P) (Plain.red Q)) = Plain.red (P ++ (Q ++ (Plain.inv P ++ Plain.inv Q))) := by
  unfold commZ
  rw [Plain.red_red_append]
  have a1 : ∀ x y z : List Int, Plain.red (x ++ (Plain.red y ++ z)) = Plain.red (x ++ (y ++ z)) := fun x y z => by
    rw [← Plain.red_append_red, Plain.red_red_append, Plain.red_append_red]
  have a2 : ∀ x y z : List Int, Plain.red (x ++ (Plain.inv (Plain.red y) ++ z)) = Plain.red (x ++ (Plain.inv y ++ z)) := fun x y z => by
    rw [← a1 x (Plain.inv (Plain.red y)) z, red_of_inv, a1]
  have b1 := a2 (P ++ Q) P (Plain.inv (Plain.red Q))
  have b2 := a2 (P ++ (Q ++ Plain.inv P)) Q []
  simp only [List.append_nil, List.append_assoc] at b1 b2
  rw [a1, b1, b2]
theorem red_drop_pair (X Y A : List Int) : Plain.red (X ++ (Plain.inv A ++ (A ++ Y))) = Plain.red (X ++ Y) := by
  have h : Plain.red (Plain.inv A ++ A) = [] := by
    have := Plain.red_inv (Plain.inv A)
    rwa [Plain.inv_inv] at this
  rw [← List.append_assoc (Plain.inv A), ← Plain.red_append_red, ← Plain.red_red_append (Plain.inv A ++ A), h, List.nil_append, Plain.red_append_red]
theorem wicks_red {A B C T : List Int} (hT : Plain.Reduced T) (e : T = A ++ (B ++ (C ++ (Plain.inv A ++ (Plain.inv B ++ Plain.inv C))))) : Plain.red (commZ (Plain.red (A ++ B)) (Plain.red (C ++ Plain.inv A))) = T := by
  rw [comm_reds]
  have h := red_drop_pair (A ++ (B ++ (C ++ (Plain.inv A ++ Plain.inv B)))) (Plain.inv C) A
  have e1 : A ++ B ++ (C ++ Plain.inv A ++ (Plain.inv (A ++ B) ++ Plain.inv (C ++ Plain.inv A))) = A ++ (B ++ (C ++ (Plain.inv A ++ Plain.inv B))) ++ (Plain.inv A ++ (A ++ Plain.inv C)) := by
    simp only [Plain.inv_append, Plain.inv_inv, List.append_assoc]
  rw [e1, h]
  have e2 : A ++ (B ++ (C ++ (Plain.inv A ++ Plain.inv B))) ++ Plain.inv C = T := by rw [e]; simp only [List.append_assoc]
  rw [e2, Plain.red_of_reduced hT]
theorem wicks_made {x : List Int} (hw : Plain.wordB x = true) (hok : wicksOk x = true) : Plain.wordB (wicksA x) = true ∧ Plain.wordB (wicksB x) = true ∧ Plain.wordB (wicksC x) = true ∧ Plain.wordB (Plain.core (Plain.red x)) = true ∧ wicksK x ≤ (Plain.core (Plain.red x)).length - 1 ∧
    2 * ((wicksA x).length + (wicksB x).length + (wicksC x).length) = (Plain.core (Plain.red x)).length ∧
    Plain.red (commZ (Plain.red (wicksA x ++ wicksB x)) (Plain.red (wicksC x ++ Plain.inv (wicksA x)))) = turn (Plain.core (Plain.red x)) (wicksK x) := by
  have hl := (Plain.wordB_iff.1 hw).2
  have h64 := (Plain.wordB_iff.1 hw).1
  cases hat : wicksAt x with
  | none => rw [wicksOk, hat] at hok; cases hok
  | some t =>
    obtain ⟨j, i, k⟩ := t
    obtain ⟨eA, eB, eC, eK, -⟩ := wicks_some hat
    have hc := hat
    rw [wicks_cuts hw] at hc
    obtain ⟨-, hj, hi⟩ := tC_some hc
    obtain ⟨f1, f2, f3⟩ := iC_hit hi
    have hT := turn_reduced hl j
    have hz := turn_length (Plain.core (Plain.red x)) j
    have hlc : Plain.Letters (Plain.core (Plain.red x)) := hl.red.core
    have hcl : (Plain.core (Plain.red x)).length ≤ 64 := Nat.le_trans (by simp [Plain.core, Plain.mid]; omega : (Plain.core (Plain.red x)).length ≤ (Plain.red x).length) (Nat.le_trans (Plain.red_length x) h64)
    have hik : i + k ≤ (Plain.core (Plain.red x)).length / 2 := iC_le (by omega) hi
    have hlT := turn_letters hlc j
    rw [eA, eB, eC, eK]
    unfold wicksT
    generalize Plain.core (Plain.red x) = c at *
    obtain ⟨T, hTe⟩ : ∃ T, T = turn c j := ⟨_, rfl⟩
    rw [← hTe] at hT hz f1 f2 f3 hlT ⊢
    obtain ⟨n, hn⟩ : ∃ n, n = T.length / 2 := ⟨_, rfl⟩
    unfold headB at f1
    unfold midB at f2
    unfold tailB at f3
    rw [← hn] at f1 f2 f3 ⊢
    have g1 := of_decide_eq_true f1
    have g2 := of_decide_eq_true f2
    have g3 := of_decide_eq_true f3
    rw [show i + k - i = k by omega] at g2
    have hn2 : i + k ≤ n := by omega
    rw [List.take_take, Nat.min_eq_left (by omega)] at g1
    rw [List.drop_take, List.take_take, Nat.min_eq_left (by omega)] at g2
    rw [List.drop_take] at g3
    obtain ⟨A, hA⟩ : ∃ A, A = T.take i := ⟨_, rfl⟩
    obtain ⟨B, hB⟩ : ∃ B, B = (T.drop i).take k := ⟨_, rfl⟩
    obtain ⟨C, hC⟩ : ∃ C, C = (T.drop (i + k)).take (n - (i + k)) := ⟨_, rfl⟩
    rw [← hA] at g1
    rw [← hB] at g2
    rw [← hC] at g3
    rw [← hA, ← hB, ← hC]
    have first : T.take n = A ++ (B ++ C) := by
      have h := three_parts (T.take n) i k
      rw [List.take_take, Nat.min_eq_left (by omega), List.drop_take, List.take_take, Nat.min_eq_left (by omega), List.drop_take, ← hA, ← hB, ← hC] at h
      exact h
    have other : T.drop n = Plain.inv A ++ (Plain.inv B ++ Plain.inv C) := by
      have h := three_parts (T.drop n) i k
      rw [g1, g2, g3] at h
      exact h
    have eT : T = A ++ (B ++ (C ++ (Plain.inv A ++ (Plain.inv B ++ Plain.inv C)))) := by
      have h := (List.take_append_drop n T).symm
      rw [first, other] at h
      rw [List.append_assoc, List.append_assoc] at h
      exact h
    have lT : T.length = A.length + B.length + C.length + (A.length + B.length + C.length) := by
      have := congrArg List.length eT
      simp only [List.length_append, Plain.inv_length] at this
      omega
    have wd : ∀ L : List Int, L.length ≤ T.length → (∀ y ∈ L, y ∈ T) → Plain.wordB L = true := fun L h1 h2 => Plain.wordB_iff.2 ⟨by omega, hlT.sub h2⟩
    refine ⟨wd A (by omega) (fun y hy => by rw [hA] at hy; exact List.mem_of_mem_take hy), wd B (by omega) (fun y hy => by rw [hB] at hy; exact List.mem_of_mem_drop (List.mem_of_mem_take hy)), wd C (by omega) (fun y hy => by rw [hC] at hy; exact List.mem_of_mem_drop (List.mem_of_mem_take hy)), Plain.wordB_iff.2 ⟨hcl, hlc⟩, by omega, by omega, wicks_red hT eT⟩

end Go.Proofs.YtmcbaejgimopmaaGreat
