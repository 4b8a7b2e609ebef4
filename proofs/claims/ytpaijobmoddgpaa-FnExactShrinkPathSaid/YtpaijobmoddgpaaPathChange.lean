/- Contracts: impl's changedPath with each of its changes, FlipPath. Condition: texts that fit. -/
import Derived.Test.YtpaijobmoddgpaaPathFlip
namespace Go.Proofs.Ytpaijobmoddgpaa
open Go.ChangeShapes Go.WideShapes Go.ChangeAt Go.RowKit
set_option linter.unusedVariables false
set_option linter.unusedSimpArgs false

/-- What a change makes of a trail. -/
def Changes (F : FuncId) (l us : List UInt8) : Prop := ∀ g cap W, Hid (Pts W (some ⟨g, 0, none⟩) (Plain.pts l)) → g < W.heap.size → Calls Try.prog F #[.slice (some ⟨g, 0, none⟩) (l.length + 1) cap] W (MadePost (Plain.pts us) W)
theorem changed_none (fv : Value) (s : ByteArray) (l : List UInt8) (hl0 : Hid (l = s.data.toList)) (w : World) (hs : s.size ≤ 9223372036854775807) (hp : Hid (Plain.pathB l = false)) :
    Calls Try.prog 67 #[.string s, fv] w (Val (.tuple #[.string ⟨#[]⟩, .bool false]) w) := by
  go_enter Try.func67, Try.ntmps67
  go_wp2_with fail
  refine (trailOf_any s l hl0 _ hs).mono ?_
  rintro e w1 ⟨v, rfl, hr, hb⟩
  rw [hp.out]
  have HB1 := Lib.hid hb
  clear hr hb
  go_wp2_with fail
  go_ret2
  exact ⟨rfl, HB1.out⟩
set_option maxRecDepth 100000 in
set_option maxHeartbeats 1600000 in
theorem changed_flipped (s : ByteArray) (l us : List UInt8) (hl0 : Hid (l = s.data.toList)) (w : World) (hs : s.size ≤ 9223372036854775807) (hp : Hid (Plain.pathB l = true)) (hn : Hid (Near us)) (ht : Hid (Steps us)) (hu : us.length ≤ 400) (HG : Hid (Changes 70 l us)) :
    Calls Try.prog 67 #[.string s, .func (.func 70) #[] #[]] w (Val (.tuple #[.string ⟨us.toArray⟩, .bool true]) w) := by
  have HL : Hid ((Plain.pts us).length = us.length + 1) := Lib.hid (Plain.pts_length us)
  go_enter Try.func67, Try.ntmps67
  go_wp2_with fail
  refine (trailOf_any s l hl0 _ hs).mono ?_
  rintro e w1 ⟨v, rfl, hr, hb⟩
  obtain ⟨g, cap, rfl, hg1, hg2, hpts, hcap, hcapm⟩ := trail_pts hr hp.out
  rw [hp.out]
  have HB1 := Lib.hid hb
  have HPT := Lib.hid hpts
  have HG2 := Lib.hid hg2
  clear hr hb hpts hg1 hg2
  go_wp2_with fail
  refine (HG.out g cap _ HPT HG2.out).mono ?_
  rintro e w2 ⟨v, rfl, hC⟩
  obtain ⟨g2, cap2, rfl, hpts2, -⟩ := made_form hC HL.out
  have HPT2 := Lib.hid hpts2
  have HB2 := Lib.hid (HB1.out.trans (hC.2.1.mono HB1.out.size))
  clear hC hpts2
  go_wp2_with fail
  refine (text10_any us g2 cap2 _ hn ht hu HPT2).mono ?_
  rintro e w3 ⟨rfl, hb⟩
  have HB3 := Lib.hid (HB2.out.trans (hb.mono HB2.out.size))
  clear hb
  go_wp2_with fail
  go_ret2
  exact ⟨rfl, HB3.out⟩
set_option maxRecDepth 100000 in
set_option maxHeartbeats 1600000 in
theorem changed_reversed (s : ByteArray) (l us : List UInt8) (hl0 : Hid (l = s.data.toList)) (w : World) (hs : s.size ≤ 9223372036854775807) (hp : Hid (Plain.pathB l = true)) (hn : Hid (Near us)) (ht : Hid (Steps us)) (hu : us.length ≤ 400) (HG : Hid (Changes 68 l us)) :
    Calls Try.prog 67 #[.string s, .func (.func 68) #[] #[]] w (Val (.tuple #[.string ⟨us.toArray⟩, .bool true]) w) := by
  have HL : Hid ((Plain.pts us).length = us.length + 1) := Lib.hid (Plain.pts_length us)
  go_enter Try.func67, Try.ntmps67
  go_wp2_with fail
  refine (trailOf_any s l hl0 _ hs).mono ?_
  rintro e w1 ⟨v, rfl, hr, hb⟩
  obtain ⟨g, cap, rfl, hg1, hg2, hpts, hcap, hcapm⟩ := trail_pts hr hp.out
  rw [hp.out]
  have HB1 := Lib.hid hb
  have HPT := Lib.hid hpts
  have HG2 := Lib.hid hg2
  clear hr hb hpts hg1 hg2
  go_wp2_with fail
  refine (HG.out g cap _ HPT HG2.out).mono ?_
  rintro e w2 ⟨v, rfl, hC⟩
  obtain ⟨g2, cap2, rfl, hpts2, -⟩ := made_form hC HL.out
  have HPT2 := Lib.hid hpts2
  have HB2 := Lib.hid (HB1.out.trans (hC.2.1.mono HB1.out.size))
  clear hC hpts2
  go_wp2_with fail
  refine (text10_any us g2 cap2 _ hn ht hu HPT2).mono ?_
  rintro e w3 ⟨rfl, hb⟩
  have HB3 := Lib.hid (HB2.out.trans (hb.mono HB2.out.size))
  clear hb
  go_wp2_with fail
  go_ret2
  exact ⟨rfl, HB3.out⟩
set_option maxRecDepth 100000 in
set_option maxHeartbeats 1600000 in
theorem changed_shrunk (s : ByteArray) (l us : List UInt8) (hl0 : Hid (l = s.data.toList)) (w : World) (hs : s.size ≤ 9223372036854775807) (hp : Hid (Plain.pathB l = true)) (hn : Hid (Near us)) (ht : Hid (Steps us)) (hu : us.length ≤ 400) (HG : Hid (Changes 69 l us)) :
    Calls Try.prog 67 #[.string s, .func (.func 69) #[] #[]] w (Val (.tuple #[.string ⟨us.toArray⟩, .bool true]) w) := by
  have HL : Hid ((Plain.pts us).length = us.length + 1) := Lib.hid (Plain.pts_length us)
  go_enter Try.func67, Try.ntmps67
  go_wp2_with fail
  refine (trailOf_any s l hl0 _ hs).mono ?_
  rintro e w1 ⟨v, rfl, hr, hb⟩
  obtain ⟨g, cap, rfl, hg1, hg2, hpts, hcap, hcapm⟩ := trail_pts hr hp.out
  rw [hp.out]
  have HB1 := Lib.hid hb
  have HPT := Lib.hid hpts
  have HG2 := Lib.hid hg2
  clear hr hb hpts hg1 hg2
  go_wp2_with fail
  refine (HG.out g cap _ HPT HG2.out).mono ?_
  rintro e w2 ⟨v, rfl, hC⟩
  obtain ⟨g2, cap2, rfl, hpts2, -⟩ := made_form hC HL.out
  have HPT2 := Lib.hid hpts2
  have HB2 := Lib.hid (HB1.out.trans (hC.2.1.mono HB1.out.size))
  clear hC hpts2
  go_wp2_with fail
  refine (text10_any us g2 cap2 _ hn ht hu HPT2).mono ?_
  rintro e w3 ⟨rfl, hb⟩
  have HB3 := Lib.hid (HB2.out.trans (hb.mono HB2.out.size))
  clear hb
  go_wp2_with fail
  go_ret2
  exact ⟨rfl, HB3.out⟩
theorem flip_near {l : List UInt8} (h : Plain.okTo l l.length = true) : Near (Plain.flipL l) ∧ Steps (Plain.flipL l) := by
  obtain ⟨-, hs⟩ := ok_near h
  refine ⟨fun k hk => ?_, fun b hb => ?_⟩
  · rw [Plain.flip_length] at hk
    have := Plain.at_bd h hk
    rw [Plain.flip_atP hs k hk]
    exact ⟨by omega, by omega, by simp only []; omega, by simp only []; omega⟩
  · unfold Plain.flipL at hb
    obtain ⟨c, hc, rfl⟩ := List.mem_map.1 hb
    exact (Plain.flip_step (hs c hc)).1
theorem implFlipPath_any (s : ByteArray) (l : List UInt8) (hl0 : Hid (l = s.data.toList)) (w : World) (hs : s.size ≤ 9223372036854775807) : Calls Try.prog 39 #[.string s] w (Val (.tuple #[.string (flipV l), .bool (Plain.pathB l)]) w) := by
  cases hp : Plain.pathB l with
  | false =>
    have HP := Lib.hid hp
    have HV : Hid (flipV l = ⟨#[]⟩) := Lib.hid (by unfold flipV; rw [hp]; rfl)
    rw [HV.out]
    clear hp
    go_enter Try.func39, Try.ntmps39
    go_wp2_with fail
    refine (changed_none _ s l hl0 _ hs HP).mono ?_
    rintro e w1 ⟨rfl, hb⟩
    have HB1 := Lib.hid hb
    clear hb
    go_wp2_with fail
    go_ret2
    exact ⟨rfl, HB1.out⟩
  | true =>
    have HP := Lib.hid hp
    have HV : Hid (flipV l = ⟨(Plain.flipL l).toArray⟩) := Lib.hid (by unfold flipV; rw [hp]; rfl)
    rw [HV.out]
    have hN := flip_near (Plain.path_ok hp).2
    have HN := Lib.hid hN.1
    have HS := Lib.hid hN.2
    have hl4 : (Plain.flipL l).length ≤ 400 := by rw [Plain.flip_length]; exact (Plain.path_ok hp).1
    have HG : Hid (Changes 70 l (Plain.flipL l)) := Lib.hid (fun g cap W h _ => flipped_any l g cap W HP h)
    clear hp hN
    go_enter Try.func39, Try.ntmps39
    go_wp2_with fail
    refine (changed_flipped s l _ hl0 _ hs HP HN HS hl4 HG).mono ?_
    rintro e w1 ⟨rfl, hb⟩
    have HB1 := Lib.hid hb
    clear hb
    go_wp2_with fail
    go_ret2
    exact ⟨rfl, HB1.out⟩
end Go.Proofs.Ytpaijobmoddgpaa
