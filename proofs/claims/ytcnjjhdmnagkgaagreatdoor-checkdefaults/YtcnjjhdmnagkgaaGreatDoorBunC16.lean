/- Put together by a program out of these texts of mine: CkR. -/
import Derived.Test.YtcnjjhdmnagkgaaGreatDoorBunC15

namespace Go.Proofs.YtcnjjhdmnagkgaaGreatDoor
open Go.RowKit
set_option linter.unusedVariables false
set_option linter.unusedSimpArgs false

set_option maxRecDepth 20000 in
set_option maxHeartbeats 2000000 in
theorem ckImports (A : ByteArray) (gm : Nat) (p : Value) (W : World) :
    Calls Tryz.prog 66 #[.agg (exFile A gm), p] W fun e w' => e = .returned (.bool true) ∧ Below W.heap.size W w' := by
  have hmm := @run_makeMap Tryz.prog
  obtain ⟨w1, hw1⟩ : ∃ w1, (W.alloc (.cells (exFile A gm) 46)).alloc (.map #[] 0) = w1 := ⟨_, rfl⟩
  have hb1 : Below W.heap.size W w1 := by rw [← hw1]; exact ((Below.refl _ _).alloc (Nat.le_refl _) _).alloc (by simp) _
  have f1 : Ob w1 W.heap.size (exFile A gm) 46 := by rw [← hw1]; exact (Ob.new _ _ _).alloc _
  have HW1 : Hid _ := hw1
  have HB1 : Hid _ := hb1
  clear hw1 hb1
  unfold exFile at HW1 f1 ⊢
  obtain ⟨⟨c0, c1, c2, c3, c4, c5, c6, c7, c8, c9, c10⟩, _, cl⟩ := ob11 f1
  clear f1
  go_enter Tryz.func66, Tryz.ntmps66
  go_upto_region 2 with fail
  rw [HW1.out]
  clear HW1
  go_wp2
  go_loopw [17] (fun v wr => v = .int .i64 0 ∧ w1 = wr) (fun _ _ => 0)
  case atStart => exact ⟨rfl, rfl⟩
  case round =>
    obtain ⟨rfl, rfl⟩ := hrel
    go_wp2
    go_loopw [10, 39] (fun l v wr => l = .int .i64 (-1) ∧ v = .int .i64 0 ∧ w1 = wr) (fun _ _ _ => 0)
    case atStart => exact ⟨rfl, rfl, rfl⟩
    case round =>
      obtain ⟨rfl, rfl, rfl⟩ := hrel
      go_wp2
      go_ret
      exact ⟨rfl, HB1.out⟩

theorem mapSI : Tryz.prog.underlying 83 = some (.map 9 3) := by kernel_rfl

set_option maxRecDepth 20000 in
set_option maxHeartbeats 4000000 in
theorem ckPlaces (A : ByteArray) (hA : (A.toList == []) = false) (hA1 : (A.size : Int) ≤ 1000) (gm gl : Nat) (W : World) (hf : Ob W gl (exFile A gm) 46) :
    Calls Tryz.prog 35 #[.slice (some ⟨gl, 0, none⟩) 1 1] W fun e w' => ∃ b, e = .returned (.map (some b)) ∧ Below W.heap.size W w' := by
  have hmm := @run_makeMap Tryz.prog
  have QI : Hid _ := ckImports A gm
  have QK : Hid _ := ckKeeps A
  have HA : Hid (A.size ≤ maxLen) := by show _ ≤ _; unfold maxLen; omega
  have FL : Hid (Ob W gl (exFile A gm) 46) := hf
  have hfl := hf.lt
  obtain ⟨w1, hw1⟩ : ∃ w1, W.alloc (.map #[] 0) = w1 := ⟨_, rfl⟩
  have hb1 : Below W.heap.size W w1 := by rw [← hw1]; exact (Below.refl _ _).alloc (Nat.le_refl _) _
  have m1 : Mg w1 W.heap.size 0 (fun _ => none) := by rw [← hw1]; exact Mg.made W
  obtain ⟨w2, hw2⟩ : ∃ w2, w1.alloc (.cells (exFile A gm) 46) = w2 := ⟨_, rfl⟩
  have hb2 : Below w1.heap.size w1 w2 := by rw [← hw2]; exact (Below.refl _ _).alloc (Nat.le_refl _) _
  have f2 : Ob w2 w1.heap.size (exFile A gm) 46 := by rw [← hw2]; exact Ob.new _ _ _
  have f1 := hf.below hb1 hf.lt
  have M2 : Hid (Mg w2 W.heap.size 0 (fun _ => none)) := m1.below hb2 m1.lt
  have hlk := M2.out.look mapSI (z := .int .i64 0) (zeroII _) A HA.out true
  have F2 : Hid (Ob w2 w1.heap.size (exFile A gm) 46) := f2
  have HW1 : Hid _ := hw1
  have HW2 : Hid _ := hw2
  have HB2 : Hid (Below W.heap.size W w2) := hb1.trans (hb2.mono hb1.size)
  have HS : Hid (W.heap.size < w1.heap.size) := m1.lt
  clear hw1 hw2 hb2 m1 hf
  unfold exFile at HW2 f1 f2 QI
  obtain ⟨⟨d0, d1, d2, d3, d4, d5, d6, d7, d8, d9, d10⟩, _, dl⟩ := ob11 f1
  obtain ⟨⟨c0, c1, c2, c3, c4, c5, c6, c7, c8, c9, c10⟩, _, cl⟩ := ob11 f2
  clear f1 f2
  simp only [mlook] at hlk
  go_enter Tryz.func35, Tryz.ntmps35
  go_upto_region 2 with fail
  rw [HW1.out]
  clear HW1
  go_wp2
  go_loopw [12] (fun v wr => (v = .int .i64 0 ∧ w1 = wr) ∨ (v = .int .i64 1 ∧ Hid (Below W.heap.size W wr))) (fun v _ => 2 - (intOf v).toNat)
  case atStart => exact .inl ⟨rfl, rfl⟩
  case round =>
    rcases hrel with ⟨rfl, rfl⟩ | ⟨rfl, HB⟩
    · go_upto_region 5 with fail
      rw [HW2.out]
      clear HW2 d0 d1 d2 d3 d4 d5 d6 d7 d8 d9 d10 dl
      go_wp2_with fail
      refine Calls.mono (QK.out _ _) ?_
      rintro e w3 ⟨rfl, rfl⟩
      go_wp2_with fail
      refine Calls.mono (QI.out _ _) ?_
      rintro e w3 ⟨rfl, hb3⟩
      have F3 := F2.out.below hb3 F2.out.lt
      have M3 : Hid (Mg w3 W.heap.size 0 (fun _ => none)) := M2.out.below hb3 M2.out.lt
      have HB3 : Hid (Below W.heap.size W w3) := HB2.out.trans (hb3.mono HB2.out.size)
      clear c0 c1 c2 c3 c4 c5 c6 c7 c8 c9 c10 cl hb3 HB2 F2 M2 hlk
      unfold exFile at F3
      obtain ⟨⟨c0, c1, c2, c3, c4, c5, c6, c7, c8, c9, c10⟩, _, cl⟩ := ob11 F3
      clear F3
      go_wp2_with fail
      refine Calls.mono (QK.out _ _) ?_
      rintro e w4 ⟨rfl, rfl⟩
      go_wp2_with fail
      refine Calls.mono (QK.out _ _) ?_
      rintro e w4 ⟨rfl, rfl⟩
      obtain ⟨w5, hup, hm5, hg5⟩ := M3.out.put mapSI A HA.out (.int .i64 0)
      have HB5 : Hid (Below W.heap.size W w5) := HB3.out.grown hg5 HB3.out.size (fun k e => by cases e; exact Nat.le_refl _)
      clear hm5 hg5 M3 HB3
      go_wp2
      go_roundw
      case rel => first | exact .inr ⟨by go_num, HB5⟩ | ((repeat apply Exists.intro); exact ⟨.inr ⟨by go_num, HB5⟩, rfl⟩)
      case measure => simp [intOf]
    · go_wp2
      go_ret
      exact ⟨_, rfl, HB.out⟩

end Go.Proofs.YtcnjjhdmnagkgaaGreatDoor
