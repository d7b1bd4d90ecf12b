/- Put together by a program out of these texts of mine: CkAw, CkDf. -/
import Derived.Test.YtcnjjhdmnagkgaaGreatDoorBunC3
import Derived.Test.YtcnjjhdmnagkgaaGreatDoorBunC5
import Derived.Test.YtcnjjhdmnagkgaaGreatDoorBunC6
import Derived.Test.YtcnjjhdmnagkgaaGreatDoorBunC27

namespace Go.Proofs.YtcnjjhdmnagkgaaGreatDoor
open Go.RowKit
set_option linter.unusedVariables false
set_option linter.unusedSimpArgs false

theorem k97 : strOfNums [97] = ⟨#[97]⟩ := by kernel_rfl
theorem k98 : strOfNums [98] = ⟨#[98]⟩ := by kernel_rfl
theorem k77 : strOfNums [77] = ⟨#[77]⟩ := by kernel_rfl
theorem kMb : strOfNums (njoin [77] [98]) = ⟨#[77, 46, 98]⟩ := by kernel_rfl

set_option maxRecDepth 100000 in
set_option maxHeartbeats 8000000 in
theorem ckawake (W : World) (hT : Hid (LoTab W)) : Calls Tryz.prog 6 #[] W fun e W' => e = .returned (.bool true) ∧ Below W.heap.size W W' := by
  have Q2 := fun V gm gf gl (h : Hid (LoTab V)) => ckSet2 ⟨#[97]⟩ (by decide) (by rw [← k97]; exact str_ne 97 []) [77] [97] [98] (show Hid (byts [77]) from by show byts _; unfold byts; decide) (show Hid (byts [97]) from by show byts _; unfold byts; decide) (show Hid (byts [98]) from by show byts _; unfold byts; decide) (by decide) (by decide) (by decide) (fun e => by have := str_inj (by unfold byts; decide) (by unfold byts; decide) e; cases this) (fun e => by have := str_inj (by unfold byts; decide) (by unfold byts; decide) e; cases this) (fun e => by have := str_inj (by unfold byts; decide) (by unfold byts; decide) e; cases this) (by decide) (by decide) (by decide) gm gf gl V h
  have Q1 := fun V gm gf gl (h : Hid (LoTab V)) => ckSet1 ⟨#[97]⟩ (by decide) (by rw [← k97]; exact str_ne 97 []) [77] [97] [98] (show Hid (byts [77]) from by show byts _; unfold byts; decide) (show Hid (byts [97]) from by show byts _; unfold byts; decide) (show Hid (byts [98]) from by show byts _; unfold byts; decide) (by decide) (by decide) (by decide) (fun e => by have := str_inj (by unfold byts; decide) (by unfold byts; decide) e; cases this) (fun e => by have := str_inj (by unfold byts; decide) (by unfold byts; decide) e; cases this) (fun e => by have := str_inj (by unfold byts; decide) (by unfold byts; decide) e; cases this) (by decide) (by decide) (by decide) gm gf gl V h
  simp only [k97, k98, k77, kMb] at Q1 Q2
  obtain ⟨w1, hw1⟩ : ∃ w1, (((((W).alloc (.cells #[.string ⟨#[97]⟩, .int .i64 1, .int .i64 1, .int .i64 5, .string ⟨#[]⟩, .string ⟨#[]⟩, .string ⟨#[]⟩, .bool false, .int .i64 0, .string ⟨#[97]⟩, .bool false, .slice none 0 0, .slice none 0 0] 34)).alloc (.cells #[.string ⟨#[98]⟩, .int .i64 1, .int .i64 1, .int .i64 5, .string ⟨#[]⟩, .string ⟨#[]⟩, .string ⟨#[]⟩, .bool false, .int .i64 0, .string ⟨#[98]⟩, .bool false, .slice none 0 0, .slice none 0 0] 34)).alloc (.cells #[.string ⟨#[97]⟩, .int .i64 1, .int .i64 1, .int .i64 5, .string ⟨#[]⟩, .string ⟨#[]⟩, .string ⟨#[]⟩, .bool false, .int .i64 0, .string ⟨#[97]⟩, .bool false, .slice none 0 0, .slice none 0 0, .string ⟨#[98]⟩, .int .i64 1, .int .i64 1, .int .i64 5, .string ⟨#[]⟩, .string ⟨#[]⟩, .string ⟨#[]⟩, .bool false, .int .i64 0, .string ⟨#[98]⟩, .bool false, .slice none 0 0, .slice none 0 0] 34)).alloc (.cells #[.string ⟨#[77]⟩, .slice (some ⟨W.heap.size + 1 + 1, 0, none⟩) 2 2, .slice none 0 0, .slice none 0 0, .slice none 0 0, .slice none 0 0, .slice none 0 0, .slice none 0 0, .slice none 0 0, .slice none 0 0, .slice none 0 0] 42)).alloc (.cells #[.string ⟨#[97]⟩, .string ⟨#[]⟩, .slice none 0 0, .slice none 0 0, .slice (some ⟨W.heap.size + 1 + 1 + 1, 0, none⟩) 1 1, .slice none 0 0, .slice none 0 0, .slice none 0 0, .string ⟨#[]⟩, .slice none 0 0, .slice none 0 0] 46) = w1 := ⟨_, rfl⟩
  have hb1 : Below W.heap.size W w1 := by rw [← hw1]; exact (((((Below.refl _ _).alloc (by simp) _).alloc (by simp) _).alloc (by simp; omega) _).alloc (by simp; omega) _).alloc (by simp; omega) _
  have o0 : Ob w1 (W.heap.size) #[.string ⟨#[97]⟩, .int .i64 1, .int .i64 1, .int .i64 5, .string ⟨#[]⟩, .string ⟨#[]⟩, .string ⟨#[]⟩, .bool false, .int .i64 0, .string ⟨#[97]⟩, .bool false, .slice none 0 0, .slice none 0 0] 34 := by
    rw [← hw1]
    have := Ob.new (W) #[.string ⟨#[97]⟩, .int .i64 1, .int .i64 1, .int .i64 5, .string ⟨#[]⟩, .string ⟨#[]⟩, .string ⟨#[]⟩, .bool false, .int .i64 0, .string ⟨#[97]⟩, .bool false, .slice none 0 0, .slice none 0 0] 34
    try simp only [World.size_alloc] at this
    exact ((((this).alloc _).alloc _).alloc _).alloc _
  have o1 : Ob w1 (W.heap.size + 1) #[.string ⟨#[98]⟩, .int .i64 1, .int .i64 1, .int .i64 5, .string ⟨#[]⟩, .string ⟨#[]⟩, .string ⟨#[]⟩, .bool false, .int .i64 0, .string ⟨#[98]⟩, .bool false, .slice none 0 0, .slice none 0 0] 34 := by
    rw [← hw1]
    have := Ob.new ((W).alloc (.cells #[.string ⟨#[97]⟩, .int .i64 1, .int .i64 1, .int .i64 5, .string ⟨#[]⟩, .string ⟨#[]⟩, .string ⟨#[]⟩, .bool false, .int .i64 0, .string ⟨#[97]⟩, .bool false, .slice none 0 0, .slice none 0 0] 34)) #[.string ⟨#[98]⟩, .int .i64 1, .int .i64 1, .int .i64 5, .string ⟨#[]⟩, .string ⟨#[]⟩, .string ⟨#[]⟩, .bool false, .int .i64 0, .string ⟨#[98]⟩, .bool false, .slice none 0 0, .slice none 0 0] 34
    try simp only [World.size_alloc] at this
    exact (((this).alloc _).alloc _).alloc _
  have o2 : Ob w1 (W.heap.size + 1 + 1) #[.string ⟨#[97]⟩, .int .i64 1, .int .i64 1, .int .i64 5, .string ⟨#[]⟩, .string ⟨#[]⟩, .string ⟨#[]⟩, .bool false, .int .i64 0, .string ⟨#[97]⟩, .bool false, .slice none 0 0, .slice none 0 0, .string ⟨#[98]⟩, .int .i64 1, .int .i64 1, .int .i64 5, .string ⟨#[]⟩, .string ⟨#[]⟩, .string ⟨#[]⟩, .bool false, .int .i64 0, .string ⟨#[98]⟩, .bool false, .slice none 0 0, .slice none 0 0] 34 := by
    rw [← hw1]
    have := Ob.new (((W).alloc (.cells #[.string ⟨#[97]⟩, .int .i64 1, .int .i64 1, .int .i64 5, .string ⟨#[]⟩, .string ⟨#[]⟩, .string ⟨#[]⟩, .bool false, .int .i64 0, .string ⟨#[97]⟩, .bool false, .slice none 0 0, .slice none 0 0] 34)).alloc (.cells #[.string ⟨#[98]⟩, .int .i64 1, .int .i64 1, .int .i64 5, .string ⟨#[]⟩, .string ⟨#[]⟩, .string ⟨#[]⟩, .bool false, .int .i64 0, .string ⟨#[98]⟩, .bool false, .slice none 0 0, .slice none 0 0] 34)) #[.string ⟨#[97]⟩, .int .i64 1, .int .i64 1, .int .i64 5, .string ⟨#[]⟩, .string ⟨#[]⟩, .string ⟨#[]⟩, .bool false, .int .i64 0, .string ⟨#[97]⟩, .bool false, .slice none 0 0, .slice none 0 0, .string ⟨#[98]⟩, .int .i64 1, .int .i64 1, .int .i64 5, .string ⟨#[]⟩, .string ⟨#[]⟩, .string ⟨#[]⟩, .bool false, .int .i64 0, .string ⟨#[98]⟩, .bool false, .slice none 0 0, .slice none 0 0] 34
    try simp only [World.size_alloc] at this
    exact ((this).alloc _).alloc _
  have o3 : Ob w1 (W.heap.size + 1 + 1 + 1) #[.string ⟨#[77]⟩, .slice (some ⟨W.heap.size + 1 + 1, 0, none⟩) 2 2, .slice none 0 0, .slice none 0 0, .slice none 0 0, .slice none 0 0, .slice none 0 0, .slice none 0 0, .slice none 0 0, .slice none 0 0, .slice none 0 0] 42 := by
    rw [← hw1]
    have := Ob.new ((((W).alloc (.cells #[.string ⟨#[97]⟩, .int .i64 1, .int .i64 1, .int .i64 5, .string ⟨#[]⟩, .string ⟨#[]⟩, .string ⟨#[]⟩, .bool false, .int .i64 0, .string ⟨#[97]⟩, .bool false, .slice none 0 0, .slice none 0 0] 34)).alloc (.cells #[.string ⟨#[98]⟩, .int .i64 1, .int .i64 1, .int .i64 5, .string ⟨#[]⟩, .string ⟨#[]⟩, .string ⟨#[]⟩, .bool false, .int .i64 0, .string ⟨#[98]⟩, .bool false, .slice none 0 0, .slice none 0 0] 34)).alloc (.cells #[.string ⟨#[97]⟩, .int .i64 1, .int .i64 1, .int .i64 5, .string ⟨#[]⟩, .string ⟨#[]⟩, .string ⟨#[]⟩, .bool false, .int .i64 0, .string ⟨#[97]⟩, .bool false, .slice none 0 0, .slice none 0 0, .string ⟨#[98]⟩, .int .i64 1, .int .i64 1, .int .i64 5, .string ⟨#[]⟩, .string ⟨#[]⟩, .string ⟨#[]⟩, .bool false, .int .i64 0, .string ⟨#[98]⟩, .bool false, .slice none 0 0, .slice none 0 0] 34)) #[.string ⟨#[77]⟩, .slice (some ⟨W.heap.size + 1 + 1, 0, none⟩) 2 2, .slice none 0 0, .slice none 0 0, .slice none 0 0, .slice none 0 0, .slice none 0 0, .slice none 0 0, .slice none 0 0, .slice none 0 0, .slice none 0 0] 42
    try simp only [World.size_alloc] at this
    exact (this).alloc _
  have o4 : Ob w1 (W.heap.size + 1 + 1 + 1 + 1) #[.string ⟨#[97]⟩, .string ⟨#[]⟩, .slice none 0 0, .slice none 0 0, .slice (some ⟨W.heap.size + 1 + 1 + 1, 0, none⟩) 1 1, .slice none 0 0, .slice none 0 0, .slice none 0 0, .string ⟨#[]⟩, .slice none 0 0, .slice none 0 0] 46 := by
    rw [← hw1]
    have := Ob.new (((((W).alloc (.cells #[.string ⟨#[97]⟩, .int .i64 1, .int .i64 1, .int .i64 5, .string ⟨#[]⟩, .string ⟨#[]⟩, .string ⟨#[]⟩, .bool false, .int .i64 0, .string ⟨#[97]⟩, .bool false, .slice none 0 0, .slice none 0 0] 34)).alloc (.cells #[.string ⟨#[98]⟩, .int .i64 1, .int .i64 1, .int .i64 5, .string ⟨#[]⟩, .string ⟨#[]⟩, .string ⟨#[]⟩, .bool false, .int .i64 0, .string ⟨#[98]⟩, .bool false, .slice none 0 0, .slice none 0 0] 34)).alloc (.cells #[.string ⟨#[97]⟩, .int .i64 1, .int .i64 1, .int .i64 5, .string ⟨#[]⟩, .string ⟨#[]⟩, .string ⟨#[]⟩, .bool false, .int .i64 0, .string ⟨#[97]⟩, .bool false, .slice none 0 0, .slice none 0 0, .string ⟨#[98]⟩, .int .i64 1, .int .i64 1, .int .i64 5, .string ⟨#[]⟩, .string ⟨#[]⟩, .string ⟨#[]⟩, .bool false, .int .i64 0, .string ⟨#[98]⟩, .bool false, .slice none 0 0, .slice none 0 0] 34)).alloc (.cells #[.string ⟨#[77]⟩, .slice (some ⟨W.heap.size + 1 + 1, 0, none⟩) 2 2, .slice none 0 0, .slice none 0 0, .slice none 0 0, .slice none 0 0, .slice none 0 0, .slice none 0 0, .slice none 0 0, .slice none 0 0, .slice none 0 0] 42)) #[.string ⟨#[97]⟩, .string ⟨#[]⟩, .slice none 0 0, .slice none 0 0, .slice (some ⟨W.heap.size + 1 + 1 + 1, 0, none⟩) 1 1, .slice none 0 0, .slice none 0 0, .slice none 0 0, .string ⟨#[]⟩, .slice none 0 0, .slice none 0 0] 46
    try simp only [World.size_alloc] at this
    exact this
  have QA : Hid _ := Q2 w1 _ _ _ (show Hid _ from hT.out.below hb1 (Nat.le_refl _)) o3 o4 o2
  have O0 : Hid (Ob w1 W.heap.size #[.string ⟨#[97]⟩, .int .i64 1, .int .i64 1, .int .i64 5, .string ⟨#[]⟩, .string ⟨#[]⟩, .string ⟨#[]⟩, .bool false, .int .i64 0, .string ⟨#[97]⟩, .bool false, .slice none 0 0, .slice none 0 0] 34) := o0
  have HB1 : Hid _ := hb1
  have HW1 : Hid _ := hw1
  have HQ1 : Hid _ := Q1
  clear hb1 hw1 o0 o1 o2 o3 o4 Q1 Q2
  go_enter Tryz.func6, Tryz.ntmps6
  go_wp2_with fail
  rw [HW1.out]
  clear HW1
  refine Calls.mono QA.out ?_
  rintro e w2 ⟨rfl, hb2⟩
  have HB2 : Hid (Below W.heap.size W w2) := HB1.out.trans (hb2.mono HB1.out.size)
  have O2 := O0.out.below hb2 O0.out.lt
  obtain ⟨w3, hw3⟩ : ∃ w3, (((w2).alloc (.cells #[.string ⟨#[97]⟩, .int .i64 1, .int .i64 1, .int .i64 5, .string ⟨#[]⟩, .string ⟨#[]⟩, .string ⟨#[]⟩, .bool false, .int .i64 0, .string ⟨#[97]⟩, .bool false, .slice none 0 0, .slice none 0 0] 34)).alloc (.cells #[.string ⟨#[77]⟩, .slice (some ⟨w2.heap.size, 0, none⟩) 1 1, .slice none 0 0, .slice none 0 0, .slice none 0 0, .slice none 0 0, .slice none 0 0, .slice none 0 0, .slice none 0 0, .slice none 0 0, .slice none 0 0] 42)).alloc (.cells #[.string ⟨#[97]⟩, .string ⟨#[]⟩, .slice none 0 0, .slice none 0 0, .slice (some ⟨w2.heap.size + 1, 0, none⟩) 1 1, .slice none 0 0, .slice none 0 0, .slice none 0 0, .string ⟨#[]⟩, .slice none 0 0, .slice none 0 0] 46) = w3 := ⟨_, rfl⟩
  have hb3 : Below w2.heap.size w2 w3 := by rw [← hw3]; exact (((Below.refl _ _).alloc (by simp) _).alloc (by simp) _).alloc (by simp; omega) _
  have p0 : Ob w3 (w2.heap.size) #[.string ⟨#[97]⟩, .int .i64 1, .int .i64 1, .int .i64 5, .string ⟨#[]⟩, .string ⟨#[]⟩, .string ⟨#[]⟩, .bool false, .int .i64 0, .string ⟨#[97]⟩, .bool false, .slice none 0 0, .slice none 0 0] 34 := by
    rw [← hw3]
    have := Ob.new (w2) #[.string ⟨#[97]⟩, .int .i64 1, .int .i64 1, .int .i64 5, .string ⟨#[]⟩, .string ⟨#[]⟩, .string ⟨#[]⟩, .bool false, .int .i64 0, .string ⟨#[97]⟩, .bool false, .slice none 0 0, .slice none 0 0] 34
    try simp only [World.size_alloc] at this
    exact ((this).alloc _).alloc _
  have p1 : Ob w3 (w2.heap.size + 1) #[.string ⟨#[77]⟩, .slice (some ⟨w2.heap.size, 0, none⟩) 1 1, .slice none 0 0, .slice none 0 0, .slice none 0 0, .slice none 0 0, .slice none 0 0, .slice none 0 0, .slice none 0 0, .slice none 0 0, .slice none 0 0] 42 := by
    rw [← hw3]
    have := Ob.new ((w2).alloc (.cells #[.string ⟨#[97]⟩, .int .i64 1, .int .i64 1, .int .i64 5, .string ⟨#[]⟩, .string ⟨#[]⟩, .string ⟨#[]⟩, .bool false, .int .i64 0, .string ⟨#[97]⟩, .bool false, .slice none 0 0, .slice none 0 0] 34)) #[.string ⟨#[77]⟩, .slice (some ⟨w2.heap.size, 0, none⟩) 1 1, .slice none 0 0, .slice none 0 0, .slice none 0 0, .slice none 0 0, .slice none 0 0, .slice none 0 0, .slice none 0 0, .slice none 0 0, .slice none 0 0] 42
    try simp only [World.size_alloc] at this
    exact (this).alloc _
  have p2 : Ob w3 (w2.heap.size + 1 + 1) #[.string ⟨#[97]⟩, .string ⟨#[]⟩, .slice none 0 0, .slice none 0 0, .slice (some ⟨w2.heap.size + 1, 0, none⟩) 1 1, .slice none 0 0, .slice none 0 0, .slice none 0 0, .string ⟨#[]⟩, .slice none 0 0, .slice none 0 0] 46 := by
    rw [← hw3]
    have := Ob.new (((w2).alloc (.cells #[.string ⟨#[97]⟩, .int .i64 1, .int .i64 1, .int .i64 5, .string ⟨#[]⟩, .string ⟨#[]⟩, .string ⟨#[]⟩, .bool false, .int .i64 0, .string ⟨#[97]⟩, .bool false, .slice none 0 0, .slice none 0 0] 34)).alloc (.cells #[.string ⟨#[77]⟩, .slice (some ⟨w2.heap.size, 0, none⟩) 1 1, .slice none 0 0, .slice none 0 0, .slice none 0 0, .slice none 0 0, .slice none 0 0, .slice none 0 0, .slice none 0 0, .slice none 0 0, .slice none 0 0] 42)) #[.string ⟨#[97]⟩, .string ⟨#[]⟩, .slice none 0 0, .slice none 0 0, .slice (some ⟨w2.heap.size + 1, 0, none⟩) 1 1, .slice none 0 0, .slice none 0 0, .slice none 0 0, .string ⟨#[]⟩, .slice none 0 0, .slice none 0 0] 46
    try simp only [World.size_alloc] at this
    exact this
  have HB3 : Hid (Below W.heap.size W w3) := HB2.out.trans (hb3.mono HB2.out.size)
  have QB : Hid _ := HQ1.out w3 _ _ _ (show Hid _ from hT.out.below HB3.out (Nat.le_refl _)) p1 p2 p0
  obtain ⟨⟨c0, c1, c2, c3, c4, c5, c6, c7, c8, c9, c10, c11, c12⟩, _, cl⟩ := ob13 O2
  have HW3 : Hid _ := hw3
  clear hb2 hb3 hw3 p0 p1 p2 O0 O2 HB1 HB2 QA HQ1
  go_wp2_with fail
  rw [HW3.out]
  clear HW3
  refine Calls.mono QB.out ?_
  rintro e w4 ⟨rfl, hb4⟩
  have HB4 : Hid (Below W.heap.size W w4) := HB3.out.trans (hb4.mono HB3.out.size)
  clear hb4 HB3 QB c0 c1 c2 c3 c4 c5 c6 c7 c8 c9 c10 c11 c12 cl
  go_wp2
  go_ret
  exact ⟨rfl, HB4.out⟩

def dck (t : Int) (s : List Int) : Bool :=
  if t = 8 then (decide (s = wTrue) || decide (s = wFalse))
  else if t = 9 then true
  else if t = 12 then true
  else if t = 14 then nident s
  else pfit t 20 s

def rck (t : Int) (s : List Int) : Bool :=
  if 0 < (lbits t).1 then lwithin t s
  else if t = 8 then (decide (s = wTrue) || decide (s = wFalse))
  else if t = 9 then true
  else if t = 12 then true
  else if t = 14 then nident s
  else false

theorem pfit_int (t : Int) (s : List Int) : pfit t 20 s = (decide (0 < (lbits t).1) && lwithin t s) := by
  have h : (if pfit t 20 s = true then some s else none) = ldefault t (.mk 20 s 0 0 0 0 [] none 0 []) := pfit_eq t (.mk 20 s 0 0 0 0 [] none 0 [])
  have e : ldefault t (.mk 20 s 0 0 0 0 [] none 0 []) = if 0 < (lbits t).1 then (if lwithin t s = true then some s else none) else none := by
    unfold ldefault
    simp [Tn.kind, Tn.text]
    first | done | rfl | congr
  rw [e] at h
  clear e
  by_cases hb : 0 < (lbits t).1
  · rw [if_pos hb] at h
    rw [decide_eq_true hb]
    revert h
    cases pfit t 20 s <;> cases lwithin t s <;> simp
  · rw [if_neg hb] at h
    rw [decide_eq_false hb]
    revert h
    cases pfit t 20 s <;> simp

theorem dck_eq (t : Int) (s : List Int) : dck t s = rck t s := by
  unfold dck rck
  by_cases t8 : t = 8
  · subst t8; simp [lbits]
  by_cases t9 : t = 9
  · subst t9; simp [lbits]
  by_cases t12 : t = 12
  · subst t12; simp [lbits]
  by_cases t14 : t = 14
  · subst t14; simp [lbits]
  rw [if_neg t8, if_neg t9, if_neg t12, if_neg t14, if_neg t8, if_neg t9, if_neg t12, if_neg t14, pfit_int]
  by_cases hb : 0 < (lbits t).1 <;> simp [hb]

theorem ckq1 {s : List Int} (hs : byts s) : ((strOfNums s).toList == [116, 114, 117, 101]) = decide (s = wTrue) := by
  have := str_eq (z1 := s) (z2 := wTrue) hs (by decide)
  rw [show (strOfNums wTrue).toList = [116, 114, 117, 101] from by kernel_rfl] at this
  rw [this, Bool.eq_iff_iff]
  simp

theorem ckq2 {s : List Int} (hs : byts s) : ((strOfNums s).toList == [102, 97, 108, 115, 101]) = decide (s = wFalse) := by
  have := str_eq (z1 := s) (z2 := wFalse) hs (by decide)
  rw [show (strOfNums wFalse).toList = [102, 97, 108, 115, 101] from by kernel_rfl] at this
  rw [this, Bool.eq_iff_iff]
  simp

set_option maxRecDepth 10000 in
set_option maxHeartbeats 8000000 in
theorem pckdef_any (t : Int) (s : List Int) (W : World) (hz : Hid (∀ i, 0 ≤ s.getD i 0 ∧ s.getD i 0 ≤ 255)) (hlen : (s.length : Int) ≤ 1000000) (hT : Hid (LoTab W)) :
    Calls Tryz.prog 10 #[.int .i64 t, .string (strOfNums s)] W fun e W' => e = .returned (.bool (dck t s)) ∧ Below W.heap.size W W' := by
  have hs : byts s := mem_bd hz.out
  by_cases t8 : t = 8
  · subst t8
    have e : dck 8 s = (decide (s = wTrue) || decide (s = wFalse)) := rfl
    have q1 := ckq1 hs
    have q2 := ckq2 hs
    rw [e]
    generalize decide (s = wTrue) = A at q1 ⊢
    generalize decide (s = wFalse) = B at q2 ⊢
    generalize strOfNums s = S at q1 q2 ⊢
    clear e hs
    cases A with
    | true =>
      go_enter Tryz.func10, Tryz.ntmps10
      go_wp2
      go_ret
      exact ⟨rfl, Below.refl _ _⟩
    | false =>
      cases B with
      | true =>
        go_enter Tryz.func10, Tryz.ntmps10
        go_wp2
        go_ret
        exact ⟨by first | rfl | simp [q2], Below.refl _ _⟩
      | false =>
        go_enter Tryz.func10, Tryz.ntmps10
        go_wp2
        go_ret
        exact ⟨by first | rfl | simp [q2], Below.refl _ _⟩
  by_cases t9 : t = 9
  · subst t9
    rw [show dck 9 s = true from rfl]
    go_enter Tryz.func10, Tryz.ntmps10
    go_wp2
    go_ret
    exact ⟨rfl, Below.refl _ _⟩
  by_cases t12 : t = 12
  · subst t12
    rw [show dck 12 s = true from rfl]
    go_enter Tryz.func10, Tryz.ntmps10
    go_wp2
    go_ret
    exact ⟨rfl, Below.refl _ _⟩
  by_cases t14 : t = 14
  · subst t14
    rw [show dck 14 s = nident s from rfl]
    have Q : Hid _ := fun V => pident_any s V (show Hid _ from trivial) hz (by omega)
    generalize nident s = A at Q ⊢
    generalize strOfNums s = S at Q ⊢
    go_enter Tryz.func10, Tryz.ntmps10
    go_wp2_with fail
    refine Calls.mono (Q.out _) ?_
    rintro e w1 ⟨rfl, hb1⟩
    have HB1 : Hid _ := hb1
    clear hb1
    go_wp2
    go_ret
    exact ⟨rfl, HB1.out⟩
  have e : dck t s = pfit t 20 s := by unfold dck; rw [if_neg t8, if_neg t9, if_neg t12, if_neg t14]
  rw [e]
  have Q : Hid (∀ V, Below W.heap.size W V → _) := fun V hV => pdefault_any (kind := 20) (n := 0) (m := 0) (a := 0) (pos := 0) (text := s) (D := ⟨#[]⟩) (ad := none) (kl := 0) (cap := 0) hz hlen t V (show Hid _ from hT.out.below hV (Nat.le_refl _))
  have ds := dret_some s
  generalize pfit t 20 s = A at Q ⊢
  generalize strOfNums s = S at Q ds ⊢
  have n8 : (t == 8) = false := by simpa using t8
  have n9 : (t == 9) = false := by simpa using t9
  have n12 : (t == 12) = false := by simpa using t12
  have n14 : (t == 14) = false := by simpa using t14
  clear e hs t8 t9 t12 t14 hT
  cases A with
  | true =>
    rw [if_pos rfl, ds] at Q
    clear ds
    go_enter Tryz.func10, Tryz.ntmps10
    go_wp2_with fail
    refine Calls.mono (Q.out _ (by first | exact Below.refl _ _ | exact (Below.refl _ _).alloc (Nat.le_refl _) _)) ?_
    rintro e w1 ⟨rfl, hb1⟩
    have HB1 : Hid _ := hb1
    clear hb1
    go_wp2
    go_ret
    exact ⟨rfl, HB1.out⟩
  | false =>
    rw [if_neg (by decide), dret_none] at Q
    clear ds
    go_enter Tryz.func10, Tryz.ntmps10
    go_wp2_with fail
    refine Calls.mono (Q.out _ (by first | exact Below.refl _ _ | exact (Below.refl _ _).alloc (Nat.le_refl _) _)) ?_
    rintro e w1 ⟨rfl, hb1⟩
    have HB1 : Hid _ := hb1
    clear hb1
    go_wp2
    go_ret
    exact ⟨rfl, HB1.out⟩

set_option maxRecDepth 10000 in
set_option maxHeartbeats 8000000 in
theorem rckdef_any (t : Int) (s : List Int) (W : World) (hz : Hid (∀ i, 0 ≤ s.getD i 0 ∧ s.getD i 0 ≤ 255)) (hlen : (s.length : Int) ≤ 1000000) :
    Calls Tryz.prog 11 #[.int .i64 t, .string (strOfNums s)] W fun e W' => e = .returned (.bool (rck t s)) ∧ Below W.heap.size W W' := by
  have hs : byts s := mem_bd hz.out
  have QB : Hid _ := fun V => rbits_any t V
  have QW : Hid _ := fun V => rwithin_any t s V hz hlen (show Hid _ from tint_tb s)
  have QI : Hid _ := fun V => rident_any s V hz (by omega)
  have q1 := ckq1 hs
  have q2 := ckq2 hs
  have hc := lbits_cases t
  have e : rck t s = (if 0 < (lbits t).1 then lwithin t s
    else if t = 8 then (decide (s = wTrue) || decide (s = wFalse))
    else if t = 9 then true
    else if t = 12 then true
    else if t = 14 then nident s
    else false) := rfl
  rw [e]
  clear e
  generalize lnum1 (lbits t) (tint s) = N at QW
  generalize lwithin t s = L at QW ⊢
  generalize lbits t = b at QB hc ⊢
  generalize nident s = I at QI ⊢
  generalize decide (s = wTrue) = A at q1 ⊢
  generalize decide (s = wFalse) = B at q2 ⊢
  generalize strOfNums s = S at q1 q2 QW QI ⊢
  clear hs
  have go : ∀ bits sg, b = (bits, sg) → 0 < bits → (bits = 32 ∨ bits = 64) → Calls Tryz.prog 11 #[.int .i64 t, .string S] W fun e W' => e = .returned (.bool (if 0 < b.1 then L
    else if t = 8 then (A || B)
    else if t = 9 then true
    else if t = 12 then true
    else if t = 14 then I
    else false)) ∧ Below W.heap.size W W' := by
    intro bits sg hb h0 h1
    subst hb
    rw [if_pos h0]
    clear q1 q2 QI hc
    rcases h1 with rfl | rfl
    all_goals
      simp only at QB
      clear h0
      go_enter Tryz.func11, Tryz.ntmps11
      go_wp2_with fail
      refine Calls.mono (QB.out _) ?_
      rintro e w1 ⟨rfl, rfl⟩
      go_wp2_with fail
      refine Calls.mono (QW.out _) ?_
      rintro e w2 ⟨rfl, hb2⟩
      have HB2 : Hid _ := hb2
      clear hb2
      go_wp2
      go_ret
      exact ⟨rfl, HB2.out⟩
  rcases hc with h | h | h | h | h
  · exact go 32 true h (by decide) (.inl rfl)
  · exact go 64 true h (by decide) (.inr rfl)
  · exact go 32 false h (by decide) (.inl rfl)
  · exact go 64 false h (by decide) (.inr rfl)
  clear go
  subst h
  rw [if_neg (by decide)]
  simp only at QB
  by_cases t8 : t = 8
  · subst t8
    rw [if_pos rfl]
    clear QI
    cases A with
    | true =>
      go_enter Tryz.func11, Tryz.ntmps11
      go_wp2_with fail
      refine Calls.mono (QB.out _) ?_
      rintro e w1 ⟨rfl, rfl⟩
      go_wp2_with fail
      refine Calls.mono (QW.out _) ?_
      rintro e w2 ⟨rfl, hb2⟩
      have HB2 : Hid _ := hb2
      clear hb2
      go_wp2
      go_ret
      exact ⟨rfl, HB2.out⟩
    | false =>
      rw [Bool.false_or]
      cases B with
      | true =>
        go_enter Tryz.func11, Tryz.ntmps11
        go_wp2_with fail
        refine Calls.mono (QB.out _) ?_
        rintro e w1 ⟨rfl, rfl⟩
        go_wp2_with fail
        refine Calls.mono (QW.out _) ?_
        rintro e w2 ⟨rfl, hb2⟩
        have HB2 : Hid _ := hb2
        clear hb2
        go_wp2
        go_ret
        exact ⟨by first | rfl | simp [q2], HB2.out⟩
      | false =>
        go_enter Tryz.func11, Tryz.ntmps11
        go_wp2_with fail
        refine Calls.mono (QB.out _) ?_
        rintro e w1 ⟨rfl, rfl⟩
        go_wp2_with fail
        refine Calls.mono (QW.out _) ?_
        rintro e w2 ⟨rfl, hb2⟩
        have HB2 : Hid _ := hb2
        clear hb2
        go_wp2
        go_ret
        exact ⟨by first | rfl | simp [q2], HB2.out⟩
  rw [if_neg t8]
  have n8 : (t == 8) = false := by simpa using t8
  clear q1 q2 t8
  by_cases t9 : t = 9
  · subst t9
    rw [if_pos rfl]
    clear QI
    go_enter Tryz.func11, Tryz.ntmps11
    go_wp2_with fail
    refine Calls.mono (QB.out _) ?_
    rintro e w1 ⟨rfl, rfl⟩
    go_wp2_with fail
    refine Calls.mono (QW.out _) ?_
    rintro e w2 ⟨rfl, hb2⟩
    have HB2 : Hid _ := hb2
    clear hb2
    go_wp2
    go_ret
    exact ⟨rfl, HB2.out⟩
  rw [if_neg t9]
  have n9 : (t == 9) = false := by simpa using t9
  clear t9
  by_cases t12 : t = 12
  · subst t12
    rw [if_pos rfl]
    clear QI
    go_enter Tryz.func11, Tryz.ntmps11
    go_wp2_with fail
    refine Calls.mono (QB.out _) ?_
    rintro e w1 ⟨rfl, rfl⟩
    go_wp2_with fail
    refine Calls.mono (QW.out _) ?_
    rintro e w2 ⟨rfl, hb2⟩
    have HB2 : Hid _ := hb2
    clear hb2
    go_wp2
    go_ret
    exact ⟨rfl, HB2.out⟩
  rw [if_neg t12]
  have n12 : (t == 12) = false := by simpa using t12
  clear t12
  by_cases t14 : t = 14
  · subst t14
    rw [if_pos rfl]
    go_enter Tryz.func11, Tryz.ntmps11
    go_wp2_with fail
    refine Calls.mono (QB.out _) ?_
    rintro e w1 ⟨rfl, rfl⟩
    go_wp2_with fail
    refine Calls.mono (QW.out _) ?_
    rintro e w2 ⟨rfl, hb2⟩
    have HB2 : Hid _ := hb2
    clear hb2
    go_wp2_with fail
    refine Calls.mono (QI.out _) ?_
    rintro e w3 ⟨rfl, rfl⟩
    go_wp2
    go_ret
    exact ⟨rfl, HB2.out⟩
  rw [if_neg t14]
  have n14 : (t == 14) = false := by simpa using t14
  clear t14 QI
  go_enter Tryz.func11, Tryz.ntmps11
  go_wp2_with fail
  refine Calls.mono (QB.out _) ?_
  rintro e w1 ⟨rfl, rfl⟩
  go_wp2_with fail
  refine Calls.mono (QW.out _) ?_
  rintro e w2 ⟨rfl, hb2⟩
  have HB2 : Hid _ := hb2
  clear hb2
  go_wp2
  go_ret
  exact ⟨rfl, HB2.out⟩

end Go.Proofs.YtcnjjhdmnagkgaaGreatDoor
