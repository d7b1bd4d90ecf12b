/- Put together by a program out of these texts of mine: VDeep, CkS, CkU, VLay. -/
import Derived.Laws.EntriesVeiled
import Derived.Test.YtcnjjhdmnagkgaaGreatDoorBunC11
import Derived.Test.YtcnjjhdmnagkgaaGreatDoorBunC13
import Derived.Test.YtcnjjhdmnagkgaaGreatDoorBunC21

namespace Go.Proofs.YtcnjjhdmnagkgaaGreatDoor
open Go.RowKit
set_option linter.unusedVariables false
set_option linter.unusedSimpArgs false

set_option maxRecDepth 10000 in
set_option maxHeartbeats 1000000 in
theorem pdown0 (a : Option Addr) (c : Nat) (d : Int) (p q : Value) (w : World) :
    Calls Tryz.prog 63 #[.slice a 0 c, .int .i64 d, p, q] w fun e w' => e = .returned (.bool true) ∧ Below w.heap.size w w' := by
  have HB : Hid (Below w.heap.size w (w.alloc (.cells #[.int .i64 d] 3))) := (Below.refl _ _).alloc (Nat.le_refl _) _
  go_enter Tryz.func63, Tryz.ntmps63
  go_wp2
  go_ret
  exact ⟨rfl, HB.out⟩

def downV (bd bq : Nat) : Value := .func (.func 63) #[] #[.pointer (some ⟨bd, 0, none⟩), .pointer (some ⟨bq, 0, none⟩)]

def fil1 (A K Y : ByteArray) (gm : Nat) : Array Value := #[.string A, .string K, .slice none 0 0, .slice none 0 0, .slice (some ⟨gm, 0, none⟩) 1 1, .slice none 0 0, .slice none 0 0, .slice none 0 0, .string Y, .slice none 0 0, .slice none 0 0]

set_option maxRecDepth 10000 in
set_option maxHeartbeats 1000000 in
theorem cdown1 (N : ByteArray) (gf n : Nat) (bd bq bx : Nat) (d : Int) (hd : 0 ≤ d ∧ d ≤ 100) (w : World) (hq : Ob w bq #[downV bd bq] 136) (hx : Ob w bx #[.int .i64 d] 3) :
    Calls Tryz.prog 65 #[.agg (exG N gf n), .pointer (some ⟨bq, 0, none⟩), .pointer (some ⟨bx, 0, none⟩)] w fun e w' => e = .returned (.bool false) ∧ Below w.heap.size w w' := by
  unfold exG
  unfold downV at hq
  obtain ⟨w3, hw3⟩ : ∃ w3, w3 = w.alloc (.cells #[.string N, .slice (some ⟨gf, 0, none⟩) n n, .slice none 0 0, .slice none 0 0, .slice none 0 0, .slice none 0 0, .slice none 0 0, .slice none 0 0, .slice none 0 0, .slice none 0 0, .slice none 0 0] 42) := ⟨_, rfl⟩
  have HB : Hid (Below w.heap.size w w3) := by rw [hw3]; exact (Below.refl _ _).alloc (Nat.le_refl _) _
  have o0 : Ob w3 w.heap.size #[.string N, .slice (some ⟨gf, 0, none⟩) n n, .slice none 0 0, .slice none 0 0, .slice none 0 0, .slice none 0 0, .slice none 0 0, .slice none 0 0, .slice none 0 0, .slice none 0 0, .slice none 0 0] 42 := by rw [hw3]; exact Ob.new _ _ _
  obtain ⟨c1, _, l1⟩ := ob1 (hq.below HB.out hq.lt)
  obtain ⟨c2, _, l2⟩ := ob1 (hx.below HB.out hx.lt)
  have c3 : w3.cell? ⟨w.heap.size, 2, none⟩ = some (.slice none 0 0) := o0.cell 2 rfl
  have l3 := o0.lt
  have HW : Hid _ := hw3
  have hs : IntKind.i64.wrap (d + 1) = d + 1 := wrap_small _ (by omega) (by omega)
  clear o0 hw3 hq hx
  go_enter Tryz.func65, Tryz.ntmps65
  go_upto_region 1 with fail
  rw [← HW.out]
  clear HW
  go_wp2_with fail
  refine Calls.mono (pdown0 _ _ _ _ _ _) ?_
  rintro e w4 ⟨rfl, hb4⟩
  go_wp2
  go_ret
  exact ⟨rfl, HB.out.trans (hb4.mono HB.out.size)⟩

set_option maxRecDepth 10000 in
set_option maxHeartbeats 1000000 in
theorem cidxm1 (N : ByteArray) (gf n : Nat) (bd bq bx g : Nat) (d : Int) (hd : 0 ≤ d ∧ d ≤ 100) (w : World) (hq : Ob w bq #[downV bd bq] 136) (hx : Ob w bx #[.int .i64 d] 3) (hg : Ob w g (exG N gf n) 42) :
    Calls Tryz.prog 102 #[.slice (some ⟨g, 0, none⟩) 1 1, .func (.func 65) #[] #[.pointer (some ⟨bq, 0, none⟩), .pointer (some ⟨bx, 0, none⟩)]] w fun e w' => e = .returned (.int .i64 (-1)) ∧ Below w.heap.size w w' := by
  have Q : Hid _ := cdown1 N gf n bd bq bx d hd w hq hx
  obtain ⟨⟨c0, c1, c2, c3, c4, c5, c6, c7, c8, c9, c10⟩, _, cl⟩ := ob11 (show Ob w g #[.string N, .slice (some ⟨gf, 0, none⟩) n n, .slice none 0 0, .slice none 0 0, .slice none 0 0, .slice none 0 0, .slice none 0 0, .slice none 0 0, .slice none 0 0, .slice none 0 0, .slice none 0 0] 42 from hg)
  unfold exG at *
  clear hg
  go_enter Tryz.func102, Tryz.ntmps102
  go_wp2
  go_loopw [8] (fun v wr => (v = .int .i64 0 ∧ w = wr) ∨ (v = .int .i64 1 ∧ Hid (Below w.heap.size w wr))) (fun v _ => 1 - (intOf v).toNat)
  case atStart => exact .inl ⟨rfl, rfl⟩
  case round =>
    rcases hrel with ⟨rfl, rfl⟩ | ⟨rfl, HB⟩
    · go_wp2_with fail
      refine Calls.mono Q.out ?_
      rintro e w1 ⟨rfl, hb1⟩
      have HB1 : Hid _ := hb1
      clear hb1 Q c0 c1 c2 c3 c4 c5 c6 c7 c8 c9 c10
      go_wp2
      go_roundw
      case rel => first | exact .inr ⟨by go_num, HB1⟩ | ((repeat apply Exists.intro); exact ⟨.inr ⟨by go_num, HB1⟩, rfl⟩)
      case measure => simp [intOf]
    · go_wp2
      go_ret
      exact ⟨rfl, HB.out⟩

set_option maxRecDepth 10000 in
theorem cconm1 (N : ByteArray) (gf n : Nat) (bd bq bx g : Nat) (d : Int) (hd : 0 ≤ d ∧ d ≤ 100) (w : World) (hq : Ob w bq #[downV bd bq] 136) (hx : Ob w bx #[.int .i64 d] 3) (hg : Ob w g (exG N gf n) 42) :
    Calls Tryz.prog 64 #[.slice (some ⟨g, 0, none⟩) 1 1, .func (.func 65) #[] #[.pointer (some ⟨bq, 0, none⟩), .pointer (some ⟨bx, 0, none⟩)]] w fun e w' => e = .returned (.bool false) ∧ Below w.heap.size w w' := by
  have Q : Hid _ := cidxm1 N gf n bd bq bx g d hd w hq hx hg
  go_enter Tryz.func64, Tryz.ntmps64
  go_wp2_with fail
  refine Calls.mono Q.out ?_
  rintro e w1 ⟨rfl, hb1⟩
  go_wp2
  go_ret
  exact ⟨rfl, hb1⟩

set_option maxRecDepth 10000 in
set_option maxHeartbeats 1000000 in
theorem cdownF (N : ByteArray) (gf n : Nat) (bd bq g : Nat) (w : World) (hd : Ob w bd #[.int .i64 0] 3) (hq : Ob w bq #[downV bd bq] 136) (hg : Ob w g (exG N gf n) 42) (hne : bd ≠ bq) (hne2 : bd ≠ g) :
    Calls Tryz.prog 63 #[.slice (some ⟨g, 0, none⟩) 1 1, .int .i64 1, .pointer (some ⟨bd, 0, none⟩), .pointer (some ⟨bq, 0, none⟩)] w fun e w' => e = .returned (.bool true) ∧ Ob w' bd #[.int .i64 1] 3 ∧ ∀ B, B ≤ bd → Below B w w' := by
  obtain ⟨w3, hw3⟩ : ∃ w3, w3 = (w.setCell ⟨bd, 0, none⟩ (.int .i64 1)).alloc (.cells #[.int .i64 1] 3) := ⟨_, rfl⟩
  have hsz : w3.heap.size = w.heap.size + 1 := by rw [hw3]; simp
  have od : Ob w3 bd #[.int .i64 1] 3 := by rw [hw3]; have := (hd.set 0 (.int .i64 1)).alloc (.cells #[.int .i64 1] 3); simpa using this
  have oq : Ob w3 bq #[downV bd bq] 136 := by rw [hw3]; exact (hq.other (Ne.symm hne) _ _).alloc _
  have og : Ob w3 g (exG N gf n) 42 := by rw [hw3]; exact (hg.other (Ne.symm hne2) _ _).alloc _
  have ox : Ob w3 w.heap.size #[.int .i64 1] 3 := by rw [hw3]; have := Ob.new (w.setCell ⟨bd, 0, none⟩ (.int .i64 1)) #[.int .i64 1] 3; simpa using this
  have HB : Hid (∀ B, B ≤ bd → Below B w w3) := fun B hB => by rw [hw3]; exact ((Below.refl B w).setCell (p := ⟨bd, 0, none⟩) hB _).alloc (by have := hd.lt; simp; omega) _
  have Q : Hid _ := cconm1 N gf n bd bq w.heap.size g 1 (by omega) w3 oq ox og
  obtain ⟨c1, f1, l1⟩ := ob1 hd
  obtain ⟨c2, f2, l2⟩ := ob1 ox
  have OD : Hid _ := od
  have HW : Hid _ := hw3
  have hmf : ∀ (fn : Fn) (first cap : Array Value) (w : World), (Instr.makeFunc fn first cap).run Tryz.prog w = .ok (.func fn first cap) w := fun _ _ _ _ => rfl
  clear hd hq hg od oq og ox hw3
  go_enter Tryz.func63, Tryz.ntmps63
  go_upto_region 4 with fail
  rw [show (max 0 1 : Int) = 1 from rfl, ← HW.out]
  clear HW c1 f1
  go_wp2_with fail
  refine Calls.mono Q.out ?_
  rintro e w4 ⟨rfl, hb4⟩
  go_wp2
  go_ret
  exact ⟨rfl, OD.out.below hb4 OD.out.lt, fun B hB => (HB.out B hB).trans (hb4.mono (Nat.le_trans hB (Nat.le_of_lt OD.out.lt)))⟩

set_option maxRecDepth 10000 in
set_option maxHeartbeats 1000000 in
theorem cdeepF (A K Y N : ByteArray) (gf n : Nat) (gm : Nat) (w : World) (hg : Ob w gm (exG N gf n) 42) :
    Calls Tryz.prog 33 #[.agg (fil1 A K Y gm)] w fun e w' => e = .returned (.int .i64 1) ∧ Below w.heap.size w w' := by
  unfold fil1
  obtain ⟨w3, hw3⟩ : ∃ w3, w3 = ((w.alloc (.cells #[.string A, .string K, .slice none 0 0, .slice none 0 0, .slice (some ⟨gm, 0, none⟩) 1 1, .slice none 0 0, .slice none 0 0, .slice none 0 0, .string Y, .slice none 0 0, .slice none 0 0] 46)).alloc (.cells #[.int .i64 0] 3)).alloc (.cells #[.func (.func 63) #[] #[.pointer (some ⟨w.heap.size + 1, 0, none⟩), .pointer (some ⟨w.heap.size + 1 + 1, 0, none⟩)]] 136) := ⟨_, rfl⟩
  have o0 : Ob w3 w.heap.size #[.string A, .string K, .slice none 0 0, .slice none 0 0, .slice (some ⟨gm, 0, none⟩) 1 1, .slice none 0 0, .slice none 0 0, .slice none 0 0, .string Y, .slice none 0 0, .slice none 0 0] 46 := by rw [hw3]; exact ((Ob.new w _ _).alloc _).alloc _
  have od : Ob w3 (w.heap.size + 1) #[.int .i64 0] 3 := by
    rw [hw3]
    have := (Ob.new (w.alloc (.cells #[.string A, .string K, .slice none 0 0, .slice none 0 0, .slice (some ⟨gm, 0, none⟩) 1 1, .slice none 0 0, .slice none 0 0, .slice none 0 0, .string Y, .slice none 0 0, .slice none 0 0] 46)) #[.int .i64 0] 3).alloc (.cells #[.func (.func 63) #[] #[.pointer (some ⟨w.heap.size + 1, 0, none⟩), .pointer (some ⟨w.heap.size + 1 + 1, 0, none⟩)]] 136)
    simpa using this
  have oq : Ob w3 (w.heap.size + 1 + 1) #[downV (w.heap.size + 1) (w.heap.size + 1 + 1)] 136 := by
    rw [hw3]
    have := Ob.new ((w.alloc (.cells #[.string A, .string K, .slice none 0 0, .slice none 0 0, .slice (some ⟨gm, 0, none⟩) 1 1, .slice none 0 0, .slice none 0 0, .slice none 0 0, .string Y, .slice none 0 0, .slice none 0 0] 46)).alloc (.cells #[.int .i64 0] 3)) #[downV (w.heap.size + 1) (w.heap.size + 1 + 1)] 136
    simpa [downV] using this
  have hb3 : Below w.heap.size w w3 := by rw [hw3]; exact (((Below.refl _ w).alloc (Nat.le_refl _) _).alloc (by simp) _).alloc (by simp; omega) _
  have og := hg.below hb3 hg.lt
  have hgl := hg.lt
  have Q : Hid _ := cdownF N gf n (w.heap.size + 1) (w.heap.size + 1 + 1) gm w3 od oq og (by omega) (by omega)
  have c4 : w3.cell? ⟨w.heap.size, 4, none⟩ = some (.slice (some ⟨gm, 0, none⟩) 1 1) := o0.cell 4 rfl
  obtain ⟨c5, f5, l5⟩ := ob1 oq
  unfold downV at c5
  have hl0 := o0.lt
  have HB3 : Hid _ := hb3
  have HW : Hid _ := hw3
  have hmf : ∀ (fn : Fn) (first cap : Array Value) (w : World), (Instr.makeFunc fn first cap).run Tryz.prog w = .ok (.func fn first cap) w := fun _ _ _ _ => rfl
  have e4 : (((w.alloc (.cells #[.string A, .string K, .slice none 0 0, .slice none 0 0, .slice (some ⟨gm, 0, none⟩) 1 1, .slice none 0 0, .slice none 0 0, .slice none 0 0, .string Y, .slice none 0 0, .slice none 0 0] 46)).alloc (.cells #[.int .i64 0] 3)).alloc (.cells #[.nilFunc] 136)).heap[w.heap.size + 1 + 1]? = some (.cells #[.nilFunc] 136 (0, 0)) := by
    have := heap_alloc_new ((w.alloc (.cells #[.string A, .string K, .slice none 0 0, .slice none 0 0, .slice (some ⟨gm, 0, none⟩) 1 1, .slice none 0 0, .slice none 0 0, .slice none 0 0, .string Y, .slice none 0 0, .slice none 0 0] 46)).alloc (.cells #[.int .i64 0] 3)) (.cells #[.nilFunc] 136)
    simpa using this
  obtain ⟨x4, y4, z4⟩ := ob1 (Ob.mk e4)
  clear o0 od oq og hb3 hw3 hg e4
  go_enter Tryz.func33, Tryz.ntmps33
  go_upto_region 4 with fail
  rw [← HW.out]
  clear HW x4 y4 z4
  go_wp2_with fail
  refine Calls.mono Q.out ?_
  rintro e w4 ⟨rfl, od4, hb4⟩
  obtain ⟨d1, d2, d3⟩ := ob1 od4
  have HB4 : Hid (Below w.heap.size w w4) := HB3.out.trans (hb4 _ (by omega))
  clear od4 hb4 c4 c5 f5 l5 HB3 Q
  go_wp2
  go_ret
  exact ⟨rfl, HB4.out⟩

set_option maxRecDepth 10000 in
set_option maxHeartbeats 1000000 in
theorem ctooF (A K Y N : ByteArray) (gf n : Nat) (gm : Nat) (w : World) (hg : Ob w gm (exG N gf n) 42) :
    Calls Tryz.prog 68 #[.agg (fil1 A K Y gm)] w fun e w' => e = .returned (.bool false) ∧ Below w.heap.size w w' := by
  obtain ⟨w3, hw3⟩ : ∃ w3, w3 = w.alloc (.cells (fil1 A K Y gm) 46) := ⟨_, rfl⟩
  have hb3 : Below w.heap.size w w3 := by rw [hw3]; exact (Below.refl _ w).alloc (Nat.le_refl _) _
  have o0 : Ob w3 w.heap.size (fil1 A K Y gm) 46 := by rw [hw3]; exact Ob.new _ _ _
  have Q : Hid _ := cdeepF A K Y N gf n gm w3 (hg.below hb3 hg.lt)
  have HB3 : Hid _ := hb3
  have HW : Hid _ := hw3
  clear hg hb3 hw3
  unfold fil1 at *
  obtain ⟨⟨c0, c1, c2, c3, c4, c5, c6, c7, c8, c9, c10⟩, _, cl⟩ := ob11 o0
  clear o0
  go_enter Tryz.func68, Tryz.ntmps68
  go_upto_region 1 with fail
  rw [← HW.out]
  clear HW
  go_wp2_with fail
  refine Calls.mono Q.out ?_
  rintro e w4 ⟨rfl, hb4⟩
  have HB4 : Hid (Below w.heap.size w w4) := HB3.out.trans (hb4.mono HB3.out.size)
  clear hb4 c0 c1 c2 c3 c4 c5 c6 c7 c8 c9 c10 cl HB3 Q
  go_wp2
  go_ret
  exact ⟨rfl, HB4.out⟩

set_option maxRecDepth 10000 in
set_option maxHeartbeats 1000000 in
theorem cidxf1 (A K Y N : ByteArray) (gf n : Nat) (gm g : Nat) (w : World) (hm : Ob w gm (exG N gf n) 42) (hg : Ob w g (fil1 A K Y gm) 46) :
    Calls Tryz.prog 32 #[.slice (some ⟨g, 0, none⟩) 1 1, .func (.func 68) #[] #[]] w fun e w' => e = .returned (.int .i64 (-1)) ∧ Below w.heap.size w w' := by
  have Q : Hid _ := ctooF A K Y N gf n gm w hm
  obtain ⟨⟨c0, c1, c2, c3, c4, c5, c6, c7, c8, c9, c10⟩, _, cl⟩ := ob11 (show Ob w g #[.string A, .string K, .slice none 0 0, .slice none 0 0, .slice (some ⟨gm, 0, none⟩) 1 1, .slice none 0 0, .slice none 0 0, .slice none 0 0, .string Y, .slice none 0 0, .slice none 0 0] 46 from hg)
  unfold fil1 at *
  clear hm
  clear hg
  go_enter Tryz.func32, Tryz.ntmps32
  go_wp2
  go_loopw [8] (fun v wr => (v = .int .i64 0 ∧ w = wr) ∨ (v = .int .i64 1 ∧ Hid (Below w.heap.size w wr))) (fun v _ => 1 - (intOf v).toNat)
  case atStart => exact .inl ⟨rfl, rfl⟩
  case round =>
    rcases hrel with ⟨rfl, rfl⟩ | ⟨rfl, HB⟩
    · go_wp2_with fail
      refine Calls.mono Q.out ?_
      rintro e w1 ⟨rfl, hb1⟩
      have HB1 : Hid _ := hb1
      clear hb1 Q c0 c1 c2 c3 c4 c5 c6 c7 c8 c9 c10
      go_wp2
      go_roundw
      case rel => first | exact .inr ⟨by go_num, HB1⟩ | ((repeat apply Exists.intro); exact ⟨.inr ⟨by go_num, HB1⟩, rfl⟩)
      case measure => simp [intOf]
    · go_wp2
      go_ret
      exact ⟨rfl, HB.out⟩

set_option maxRecDepth 10000 in
theorem cconf1 (A K Y N : ByteArray) (gf n : Nat) (gm g : Nat) (w : World) (hm : Ob w gm (exG N gf n) 42) (hg : Ob w g (fil1 A K Y gm) 46) :
    Calls Tryz.prog 13 #[.slice (some ⟨g, 0, none⟩) 1 1, .func (.func 68) #[] #[]] w fun e w' => e = .returned (.bool false) ∧ Below w.heap.size w w' := by
  have Q : Hid _ := cidxf1 A K Y N gf n gm g w hm hg
  go_enter Tryz.func13, Tryz.ntmps13
  go_wp2_with fail
  refine Calls.mono Q.out ?_
  rintro e w1 ⟨rfl, hb1⟩
  go_wp2
  go_ret
  exact ⟨rfl, hb1⟩

set_option maxRecDepth 10000 in
set_option maxHeartbeats 1000000 in
theorem ctooFC (A K Y N : ByteArray) (gf n : Nat) (gm : Nat) (w : World) (hg : Ob w gm (exG N gf n) 42) :
    Calls Tryz.prog 14 #[.agg (fil1 A K Y gm)] w fun e w' => e = .returned (.bool false) ∧ Below w.heap.size w w' := by
  obtain ⟨w3, hw3⟩ : ∃ w3, w3 = w.alloc (.cells (fil1 A K Y gm) 46) := ⟨_, rfl⟩
  have hb3 : Below w.heap.size w w3 := by rw [hw3]; exact (Below.refl _ w).alloc (Nat.le_refl _) _
  have o0 : Ob w3 w.heap.size (fil1 A K Y gm) 46 := by rw [hw3]; exact Ob.new _ _ _
  have Q : Hid _ := cdeepF A K Y N gf n gm w3 (hg.below hb3 hg.lt)
  have HB3 : Hid _ := hb3
  have HW : Hid _ := hw3
  clear hg hb3 hw3
  unfold fil1 at *
  obtain ⟨⟨c0, c1, c2, c3, c4, c5, c6, c7, c8, c9, c10⟩, _, cl⟩ := ob11 o0
  clear o0
  go_enter Tryz.func14, Tryz.ntmps14
  go_upto_region 1 with fail
  rw [← HW.out]
  clear HW
  go_wp2_with fail
  refine Calls.mono Q.out ?_
  rintro e w4 ⟨rfl, hb4⟩
  have HB4 : Hid (Below w.heap.size w w4) := HB3.out.trans (hb4.mono HB3.out.size)
  clear hb4 c0 c1 c2 c3 c4 c5 c6 c7 c8 c9 c10 cl HB3 Q
  go_wp2
  go_ret
  exact ⟨rfl, HB4.out⟩

set_option maxRecDepth 10000 in
set_option maxHeartbeats 1000000 in
theorem cidxf1C (A K Y N : ByteArray) (gf n : Nat) (gm g : Nat) (w : World) (hm : Ob w gm (exG N gf n) 42) (hg : Ob w g (fil1 A K Y gm) 46) :
    Calls Tryz.prog 32 #[.slice (some ⟨g, 0, none⟩) 1 1, .func (.func 14) #[] #[]] w fun e w' => e = .returned (.int .i64 (-1)) ∧ Below w.heap.size w w' := by
  have Q : Hid _ := ctooFC A K Y N gf n gm w hm
  obtain ⟨⟨c0, c1, c2, c3, c4, c5, c6, c7, c8, c9, c10⟩, _, cl⟩ := ob11 (show Ob w g #[.string A, .string K, .slice none 0 0, .slice none 0 0, .slice (some ⟨gm, 0, none⟩) 1 1, .slice none 0 0, .slice none 0 0, .slice none 0 0, .string Y, .slice none 0 0, .slice none 0 0] 46 from hg)
  unfold fil1 at *
  clear hm
  clear hg
  go_enter Tryz.func32, Tryz.ntmps32
  go_wp2
  go_loopw [8] (fun v wr => (v = .int .i64 0 ∧ w = wr) ∨ (v = .int .i64 1 ∧ Hid (Below w.heap.size w wr))) (fun v _ => 1 - (intOf v).toNat)
  case atStart => exact .inl ⟨rfl, rfl⟩
  case round =>
    rcases hrel with ⟨rfl, rfl⟩ | ⟨rfl, HB⟩
    · go_wp2_with fail
      refine Calls.mono Q.out ?_
      rintro e w1 ⟨rfl, hb1⟩
      have HB1 : Hid _ := hb1
      clear hb1 Q c0 c1 c2 c3 c4 c5 c6 c7 c8 c9 c10
      go_wp2
      go_roundw
      case rel => first | exact .inr ⟨by go_num, HB1⟩ | ((repeat apply Exists.intro); exact ⟨.inr ⟨by go_num, HB1⟩, rfl⟩)
      case measure => simp [intOf]
    · go_wp2
      go_ret
      exact ⟨rfl, HB.out⟩

set_option maxRecDepth 10000 in
theorem cconf1C (A K Y N : ByteArray) (gf n : Nat) (gm g : Nat) (w : World) (hm : Ob w gm (exG N gf n) 42) (hg : Ob w g (fil1 A K Y gm) 46) :
    Calls Tryz.prog 13 #[.slice (some ⟨g, 0, none⟩) 1 1, .func (.func 14) #[] #[]] w fun e w' => e = .returned (.bool false) ∧ Below w.heap.size w w' := by
  have Q : Hid _ := cidxf1C A K Y N gf n gm g w hm hg
  go_enter Tryz.func13, Tryz.ntmps13
  go_wp2_with fail
  refine Calls.mono Q.out ?_
  rintro e w1 ⟨rfl, hb1⟩
  go_wp2
  go_ret
  exact ⟨rfl, hb1⟩

theorem okNil {P : Program} (W : World) {T E : TypeId} (hT : P.underlying T = some (.slice E)) : Ok P W T (.ls none 0 0 []) :=
  .ls hT (Nat.le_refl _) (Nat.zero_le _) (fun _ => rfl) (by simp) (fun h => absurd h (by omega)) (fun i m F hi => by simp at hi)

theorem szNil {P : Program} {T E : TypeId} (hT : P.underlying T = some (.slice E)) : Sz P T (.ls none 0 0 []) :=
  .ls hT (by omega) (fun i m F hi => by simp at hi)

theorem srcNil (W : World) {T E : TypeId} (hT : Tryz.prog.underlying T = some (.slice E)) : Src W T (.ls none 0 0 []) := ⟨okNil W hT, szNil hT⟩

def mdF1 (s : ByteArray) : List Md := [.str s, .num .i64 1, .num .i64 1, .num .i64 5, .str ⟨#[]⟩, .str ⟨#[]⟩, .str ⟨#[]⟩, .tru false, .num .i64 0, .str s, .tru false, .ls none 0 0 [], .ls none 0 0 []]

theorem srcF1 (s : ByteArray) (hs2 : s.size ≤ 140737488355328) (W : World) (gf : Nat) (h : Ob W gf (exF s) 34) : Src W 35 (.ls (some ⟨gf, 0, none⟩) 1 1 (mdF1 s)) := by
  have hs : s.size ≤ maxLen := by unfold maxLen; omega
  have hl : flds Tryz.prog 34 = [9, 2, 3, 3, 9, 9, 9, 4, 3, 9, 4, 32, 32] := by kernel_rfl
  refine ⟨.ls Tryz.underlying35 (Nat.le_refl _) (by unfold maxLen; decide) (fun e => by cases e) (by rw [hl]; rfl) (fun _ => ⟨gf, 0, rfl, h.lt, fun i m hi => ?_⟩) (fun i m F hi hF => ?_), .ls Tryz.underlying35 (of_decide_eq_true (by kernel_rfl)) (fun i m F hi hF => ?_)⟩
  · rw [Nat.zero_add]
    match i, hi with
    | 0, hi => cases hi; exact h.cell 0 rfl
    | 1, hi => cases hi; exact h.cell 1 rfl
    | 2, hi => cases hi; exact h.cell 2 rfl
    | 3, hi => cases hi; exact h.cell 3 rfl
    | 4, hi => cases hi; exact h.cell 4 rfl
    | 5, hi => cases hi; exact h.cell 5 rfl
    | 6, hi => cases hi; exact h.cell 6 rfl
    | 7, hi => cases hi; exact h.cell 7 rfl
    | 8, hi => cases hi; exact h.cell 8 rfl
    | 9, hi => cases hi; exact h.cell 9 rfl
    | 10, hi => cases hi; exact h.cell 10 rfl
    | 11, hi => cases hi; exact h.cell 11 rfl
    | 12, hi => cases hi; exact h.cell 12 rfl
    | _ + 13, hi => cases hi
  · rw [hl] at hF
    match i, hi, hF with
    | 0, hi, hF => cases hi; cases hF; exact .str Tryz.underlying9 hs
    | 1, hi, hF => cases hi; cases hF; exact .num Tryz.underlying2 (by decide)
    | 2, hi, hF => cases hi; cases hF; exact .num Tryz.underlying3 (by decide)
    | 3, hi, hF => cases hi; cases hF; exact .num Tryz.underlying3 (by decide)
    | 4, hi, hF => cases hi; cases hF; exact .str Tryz.underlying9 (by decide)
    | 5, hi, hF => cases hi; cases hF; exact .str Tryz.underlying9 (by decide)
    | 6, hi, hF => cases hi; cases hF; exact .str Tryz.underlying9 (by decide)
    | 7, hi, hF => cases hi; cases hF; exact .tru Tryz.underlying4
    | 8, hi, hF => cases hi; cases hF; exact .num Tryz.underlying3 (by decide)
    | 9, hi, hF => cases hi; cases hF; exact .str Tryz.underlying9 hs
    | 10, hi, hF => cases hi; cases hF; exact .tru Tryz.underlying4
    | 11, hi, hF => cases hi; cases hF; exact okNil W Tryz.underlying32
    | 12, hi, hF => cases hi; cases hF; exact okNil W Tryz.underlying32
    | _ + 13, hi, _ => cases hi
  · rw [hl] at hF
    match i, hi, hF with
    | 0, hi, hF => cases hi; cases hF; exact .str hs2
    | 1, hi, hF => cases hi; cases hF; exact .num
    | 2, hi, hF => cases hi; cases hF; exact .num
    | 3, hi, hF => cases hi; cases hF; exact .num
    | 4, hi, hF => cases hi; cases hF; exact .str (by decide)
    | 5, hi, hF => cases hi; cases hF; exact .str (by decide)
    | 6, hi, hF => cases hi; cases hF; exact .str (by decide)
    | 7, hi, hF => cases hi; cases hF; exact .tru
    | 8, hi, hF => cases hi; cases hF; exact .num
    | 9, hi, hF => cases hi; cases hF; exact .str hs2
    | 10, hi, hF => cases hi; cases hF; exact .tru
    | 11, hi, hF => cases hi; cases hF; exact szNil Tryz.underlying32
    | 12, hi, hF => cases hi; cases hF; exact szNil Tryz.underlying32
    | _ + 13, hi, _ => cases hi

theorem cmsg1 (M s t : ByteArray) (hM : M.size ≤ 1000000) (hs : s.size ≤ 1000000) (ht : t.size ≤ 1000000) (W : World) (gf : Nat) (h : Ob W gf (exF s) 34) :
    Calls Tryz.prog 148 #[.agg #[.int .i64 1, .bool false], .agg (exG M gf 1)] W fun e W' => (∃ p1 r1 p3 r3 p4 r4 p5 r5 p6 r6 p7 r7 p8 r8 p9 r9 p10 r10, e = .returned (.agg #[.string M, .slice p1 1 r1, .slice none 0 0, .slice p3 0 r3, .slice p4 0 r4, .slice p5 0 r5, .slice p6 0 r6, .slice p7 0 r7, .slice p8 0 r8, .slice p9 0 r9, .slice p10 0 r10])) ∧ Below W.heap.size W W' := by
  have q := kmessage_any (fun _ => True) (fun _ _ => trivial) M (some ⟨gf, 0, none⟩) 1 1 _ none 0 0 none 0 0 [] none 0 0 [] none 0 0 [] none 0 0 [] none 0 0 [] none 0 0 [] none 0 0 [] none 0 0 [] W (show Hid _ from srcF1 s (by omega) W gf h) (show Hid _ from srcNil W Tryz.underlying37) (show Hid _ from srcNil W Tryz.underlying38) (show Hid _ from srcNil W Tryz.underlying35) (show Hid _ from srcNil W Tryz.underlying39) (show Hid _ from srcNil W Tryz.underlying38) (show Hid _ from srcNil W Tryz.underlying40) (show Hid _ from srcNil W Tryz.underlying32) (show Hid _ from srcNil W Tryz.underlying32) (show Hid _ from (show M.size ≤ 140737488355328 by omega))
  refine q.mono ?_
  rintro e W' ⟨p1, r1, p3, r3, p4, r4, p5, r5, p6, r6, p7, r7, p8, r8, p9, r9, p10, r10, rfl, _, hb⟩
  exact ⟨⟨p1, r1, p3, r3, p4, r4, p5, r5, p6, r6, p7, r7, p8, r8, p9, r9, p10, r10, rfl⟩, hb⟩

def mdF2 (s t : ByteArray) : List Md := [.str s, .num .i64 1, .num .i64 1, .num .i64 5, .str ⟨#[]⟩, .str ⟨#[]⟩, .str ⟨#[]⟩, .tru false, .num .i64 0, .str s, .tru false, .ls none 0 0 [], .ls none 0 0 [], .str t, .num .i64 1, .num .i64 1, .num .i64 5, .str ⟨#[]⟩, .str ⟨#[]⟩, .str ⟨#[]⟩, .tru false, .num .i64 0, .str t, .tru false, .ls none 0 0 [], .ls none 0 0 []]

theorem srcF2 (s t : ByteArray) (hs2 : s.size ≤ 140737488355328) (ht2 : t.size ≤ 140737488355328) (W : World) (gf : Nat) (h : Ob W gf (exR s t) 34) : Src W 35 (.ls (some ⟨gf, 0, none⟩) 2 2 (mdF2 s t)) := by
  have hs : s.size ≤ maxLen := by unfold maxLen; omega
  have ht : t.size ≤ maxLen := by unfold maxLen; omega
  have hl : flds Tryz.prog 34 = [9, 2, 3, 3, 9, 9, 9, 4, 3, 9, 4, 32, 32] := by kernel_rfl
  refine ⟨.ls Tryz.underlying35 (Nat.le_refl _) (by unfold maxLen; decide) (fun e => by cases e) (by rw [hl]; rfl) (fun _ => ⟨gf, 0, rfl, h.lt, fun i m hi => ?_⟩) (fun i m F hi hF => ?_), .ls Tryz.underlying35 (of_decide_eq_true (by kernel_rfl)) (fun i m F hi hF => ?_)⟩
  · rw [Nat.zero_add]
    match i, hi with
    | 0, hi => cases hi; exact h.cell 0 rfl
    | 1, hi => cases hi; exact h.cell 1 rfl
    | 2, hi => cases hi; exact h.cell 2 rfl
    | 3, hi => cases hi; exact h.cell 3 rfl
    | 4, hi => cases hi; exact h.cell 4 rfl
    | 5, hi => cases hi; exact h.cell 5 rfl
    | 6, hi => cases hi; exact h.cell 6 rfl
    | 7, hi => cases hi; exact h.cell 7 rfl
    | 8, hi => cases hi; exact h.cell 8 rfl
    | 9, hi => cases hi; exact h.cell 9 rfl
    | 10, hi => cases hi; exact h.cell 10 rfl
    | 11, hi => cases hi; exact h.cell 11 rfl
    | 12, hi => cases hi; exact h.cell 12 rfl
    | 13, hi => cases hi; exact h.cell 13 rfl
    | 14, hi => cases hi; exact h.cell 14 rfl
    | 15, hi => cases hi; exact h.cell 15 rfl
    | 16, hi => cases hi; exact h.cell 16 rfl
    | 17, hi => cases hi; exact h.cell 17 rfl
    | 18, hi => cases hi; exact h.cell 18 rfl
    | 19, hi => cases hi; exact h.cell 19 rfl
    | 20, hi => cases hi; exact h.cell 20 rfl
    | 21, hi => cases hi; exact h.cell 21 rfl
    | 22, hi => cases hi; exact h.cell 22 rfl
    | 23, hi => cases hi; exact h.cell 23 rfl
    | 24, hi => cases hi; exact h.cell 24 rfl
    | 25, hi => cases hi; exact h.cell 25 rfl
    | _ + 26, hi => cases hi
  · rw [hl] at hF
    match i, hi, hF with
    | 0, hi, hF => cases hi; cases hF; exact .str Tryz.underlying9 hs
    | 1, hi, hF => cases hi; cases hF; exact .num Tryz.underlying2 (by decide)
    | 2, hi, hF => cases hi; cases hF; exact .num Tryz.underlying3 (by decide)
    | 3, hi, hF => cases hi; cases hF; exact .num Tryz.underlying3 (by decide)
    | 4, hi, hF => cases hi; cases hF; exact .str Tryz.underlying9 (by decide)
    | 5, hi, hF => cases hi; cases hF; exact .str Tryz.underlying9 (by decide)
    | 6, hi, hF => cases hi; cases hF; exact .str Tryz.underlying9 (by decide)
    | 7, hi, hF => cases hi; cases hF; exact .tru Tryz.underlying4
    | 8, hi, hF => cases hi; cases hF; exact .num Tryz.underlying3 (by decide)
    | 9, hi, hF => cases hi; cases hF; exact .str Tryz.underlying9 hs
    | 10, hi, hF => cases hi; cases hF; exact .tru Tryz.underlying4
    | 11, hi, hF => cases hi; cases hF; exact okNil W Tryz.underlying32
    | 12, hi, hF => cases hi; cases hF; exact okNil W Tryz.underlying32
    | 13, hi, hF => cases hi; cases hF; exact .str Tryz.underlying9 ht
    | 14, hi, hF => cases hi; cases hF; exact .num Tryz.underlying2 (by decide)
    | 15, hi, hF => cases hi; cases hF; exact .num Tryz.underlying3 (by decide)
    | 16, hi, hF => cases hi; cases hF; exact .num Tryz.underlying3 (by decide)
    | 17, hi, hF => cases hi; cases hF; exact .str Tryz.underlying9 (by decide)
    | 18, hi, hF => cases hi; cases hF; exact .str Tryz.underlying9 (by decide)
    | 19, hi, hF => cases hi; cases hF; exact .str Tryz.underlying9 (by decide)
    | 20, hi, hF => cases hi; cases hF; exact .tru Tryz.underlying4
    | 21, hi, hF => cases hi; cases hF; exact .num Tryz.underlying3 (by decide)
    | 22, hi, hF => cases hi; cases hF; exact .str Tryz.underlying9 ht
    | 23, hi, hF => cases hi; cases hF; exact .tru Tryz.underlying4
    | 24, hi, hF => cases hi; cases hF; exact okNil W Tryz.underlying32
    | 25, hi, hF => cases hi; cases hF; exact okNil W Tryz.underlying32
    | _ + 26, hi, _ => cases hi
  · rw [hl] at hF
    match i, hi, hF with
    | 0, hi, hF => cases hi; cases hF; exact .str hs2
    | 1, hi, hF => cases hi; cases hF; exact .num
    | 2, hi, hF => cases hi; cases hF; exact .num
    | 3, hi, hF => cases hi; cases hF; exact .num
    | 4, hi, hF => cases hi; cases hF; exact .str (by decide)
    | 5, hi, hF => cases hi; cases hF; exact .str (by decide)
    | 6, hi, hF => cases hi; cases hF; exact .str (by decide)
    | 7, hi, hF => cases hi; cases hF; exact .tru
    | 8, hi, hF => cases hi; cases hF; exact .num
    | 9, hi, hF => cases hi; cases hF; exact .str hs2
    | 10, hi, hF => cases hi; cases hF; exact .tru
    | 11, hi, hF => cases hi; cases hF; exact szNil Tryz.underlying32
    | 12, hi, hF => cases hi; cases hF; exact szNil Tryz.underlying32
    | 13, hi, hF => cases hi; cases hF; exact .str ht2
    | 14, hi, hF => cases hi; cases hF; exact .num
    | 15, hi, hF => cases hi; cases hF; exact .num
    | 16, hi, hF => cases hi; cases hF; exact .num
    | 17, hi, hF => cases hi; cases hF; exact .str (by decide)
    | 18, hi, hF => cases hi; cases hF; exact .str (by decide)
    | 19, hi, hF => cases hi; cases hF; exact .str (by decide)
    | 20, hi, hF => cases hi; cases hF; exact .tru
    | 21, hi, hF => cases hi; cases hF; exact .num
    | 22, hi, hF => cases hi; cases hF; exact .str ht2
    | 23, hi, hF => cases hi; cases hF; exact .tru
    | 24, hi, hF => cases hi; cases hF; exact szNil Tryz.underlying32
    | 25, hi, hF => cases hi; cases hF; exact szNil Tryz.underlying32
    | _ + 26, hi, _ => cases hi

theorem cmsg2 (M s t : ByteArray) (hM : M.size ≤ 1000000) (hs : s.size ≤ 1000000) (ht : t.size ≤ 1000000) (W : World) (gf : Nat) (h : Ob W gf (exR s t) 34) :
    Calls Tryz.prog 148 #[.agg #[.int .i64 1, .bool false], .agg (exG M gf 2)] W fun e W' => (∃ p1 r1 p3 r3 p4 r4 p5 r5 p6 r6 p7 r7 p8 r8 p9 r9 p10 r10, e = .returned (.agg #[.string M, .slice p1 2 r1, .slice none 0 0, .slice p3 0 r3, .slice p4 0 r4, .slice p5 0 r5, .slice p6 0 r6, .slice p7 0 r7, .slice p8 0 r8, .slice p9 0 r9, .slice p10 0 r10])) ∧ Below W.heap.size W W' := by
  have q := kmessage_any (fun _ => True) (fun _ _ => trivial) M (some ⟨gf, 0, none⟩) 2 2 _ none 0 0 none 0 0 [] none 0 0 [] none 0 0 [] none 0 0 [] none 0 0 [] none 0 0 [] none 0 0 [] none 0 0 [] W (show Hid _ from srcF2 s t (by omega) (by omega) W gf h) (show Hid _ from srcNil W Tryz.underlying37) (show Hid _ from srcNil W Tryz.underlying38) (show Hid _ from srcNil W Tryz.underlying35) (show Hid _ from srcNil W Tryz.underlying39) (show Hid _ from srcNil W Tryz.underlying38) (show Hid _ from srcNil W Tryz.underlying40) (show Hid _ from srcNil W Tryz.underlying32) (show Hid _ from srcNil W Tryz.underlying32) (show Hid _ from (show M.size ≤ 140737488355328 by omega))
  refine q.mono ?_
  rintro e W' ⟨p1, r1, p3, r3, p4, r4, p5, r5, p6, r6, p7, r7, p8, r8, p9, r9, p10, r10, rfl, _, hb⟩
  exact ⟨⟨p1, r1, p3, r3, p4, r4, p5, r5, p6, r6, p7, r7, p8, r8, p9, r9, p10, r10, rfl⟩, hb⟩

set_option maxRecDepth 10000 in
set_option maxHeartbeats 1000000 in
theorem penums0 (x y s : Value) (a : Option Addr) (c : Nat) (w : World) :
    Calls Tryz.prog 149 #[.agg #[x, y], s, .slice a 0 c] w fun e w' => e = .returned (.tuple #[]) ∧ Below w.heap.size w w' := by
  obtain ⟨w3, hw3⟩ : ∃ w3, w3 = w.alloc (.cells #[x, y] 224) := ⟨_, rfl⟩
  have HB : Hid (Below w.heap.size w w3) := by rw [hw3]; exact (Below.refl _ _).alloc (Nat.le_refl _) _
  have HW : Hid _ := hw3
  clear hw3
  go_enter Tryz.func149, Tryz.ntmps149
  go_upto_region 1 with fail
  rw [← HW.out]
  clear HW
  go_wp2
  go_loopw [12] (fun v wr => v = .int .i64 0 ∧ w3 = wr) (fun _ _ => 0)
  case atStart => exact ⟨rfl, rfl⟩
  case round =>
    obtain ⟨rfl, rfl⟩ := hrel
    go_wp2
    go_end0
    exact ⟨rfl, HB.out⟩

set_option maxRecDepth 10000 in
set_option maxHeartbeats 1000000 in
theorem pservs0 (x y s : Value) (a : Option Addr) (c : Nat) (w : World) :
    Calls Tryz.prog 151 #[.agg #[x, y], s, .slice a 0 c] w fun e w' => e = .returned (.tuple #[]) ∧ Below w.heap.size w w' := by
  obtain ⟨w3, hw3⟩ : ∃ w3, w3 = w.alloc (.cells #[x, y] 224) := ⟨_, rfl⟩
  have HB : Hid (Below w.heap.size w w3) := by rw [hw3]; exact (Below.refl _ _).alloc (Nat.le_refl _) _
  have HW : Hid _ := hw3
  clear hw3
  go_enter Tryz.func151, Tryz.ntmps151
  go_upto_region 1 with fail
  rw [← HW.out]
  clear HW
  go_wp2
  go_loopw [13] (fun v wr => v = .int .i64 0 ∧ w3 = wr) (fun _ _ => 0)
  case atStart => exact ⟨rfl, rfl⟩
  case round =>
    obtain ⟨rfl, rfl⟩ := hrel
    go_wp2
    go_end0
    exact ⟨rfl, HB.out⟩

set_option maxRecDepth 10000 in
set_option maxHeartbeats 1000000 in
theorem pexts0 (x y s : Value) (a : Option Addr) (c : Nat) (w : World) :
    Calls Tryz.prog 150 #[.agg #[x, y], s, .slice a 0 c] w fun e w' => e = .returned (.tuple #[]) ∧ Below w.heap.size w w' := by
  obtain ⟨w3, hw3⟩ : ∃ w3, w3 = w.alloc (.cells #[x, y] 224) := ⟨_, rfl⟩
  have HB : Hid (Below w.heap.size w w3) := by rw [hw3]; exact (Below.refl _ _).alloc (Nat.le_refl _) _
  have HW : Hid _ := hw3
  clear hw3
  go_enter Tryz.func150, Tryz.ntmps150
  go_upto_region 1 with fail
  rw [← HW.out]
  clear HW
  go_wp2
  go_loopw [11] (fun v wr => v = .int .i64 0 ∧ w3 = wr) (fun _ _ => 0)
  case atStart => exact ⟨rfl, rfl⟩
  case round =>
    obtain ⟨rfl, rfl⟩ := hrel
    go_wp2
    go_end0
    exact ⟨rfl, HB.out⟩

def layV (bh ba bq : Nat) : Value := .func (.func 146) #[] #[.pointer (some ⟨bh, 0, none⟩), .pointer (some ⟨ba, 0, none⟩), .pointer (some ⟨bq, 0, none⟩)]

theorem mk0 (w : World) : (Instr.makeSlice 36 (.int .i64 0) (.int .i64 0)).run Tryz.prog w = .ok (.slice (some ⟨w.heap.size, 0, none⟩) 0 0) (w.alloc (.cells #[] 42)) := by kernel_rfl

theorem mk1 (w : World) : (Instr.makeSlice 36 (.int .i64 1) (.int .i64 1)).run Tryz.prog w = .ok (.slice (some ⟨w.heap.size, 0, none⟩) 1 1) (w.alloc (.cells #[.string ⟨#[]⟩, .slice none 0 0, .slice none 0 0, .slice none 0 0, .slice none 0 0, .slice none 0 0, .slice none 0 0, .slice none 0 0, .slice none 0 0, .slice none 0 0, .slice none 0 0] 42)) := by kernel_rfl

set_option maxRecDepth 10000 in
set_option maxHeartbeats 1000000 in
theorem play0 (s p1 p2 p3 : Value) (a : Option Addr) (c : Nat) (w : World) :
    Calls Tryz.prog 146 #[s, .slice a 0 c, p1, p2, p3] w fun e w' => ∃ a' c', e = .returned (.slice a' 0 c') ∧ Below w.heap.size w w' := by
  have hmk := mk0 w
  have HB : Hid (Below w.heap.size w (w.alloc (.cells #[] 42))) := (Below.refl _ _).alloc (Nat.le_refl _) _
  obtain ⟨w3, hw3⟩ : ∃ w3, w3 = w.alloc (.cells #[] 42) := ⟨_, rfl⟩
  rw [← hw3] at hmk HB
  clear hw3
  go_enter Tryz.func146, Tryz.ntmps146
  go_wp2
  go_loopw [21] (fun v wr => v = .int .i64 0 ∧ w3 = wr) (fun _ _ => 0)
  case atStart => exact ⟨rfl, rfl⟩
  case round =>
    obtain ⟨rfl, rfl⟩ := hrel
    go_wp2
    go_ret
    exact ⟨_, _, rfl, HB.out⟩

theorem other11 {w : World} {b b' : Nat} {T : TypeId} {c : Array Value} (h : Ob w b' c T) (hne : b' ≠ b) (x0 x1 x2 x3 x4 x5 x6 x7 x8 x9 x10 : Value) :
    Ob (((((((((((w.setCell ⟨b, 0, none⟩ x0).setCell ⟨b, 1, none⟩ x1).setCell ⟨b, 2, none⟩ x2).setCell ⟨b, 3, none⟩ x3).setCell ⟨b, 4, none⟩ x4).setCell ⟨b, 5, none⟩ x5).setCell ⟨b, 6, none⟩ x6).setCell ⟨b, 7, none⟩ x7).setCell ⟨b, 8, none⟩ x8).setCell ⟨b, 9, none⟩ x9).setCell ⟨b, 10, none⟩ x10) b' c T :=
  ((((((((((h.other hne 0 x0).other hne 1 x1).other hne 2 x2).other hne 3 x3).other hne 4 x4).other hne 5 x5).other hne 6 x6).other hne 7 x7).other hne 8 x8).other hne 9 x9).other hne 10 x10

structure Lz (W w : World) (bh ba bq bp bs be : Nat) (vf : Value) (H : ByteArray) (n : Nat) (g : ByteArray → Option Value) : Prop where
  po : Po w bp bs be vf n g
  hb : Ob w bh #[.pointer (some ⟨bp, 0, none⟩), .string H] 224
  ab : Ob w ba #[.int .i64 1, .bool false] 221
  qb : Ob w bq #[layV bh ba bq] 226
  lt : bh < W.heap.size ∧ ba < W.heap.size ∧ bq < W.heap.size ∧ bp < W.heap.size ∧ bs < W.heap.size ∧ be < W.heap.size
  ne : bh ≠ bs ∧ ba ≠ bs ∧ bq ≠ bs
  gr : W.grownBy w (some bs)

theorem Lz.keep {W w w' : World} {bh ba bq bp bs be : Nat} {vf : Value} {H : ByteArray} {n : Nat} {g : ByteArray → Option Value} (h : Lz W w bh ba bq bp bs be vf H n g) {B : Nat} (hb : Below B w w') (hB : W.heap.size ≤ B) : Lz W w' bh ba bq bp bs be vf H n g := by
  obtain ⟨l1, l2, l3, l4, l5, l6⟩ := h.lt
  refine ⟨⟨h.po.blk.below hb (by omega), h.po.sym.below hb (by omega), h.po.ext.below hb (by omega), h.po.ne, h.po.sl⟩, h.hb.below hb (by omega), h.ab.below hb (by omega), h.qb.below hb (by omega), h.lt, h.ne, ?_⟩
  obtain ⟨a1, a2, a3, a4, a5⟩ := h.gr
  exact ⟨by first | exact hb.os.trans a1 | exact a1.trans hb.os, by first | exact hb.tape.trans a2 | exact a2.trans hb.tape, by first | exact hb.output.trans a3 | exact a3.trans hb.output, Nat.le_trans a4 hb.size, fun k hk hne => (hb.block k (by omega)).trans (a5 k hk hne)⟩

theorem Lz.put {W w w' : World} {bh ba bq bp bs be : Nat} {vf : Value} {H : ByteArray} {n n' : Nat} {g g' : ByteArray → Option Value} (h : Lz W w bh ba bq bp bs be vf H n g) (hg : w.grownBy w' (some bs)) (hm : Mg w' bs n' g') : Lz W w' bh ba bq bp bs be vf H n' g' :=
  ⟨h.po.put hg hm, h.hb.grown hg (fun e => h.ne.1 (Option.some.inj e)), h.ab.grown hg (fun e => h.ne.2.1 (Option.some.inj e)), h.qb.grown hg (fun e => h.ne.2.2 (Option.some.inj e)), h.lt, h.ne, grown_transV h.gr hg⟩

end Go.Proofs.YtcnjjhdmnagkgaaGreatDoor
