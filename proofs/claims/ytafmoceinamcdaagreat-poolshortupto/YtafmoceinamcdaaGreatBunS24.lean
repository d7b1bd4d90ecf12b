/- Put together by a program out of these texts of mine: VDeep, VLay. -/
import Derived.Laws.EntriesVeiled
import Derived.Test.YtafmoceinamcdaaGreatBunS5

namespace Go.Proofs.YtafmoceinamcdaaGreat
open Go.RowKit
set_option linter.unusedVariables false
set_option linter.unusedSimpArgs false

set_option maxRecDepth 10000 in
set_option maxHeartbeats 1000000 in
theorem pdown0 (a : Option Addr) (c : Nat) (d : Int) (p q : Value) (w : World) :
    Calls Tryz.prog 142 #[.slice a 0 c, .int .i64 d, p, q] w fun e w' => e = .returned (.bool true) ∧ Below w.heap.size w w' := by
  have HB : Hid (Below w.heap.size w (w.alloc (.cells #[.int .i64 d] 3))) := (Below.refl _ _).alloc (Nat.le_refl _) _
  go_enter Tryz.func142, Tryz.ntmps142
  go_wp2
  go_ret
  exact ⟨rfl, HB.out⟩

def downV (bd bq : Nat) : Value := .func (.func 142) #[] #[.pointer (some ⟨bd, 0, none⟩), .pointer (some ⟨bq, 0, none⟩)]

set_option maxRecDepth 10000 in
set_option maxHeartbeats 1000000 in
theorem pdown1 (N : ByteArray) (bd bq bx : Nat) (d : Int) (hd : 0 ≤ d ∧ d ≤ 100) (w : World) (hq : Ob w bq #[downV bd bq] 200) (hx : Ob w bx #[.int .i64 d] 3) :
    Calls Tryz.prog 144 #[.agg (msg0 N), .pointer (some ⟨bq, 0, none⟩), .pointer (some ⟨bx, 0, none⟩)] w fun e w' => e = .returned (.bool false) ∧ Below w.heap.size w w' := by
  unfold msg0
  unfold downV at hq
  obtain ⟨w3, hw3⟩ : ∃ w3, w3 = w.alloc (.cells #[.string N, .slice none 0 0, .slice none 0 0, .slice none 0 0, .slice none 0 0, .slice none 0 0, .slice none 0 0, .slice none 0 0, .slice none 0 0, .slice none 0 0, .slice none 0 0] 40) := ⟨_, rfl⟩
  have HB : Hid (Below w.heap.size w w3) := by rw [hw3]; exact (Below.refl _ _).alloc (Nat.le_refl _) _
  have o0 : Ob w3 w.heap.size #[.string N, .slice none 0 0, .slice none 0 0, .slice none 0 0, .slice none 0 0, .slice none 0 0, .slice none 0 0, .slice none 0 0, .slice none 0 0, .slice none 0 0, .slice none 0 0] 40 := by rw [hw3]; exact Ob.new _ _ _
  obtain ⟨c1, _, l1⟩ := ob1 (hq.below HB.out hq.lt)
  obtain ⟨c2, _, l2⟩ := ob1 (hx.below HB.out hx.lt)
  have c3 : w3.cell? ⟨w.heap.size, 2, none⟩ = some (.slice none 0 0) := o0.cell 2 rfl
  have l3 := o0.lt
  have HW : Hid _ := hw3
  have hs : IntKind.i64.wrap (d + 1) = d + 1 := wrap_small _ (by omega) (by omega)
  clear o0 hw3 hq hx
  go_enter Tryz.func144, Tryz.ntmps144
  go_upto_region 1 with fail
  rw [← HW.out]
  clear HW
  go_wp2_with fail
  refine Calls.mono (pdown0 _ _ _ _ _ _) ?_
  rintro e w4 ⟨rfl, hb4⟩
  go_wp2
  go_ret
  exact ⟨rfl, HB.out.trans (hb4.mono HB.out.size)⟩

set_option maxRecDepth 10000 in
set_option maxHeartbeats 1000000 in
theorem pidxm1 (N : ByteArray) (bd bq bx g : Nat) (d : Int) (hd : 0 ≤ d ∧ d ≤ 100) (w : World) (hq : Ob w bq #[downV bd bq] 200) (hx : Ob w bx #[.int .i64 d] 3) (hg : Ob w g (msg0 N) 40) :
    Calls Tryz.prog 174 #[.slice (some ⟨g, 0, none⟩) 1 1, .func (.func 144) #[] #[.pointer (some ⟨bq, 0, none⟩), .pointer (some ⟨bx, 0, none⟩)]] w fun e w' => e = .returned (.int .i64 (-1)) ∧ Below w.heap.size w w' := by
  have Q : Hid _ := pdown1 N bd bq bx d hd w hq hx
  obtain ⟨⟨c0, c1, c2, c3, c4, c5, c6, c7, c8, c9, c10⟩, _, cl⟩ := ob11 (show Ob w g #[.string N, .slice none 0 0, .slice none 0 0, .slice none 0 0, .slice none 0 0, .slice none 0 0, .slice none 0 0, .slice none 0 0, .slice none 0 0, .slice none 0 0, .slice none 0 0] 40 from hg)
  unfold msg0 at *
  clear hg
  go_enter Tryz.func174, Tryz.ntmps174
  go_wp2
  go_loopw [8] (fun v wr => (v = .int .i64 0 ∧ w = wr) ∨ (v = .int .i64 1 ∧ Hid (Below w.heap.size w wr))) (fun v _ => 1 - (intOf v).toNat)
  case atStart => exact .inl ⟨rfl, rfl⟩
  case round =>
    rcases hrel with ⟨rfl, rfl⟩ | ⟨rfl, HB⟩
    · go_wp2_with fail
      refine Calls.mono Q.out ?_
      rintro e w1 ⟨rfl, hb1⟩
      have HB1 : Hid _ := hb1
      clear hb1 Q c0 c1 c2 c3 c4 c5 c6 c7 c8 c9 c10
      go_wp2
      go_roundw
      case rel => first | exact .inr ⟨by go_num, HB1⟩ | ((repeat apply Exists.intro); exact ⟨.inr ⟨by go_num, HB1⟩, rfl⟩)
      case measure => simp [intOf]
    · go_wp2
      go_ret
      exact ⟨rfl, HB.out⟩

set_option maxRecDepth 10000 in
theorem pconm1 (N : ByteArray) (bd bq bx g : Nat) (d : Int) (hd : 0 ≤ d ∧ d ≤ 100) (w : World) (hq : Ob w bq #[downV bd bq] 200) (hx : Ob w bx #[.int .i64 d] 3) (hg : Ob w g (msg0 N) 40) :
    Calls Tryz.prog 143 #[.slice (some ⟨g, 0, none⟩) 1 1, .func (.func 144) #[] #[.pointer (some ⟨bq, 0, none⟩), .pointer (some ⟨bx, 0, none⟩)]] w fun e w' => e = .returned (.bool false) ∧ Below w.heap.size w w' := by
  have Q : Hid _ := pidxm1 N bd bq bx g d hd w hq hx hg
  go_enter Tryz.func143, Tryz.ntmps143
  go_wp2_with fail
  refine Calls.mono Q.out ?_
  rintro e w1 ⟨rfl, hb1⟩
  go_wp2
  go_ret
  exact ⟨rfl, hb1⟩

def fil1 (A K Y : ByteArray) (gm : Nat) : Array Value := #[.string A, .string K, .slice none 0 0, .slice none 0 0, .slice (some ⟨gm, 0, none⟩) 1 1, .slice none 0 0, .slice none 0 0, .slice none 0 0, .string Y, .slice none 0 0, .slice none 0 0]

set_option maxRecDepth 10000 in
set_option maxHeartbeats 1000000 in
theorem pdownF (N : ByteArray) (bd bq g : Nat) (w : World) (hd : Ob w bd #[.int .i64 0] 3) (hq : Ob w bq #[downV bd bq] 200) (hg : Ob w g (msg0 N) 40) (hne : bd ≠ bq) (hne2 : bd ≠ g) :
    Calls Tryz.prog 142 #[.slice (some ⟨g, 0, none⟩) 1 1, .int .i64 1, .pointer (some ⟨bd, 0, none⟩), .pointer (some ⟨bq, 0, none⟩)] w fun e w' => e = .returned (.bool true) ∧ Ob w' bd #[.int .i64 1] 3 ∧ ∀ B, B ≤ bd → Below B w w' := by
  obtain ⟨w3, hw3⟩ : ∃ w3, w3 = (w.setCell ⟨bd, 0, none⟩ (.int .i64 1)).alloc (.cells #[.int .i64 1] 3) := ⟨_, rfl⟩
  have hsz : w3.heap.size = w.heap.size + 1 := by rw [hw3]; simp
  have od : Ob w3 bd #[.int .i64 1] 3 := by rw [hw3]; have := (hd.set 0 (.int .i64 1)).alloc (.cells #[.int .i64 1] 3); simpa using this
  have oq : Ob w3 bq #[downV bd bq] 200 := by rw [hw3]; exact (hq.other (Ne.symm hne) _ _).alloc _
  have og : Ob w3 g (msg0 N) 40 := by rw [hw3]; exact (hg.other (Ne.symm hne2) _ _).alloc _
  have ox : Ob w3 w.heap.size #[.int .i64 1] 3 := by rw [hw3]; have := Ob.new (w.setCell ⟨bd, 0, none⟩ (.int .i64 1)) #[.int .i64 1] 3; simpa using this
  have HB : Hid (∀ B, B ≤ bd → Below B w w3) := fun B hB => by rw [hw3]; exact ((Below.refl B w).setCell (p := ⟨bd, 0, none⟩) hB _).alloc (by have := hd.lt; simp; omega) _
  have Q : Hid _ := pconm1 N bd bq w.heap.size g 1 (by omega) w3 oq ox og
  obtain ⟨c1, f1, l1⟩ := ob1 hd
  obtain ⟨c2, f2, l2⟩ := ob1 ox
  have OD : Hid _ := od
  have HW : Hid _ := hw3
  have hmf : ∀ (fn : Fn) (first cap : Array Value) (w : World), (Instr.makeFunc fn first cap).run Tryz.prog w = .ok (.func fn first cap) w := fun _ _ _ _ => rfl
  clear hd hq hg od oq og ox hw3
  go_enter Tryz.func142, Tryz.ntmps142
  go_upto_region 4 with fail
  rw [show (max 0 1 : Int) = 1 from rfl, ← HW.out]
  clear HW c1 f1
  go_wp2_with fail
  refine Calls.mono Q.out ?_
  rintro e w4 ⟨rfl, hb4⟩
  go_wp2
  go_ret
  exact ⟨rfl, OD.out.below hb4 OD.out.lt, fun B hB => (HB.out B hB).trans (hb4.mono (Nat.le_trans hB (Nat.le_of_lt OD.out.lt)))⟩

set_option maxRecDepth 10000 in
set_option maxHeartbeats 1000000 in
theorem pdeepF (A K Y N : ByteArray) (gm : Nat) (w : World) (hg : Ob w gm (msg0 N) 40) :
    Calls Tryz.prog 118 #[.agg (fil1 A K Y gm)] w fun e w' => e = .returned (.int .i64 1) ∧ Below w.heap.size w w' := by
  unfold fil1
  obtain ⟨w3, hw3⟩ : ∃ w3, w3 = ((w.alloc (.cells #[.string A, .string K, .slice none 0 0, .slice none 0 0, .slice (some ⟨gm, 0, none⟩) 1 1, .slice none 0 0, .slice none 0 0, .slice none 0 0, .string Y, .slice none 0 0, .slice none 0 0] 62)).alloc (.cells #[.int .i64 0] 3)).alloc (.cells #[.func (.func 142) #[] #[.pointer (some ⟨w.heap.size + 1, 0, none⟩), .pointer (some ⟨w.heap.size + 1 + 1, 0, none⟩)]] 200) := ⟨_, rfl⟩
  have o0 : Ob w3 w.heap.size #[.string A, .string K, .slice none 0 0, .slice none 0 0, .slice (some ⟨gm, 0, none⟩) 1 1, .slice none 0 0, .slice none 0 0, .slice none 0 0, .string Y, .slice none 0 0, .slice none 0 0] 62 := by rw [hw3]; exact ((Ob.new w _ _).alloc _).alloc _
  have od : Ob w3 (w.heap.size + 1) #[.int .i64 0] 3 := by
    rw [hw3]
    have := (Ob.new (w.alloc (.cells #[.string A, .string K, .slice none 0 0, .slice none 0 0, .slice (some ⟨gm, 0, none⟩) 1 1, .slice none 0 0, .slice none 0 0, .slice none 0 0, .string Y, .slice none 0 0, .slice none 0 0] 62)) #[.int .i64 0] 3).alloc (.cells #[.func (.func 142) #[] #[.pointer (some ⟨w.heap.size + 1, 0, none⟩), .pointer (some ⟨w.heap.size + 1 + 1, 0, none⟩)]] 200)
    simpa using this
  have oq : Ob w3 (w.heap.size + 1 + 1) #[downV (w.heap.size + 1) (w.heap.size + 1 + 1)] 200 := by
    rw [hw3]
    have := Ob.new ((w.alloc (.cells #[.string A, .string K, .slice none 0 0, .slice none 0 0, .slice (some ⟨gm, 0, none⟩) 1 1, .slice none 0 0, .slice none 0 0, .slice none 0 0, .string Y, .slice none 0 0, .slice none 0 0] 62)).alloc (.cells #[.int .i64 0] 3)) #[downV (w.heap.size + 1) (w.heap.size + 1 + 1)] 200
    simpa [downV] using this
  have hb3 : Below w.heap.size w w3 := by rw [hw3]; exact (((Below.refl _ w).alloc (Nat.le_refl _) _).alloc (by simp) _).alloc (by simp; omega) _
  have og := hg.below hb3 hg.lt
  have hgl := hg.lt
  have Q : Hid _ := pdownF N (w.heap.size + 1) (w.heap.size + 1 + 1) gm w3 od oq og (by omega) (by omega)
  have c4 : w3.cell? ⟨w.heap.size, 4, none⟩ = some (.slice (some ⟨gm, 0, none⟩) 1 1) := o0.cell 4 rfl
  obtain ⟨c5, f5, l5⟩ := ob1 oq
  unfold downV at c5
  have hl0 := o0.lt
  have HB3 : Hid _ := hb3
  have HW : Hid _ := hw3
  have hmf : ∀ (fn : Fn) (first cap : Array Value) (w : World), (Instr.makeFunc fn first cap).run Tryz.prog w = .ok (.func fn first cap) w := fun _ _ _ _ => rfl
  have e4 : (((w.alloc (.cells #[.string A, .string K, .slice none 0 0, .slice none 0 0, .slice (some ⟨gm, 0, none⟩) 1 1, .slice none 0 0, .slice none 0 0, .slice none 0 0, .string Y, .slice none 0 0, .slice none 0 0] 62)).alloc (.cells #[.int .i64 0] 3)).alloc (.cells #[.nilFunc] 200)).heap[w.heap.size + 1 + 1]? = some (.cells #[.nilFunc] 200 (0, 0)) := by
    have := heap_alloc_new ((w.alloc (.cells #[.string A, .string K, .slice none 0 0, .slice none 0 0, .slice (some ⟨gm, 0, none⟩) 1 1, .slice none 0 0, .slice none 0 0, .slice none 0 0, .string Y, .slice none 0 0, .slice none 0 0] 62)).alloc (.cells #[.int .i64 0] 3)) (.cells #[.nilFunc] 200)
    simpa using this
  obtain ⟨x4, y4, z4⟩ := ob1 (Ob.mk e4)
  clear o0 od oq og hb3 hw3 hg e4
  go_enter Tryz.func118, Tryz.ntmps118
  go_upto_region 4 with fail
  rw [← HW.out]
  clear HW x4 y4 z4
  go_wp2_with fail
  refine Calls.mono Q.out ?_
  rintro e w4 ⟨rfl, od4, hb4⟩
  obtain ⟨d1, d2, d3⟩ := ob1 od4
  have HB4 : Hid (Below w.heap.size w w4) := HB3.out.trans (hb4 _ (by omega))
  clear od4 hb4 c4 c5 f5 l5 HB3 Q
  go_wp2
  go_ret
  exact ⟨rfl, HB4.out⟩

set_option maxRecDepth 10000 in
set_option maxHeartbeats 1000000 in
theorem ptooF (A K Y N : ByteArray) (gm : Nat) (w : World) (hg : Ob w gm (msg0 N) 40) :
    Calls Tryz.prog 69 #[.agg (fil1 A K Y gm)] w fun e w' => e = .returned (.bool false) ∧ Below w.heap.size w w' := by
  obtain ⟨w3, hw3⟩ : ∃ w3, w3 = w.alloc (.cells (fil1 A K Y gm) 62) := ⟨_, rfl⟩
  have hb3 : Below w.heap.size w w3 := by rw [hw3]; exact (Below.refl _ w).alloc (Nat.le_refl _) _
  have o0 : Ob w3 w.heap.size (fil1 A K Y gm) 62 := by rw [hw3]; exact Ob.new _ _ _
  have Q : Hid _ := pdeepF A K Y N gm w3 (hg.below hb3 hg.lt)
  have HB3 : Hid _ := hb3
  have HW : Hid _ := hw3
  clear hg hb3 hw3
  unfold fil1 at *
  obtain ⟨⟨c0, c1, c2, c3, c4, c5, c6, c7, c8, c9, c10⟩, _, cl⟩ := ob11 o0
  clear o0
  go_enter Tryz.func69, Tryz.ntmps69
  go_upto_region 1 with fail
  rw [← HW.out]
  clear HW
  go_wp2_with fail
  refine Calls.mono Q.out ?_
  rintro e w4 ⟨rfl, hb4⟩
  have HB4 : Hid (Below w.heap.size w w4) := HB3.out.trans (hb4.mono HB3.out.size)
  clear hb4 c0 c1 c2 c3 c4 c5 c6 c7 c8 c9 c10 cl HB3 Q
  go_wp2
  go_ret
  exact ⟨rfl, HB4.out⟩

set_option maxRecDepth 10000 in
set_option maxHeartbeats 1000000 in
theorem pidxf1 (A K Y N : ByteArray) (gm g : Nat) (w : World) (hm : Ob w gm (msg0 N) 40) (hg : Ob w g (fil1 A K Y gm) 62) :
    Calls Tryz.prog 117 #[.slice (some ⟨g, 0, none⟩) 1 1, .func (.func 69) #[] #[]] w fun e w' => e = .returned (.int .i64 (-1)) ∧ Below w.heap.size w w' := by
  have Q : Hid _ := ptooF A K Y N gm w hm
  obtain ⟨⟨c0, c1, c2, c3, c4, c5, c6, c7, c8, c9, c10⟩, _, cl⟩ := ob11 (show Ob w g #[.string A, .string K, .slice none 0 0, .slice none 0 0, .slice (some ⟨gm, 0, none⟩) 1 1, .slice none 0 0, .slice none 0 0, .slice none 0 0, .string Y, .slice none 0 0, .slice none 0 0] 62 from hg)
  unfold fil1 at *
  clear hm
  clear hg
  go_enter Tryz.func117, Tryz.ntmps117
  go_wp2
  go_loopw [8] (fun v wr => (v = .int .i64 0 ∧ w = wr) ∨ (v = .int .i64 1 ∧ Hid (Below w.heap.size w wr))) (fun v _ => 1 - (intOf v).toNat)
  case atStart => exact .inl ⟨rfl, rfl⟩
  case round =>
    rcases hrel with ⟨rfl, rfl⟩ | ⟨rfl, HB⟩
    · go_wp2_with fail
      refine Calls.mono Q.out ?_
      rintro e w1 ⟨rfl, hb1⟩
      have HB1 : Hid _ := hb1
      clear hb1 Q c0 c1 c2 c3 c4 c5 c6 c7 c8 c9 c10
      go_wp2
      go_roundw
      case rel => first | exact .inr ⟨by go_num, HB1⟩ | ((repeat apply Exists.intro); exact ⟨.inr ⟨by go_num, HB1⟩, rfl⟩)
      case measure => simp [intOf]
    · go_wp2
      go_ret
      exact ⟨rfl, HB.out⟩

set_option maxRecDepth 10000 in
theorem pconf1 (A K Y N : ByteArray) (gm g : Nat) (w : World) (hm : Ob w gm (msg0 N) 40) (hg : Ob w g (fil1 A K Y gm) 62) :
    Calls Tryz.prog 68 #[.slice (some ⟨g, 0, none⟩) 1 1, .func (.func 69) #[] #[]] w fun e w' => e = .returned (.bool false) ∧ Below w.heap.size w w' := by
  have Q : Hid _ := pidxf1 A K Y N gm g w hm hg
  go_enter Tryz.func68, Tryz.ntmps68
  go_wp2_with fail
  refine Calls.mono Q.out ?_
  rintro e w1 ⟨rfl, hb1⟩
  go_wp2
  go_ret
  exact ⟨rfl, hb1⟩

set_option maxRecDepth 10000 in
set_option maxHeartbeats 1000000 in
theorem penums0 (x y s : Value) (a : Option Addr) (c : Nat) (w : World) :
    Calls Tryz.prog 148 #[.agg #[x, y], s, .slice a 0 c] w fun e w' => e = .returned (.tuple #[]) ∧ Below w.heap.size w w' := by
  obtain ⟨w3, hw3⟩ : ∃ w3, w3 = w.alloc (.cells #[x, y] 204) := ⟨_, rfl⟩
  have HB : Hid (Below w.heap.size w w3) := by rw [hw3]; exact (Below.refl _ _).alloc (Nat.le_refl _) _
  have HW : Hid _ := hw3
  clear hw3
  go_enter Tryz.func148, Tryz.ntmps148
  go_upto_region 1 with fail
  rw [← HW.out]
  clear HW
  go_wp2
  go_loopw [12] (fun v wr => v = .int .i64 0 ∧ w3 = wr) (fun _ _ => 0)
  case atStart => exact ⟨rfl, rfl⟩
  case round =>
    obtain ⟨rfl, rfl⟩ := hrel
    go_wp2
    go_end0
    exact ⟨rfl, HB.out⟩

set_option maxRecDepth 10000 in
set_option maxHeartbeats 1000000 in
theorem pservs0 (x y s : Value) (a : Option Addr) (c : Nat) (w : World) :
    Calls Tryz.prog 150 #[.agg #[x, y], s, .slice a 0 c] w fun e w' => e = .returned (.tuple #[]) ∧ Below w.heap.size w w' := by
  obtain ⟨w3, hw3⟩ : ∃ w3, w3 = w.alloc (.cells #[x, y] 204) := ⟨_, rfl⟩
  have HB : Hid (Below w.heap.size w w3) := by rw [hw3]; exact (Below.refl _ _).alloc (Nat.le_refl _) _
  have HW : Hid _ := hw3
  clear hw3
  go_enter Tryz.func150, Tryz.ntmps150
  go_upto_region 1 with fail
  rw [← HW.out]
  clear HW
  go_wp2
  go_loopw [13] (fun v wr => v = .int .i64 0 ∧ w3 = wr) (fun _ _ => 0)
  case atStart => exact ⟨rfl, rfl⟩
  case round =>
    obtain ⟨rfl, rfl⟩ := hrel
    go_wp2
    go_end0
    exact ⟨rfl, HB.out⟩

set_option maxRecDepth 10000 in
set_option maxHeartbeats 1000000 in
theorem pexts0 (x y s : Value) (a : Option Addr) (c : Nat) (w : World) :
    Calls Tryz.prog 149 #[.agg #[x, y], s, .slice a 0 c] w fun e w' => e = .returned (.tuple #[]) ∧ Below w.heap.size w w' := by
  obtain ⟨w3, hw3⟩ : ∃ w3, w3 = w.alloc (.cells #[x, y] 204) := ⟨_, rfl⟩
  have HB : Hid (Below w.heap.size w w3) := by rw [hw3]; exact (Below.refl _ _).alloc (Nat.le_refl _) _
  have HW : Hid _ := hw3
  clear hw3
  go_enter Tryz.func149, Tryz.ntmps149
  go_upto_region 1 with fail
  rw [← HW.out]
  clear HW
  go_wp2
  go_loopw [11] (fun v wr => v = .int .i64 0 ∧ w3 = wr) (fun _ _ => 0)
  case atStart => exact ⟨rfl, rfl⟩
  case round =>
    obtain ⟨rfl, rfl⟩ := hrel
    go_wp2
    go_end0
    exact ⟨rfl, HB.out⟩

def layV (bh ba bq : Nat) : Value := .func (.func 146) #[] #[.pointer (some ⟨bh, 0, none⟩), .pointer (some ⟨ba, 0, none⟩), .pointer (some ⟨bq, 0, none⟩)]

theorem mk0 (w : World) : (Instr.makeSlice 34 (.int .i64 0) (.int .i64 0)).run Tryz.prog w = .ok (.slice (some ⟨w.heap.size, 0, none⟩) 0 0) (w.alloc (.cells #[] 40)) := by kernel_rfl

theorem mk1 (w : World) : (Instr.makeSlice 34 (.int .i64 1) (.int .i64 1)).run Tryz.prog w = .ok (.slice (some ⟨w.heap.size, 0, none⟩) 1 1) (w.alloc (.cells #[.string ⟨#[]⟩, .slice none 0 0, .slice none 0 0, .slice none 0 0, .slice none 0 0, .slice none 0 0, .slice none 0 0, .slice none 0 0, .slice none 0 0, .slice none 0 0, .slice none 0 0] 40)) := by kernel_rfl

set_option maxRecDepth 10000 in
set_option maxHeartbeats 1000000 in
theorem play0 (s p1 p2 p3 : Value) (a : Option Addr) (c : Nat) (w : World) :
    Calls Tryz.prog 146 #[s, .slice a 0 c, p1, p2, p3] w fun e w' => ∃ a' c', e = .returned (.slice a' 0 c') ∧ Below w.heap.size w w' := by
  have hmk := mk0 w
  have HB : Hid (Below w.heap.size w (w.alloc (.cells #[] 40))) := (Below.refl _ _).alloc (Nat.le_refl _) _
  obtain ⟨w3, hw3⟩ : ∃ w3, w3 = w.alloc (.cells #[] 40) := ⟨_, rfl⟩
  rw [← hw3] at hmk HB
  clear hw3
  go_enter Tryz.func146, Tryz.ntmps146
  go_wp2
  go_loopw [21] (fun v wr => v = .int .i64 0 ∧ w3 = wr) (fun _ _ => 0)
  case atStart => exact ⟨rfl, rfl⟩
  case round =>
    obtain ⟨rfl, rfl⟩ := hrel
    go_wp2
    go_ret
    exact ⟨_, _, rfl, HB.out⟩

theorem other11 {w : World} {b b' : Nat} {T : TypeId} {c : Array Value} (h : Ob w b' c T) (hne : b' ≠ b) (x0 x1 x2 x3 x4 x5 x6 x7 x8 x9 x10 : Value) :
    Ob (((((((((((w.setCell ⟨b, 0, none⟩ x0).setCell ⟨b, 1, none⟩ x1).setCell ⟨b, 2, none⟩ x2).setCell ⟨b, 3, none⟩ x3).setCell ⟨b, 4, none⟩ x4).setCell ⟨b, 5, none⟩ x5).setCell ⟨b, 6, none⟩ x6).setCell ⟨b, 7, none⟩ x7).setCell ⟨b, 8, none⟩ x8).setCell ⟨b, 9, none⟩ x9).setCell ⟨b, 10, none⟩ x10) b' c T :=
  ((((((((((h.other hne 0 x0).other hne 1 x1).other hne 2 x2).other hne 3 x3).other hne 4 x4).other hne 5 x5).other hne 6 x6).other hne 7 x7).other hne 8 x8).other hne 9 x9).other hne 10 x10

structure Lz (W w : World) (bh ba bq bp bs be : Nat) (vf : Value) (H : ByteArray) (n : Nat) (g : ByteArray → Option Value) : Prop where
  po : Po w bp bs be vf n g
  hb : Ob w bh #[.pointer (some ⟨bp, 0, none⟩), .string H] 204
  ab : Ob w ba #[.int .i64 1, .bool false] 100
  qb : Ob w bq #[layV bh ba bq] 206
  lt : bh < W.heap.size ∧ ba < W.heap.size ∧ bq < W.heap.size ∧ bp < W.heap.size ∧ bs < W.heap.size ∧ be < W.heap.size
  ne : bh ≠ bs ∧ ba ≠ bs ∧ bq ≠ bs
  gr : W.grownBy w (some bs)

theorem Lz.keep {W w w' : World} {bh ba bq bp bs be : Nat} {vf : Value} {H : ByteArray} {n : Nat} {g : ByteArray → Option Value} (h : Lz W w bh ba bq bp bs be vf H n g) {B : Nat} (hb : Below B w w') (hB : W.heap.size ≤ B) : Lz W w' bh ba bq bp bs be vf H n g := by
  obtain ⟨l1, l2, l3, l4, l5, l6⟩ := h.lt
  refine ⟨⟨h.po.blk.below hb (by omega), h.po.sym.below hb (by omega), h.po.ext.below hb (by omega), h.po.ne, h.po.sl⟩, h.hb.below hb (by omega), h.ab.below hb (by omega), h.qb.below hb (by omega), h.lt, h.ne, ?_⟩
  obtain ⟨a1, a2, a3, a4, a5⟩ := h.gr
  exact ⟨by first | exact hb.os.trans a1 | exact a1.trans hb.os, by first | exact hb.tape.trans a2 | exact a2.trans hb.tape, by first | exact hb.output.trans a3 | exact a3.trans hb.output, Nat.le_trans a4 hb.size, fun k hk hne => (hb.block k (by omega)).trans (a5 k hk hne)⟩

theorem Lz.put {W w w' : World} {bh ba bq bp bs be : Nat} {vf : Value} {H : ByteArray} {n n' : Nat} {g g' : ByteArray → Option Value} (h : Lz W w bh ba bq bp bs be vf H n g) (hg : w.grownBy w' (some bs)) (hm : Mg w' bs n' g') : Lz W w' bh ba bq bp bs be vf H n' g' :=
  ⟨h.po.put hg hm, h.hb.grown hg (fun e => h.ne.1 (Option.some.inj e)), h.ab.grown hg (fun e => h.ne.2.1 (Option.some.inj e)), h.qb.grown hg (fun e => h.ne.2.2 (Option.some.inj e)), h.lt, h.ne, grown_transV h.gr hg⟩

set_option maxRecDepth 100000 in
set_option maxHeartbeats 8000000 in
theorem play1 (sc nm : List Int) (hsb : Hid (byts sc)) (hnb : Hid (byts nm)) (hsl : sc.length ≤ 5000) (hnl : nm.length ≤ 4000) (H : ByteArray) (W : World) {bh ba bq bp bs be gm : Nat} {vf : Value} {n : Nat} {g : ByteArray → Option Value} (hL : Hid (Lz W W bh ba bq bp bs be vf H n g)) (hgm : Ob W gm (msg0 (strOfNums nm)) 40) (hg : g (strOfNums (njoin sc nm)) = none) :
    Calls Tryz.prog 146 #[.string (strOfNums sc), .slice (some ⟨gm, 0, none⟩) 1 1, .pointer (some ⟨bh, 0, none⟩), .pointer (some ⟨ba, 0, none⟩), .pointer (some ⟨bq, 0, none⟩)] W fun e W' => e = .returned (.slice (some ⟨W.heap.size, 0, none⟩) 1 1) ∧ Lz W W' bh ba bq bp bs be vf H (n + 1) (gput g (strOfNums (njoin sc nm)) (.agg #[.int .i64 2, .string H, .pointer (some ⟨W.heap.size, 0, none⟩), .pointer none, .pointer none])) := by
  have hmk := mk1 W
  obtain ⟨w1, hw1⟩ : ∃ w1, w1 = W.alloc (.cells #[.string ⟨#[]⟩, .slice none 0 0, .slice none 0 0, .slice none 0 0, .slice none 0 0, .slice none 0 0, .slice none 0 0, .slice none 0 0, .slice none 0 0, .slice none 0 0, .slice none 0 0] 40) := ⟨_, rfl⟩
  rw [← hw1] at hmk
  have hb1 : Below W.heap.size W w1 := by rw [hw1]; exact (Below.refl _ _).alloc (Nat.le_refl _) _
  have k1 : Ob w1 W.heap.size #[.string ⟨#[]⟩, .slice none 0 0, .slice none 0 0, .slice none 0 0, .slice none 0 0, .slice none 0 0, .slice none 0 0, .slice none 0 0, .slice none 0 0, .slice none 0 0, .slice none 0 0] 40 := by rw [hw1]; exact Ob.new _ _ _
  have hs1 : w1.heap.size = W.heap.size + 1 := by rw [hw1]; simp
  have g1 := hgm.below hb1 hgm.lt
  have L1 : Hid (Lz W w1 bh ba bq bp bs be vf H n g) := hL.out.keep hb1 (Nat.le_refl _)
  have K1 : Hid _ := k1
  have G1 : Hid _ := g1
  have HS1 : Hid _ := hs1
  have HG : Hid _ := hg
  have hgl : gm < W.heap.size := hgm.lt
  have hks : (strOfNums nm).size ≤ 1000000 := by rw [strOfNums_size]; omega
  have HKS : Hid _ := hks
  have HNL : Hid (sc.length ≤ 10000 ∧ nm.length ≤ 10000) := ⟨by omega, by omega⟩
  clear hw1 hb1 k1 g1 hL hgm hs1 hg hks hsl hnl
  go_enter Tryz.func146, Tryz.ntmps146
  go_wp2
  go_loopw [21] (fun v wr => (v = .int .i64 0 ∧ w1 = wr) ∨ (v = .int .i64 1 ∧ Hid (Lz W wr bh ba bq bp bs be vf H (n + 1) (gput g (strOfNums (njoin sc nm)) (.agg #[.int .i64 2, .string H, .pointer (some ⟨W.heap.size, 0, none⟩), .pointer none, .pointer none]))))) (fun v _ => 1 - (intOf v).toNat)
  case atStart => exact .inl ⟨rfl, rfl⟩
  case round =>
    rcases hrel with ⟨rfl, rfl⟩ | ⟨rfl, HL⟩
    · obtain ⟨w2, hw2⟩ : ∃ w2, w2 = w1.alloc (.cells (msg0 (strOfNums nm)) 40) := ⟨_, rfl⟩
      have hb2 : Below w1.heap.size w1 w2 := by rw [hw2]; exact (Below.refl _ _).alloc (Nat.le_refl _) _
      have m2 : Ob w2 w1.heap.size (msg0 (strOfNums nm)) 40 := by rw [hw2]; exact Ob.new _ _ _
      have k2 := K1.out.below hb2 K1.out.lt
      have L2 : Hid (Lz W w2 bh ba bq bp bs be vf H n g) := L1.out.keep hb2 (by rw [HS1.out]; omega)
      have h2 := L2.out.hb
      have a0 := fun x : Ext w2 => x.cell (p := ⟨bh, 0, none⟩) h2.lt (h2.cell 0 rfl)
      have a1 := fun x : Ext w2 => x.cell (p := ⟨bh, 1, none⟩) h2.lt (h2.cell 1 rfl)
      have b0 := fun x : Ext w2 => x.cell (p := ⟨w1.heap.size, 0, none⟩) m2.lt (m2.cell 0 rfl)
      obtain ⟨⟨i0, i1, i2, i3, i4, i5, i6, i7, i8, i9, i10⟩, _, il⟩ := ob11 (show Ob w1 gm #[.string (strOfNums nm), .slice none 0 0, .slice none 0 0, .slice none 0 0, .slice none 0 0, .slice none 0 0, .slice none 0 0, .slice none 0 0, .slice none 0 0, .slice none 0 0, .slice none 0 0] 40 from G1.out)
      have kl : W.heap.size < w2.heap.size := k2.lt
      have K2 : Hid _ := k2
      have M2 : Hid _ := m2
      have HW2 : Hid _ := hw2
      have QP : Hid _ := fun V (hV : Below w2.heap.size w2 V) => pput0 H sc nm hsb hnb HNL.out.1 HNL.out.2 2 (some ⟨W.heap.size, 0, none⟩) none none V (show Hid _ from L2.out.po.below hV (Nat.le_refl _)) HG.out
      clear hb2 m2 k2 h2 hw2
      unfold msg0 at *
      generalize hF : strOfNums (njoin sc nm) = F at *
      generalize strOfNums nm = N at *
      generalize strOfNums sc = S at *
      go_upto_region 5 with fail
      rw [← HW2.out]
      clear HW2 i0 i1 i2 i3 i4 i5 i6 i7 i8 i9 i10 il
      refine wp_region_then w2 8 2 rfl (Below.refl _ _) (by kernel_rfl) (by kernel_rfl) (by kernel_rfl) (by kernel_rfl) ?_
      simp only [List.take]
      repeat (go_big_quiet_step (fail))
      refine wpQuiet_nil ?_
      rintro w3 ⟨⟨_, hb3⟩, rfl⟩
      have QP3 : Hid _ := QP.out w3 hb3
      have HB3 : Hid _ := hb3
      clear hb3 a0 a1 QP
      refine wpAny_force (i := 8) (by kernel_rfl) rfl ?_
      intro Q' hQ' hPn
      have HQ : Hid _ := hQ'
      clear hQ' hPn
      go_wp2_with fail
      refine Calls.mono QP3.out ?_
      rintro e w4 ⟨rfl, hg4, hm4⟩
      have hbs : bs < W.heap.size := L2.out.lt.2.2.2.2.1
      have hs1' := HS1.out
      have l4 := (L2.out.keep HB3.out (by omega)).put hg4 hm4
      have k4 := (K2.out.below HB3.out K2.out.lt).grown hg4 (fun e => by have := Option.some.inj e; omega)
      have m4 := (M2.out.below HB3.out M2.out.lt).grown hg4 (fun e => by have := Option.some.inj e; omega)
      have L4 : Hid _ := l4
      have K4 : Hid _ := k4
      have M4 : Hid _ := m4
      clear hg4 hm4 l4 k4 m4 QP3 HB3 L2 K2 M2 L1 K1 G1 hs1'
      go_wp2
      refine HQ.out _ _ ?_
      clear HQ
      refine wpAny_force (i := 9) (by kernel_rfl) rfl ?_
      intro Q' hQ' hPn
      have HQ : Hid _ := hQ'
      clear hQ' hPn
      go_wp2
      refine HQ.out _ _ ?_
      clear HQ
      refine wpAny_end (by kernel_rfl) ?_
      have QM : Hid _ := pwmsg0 N HKS.out w4
      unfold msg0 at QM
      obtain ⟨⟨c0, c1⟩, _, cl⟩ := ob2 L4.out.ab
      obtain ⟨⟨d0, d1, d2, d3, d4, d5, d6, d7, d8, d9, d10⟩, _, dl⟩ := ob11 M4.out
      have kl4 : W.heap.size < w4.heap.size := K4.out.lt
      go_wp2_with fail
      refine Calls.mono QM.out ?_
      rintro e w5 ⟨rfl, hb5⟩
      have L5 : Hid _ := L4.out.keep hb5 (by omega)
      have k5 := K4.out.below hb5 K4.out.lt
      have M5 : Hid _ := M4.out.below hb5 M4.out.lt
      obtain ⟨⟨f0, f1, f2, f3, f4, f5, f6, f7, f8, f9, f10⟩, ⟨h0, h1, h2, h3, h4, h5, h6, h7, h8, h9, h10⟩, fl⟩ := ob11 k5
      have K5 : Hid _ := k5
      clear hb5 k5 QM L4 K4 M4 c0 c1 cl d0 d1 d2 d3 d4 d5 d6 d7 d8 d9 d10 dl kl4
      go_upto_region 7 with fail
      have k6 := set11 K5.out (.string N) (.slice none 0 0) (.slice none 0 0) (.slice none 0 0) (.slice none 0 0) (.slice none 0 0) (.slice none 0 0) (.slice none 0 0) (.slice none 0 0) (.slice none 0 0) (.slice none 0 0)
      have b6 := below11 (n := W.heap.size) W.heap.size (Nat.le_refl _) (Below.refl W.heap.size w5) (.string N) (.slice none 0 0) (.slice none 0 0) (.slice none 0 0) (.slice none 0 0) (.slice none 0 0) (.slice none 0 0) (.slice none 0 0) (.slice none 0 0) (.slice none 0 0) (.slice none 0 0)
      have m6 := other11 (b := W.heap.size) M5.out (by rw [HS1.out]; omega) (.string N) (.slice none 0 0) (.slice none 0 0) (.slice none 0 0) (.slice none 0 0) (.slice none 0 0) (.slice none 0 0) (.slice none 0 0) (.slice none 0 0) (.slice none 0 0) (.slice none 0 0)
      have l6 := L5.out.keep b6 (Nat.le_refl _)
      generalize (((((((((((w5.setCell ⟨W.heap.size, 0, none⟩ (.string N)).setCell ⟨W.heap.size, 1, none⟩ (.slice none 0 0)).setCell ⟨W.heap.size, 2, none⟩ (.slice none 0 0)).setCell ⟨W.heap.size, 3, none⟩ (.slice none 0 0)).setCell ⟨W.heap.size, 4, none⟩ (.slice none 0 0)).setCell ⟨W.heap.size, 5, none⟩ (.slice none 0 0)).setCell ⟨W.heap.size, 6, none⟩ (.slice none 0 0)).setCell ⟨W.heap.size, 7, none⟩ (.slice none 0 0)).setCell ⟨W.heap.size, 8, none⟩ (.slice none 0 0)).setCell ⟨W.heap.size, 9, none⟩ (.slice none 0 0)).setCell ⟨W.heap.size, 10, none⟩ (.slice none 0 0)) = w6 at *
      clear b6 f0 f1 f2 f3 f4 f5 f6 f7 f8 f9 f10 h0 h1 h2 h3 h4 h5 h6 h7 h8 h9 h10 fl K5 M5 L5
      have d1 : w6.cell? ⟨w1.heap.size, 1, none⟩ = some (.slice none 0 0) := m6.cell 1 rfl
      have d2 : w6.cell? ⟨w1.heap.size, 2, none⟩ = some (.slice none 0 0) := m6.cell 2 rfl
      have d6 : w6.cell? ⟨w1.heap.size, 6, none⟩ = some (.slice none 0 0) := m6.cell 6 rfl
      have dl : w1.heap.size < w6.heap.size := m6.lt
      obtain ⟨e1, _, el⟩ := ob1 l6.qb
      unfold layV at e1
      have QZ : Hid _ := fun (s p1 p2 p3 : Value) => play0 s p1 p2 p3 none 0 w6
      have K6 : Hid _ := k6
      have L6 : Hid _ := l6
      clear k6 m6 l6
      go_wp2
      go_loopw [44] (fun v wr => v = .int .i64 0 ∧ w6 = wr) (fun _ _ => 0)
      case atStart => exact ⟨rfl, rfl⟩
      case round =>
        obtain ⟨rfl, rfl⟩ := hrel
        go_wp2
        go_loopw [58] (fun v wr => v = .int .i64 0 ∧ w6 = wr) (fun _ _ => 0)
        case atStart => exact ⟨rfl, rfl⟩
        case round =>
          obtain ⟨rfl, rfl⟩ := hrel
          go_wp2_with fail
          refine Calls.mono (QZ.out _ _ _ _) ?_
          rintro e w7 ⟨na, nc, rfl, hb7⟩
          have k7 := K6.out.below hb7 K6.out.lt
          have L7 : Hid _ := L6.out.keep hb7 (Nat.le_of_lt K6.out.lt)
          obtain ⟨w8, hw8⟩ : ∃ w8, w8 = w7.setCell ⟨W.heap.size, 2, none⟩ (.slice na 0 nc) := ⟨_, rfl⟩
          have k8 : Ob w8 W.heap.size #[.string N, .slice none 0 0, .slice na 0 nc, .slice none 0 0, .slice none 0 0, .slice none 0 0, .slice none 0 0, .slice none 0 0, .slice none 0 0, .slice none 0 0, .slice none 0 0] 40 := by rw [hw8]; have := k7.set 2 (.slice na 0 nc); simpa using this
          have L8 : Hid _ := L7.out.keep (show Below W.heap.size w7 w8 by rw [hw8]; exact (Below.refl _ _).setCell (p := ⟨W.heap.size, 2, none⟩) (Nat.le_refl _) _) (Nat.le_refl _)
          have s1 : w7.cell? ⟨W.heap.size, 2, none⟩ = some (.slice none 0 0) := k7.cell 2 rfl
          have s2 : w7.frozen? ⟨W.heap.size, 2, none⟩ = false := k7.frozen 2
          have s3 : W.heap.size < w7.heap.size := k7.lt
          have q8 := L8.out.hb
          have a0 := fun x : Ext w8 => x.cell (p := ⟨bh, 0, none⟩) q8.lt (q8.cell 0 rfl)
          have a1 := fun x : Ext w8 => x.cell (p := ⟨bh, 1, none⟩) q8.lt (q8.cell 1 rfl)
          have a2 := fun x : Ext w8 => x.cell (p := ⟨W.heap.size, 3, none⟩) k8.lt (k8.cell 3 rfl)
          have K8 : Hid _ := k8
          have HW8 : Hid _ := hw8
          clear hb7 k7 k8 q8 hw8 L7 L6 K6 QZ d1 d2 d6 dl e1 el
          go_upto_region 18 with fail
          rw [← HW8.out]
          clear HW8 s1 s2 s3
          refine wp_region_ext w8 (Below.refl _ _) (by kernel_rfl) (by kernel_rfl) ?_
          repeat (go_big_quiet_step (first
            | (go_at_call 148; exact Ext.call (fun V hV => penums0 _ _ _ _ _ V) _)))
          refine wpQuiet_nil ?_
          rintro w9 ⟨⟨_, hb9⟩, rfl⟩
          have l9 := L8.out.keep hb9 (Nat.le_of_lt K8.out.lt)
          have k9 := K8.out.below hb9 K8.out.lt
          have q9 := l9.hb
          clear a0 a1 a2
          have a0 := fun x : Ext w9 => x.cell (p := ⟨bh, 0, none⟩) q9.lt (q9.cell 0 rfl)
          have a1 := fun x : Ext w9 => x.cell (p := ⟨bh, 1, none⟩) q9.lt (q9.cell 1 rfl)
          have a2 := fun x : Ext w9 => x.cell (p := ⟨W.heap.size, 5, none⟩) k9.lt (k9.cell 5 rfl)
          have L9 : Hid _ := l9
          have K9 : Hid (W.heap.size < w9.heap.size) := k9.lt
          clear l9 k9 q9 hb9 L8 K8
          go_upto_region 19 with fail
          refine wp_region_ext w9 (Below.refl _ _) (by kernel_rfl) (by kernel_rfl) ?_
          repeat (go_big_quiet_step (first
            | (go_at_call 149; exact Ext.call (fun V hV => pexts0 _ _ _ _ _ V) _)))
          refine wpQuiet_nil ?_
          rintro w10 ⟨⟨_, hb10⟩, rfl⟩
          have L10 : Hid _ := L9.out.keep hb10 (Nat.le_of_lt K9.out)
          clear a0 a1 a2 hb10 L9 K9
          go_wp2
          go_roundw
          case rel => first | exact .inr ⟨by go_num, L10⟩ | ((repeat apply Exists.intro); exact ⟨.inr ⟨by go_num, L10⟩, rfl⟩)
          case measure => simp [intOf]
    · go_wp2
      go_ret
      exact ⟨rfl, HL.out⟩

end Go.Proofs.YtafmoceinamcdaaGreat
