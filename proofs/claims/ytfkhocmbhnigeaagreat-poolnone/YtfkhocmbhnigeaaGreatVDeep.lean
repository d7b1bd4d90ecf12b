/- How deep messages stand: of a file with one message that has nothing in it. -/
import Derived.Test.YtfkhocmbhnigeaaGreatVFile
import Derived.Laws.EntriesVeiled
namespace Go.Proofs.YtfkhocmbhnigeaaGreat
open Go.RowKit
set_option linter.unusedVariables false
set_option linter.unusedSimpArgs false

set_option maxRecDepth 10000 in
set_option maxHeartbeats 1000000 in
theorem pdown0 (a : Option Addr) (c : Nat) (d : Int) (p q : Value) (w : World) :
    Calls Tryz.prog 123 #[.slice a 0 c, .int .i64 d, p, q] w fun e w' => e = .returned (.bool true) ∧ Below w.heap.size w w' := by
  have HB : Hid (Below w.heap.size w (w.alloc (.cells #[.int .i64 d] 3))) := (Below.refl _ _).alloc (Nat.le_refl _) _
  go_enter Tryz.func123, Tryz.ntmps123
  go_wp2
  go_ret
  exact ⟨rfl, HB.out⟩

/-- The closure that calls itself. -/
def downV (bd bq : Nat) : Value := .func (.func 123) #[] #[.pointer (some ⟨bd, 0, none⟩), .pointer (some ⟨bq, 0, none⟩)]

set_option maxRecDepth 10000 in
set_option maxHeartbeats 1000000 in
theorem pdown1 (N : ByteArray) (bd bq bx : Nat) (d : Int) (hd : 0 ≤ d ∧ d ≤ 100) (w : World) (hq : Ob w bq #[downV bd bq] 189) (hx : Ob w bx #[.int .i64 d] 3) :
    Calls Tryz.prog 125 #[.agg (msg0 N), .pointer (some ⟨bq, 0, none⟩), .pointer (some ⟨bx, 0, none⟩)] w fun e w' => e = .returned (.bool false) ∧ Below w.heap.size w w' := by
  unfold msg0
  unfold downV at hq
  obtain ⟨w3, hw3⟩ : ∃ w3, w3 = w.alloc (.cells #[.string N, .slice none 0 0, .slice none 0 0, .slice none 0 0, .slice none 0 0, .slice none 0 0, .slice none 0 0, .slice none 0 0, .slice none 0 0, .slice none 0 0, .slice none 0 0] 40) := ⟨_, rfl⟩
  have HB : Hid (Below w.heap.size w w3) := by rw [hw3]; exact (Below.refl _ _).alloc (Nat.le_refl _) _
  have o0 : Ob w3 w.heap.size #[.string N, .slice none 0 0, .slice none 0 0, .slice none 0 0, .slice none 0 0, .slice none 0 0, .slice none 0 0, .slice none 0 0, .slice none 0 0, .slice none 0 0, .slice none 0 0] 40 := by rw [hw3]; exact Ob.new _ _ _
  obtain ⟨c1, _, l1⟩ := ob1 (hq.below HB.out hq.lt)
  obtain ⟨c2, _, l2⟩ := ob1 (hx.below HB.out hx.lt)
  have c3 : w3.cell? ⟨w.heap.size, 2, none⟩ = some (.slice none 0 0) := o0.cell 2 rfl
  have l3 := o0.lt
  have HW : Hid _ := hw3
  have hs : IntKind.i64.wrap (d + 1) = d + 1 := wrap_small _ (by omega) (by omega)
  clear o0 hw3 hq hx
  go_enter Tryz.func125, Tryz.ntmps125
  go_upto_region 1 with fail
  rw [← HW.out]
  clear HW
  go_wp2_with fail
  refine Calls.mono (pdown0 _ _ _ _ _ _) ?_
  rintro e w4 ⟨rfl, hb4⟩
  go_wp2
  go_ret
  exact ⟨rfl, HB.out.trans (hb4.mono HB.out.size)⟩

set_option maxRecDepth 10000 in
set_option maxHeartbeats 1000000 in
theorem pidxm1 (N : ByteArray) (bd bq bx g : Nat) (d : Int) (hd : 0 ≤ d ∧ d ≤ 100) (w : World) (hq : Ob w bq #[downV bd bq] 189) (hx : Ob w bx #[.int .i64 d] 3) (hg : Ob w g (msg0 N) 40) :
    Calls Tryz.prog 153 #[.slice (some ⟨g, 0, none⟩) 1 1, .func (.func 125) #[] #[.pointer (some ⟨bq, 0, none⟩), .pointer (some ⟨bx, 0, none⟩)]] w fun e w' => e = .returned (.int .i64 (-1)) ∧ Below w.heap.size w w' := by
  have Q : Hid _ := pdown1 N bd bq bx d hd w hq hx
  obtain ⟨⟨c0, c1, c2, c3, c4, c5, c6, c7, c8, c9, c10⟩, _, cl⟩ := ob11 (show Ob w g #[.string N, .slice none 0 0, .slice none 0 0, .slice none 0 0, .slice none 0 0, .slice none 0 0, .slice none 0 0, .slice none 0 0, .slice none 0 0, .slice none 0 0, .slice none 0 0] 40 from hg)
  unfold msg0 at *
  clear hg
  go_enter Tryz.func153, Tryz.ntmps153
  go_wp2
  go_loopw [8] (fun v wr => (v = .int .i64 0 ∧ w = wr) ∨ (v = .int .i64 1 ∧ Hid (Below w.heap.size w wr))) (fun v _ => 1 - (intOf v).toNat)
  case atStart => exact .inl ⟨rfl, rfl⟩
  case round =>
    rcases hrel with ⟨rfl, rfl⟩ | ⟨rfl, HB⟩
    · go_wp2_with fail
      refine Calls.mono Q.out ?_
      rintro e w1 ⟨rfl, hb1⟩
      have HB1 : Hid _ := hb1
      clear hb1 Q c0 c1 c2 c3 c4 c5 c6 c7 c8 c9 c10
      go_wp2
      go_roundw
      case rel => first | exact .inr ⟨by go_num, HB1⟩ | ((repeat apply Exists.intro); exact ⟨.inr ⟨by go_num, HB1⟩, rfl⟩)
      case measure => simp [intOf]
    · go_wp2
      go_ret
      exact ⟨rfl, HB.out⟩

set_option maxRecDepth 10000 in
theorem pconm1 (N : ByteArray) (bd bq bx g : Nat) (d : Int) (hd : 0 ≤ d ∧ d ≤ 100) (w : World) (hq : Ob w bq #[downV bd bq] 189) (hx : Ob w bx #[.int .i64 d] 3) (hg : Ob w g (msg0 N) 40) :
    Calls Tryz.prog 124 #[.slice (some ⟨g, 0, none⟩) 1 1, .func (.func 125) #[] #[.pointer (some ⟨bq, 0, none⟩), .pointer (some ⟨bx, 0, none⟩)]] w fun e w' => e = .returned (.bool false) ∧ Below w.heap.size w w' := by
  have Q : Hid _ := pidxm1 N bd bq bx g d hd w hq hx hg
  go_enter Tryz.func124, Tryz.ntmps124
  go_wp2_with fail
  refine Calls.mono Q.out ?_
  rintro e w1 ⟨rfl, hb1⟩
  go_wp2
  go_ret
  exact ⟨rfl, hb1⟩

/-- A file with one message alone. -/
def fil1 (A K Y : ByteArray) (gm : Nat) : Array Value := #[.string A, .string K, .slice none 0 0, .slice none 0 0, .slice (some ⟨gm, 0, none⟩) 1 1, .slice none 0 0, .slice none 0 0, .slice none 0 0, .string Y, .slice none 0 0, .slice none 0 0]

set_option maxRecDepth 10000 in
set_option maxHeartbeats 1000000 in
theorem pdownF (N : ByteArray) (bd bq g : Nat) (w : World) (hd : Ob w bd #[.int .i64 0] 3) (hq : Ob w bq #[downV bd bq] 189) (hg : Ob w g (msg0 N) 40) (hne : bd ≠ bq) (hne2 : bd ≠ g) :
    Calls Tryz.prog 123 #[.slice (some ⟨g, 0, none⟩) 1 1, .int .i64 1, .pointer (some ⟨bd, 0, none⟩), .pointer (some ⟨bq, 0, none⟩)] w fun e w' => e = .returned (.bool true) ∧ Ob w' bd #[.int .i64 1] 3 ∧ ∀ B, B ≤ bd → Below B w w' := by
  obtain ⟨w3, hw3⟩ : ∃ w3, w3 = (w.setCell ⟨bd, 0, none⟩ (.int .i64 1)).alloc (.cells #[.int .i64 1] 3) := ⟨_, rfl⟩
  have hsz : w3.heap.size = w.heap.size + 1 := by rw [hw3]; simp
  have od : Ob w3 bd #[.int .i64 1] 3 := by rw [hw3]; have := (hd.set 0 (.int .i64 1)).alloc (.cells #[.int .i64 1] 3); simpa using this
  have oq : Ob w3 bq #[downV bd bq] 189 := by rw [hw3]; exact (hq.other (Ne.symm hne) _ _).alloc _
  have og : Ob w3 g (msg0 N) 40 := by rw [hw3]; exact (hg.other (Ne.symm hne2) _ _).alloc _
  have ox : Ob w3 w.heap.size #[.int .i64 1] 3 := by rw [hw3]; have := Ob.new (w.setCell ⟨bd, 0, none⟩ (.int .i64 1)) #[.int .i64 1] 3; simpa using this
  have HB : Hid (∀ B, B ≤ bd → Below B w w3) := fun B hB => by rw [hw3]; exact ((Below.refl B w).setCell (p := ⟨bd, 0, none⟩) hB _).alloc (by have := hd.lt; simp; omega) _
  have Q : Hid _ := pconm1 N bd bq w.heap.size g 1 (by omega) w3 oq ox og
  obtain ⟨c1, f1, l1⟩ := ob1 hd
  obtain ⟨c2, f2, l2⟩ := ob1 ox
  have OD : Hid _ := od
  have HW : Hid _ := hw3
  have hmf : ∀ (fn : Fn) (first cap : Array Value) (w : World), (Instr.makeFunc fn first cap).run Tryz.prog w = .ok (.func fn first cap) w := fun _ _ _ _ => rfl
  clear hd hq hg od oq og ox hw3
  go_enter Tryz.func123, Tryz.ntmps123
  go_upto_region 4 with fail
  rw [show (max 0 1 : Int) = 1 from rfl, ← HW.out]
  clear HW c1 f1
  go_wp2_with fail
  refine Calls.mono Q.out ?_
  rintro e w4 ⟨rfl, hb4⟩
  go_wp2
  go_ret
  exact ⟨rfl, OD.out.below hb4 OD.out.lt, fun B hB => (HB.out B hB).trans (hb4.mono (Nat.le_trans hB (Nat.le_of_lt OD.out.lt)))⟩

theorem downV_one (bd bq : Nat) : (downV bd bq).oneCell' = true := rfl

set_option maxRecDepth 10000 in
set_option maxHeartbeats 1000000 in
theorem pdeepF (A K Y N : ByteArray) (gm : Nat) (w : World) (hg : Ob w gm (msg0 N) 40) :
    Calls Tryz.prog 98 #[.agg (fil1 A K Y gm)] w fun e w' => e = .returned (.int .i64 1) ∧ Below w.heap.size w w' := by
  unfold fil1
  obtain ⟨w3, hw3⟩ : ∃ w3, w3 = ((w.alloc (.cells #[.string A, .string K, .slice none 0 0, .slice none 0 0, .slice (some ⟨gm, 0, none⟩) 1 1, .slice none 0 0, .slice none 0 0, .slice none 0 0, .string Y, .slice none 0 0, .slice none 0 0] 62)).alloc (.cells #[.int .i64 0] 3)).alloc (.cells #[.func (.func 123) #[] #[.pointer (some ⟨w.heap.size + 1, 0, none⟩), .pointer (some ⟨w.heap.size + 1 + 1, 0, none⟩)]] 189) := ⟨_, rfl⟩
  have o0 : Ob w3 w.heap.size #[.string A, .string K, .slice none 0 0, .slice none 0 0, .slice (some ⟨gm, 0, none⟩) 1 1, .slice none 0 0, .slice none 0 0, .slice none 0 0, .string Y, .slice none 0 0, .slice none 0 0] 62 := by rw [hw3]; exact ((Ob.new w _ _).alloc _).alloc _
  have od : Ob w3 (w.heap.size + 1) #[.int .i64 0] 3 := by
    rw [hw3]
    have := (Ob.new (w.alloc (.cells #[.string A, .string K, .slice none 0 0, .slice none 0 0, .slice (some ⟨gm, 0, none⟩) 1 1, .slice none 0 0, .slice none 0 0, .slice none 0 0, .string Y, .slice none 0 0, .slice none 0 0] 62)) #[.int .i64 0] 3).alloc (.cells #[.func (.func 123) #[] #[.pointer (some ⟨w.heap.size + 1, 0, none⟩), .pointer (some ⟨w.heap.size + 1 + 1, 0, none⟩)]] 189)
    simpa using this
  have oq : Ob w3 (w.heap.size + 1 + 1) #[downV (w.heap.size + 1) (w.heap.size + 1 + 1)] 189 := by
    rw [hw3]
    have := Ob.new ((w.alloc (.cells #[.string A, .string K, .slice none 0 0, .slice none 0 0, .slice (some ⟨gm, 0, none⟩) 1 1, .slice none 0 0, .slice none 0 0, .slice none 0 0, .string Y, .slice none 0 0, .slice none 0 0] 62)).alloc (.cells #[.int .i64 0] 3)) #[downV (w.heap.size + 1) (w.heap.size + 1 + 1)] 189
    simpa [downV] using this
  have hb3 : Below w.heap.size w w3 := by rw [hw3]; exact (((Below.refl _ w).alloc (Nat.le_refl _) _).alloc (by simp) _).alloc (by simp; omega) _
  have og := hg.below hb3 hg.lt
  have hgl := hg.lt
  have Q : Hid _ := pdownF N (w.heap.size + 1) (w.heap.size + 1 + 1) gm w3 od oq og (by omega) (by omega)
  have c4 : w3.cell? ⟨w.heap.size, 4, none⟩ = some (.slice (some ⟨gm, 0, none⟩) 1 1) := o0.cell 4 rfl
  obtain ⟨c5, f5, l5⟩ := ob1 oq
  unfold downV at c5
  have hl0 := o0.lt
  have HB3 : Hid _ := hb3
  have HW : Hid _ := hw3
  have hmf : ∀ (fn : Fn) (first cap : Array Value) (w : World), (Instr.makeFunc fn first cap).run Tryz.prog w = .ok (.func fn first cap) w := fun _ _ _ _ => rfl
  have e4 : (((w.alloc (.cells #[.string A, .string K, .slice none 0 0, .slice none 0 0, .slice (some ⟨gm, 0, none⟩) 1 1, .slice none 0 0, .slice none 0 0, .slice none 0 0, .string Y, .slice none 0 0, .slice none 0 0] 62)).alloc (.cells #[.int .i64 0] 3)).alloc (.cells #[.nilFunc] 189)).heap[w.heap.size + 1 + 1]? = some (.cells #[.nilFunc] 189 (0, 0)) := by
    have := heap_alloc_new ((w.alloc (.cells #[.string A, .string K, .slice none 0 0, .slice none 0 0, .slice (some ⟨gm, 0, none⟩) 1 1, .slice none 0 0, .slice none 0 0, .slice none 0 0, .string Y, .slice none 0 0, .slice none 0 0] 62)).alloc (.cells #[.int .i64 0] 3)) (.cells #[.nilFunc] 189)
    simpa using this
  obtain ⟨x4, y4, z4⟩ := ob1 (Ob.mk e4)
  clear o0 od oq og hb3 hw3 hg e4
  go_enter Tryz.func98, Tryz.ntmps98
  go_upto_region 4 with fail
  rw [← HW.out]
  clear HW x4 y4 z4
  go_wp2_with fail
  refine Calls.mono Q.out ?_
  rintro e w4 ⟨rfl, od4, hb4⟩
  obtain ⟨d1, d2, d3⟩ := ob1 od4
  have HB4 : Hid (Below w.heap.size w w4) := HB3.out.trans (hb4 _ (by omega))
  clear od4 hb4 c4 c5 f5 l5 HB3 Q
  go_wp2
  go_ret
  exact ⟨rfl, HB4.out⟩

set_option maxRecDepth 10000 in
set_option maxHeartbeats 1000000 in
theorem ptooF (A K Y N : ByteArray) (gm : Nat) (w : World) (hg : Ob w gm (msg0 N) 40) :
    Calls Tryz.prog 57 #[.agg (fil1 A K Y gm)] w fun e w' => e = .returned (.bool false) ∧ Below w.heap.size w w' := by
  obtain ⟨w3, hw3⟩ : ∃ w3, w3 = w.alloc (.cells (fil1 A K Y gm) 62) := ⟨_, rfl⟩
  have hb3 : Below w.heap.size w w3 := by rw [hw3]; exact (Below.refl _ w).alloc (Nat.le_refl _) _
  have o0 : Ob w3 w.heap.size (fil1 A K Y gm) 62 := by rw [hw3]; exact Ob.new _ _ _
  have Q : Hid _ := pdeepF A K Y N gm w3 (hg.below hb3 hg.lt)
  have HB3 : Hid _ := hb3
  have HW : Hid _ := hw3
  clear hg hb3 hw3
  unfold fil1 at *
  obtain ⟨⟨c0, c1, c2, c3, c4, c5, c6, c7, c8, c9, c10⟩, _, cl⟩ := ob11 o0
  clear o0
  go_enter Tryz.func57, Tryz.ntmps57
  go_upto_region 1 with fail
  rw [← HW.out]
  clear HW
  go_wp2_with fail
  refine Calls.mono Q.out ?_
  rintro e w4 ⟨rfl, hb4⟩
  have HB4 : Hid (Below w.heap.size w w4) := HB3.out.trans (hb4.mono HB3.out.size)
  clear hb4 c0 c1 c2 c3 c4 c5 c6 c7 c8 c9 c10 cl HB3 Q
  go_wp2
  go_ret
  exact ⟨rfl, HB4.out⟩

set_option maxRecDepth 10000 in
set_option maxHeartbeats 1000000 in
theorem pidxf1 (A K Y N : ByteArray) (gm g : Nat) (w : World) (hm : Ob w gm (msg0 N) 40) (hg : Ob w g (fil1 A K Y gm) 62) :
    Calls Tryz.prog 97 #[.slice (some ⟨g, 0, none⟩) 1 1, .func (.func 57) #[] #[]] w fun e w' => e = .returned (.int .i64 (-1)) ∧ Below w.heap.size w w' := by
  have Q : Hid _ := ptooF A K Y N gm w hm
  obtain ⟨⟨c0, c1, c2, c3, c4, c5, c6, c7, c8, c9, c10⟩, _, cl⟩ := ob11 (show Ob w g #[.string A, .string K, .slice none 0 0, .slice none 0 0, .slice (some ⟨gm, 0, none⟩) 1 1, .slice none 0 0, .slice none 0 0, .slice none 0 0, .string Y, .slice none 0 0, .slice none 0 0] 62 from hg)
  unfold fil1 at *
  clear hm
  clear hg
  go_enter Tryz.func97, Tryz.ntmps97
  go_wp2
  go_loopw [8] (fun v wr => (v = .int .i64 0 ∧ w = wr) ∨ (v = .int .i64 1 ∧ Hid (Below w.heap.size w wr))) (fun v _ => 1 - (intOf v).toNat)
  case atStart => exact .inl ⟨rfl, rfl⟩
  case round =>
    rcases hrel with ⟨rfl, rfl⟩ | ⟨rfl, HB⟩
    · go_wp2_with fail
      refine Calls.mono Q.out ?_
      rintro e w1 ⟨rfl, hb1⟩
      have HB1 : Hid _ := hb1
      clear hb1 Q c0 c1 c2 c3 c4 c5 c6 c7 c8 c9 c10
      go_wp2
      go_roundw
      case rel => first | exact .inr ⟨by go_num, HB1⟩ | ((repeat apply Exists.intro); exact ⟨.inr ⟨by go_num, HB1⟩, rfl⟩)
      case measure => simp [intOf]
    · go_wp2
      go_ret
      exact ⟨rfl, HB.out⟩

set_option maxRecDepth 10000 in
theorem pconf1 (A K Y N : ByteArray) (gm g : Nat) (w : World) (hm : Ob w gm (msg0 N) 40) (hg : Ob w g (fil1 A K Y gm) 62) :
    Calls Tryz.prog 56 #[.slice (some ⟨g, 0, none⟩) 1 1, .func (.func 57) #[] #[]] w fun e w' => e = .returned (.bool false) ∧ Below w.heap.size w w' := by
  have Q : Hid _ := pidxf1 A K Y N gm g w hm hg
  go_enter Tryz.func56, Tryz.ntmps56
  go_wp2_with fail
  refine Calls.mono Q.out ?_
  rintro e w1 ⟨rfl, hb1⟩
  go_wp2
  go_ret
  exact ⟨rfl, hb1⟩

end Go.Proofs.YtfkhocmbhnigeaaGreat
