/- A pool that nobody made. -/
import Derived.Test.YtfkhocmbhnigeaaGreatVAwk
namespace Go.Proofs.YtfkhocmbhnigeaaGreat
open Go.RowKit
set_option linter.unusedVariables false
set_option linter.unusedSimpArgs false

set_option maxRecDepth 20000 in
theorem pthere0 (W : World) :
    Calls Tryz.prog 34 #[.pointer none] W fun e W' => e = .returned (.agg #[.slice none 0 0, .map none, .map none]) ∧ Below W.heap.size W W' := by
  have n2 : Ob (W.alloc (.cells #[.slice none 0 0, .map none, .map none] 91)) W.heap.size #[.slice none 0 0, .map none, .map none] 91 := Ob.new _ _ _
  have HN : Hid _ := n2
  have HB : Hid (Below W.heap.size W (W.alloc (.cells #[.slice none 0 0, .map none, .map none] 91))) := (Below.refl _ _).alloc (Nat.le_refl _) _
  clear n2
  go_enter Tryz.func34, Tryz.ntmps34
  go_wp2
  refine pool_ret (p := 2) ?_ W.heap.size #[.slice none 0 0, .map none, .map none] rfl ?_ HN.out ?_ ?_
  · rfl
  · rfl
  · rfl
  · exact ⟨rfl, HB.out⟩

theorem look_nil (w : World) (F : ByteArray) (hF : F.size ≤ maxLen) (c : Bool) : (Instr.lookup 83 (.map none) (.string F) c).run Tryz.prog w = .ok (mlook (.agg #[.int .i64 0, .string ⟨#[]⟩, .pointer none, .pointer none, .pointer none]) none c) w := by
  have hfk : (Instr.findKey 9 (.string F) []).run Tryz.prog w = .ok none w := by
    rcases strKeyed.find w (keyStr hF) [] (by simp) with ⟨h1, _⟩ | ⟨j, e0, _, h2, _⟩
    · simpa using h1
    · simp at h2
  cases c <;> simp [Instr.lookup, run_underlying symMap, strKeyed.check w _ (keyStr hF), hfk, zeroSym w, Result.andThen, mlook]

theorem fld_nil (w : World) : (Instr.field 91 (.agg #[.slice none 0 0, .map none, .map none]) 1).run Tryz.prog w = .ok (.map none) w := by kernel_rfl

set_option maxRecDepth 20000 in
theorem pkind0 (S : ByteArray) (hS : S.size ≤ maxLen) (W : World) :
    Calls Tryz.prog 18 #[.pointer none, .string S] W fun e W' => e = .returned (.int .i64 0) ∧ Below W.heap.size W W' := by
  have Q : Hid _ := pthere0 W
  have hlk : ∀ w, (Instr.lookup 83 (.map none) (.string S) false).run Tryz.prog w = .ok (.agg #[.int .i64 0, .string ⟨#[]⟩, .pointer none, .pointer none, .pointer none]) w := fun w => look_nil w S hS false
  have hf1 := fld_nil
  have hf2 : ∀ w, (Instr.field 88 (.agg #[.int .i64 0, .string ⟨#[]⟩, .pointer none, .pointer none, .pointer none]) 0).run Tryz.prog w = .ok (.int .i64 0) w := fun w => by kernel_rfl
  clear hS
  go_enter Tryz.func18, Tryz.ntmps18
  go_wp2_with fail
  refine Calls.mono Q.out ?_
  rintro e w1 ⟨rfl, hb1⟩
  have HB1 : Hid (Below W.heap.size W w1) := hb1
  clear hb1 Q
  go_wp2
  go_ret
  exact ⟨rfl, HB1.out⟩

set_option maxRecDepth 20000 in
theorem phome0 (S : ByteArray) (hS : S.size ≤ maxLen) (W : World) :
    Calls Tryz.prog 19 #[.pointer none, .string S] W fun e W' => e = .returned (.string ⟨#[]⟩) ∧ Below W.heap.size W W' := by
  have Q : Hid _ := pthere0 W
  have hlk : ∀ w, (Instr.lookup 83 (.map none) (.string S) false).run Tryz.prog w = .ok (.agg #[.int .i64 0, .string ⟨#[]⟩, .pointer none, .pointer none, .pointer none]) w := fun w => look_nil w S hS false
  have hf1 := fld_nil
  have hf2 : ∀ w, (Instr.field 88 (.agg #[.int .i64 0, .string ⟨#[]⟩, .pointer none, .pointer none, .pointer none]) 1).run Tryz.prog w = .ok (.string ⟨#[]⟩) w := fun w => by kernel_rfl
  clear hS
  go_enter Tryz.func19, Tryz.ntmps19
  go_wp2_with fail
  refine Calls.mono Q.out ?_
  rintro e w1 ⟨rfl, hb1⟩
  have HB1 : Hid (Below W.heap.size W w1) := hb1
  clear hb1 Q
  go_wp2_with fail
  refine Calls.mono (pnclone_any _ _ (by decide)) ?_
  rintro e w2 ⟨rfl, hb2⟩
  have HB2 : Hid (Below W.heap.size W w2) := HB1.out.trans (hb2.mono HB1.out.size)
  clear hb2 HB1
  go_wp2
  go_ret
  exact ⟨rfl, HB2.out⟩

theorem ob4 {w : World} {b : Nat} {T : TypeId} {x0 x1 x2 x3 : Value} (h : Ob w b #[x0, x1, x2, x3] T) :
    (w.cell? ⟨b, 0, none⟩ = some x0 ∧ w.cell? ⟨b, 1, none⟩ = some x1 ∧ w.cell? ⟨b, 2, none⟩ = some x2 ∧ w.cell? ⟨b, 3, none⟩ = some x3) ∧ (w.frozen? ⟨b, 0, none⟩ = false ∧ w.frozen? ⟨b, 1, none⟩ = false ∧ w.frozen? ⟨b, 2, none⟩ = false ∧ w.frozen? ⟨b, 3, none⟩ = false) ∧ b < w.heap.size :=
  ⟨⟨h.cell 0 rfl, h.cell 1 rfl, h.cell 2 rfl, h.cell 3 rfl⟩, ⟨h.frozen 0, h.frozen 1, h.frozen 2, h.frozen 3⟩, h.lt⟩

theorem setN4 {w : World} {b : Nat} {T : TypeId} {y0 y1 y2 y3 : Value} (h : Ob w b #[y0, y1, y2, y3] T) (x0 x1 x2 x3 : Value) : Ob ((((w.setCell ⟨b, 0, none⟩ x0).setCell ⟨b, 1, none⟩ x1).setCell ⟨b, 2, none⟩ x2).setCell ⟨b, 3, none⟩ x3) b #[x0, x1, x2, x3] T := by
  have := ((((h.set 0 x0).set 1 x1).set 2 x2).set 3 x3)
  simpa using this

theorem belowN4 {m : Nat} {W w : World} (b : Nat) (hb : m ≤ b) (h : Below m W w) (x0 x1 x2 x3 : Value) : Below m W ((((w.setCell ⟨b, 0, none⟩ x0).setCell ⟨b, 1, none⟩ x1).setCell ⟨b, 2, none⟩ x2).setCell ⟨b, 3, none⟩ x3) := ((((h.setCell (p := ⟨b, 0, none⟩) hb _).setCell (p := ⟨b, 1, none⟩) hb _).setCell (p := ⟨b, 2, none⟩) hb _).setCell (p := ⟨b, 3, none⟩) hb _)

theorem setN11 {w : World} {b : Nat} {T : TypeId} {y0 y1 y2 y3 y4 y5 y6 y7 y8 y9 y10 : Value} (h : Ob w b #[y0, y1, y2, y3, y4, y5, y6, y7, y8, y9, y10] T) (x0 x1 x2 x3 x4 x5 x6 x7 x8 x9 x10 : Value) : Ob (((((((((((w.setCell ⟨b, 0, none⟩ x0).setCell ⟨b, 1, none⟩ x1).setCell ⟨b, 2, none⟩ x2).setCell ⟨b, 3, none⟩ x3).setCell ⟨b, 4, none⟩ x4).setCell ⟨b, 5, none⟩ x5).setCell ⟨b, 6, none⟩ x6).setCell ⟨b, 7, none⟩ x7).setCell ⟨b, 8, none⟩ x8).setCell ⟨b, 9, none⟩ x9).setCell ⟨b, 10, none⟩ x10) b #[x0, x1, x2, x3, x4, x5, x6, x7, x8, x9, x10] T := by
  have := (((((((((((h.set 0 x0).set 1 x1).set 2 x2).set 3 x3).set 4 x4).set 5 x5).set 6 x6).set 7 x7).set 8 x8).set 9 x9).set 10 x10)
  simpa using this

theorem belowN11 {m : Nat} {W w : World} (b : Nat) (hb : m ≤ b) (h : Below m W w) (x0 x1 x2 x3 x4 x5 x6 x7 x8 x9 x10 : Value) : Below m W (((((((((((w.setCell ⟨b, 0, none⟩ x0).setCell ⟨b, 1, none⟩ x1).setCell ⟨b, 2, none⟩ x2).setCell ⟨b, 3, none⟩ x3).setCell ⟨b, 4, none⟩ x4).setCell ⟨b, 5, none⟩ x5).setCell ⟨b, 6, none⟩ x6).setCell ⟨b, 7, none⟩ x7).setCell ⟨b, 8, none⟩ x8).setCell ⟨b, 9, none⟩ x9).setCell ⟨b, 10, none⟩ x10) := (((((((((((h.setCell (p := ⟨b, 0, none⟩) hb _).setCell (p := ⟨b, 1, none⟩) hb _).setCell (p := ⟨b, 2, none⟩) hb _).setCell (p := ⟨b, 3, none⟩) hb _).setCell (p := ⟨b, 4, none⟩) hb _).setCell (p := ⟨b, 5, none⟩) hb _).setCell (p := ⟨b, 6, none⟩) hb _).setCell (p := ⟨b, 7, none⟩) hb _).setCell (p := ⟨b, 8, none⟩) hb _).setCell (p := ⟨b, 9, none⟩) hb _).setCell (p := ⟨b, 10, none⟩) hb _)

theorem setN13 {w : World} {b : Nat} {T : TypeId} {y0 y1 y2 y3 y4 y5 y6 y7 y8 y9 y10 y11 y12 : Value} (h : Ob w b #[y0, y1, y2, y3, y4, y5, y6, y7, y8, y9, y10, y11, y12] T) (x0 x1 x2 x3 x4 x5 x6 x7 x8 x9 x10 x11 x12 : Value) : Ob (((((((((((((w.setCell ⟨b, 0, none⟩ x0).setCell ⟨b, 1, none⟩ x1).setCell ⟨b, 2, none⟩ x2).setCell ⟨b, 3, none⟩ x3).setCell ⟨b, 4, none⟩ x4).setCell ⟨b, 5, none⟩ x5).setCell ⟨b, 6, none⟩ x6).setCell ⟨b, 7, none⟩ x7).setCell ⟨b, 8, none⟩ x8).setCell ⟨b, 9, none⟩ x9).setCell ⟨b, 10, none⟩ x10).setCell ⟨b, 11, none⟩ x11).setCell ⟨b, 12, none⟩ x12) b #[x0, x1, x2, x3, x4, x5, x6, x7, x8, x9, x10, x11, x12] T := by
  have := (((((((((((((h.set 0 x0).set 1 x1).set 2 x2).set 3 x3).set 4 x4).set 5 x5).set 6 x6).set 7 x7).set 8 x8).set 9 x9).set 10 x10).set 11 x11).set 12 x12)
  simpa using this

theorem belowN13 {m : Nat} {W w : World} (b : Nat) (hb : m ≤ b) (h : Below m W w) (x0 x1 x2 x3 x4 x5 x6 x7 x8 x9 x10 x11 x12 : Value) : Below m W (((((((((((((w.setCell ⟨b, 0, none⟩ x0).setCell ⟨b, 1, none⟩ x1).setCell ⟨b, 2, none⟩ x2).setCell ⟨b, 3, none⟩ x3).setCell ⟨b, 4, none⟩ x4).setCell ⟨b, 5, none⟩ x5).setCell ⟨b, 6, none⟩ x6).setCell ⟨b, 7, none⟩ x7).setCell ⟨b, 8, none⟩ x8).setCell ⟨b, 9, none⟩ x9).setCell ⟨b, 10, none⟩ x10).setCell ⟨b, 11, none⟩ x11).setCell ⟨b, 12, none⟩ x12) := (((((((((((((h.setCell (p := ⟨b, 0, none⟩) hb _).setCell (p := ⟨b, 1, none⟩) hb _).setCell (p := ⟨b, 2, none⟩) hb _).setCell (p := ⟨b, 3, none⟩) hb _).setCell (p := ⟨b, 4, none⟩) hb _).setCell (p := ⟨b, 5, none⟩) hb _).setCell (p := ⟨b, 6, none⟩) hb _).setCell (p := ⟨b, 7, none⟩) hb _).setCell (p := ⟨b, 8, none⟩) hb _).setCell (p := ⟨b, 9, none⟩) hb _).setCell (p := ⟨b, 10, none⟩) hb _).setCell (p := ⟨b, 11, none⟩) hb _).setCell (p := ⟨b, 12, none⟩) hb _)

theorem penum0_ret {fn : Func} {R : Ending → World → Prop} {a : Act} {w : World} {p q : Tmp} (h : fn.results = #[.cell p 43, .tmp q]) (gb : Nat) (cs : Array Value) (v : Value) (hs : cs.size = 4) (hp : a.tmps.getD p undef = .pointer (some ⟨gb, 0, none⟩)) (hq : a.tmps.getD q undef = v) (hg : Ob w gb cs 43) (hd : a.defers = []) (hR : R (.returned (.tuple #[.agg cs, v])) w) : bodyPost Tryz.prog fn R .ret a w := by
  refine bodyPost_ret (v := .tuple #[.agg cs, v]) ?_ hd hR
  have hp' : a.tmps[p]?.getD undef = .pointer (some ⟨gb, 0, none⟩) := by simpa using hp
  have hq' : a.tmps[q]?.getD undef = v := by simpa using hq
  have hsz : (Tryz.prog.info? 43).map (·.size) = some 4 := by kernel_rfl
  have hl := run_loadVar_row (P := Tryz.prog) w gb 43 43 cs (0, 0) _ hg.eq Tryz.underlying43 rfl (hsz.trans (by rw [hs]))
  simp [results, h, hp', hq', asAddr, hl]

set_option maxRecDepth 20000 in
set_option maxHeartbeats 1000000 in
theorem penum0 (S : ByteArray) (hS : S.size ≤ maxLen) (W : World) :
    Calls Tryz.prog 16 #[.pointer none, .string S] W fun e W' => e = .returned (.tuple #[.agg #[.string ⟨#[]⟩, .slice none 0 0, .slice none 0 0, .slice none 0 0], .bool false]) ∧ Below W.heap.size W W' := by
  obtain ⟨w0, hw0⟩ : ∃ w0, w0 = W.alloc (.cells #[.string ⟨#[]⟩, .slice none 0 0, .slice none 0 0, .slice none 0 0] 43) := ⟨_, rfl⟩
  have hb0 : Below W.heap.size W w0 := by rw [hw0]; exact (Below.refl _ _).alloc (Nat.le_refl _) _
  have o0 : Ob w0 W.heap.size #[.string ⟨#[]⟩, .slice none 0 0, .slice none 0 0, .slice none 0 0] 43 := by rw [hw0]; exact Ob.new _ _ _
  have Q : Hid _ := pthere0 w0
  have hlk : ∀ w, (Instr.lookup 83 (.map none) (.string S) false).run Tryz.prog w = .ok (.agg #[.int .i64 0, .string ⟨#[]⟩, .pointer none, .pointer none, .pointer none]) w := fun w => look_nil w S hS false
  have hf1 := fld_nil
  have hf2 : ∀ w, (Instr.field 88 (.agg #[.int .i64 0, .string ⟨#[]⟩, .pointer none, .pointer none, .pointer none]) 3).run Tryz.prog w = .ok (.pointer none) w := fun w => by kernel_rfl
  have HB0 : Hid _ := hb0
  have O0 : Hid _ := o0
  have HW0 : Hid _ := hw0
  clear hS hb0 o0 hw0
  go_enter Tryz.func16, Tryz.ntmps16
  go_upto_region 1 with fail
  rw [← HW0.out]
  clear HW0
  go_wp2_with fail
  refine Calls.mono Q.out ?_
  rintro e w1 ⟨rfl, hb1⟩
  have o1 := O0.out.below hb1 O0.out.lt
  obtain ⟨⟨c0, c1, c2, c3⟩, ⟨d0, d1, d2, d3⟩, cl⟩ := ob4 o1
  have HB1 : Hid (Below W.heap.size W w1) := HB0.out.trans (hb1.mono HB0.out.size)
  have O1 : Hid _ := o1
  clear hb1 Q o1
  go_wp2
  refine penum0_ret (p := 4) (q := 5) ?_ W.heap.size #[.string ⟨#[]⟩, .slice none 0 0, .slice none 0 0, .slice none 0 0] (.bool false) rfl ?_ ?_ (setN4 O1.out _ _ _ _) ?_ ?_
  · rfl
  · rfl
  · rfl
  · rfl
  · exact ⟨rfl, belowN4 _ (Nat.le_refl _) HB1.out _ _ _ _⟩

theorem pext0_ret {fn : Func} {R : Ending → World → Prop} {a : Act} {w : World} {p q : Tmp} (h : fn.results = #[.cell p 45, .tmp q]) (gb : Nat) (cs : Array Value) (v : Value) (hs : cs.size = 13) (hp : a.tmps.getD p undef = .pointer (some ⟨gb, 0, none⟩)) (hq : a.tmps.getD q undef = v) (hg : Ob w gb cs 45) (hd : a.defers = []) (hR : R (.returned (.tuple #[.agg cs, v])) w) : bodyPost Tryz.prog fn R .ret a w := by
  refine bodyPost_ret (v := .tuple #[.agg cs, v]) ?_ hd hR
  have hp' : a.tmps[p]?.getD undef = .pointer (some ⟨gb, 0, none⟩) := by simpa using hp
  have hq' : a.tmps[q]?.getD undef = v := by simpa using hq
  have hsz : (Tryz.prog.info? 45).map (·.size) = some 13 := by kernel_rfl
  have hl := run_loadVar_row (P := Tryz.prog) w gb 45 45 cs (0, 0) _ hg.eq Tryz.underlying45 rfl (hsz.trans (by rw [hs]))
  simp [results, h, hp', hq', asAddr, hl]

set_option maxRecDepth 20000 in
set_option maxHeartbeats 1000000 in
theorem pext0 (S : ByteArray) (hS : S.size ≤ maxLen) (W : World) :
    Calls Tryz.prog 17 #[.pointer none, .string S] W fun e W' => e = .returned (.tuple #[.agg #[.string ⟨#[]⟩, .int .i64 0, .int .i64 0, .int .i64 0, .string ⟨#[]⟩, .string ⟨#[]⟩, .string ⟨#[]⟩, .bool false, .int .i64 0, .string ⟨#[]⟩, .bool false, .slice none 0 0, .slice none 0 0], .bool false]) ∧ Below W.heap.size W W' := by
  obtain ⟨w0, hw0⟩ : ∃ w0, w0 = W.alloc (.cells #[.string ⟨#[]⟩, .int .i64 0, .int .i64 0, .int .i64 0, .string ⟨#[]⟩, .string ⟨#[]⟩, .string ⟨#[]⟩, .bool false, .int .i64 0, .string ⟨#[]⟩, .bool false, .slice none 0 0, .slice none 0 0] 45) := ⟨_, rfl⟩
  have hb0 : Below W.heap.size W w0 := by rw [hw0]; exact (Below.refl _ _).alloc (Nat.le_refl _) _
  have o0 : Ob w0 W.heap.size #[.string ⟨#[]⟩, .int .i64 0, .int .i64 0, .int .i64 0, .string ⟨#[]⟩, .string ⟨#[]⟩, .string ⟨#[]⟩, .bool false, .int .i64 0, .string ⟨#[]⟩, .bool false, .slice none 0 0, .slice none 0 0] 45 := by rw [hw0]; exact Ob.new _ _ _
  have Q : Hid _ := pthere0 w0
  have hlk : ∀ w, (Instr.lookup 83 (.map none) (.string S) false).run Tryz.prog w = .ok (.agg #[.int .i64 0, .string ⟨#[]⟩, .pointer none, .pointer none, .pointer none]) w := fun w => look_nil w S hS false
  have hf1 := fld_nil
  have hf2 : ∀ w, (Instr.field 88 (.agg #[.int .i64 0, .string ⟨#[]⟩, .pointer none, .pointer none, .pointer none]) 4).run Tryz.prog w = .ok (.pointer none) w := fun w => by kernel_rfl
  have HB0 : Hid _ := hb0
  have O0 : Hid _ := o0
  have HW0 : Hid _ := hw0
  clear hS hb0 o0 hw0
  go_enter Tryz.func17, Tryz.ntmps17
  go_upto_region 1 with fail
  rw [← HW0.out]
  clear HW0
  go_wp2_with fail
  refine Calls.mono Q.out ?_
  rintro e w1 ⟨rfl, hb1⟩
  have o1 := O0.out.below hb1 O0.out.lt
  obtain ⟨⟨c0, c1, c2, c3, c4, c5, c6, c7, c8, c9, c10, c11, c12⟩, ⟨d0, d1, d2, d3, d4, d5, d6, d7, d8, d9, d10, d11, d12⟩, cl⟩ := ob13 o1
  have HB1 : Hid (Below W.heap.size W w1) := HB0.out.trans (hb1.mono HB0.out.size)
  have O1 : Hid _ := o1
  clear hb1 Q o1
  go_wp2
  refine pext0_ret (p := 4) (q := 5) ?_ W.heap.size #[.string ⟨#[]⟩, .int .i64 0, .int .i64 0, .int .i64 0, .string ⟨#[]⟩, .string ⟨#[]⟩, .string ⟨#[]⟩, .bool false, .int .i64 0, .string ⟨#[]⟩, .bool false, .slice none 0 0, .slice none 0 0] (.bool false) rfl ?_ ?_ (setN13 O1.out _ _ _ _ _ _ _ _ _ _ _ _ _) ?_ ?_
  · rfl
  · rfl
  · rfl
  · rfl
  · exact ⟨rfl, belowN13 _ (Nat.le_refl _) HB1.out _ _ _ _ _ _ _ _ _ _ _ _ _⟩

theorem pmessage0_ret {fn : Func} {R : Ending → World → Prop} {a : Act} {w : World} {p q : Tmp} (h : fn.results = #[.cell p 40, .tmp q]) (gb : Nat) (cs : Array Value) (v : Value) (hs : cs.size = 11) (hp : a.tmps.getD p undef = .pointer (some ⟨gb, 0, none⟩)) (hq : a.tmps.getD q undef = v) (hg : Ob w gb cs 40) (hd : a.defers = []) (hR : R (.returned (.tuple #[.agg cs, v])) w) : bodyPost Tryz.prog fn R .ret a w := by
  refine bodyPost_ret (v := .tuple #[.agg cs, v]) ?_ hd hR
  have hp' : a.tmps[p]?.getD undef = .pointer (some ⟨gb, 0, none⟩) := by simpa using hp
  have hq' : a.tmps[q]?.getD undef = v := by simpa using hq
  have hsz : (Tryz.prog.info? 40).map (·.size) = some 11 := by kernel_rfl
  have hl := run_loadVar_row (P := Tryz.prog) w gb 40 40 cs (0, 0) _ hg.eq Tryz.underlying40 rfl (hsz.trans (by rw [hs]))
  simp [results, h, hp', hq', asAddr, hl]

set_option maxRecDepth 20000 in
set_option maxHeartbeats 1000000 in
theorem pmessage0 (S : ByteArray) (hS : S.size ≤ maxLen) (W : World) :
    Calls Tryz.prog 15 #[.pointer none, .string S] W fun e W' => e = .returned (.tuple #[.agg #[.string ⟨#[]⟩, .slice none 0 0, .slice none 0 0, .slice none 0 0, .slice none 0 0, .slice none 0 0, .slice none 0 0, .slice none 0 0, .slice none 0 0, .slice none 0 0, .slice none 0 0], .bool false]) ∧ Below W.heap.size W W' := by
  obtain ⟨w0, hw0⟩ : ∃ w0, w0 = W.alloc (.cells #[.string ⟨#[]⟩, .slice none 0 0, .slice none 0 0, .slice none 0 0, .slice none 0 0, .slice none 0 0, .slice none 0 0, .slice none 0 0, .slice none 0 0, .slice none 0 0, .slice none 0 0] 40) := ⟨_, rfl⟩
  have hb0 : Below W.heap.size W w0 := by rw [hw0]; exact (Below.refl _ _).alloc (Nat.le_refl _) _
  have o0 : Ob w0 W.heap.size #[.string ⟨#[]⟩, .slice none 0 0, .slice none 0 0, .slice none 0 0, .slice none 0 0, .slice none 0 0, .slice none 0 0, .slice none 0 0, .slice none 0 0, .slice none 0 0, .slice none 0 0] 40 := by rw [hw0]; exact Ob.new _ _ _
  have Q : Hid _ := pthere0 w0
  have hlk : ∀ w, (Instr.lookup 83 (.map none) (.string S) false).run Tryz.prog w = .ok (.agg #[.int .i64 0, .string ⟨#[]⟩, .pointer none, .pointer none, .pointer none]) w := fun w => look_nil w S hS false
  have hf1 := fld_nil
  have hf2 : ∀ w, (Instr.field 88 (.agg #[.int .i64 0, .string ⟨#[]⟩, .pointer none, .pointer none, .pointer none]) 2).run Tryz.prog w = .ok (.pointer none) w := fun w => by kernel_rfl
  have HB0 : Hid _ := hb0
  have O0 : Hid _ := o0
  have HW0 : Hid _ := hw0
  clear hS hb0 o0 hw0
  go_enter Tryz.func15, Tryz.ntmps15
  go_upto_region 1 with fail
  rw [← HW0.out]
  clear HW0
  go_wp2_with fail
  refine Calls.mono Q.out ?_
  rintro e w1 ⟨rfl, hb1⟩
  have o1 := O0.out.below hb1 O0.out.lt
  obtain ⟨⟨c0, c1, c2, c3, c4, c5, c6, c7, c8, c9, c10⟩, ⟨d0, d1, d2, d3, d4, d5, d6, d7, d8, d9, d10⟩, cl⟩ := ob11 o1
  have HB1 : Hid (Below W.heap.size W w1) := HB0.out.trans (hb1.mono HB0.out.size)
  have O1 : Hid _ := o1
  clear hb1 Q o1
  go_wp2
  refine pmessage0_ret (p := 4) (q := 5) ?_ W.heap.size #[.string ⟨#[]⟩, .slice none 0 0, .slice none 0 0, .slice none 0 0, .slice none 0 0, .slice none 0 0, .slice none 0 0, .slice none 0 0, .slice none 0 0, .slice none 0 0, .slice none 0 0] (.bool false) rfl ?_ ?_ (setN11 O1.out _ _ _ _ _ _ _ _ _ _ _) ?_ ?_
  · rfl
  · rfl
  · rfl
  · rfl
  · exact ⟨rfl, belowN11 _ (Nat.le_refl _) HB1.out _ _ _ _ _ _ _ _ _ _ _⟩

theorem pfile0_ret {fn : Func} {R : Ending → World → Prop} {a : Act} {w : World} {p q : Tmp} (h : fn.results = #[.cell p 62, .tmp q]) (gb : Nat) (cs : Array Value) (v : Value) (hs : cs.size = 11) (hp : a.tmps.getD p undef = .pointer (some ⟨gb, 0, none⟩)) (hq : a.tmps.getD q undef = v) (hg : Ob w gb cs 62) (hd : a.defers = []) (hR : R (.returned (.tuple #[.agg cs, v])) w) : bodyPost Tryz.prog fn R .ret a w := by
  refine bodyPost_ret (v := .tuple #[.agg cs, v]) ?_ hd hR
  have hp' : a.tmps[p]?.getD undef = .pointer (some ⟨gb, 0, none⟩) := by simpa using hp
  have hq' : a.tmps[q]?.getD undef = v := by simpa using hq
  have hsz : (Tryz.prog.info? 62).map (·.size) = some 11 := by kernel_rfl
  have hl := run_loadVar_row (P := Tryz.prog) w gb 62 62 cs (0, 0) _ hg.eq Tryz.underlying62 rfl (hsz.trans (by rw [hs]))
  simp [results, h, hp', hq', asAddr, hl]

theorem fld_nil0 (w : World) : (Instr.field 91 (.agg #[.slice none 0 0, .map none, .map none]) 0).run Tryz.prog w = .ok (.slice none 0 0) w := by kernel_rfl

theorem fld_nil2 (w : World) : (Instr.field 91 (.agg #[.slice none 0 0, .map none, .map none]) 2).run Tryz.prog w = .ok (.map none) w := by kernel_rfl

set_option maxRecDepth 20000 in
set_option maxHeartbeats 1000000 in
theorem pfile0 (S : ByteArray) (W : World) :
    Calls Tryz.prog 24 #[.pointer none, .string S] W fun e W' => e = .returned (.tuple #[.agg #[.string ⟨#[]⟩, .string ⟨#[]⟩, .slice none 0 0, .slice none 0 0, .slice none 0 0, .slice none 0 0, .slice none 0 0, .slice none 0 0, .string ⟨#[]⟩, .slice none 0 0, .slice none 0 0], .bool false]) ∧ Below W.heap.size W W' := by
  obtain ⟨w0, hw0⟩ : ∃ w0, w0 = W.alloc (.cells #[.string ⟨#[]⟩, .string ⟨#[]⟩, .slice none 0 0, .slice none 0 0, .slice none 0 0, .slice none 0 0, .slice none 0 0, .slice none 0 0, .string ⟨#[]⟩, .slice none 0 0, .slice none 0 0] 62) := ⟨_, rfl⟩
  have hb0 : Below W.heap.size W w0 := by rw [hw0]; exact (Below.refl _ _).alloc (Nat.le_refl _) _
  have o0 : Ob w0 W.heap.size #[.string ⟨#[]⟩, .string ⟨#[]⟩, .slice none 0 0, .slice none 0 0, .slice none 0 0, .slice none 0 0, .slice none 0 0, .slice none 0 0, .string ⟨#[]⟩, .slice none 0 0, .slice none 0 0] 62 := by rw [hw0]; exact Ob.new _ _ _
  have Q : Hid _ := pthere0 w0
  have hf1 := fld_nil0
  have HB0 : Hid _ := hb0
  have O0 : Hid _ := o0
  have HW0 : Hid _ := hw0
  clear hb0 o0 hw0
  go_enter Tryz.func24, Tryz.ntmps24
  go_upto_region 1 with fail
  rw [← HW0.out]
  clear HW0
  go_wp2_with fail
  refine Calls.mono Q.out ?_
  rintro e w1 ⟨rfl, hb1⟩
  have o1 := O0.out.below hb1 O0.out.lt
  obtain ⟨⟨c0, c1, c2, c3, c4, c5, c6, c7, c8, c9, c10⟩, ⟨d0, d1, d2, d3, d4, d5, d6, d7, d8, d9, d10⟩, cl⟩ := ob11 o1
  have HB1 : Hid (Below W.heap.size W w1) := HB0.out.trans (hb1.mono HB0.out.size)
  have O1 : Hid _ := o1
  clear hb1 Q o1
  go_wp2
  go_loopw [12] (fun v wr => v = .int .i64 0 ∧ w1 = wr) (fun _ _ => 0)
  case atStart => exact ⟨rfl, rfl⟩
  case round =>
    obtain ⟨rfl, rfl⟩ := hrel
    go_wp2
    refine pfile0_ret (p := 4) (q := 5) ?_ W.heap.size #[.string ⟨#[]⟩, .string ⟨#[]⟩, .slice none 0 0, .slice none 0 0, .slice none 0 0, .slice none 0 0, .slice none 0 0, .slice none 0 0, .string ⟨#[]⟩, .slice none 0 0, .slice none 0 0] (.bool false) rfl ?_ ?_ (setN11 O1.out _ _ _ _ _ _ _ _ _ _ _) ?_ ?_
    · rfl
    · rfl
    · rfl
    · rfl
    · exact ⟨rfl, belowN11 _ (Nat.le_refl _) HB1.out _ _ _ _ _ _ _ _ _ _ _⟩

theorem zeroStrs (w : World) : (zeroValue 30).run Tryz.prog w = .ok (.slice none 0 0) w := by kernel_rfl

theorem extMap : Tryz.prog.underlying 89 = some (.map 9 30) := by kernel_rfl

theorem lookx_nil (w : World) (F : ByteArray) (hF : F.size ≤ maxLen) : (Instr.lookup 89 (.map none) (.string F) false).run Tryz.prog w = .ok (.slice none 0 0) w := by
  have hfk : (Instr.findKey 9 (.string F) []).run Tryz.prog w = .ok none w := by
    rcases strKeyed.find w (keyStr hF) [] (by simp) with ⟨h1, _⟩ | ⟨j, e0, _, h2, _⟩
    · simpa using h1
    · simp at h2
  simp [Instr.lookup, run_underlying extMap, strKeyed.check w _ (keyStr hF), hfk, zeroStrs w, Result.andThen]

set_option maxRecDepth 20000 in
set_option maxHeartbeats 1000000 in
theorem pexts_0 (s : List Int) (hs : s.length ≤ 10000) (W : World) :
    Calls Tryz.prog 22 #[.pointer none, .string (strOfNums s)] W fun e W' => e = .returned (.slice none 0 0) ∧ Below W.heap.size W W' := by
  have Q : Hid _ := pthere0 W
  have h1 : ∀ W, (Op.stringOp .add { data := #[46] } (strOfNums s)).run Tryz.prog W = .ok (.string (strOfNums ([46] ++ s))) W := fun W => run_add W [46] s (by simp; omega)
  have hlk : ∀ w, (Instr.lookup 89 (.map none) (.string (strOfNums ([46] ++ s))) false).run Tryz.prog w = .ok (.slice none 0 0) w := fun w => lookx_nil w _ (by rw [strOfNums_size]; unfold maxLen; simp; omega)
  have hf1 := fld_nil2
  clear hs
  generalize strOfNums ([46] ++ s) = D at *
  generalize strOfNums s = S at *
  go_enter Tryz.func22, Tryz.ntmps22
  go_wp2_with fail
  refine Calls.mono Q.out ?_
  rintro e w1 ⟨rfl, hb1⟩
  have HB1 : Hid _ := hb1
  clear hb1 Q
  go_wp2_with fail
  refine Calls.mono (ptexts0 _ _ _) ?_
  rintro e w2 ⟨rfl, rfl⟩
  go_wp2
  go_ret
  exact ⟨rfl, HB1.out⟩

set_option maxRecDepth 20000 in
set_option maxHeartbeats 1000000 in
theorem pfits0 (S : ByteArray) (hS : S.size ≤ maxLen) (bp : Nat) (p2 p3 : Value) (W : World) (hb : Ob W bp #[.pointer none] 25) :
    Calls Tryz.prog 47 #[.string S, .pointer (some ⟨bp, 0, none⟩), p2, p3] W fun e W' => e = .returned (.bool false) ∧ Below W.heap.size W W' := by
  have Q : Hid _ := pthere0 W
  have hlk : ∀ w, (Instr.lookup 83 (.map none) (.string S) true).run Tryz.prog w = .ok (.tuple #[.agg #[.int .i64 0, .string ⟨#[]⟩, .pointer none, .pointer none, .pointer none], .bool false]) w := fun w => look_nil w S hS true
  have hf1 := fld_nil
  obtain ⟨c1, _, cl⟩ := ob1 hb
  clear hS hb
  go_enter Tryz.func47, Tryz.ntmps47
  go_wp2_with fail
  refine Calls.mono Q.out ?_
  rintro e w1 ⟨rfl, hb1⟩
  have HB1 : Hid (Below W.heap.size W (w1.alloc (.cells #[.int .i64 0, .string ⟨#[]⟩, .pointer none, .pointer none, .pointer none] 88))) := hb1.trans ((Below.refl _ _).alloc hb1.size _)
  clear hb1 Q
  go_wp2
  go_ret
  exact ⟨rfl, HB1.out⟩

end Go.Proofs.YtfkhocmbhnigeaaGreat
