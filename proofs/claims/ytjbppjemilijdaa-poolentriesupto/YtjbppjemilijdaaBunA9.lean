/- Put together by a program out of these texts of mine: VFile, HMath, HOrd, HMem. -/
import Derived.Deep.DeepCutAuto
import Derived.SliceStrings
import Derived.Maps.AppendAt
import Derived.Test.YtjbppjemilijdaaBunA1
import Derived.Test.YtjbppjemilijdaaBunA4
import Derived.Test.YtjbppjemilijdaaBunA6
import Derived.Test.YtjbppjemilijdaaBunA8

/- Copies of a file and of a message whose lists are empty. -/
namespace Go.Proofs.Ytjbppjemilijdaa
open Go.RowKit
set_option linter.unusedVariables false
set_option linter.unusedSimpArgs false

theorem file_ret {fn : Func} {R : Ending → World → Prop} {a : Act} {w : World} {p : Tmp} (h : fn.results = #[.cell p 36]) (gb : Nat) (cs : Array Value) (hs : cs.size = 11) (hp : a.tmps.getD p undef = .pointer (some ⟨gb, 0, none⟩)) (hg : Ob w gb cs 36) (hd : a.defers = []) (hR : R (.returned (.agg cs)) w) : bodyPost Try.prog fn R .ret a w := by
  refine bodyPost_ret (v := .agg cs) ?_ hd hR
  have hp' : a.tmps[p]?.getD undef = .pointer (some ⟨gb, 0, none⟩) := by simpa using hp
  have hsz : (Try.prog.info? 36).map (·.size) = some 11 := by kernel_rfl
  have hl := run_loadVar_row (P := Try.prog) w gb 36 36 cs (0, 0) _ hg.eq Try.underlying36 rfl (hsz.trans (by rw [hs]))
  simp [results, h, hp', asAddr, hl]

theorem msg_ret {fn : Func} {R : Ending → World → Prop} {a : Act} {w : World} {p : Tmp} (h : fn.results = #[.cell p 30]) (gb : Nat) (cs : Array Value) (hs : cs.size = 11) (hp : a.tmps.getD p undef = .pointer (some ⟨gb, 0, none⟩)) (hg : Ob w gb cs 30) (hd : a.defers = []) (hR : R (.returned (.agg cs)) w) : bodyPost Try.prog fn R .ret a w := by
  refine bodyPost_ret (v := .agg cs) ?_ hd hR
  have hp' : a.tmps[p]?.getD undef = .pointer (some ⟨gb, 0, none⟩) := by simpa using hp
  have hsz : (Try.prog.info? 30).map (·.size) = some 11 := by kernel_rfl
  have hl := run_loadVar_row (P := Try.prog) w gb 30 30 cs (0, 0) _ hg.eq Try.underlying30 rfl (hsz.trans (by rw [hs]))
  simp [results, h, hp', asAddr, hl]

theorem set11 {w : World} {b : Nat} {T : TypeId} {y0 y1 y2 y3 y4 y5 y6 y7 y8 y9 y10 : Value} (h : Ob w b #[y0, y1, y2, y3, y4, y5, y6, y7, y8, y9, y10] T) (x0 x1 x2 x3 x4 x5 x6 x7 x8 x9 x10 : Value) :
    Ob (((((((((((w.setCell ⟨b, 0, none⟩ x0).setCell ⟨b, 1, none⟩ x1).setCell ⟨b, 2, none⟩ x2).setCell ⟨b, 3, none⟩ x3).setCell ⟨b, 4, none⟩ x4).setCell ⟨b, 5, none⟩ x5).setCell ⟨b, 6, none⟩ x6).setCell ⟨b, 7, none⟩ x7).setCell ⟨b, 8, none⟩ x8).setCell ⟨b, 9, none⟩ x9).setCell ⟨b, 10, none⟩ x10) b #[x0, x1, x2, x3, x4, x5, x6, x7, x8, x9, x10] T := by
  have := ((((((((((h.set 0 x0).set 1 x1).set 2 x2).set 3 x3).set 4 x4).set 5 x5).set 6 x6).set 7 x7).set 8 x8).set 9 x9).set 10 x10
  simpa using this

theorem below11 {n : Nat} {W w : World} (b : Nat) (hb : n ≤ b) (h : Below n W w) (x0 x1 x2 x3 x4 x5 x6 x7 x8 x9 x10 : Value) :
    Below n W (((((((((((w.setCell ⟨b, 0, none⟩ x0).setCell ⟨b, 1, none⟩ x1).setCell ⟨b, 2, none⟩ x2).setCell ⟨b, 3, none⟩ x3).setCell ⟨b, 4, none⟩ x4).setCell ⟨b, 5, none⟩ x5).setCell ⟨b, 6, none⟩ x6).setCell ⟨b, 7, none⟩ x7).setCell ⟨b, 8, none⟩ x8).setCell ⟨b, 9, none⟩ x9).setCell ⟨b, 10, none⟩ x10) :=
  (((((((((((h.setCell (p := ⟨b, 0, none⟩) hb _).setCell (p := ⟨b, 1, none⟩) hb _).setCell (p := ⟨b, 2, none⟩) hb _).setCell (p := ⟨b, 3, none⟩) hb _).setCell (p := ⟨b, 4, none⟩) hb _).setCell (p := ⟨b, 5, none⟩) hb _).setCell (p := ⟨b, 6, none⟩) hb _).setCell (p := ⟨b, 7, none⟩) hb _).setCell (p := ⟨b, 8, none⟩) hb _).setCell (p := ⟨b, 9, none⟩) hb _).setCell (p := ⟨b, 10, none⟩) hb _)

set_option maxRecDepth 100000 in
set_option maxHeartbeats 4000000 in
theorem pwfile0 (N K Y : ByteArray) (hN : N.size ≤ 1000000) (hK : K.size ≤ 1000000) (hY : Y.size ≤ 1000000) (vm : Value) (hvm : ∃ a n c, vm = .slice a n c) (W : World) :
    Calls Try.prog 37 #[.agg #[.int .i64 0, .bool false], .agg #[.string N, .string K, .slice none 0 0, .slice none 0 0, vm, .slice none 0 0, .slice none 0 0, .slice none 0 0, .string Y, .slice none 0 0, .slice none 0 0]] W fun e W' => e = .returned (.agg #[.string N, .string K, .slice none 0 0, .slice none 0 0, .slice none 0 0, .slice none 0 0, .slice none 0 0, .slice none 0 0, .string Y, .slice none 0 0, .slice none 0 0]) ∧ Below W.heap.size W W' := by
  obtain ⟨ma, mn, mc, rfl⟩ := hvm
  obtain ⟨w3, hw3⟩ : ∃ w3, w3 = ((W.alloc (.cells #[.int .i64 0, .bool false] 93)).alloc (.cells #[.string N, .string K, .slice none 0 0, .slice none 0 0, .slice ma mn mc, .slice none 0 0, .slice none 0 0, .slice none 0 0, .string Y, .slice none 0 0, .slice none 0 0] 36)).alloc (.cells #[.string ⟨#[]⟩, .string ⟨#[]⟩, .slice none 0 0, .slice none 0 0, .slice none 0 0, .slice none 0 0, .slice none 0 0, .slice none 0 0, .string ⟨#[]⟩, .slice none 0 0, .slice none 0 0] 36) := ⟨_, rfl⟩
  have o0 : Ob w3 W.heap.size #[.int .i64 0, .bool false] 93 := by rw [hw3]; exact ((Ob.new W _ _).alloc _).alloc _
  have o1 : Ob w3 (W.heap.size + 1) #[.string N, .string K, .slice none 0 0, .slice none 0 0, .slice ma mn mc, .slice none 0 0, .slice none 0 0, .slice none 0 0, .string Y, .slice none 0 0, .slice none 0 0] 36 := by
    rw [hw3]
    have := (Ob.new (W.alloc (.cells #[.int .i64 0, .bool false] 93)) #[.string N, .string K, .slice none 0 0, .slice none 0 0, .slice ma mn mc, .slice none 0 0, .slice none 0 0, .slice none 0 0, .string Y, .slice none 0 0, .slice none 0 0] 36).alloc (.cells #[.string ⟨#[]⟩, .string ⟨#[]⟩, .slice none 0 0, .slice none 0 0, .slice none 0 0, .slice none 0 0, .slice none 0 0, .slice none 0 0, .string ⟨#[]⟩, .slice none 0 0, .slice none 0 0] 36)
    simpa using this
  have o2 : Ob w3 (W.heap.size + 1 + 1) #[.string ⟨#[]⟩, .string ⟨#[]⟩, .slice none 0 0, .slice none 0 0, .slice none 0 0, .slice none 0 0, .slice none 0 0, .slice none 0 0, .string ⟨#[]⟩, .slice none 0 0, .slice none 0 0] 36 := by
    rw [hw3]
    have := Ob.new ((W.alloc (.cells #[.int .i64 0, .bool false] 93)).alloc (.cells #[.string N, .string K, .slice none 0 0, .slice none 0 0, .slice ma mn mc, .slice none 0 0, .slice none 0 0, .slice none 0 0, .string Y, .slice none 0 0, .slice none 0 0] 36)) #[.string ⟨#[]⟩, .string ⟨#[]⟩, .slice none 0 0, .slice none 0 0, .slice none 0 0, .slice none 0 0, .slice none 0 0, .slice none 0 0, .string ⟨#[]⟩, .slice none 0 0, .slice none 0 0] 36
    simpa using this
  have hb3 : Below W.heap.size W w3 := by rw [hw3]; exact (((Below.refl _ W).alloc (Nat.le_refl _) _).alloc (by simp) _).alloc (by simp; omega) _
  have QN : Hid _ := fun V => pnclone_any N V hN
  have QK : Hid _ := fun V => pnclone_any K V hK
  have QY : Hid _ := fun V => pnclone_any Y V hY
  have a0 := fun x : Ext w3 => x.cell (p := ⟨W.heap.size, 0, none⟩) o0.lt (o0.cell 0 rfl)
  have a1 := fun x : Ext w3 => x.cell (p := ⟨W.heap.size, 1, none⟩) o0.lt (o0.cell 1 rfl)
  have b0 := fun x : Ext w3 => x.cell (p := ⟨W.heap.size + 1, 0, none⟩) o1.lt (o1.cell 0 rfl)
  have b1 := fun x : Ext w3 => x.cell (p := ⟨W.heap.size + 1, 1, none⟩) o1.lt (o1.cell 1 rfl)
  have b2 := fun x : Ext w3 => x.cell (p := ⟨W.heap.size + 1, 2, none⟩) o1.lt (o1.cell 2 rfl)
  have b3 := fun x : Ext w3 => x.cell (p := ⟨W.heap.size + 1, 3, none⟩) o1.lt (o1.cell 3 rfl)
  have b4 := fun x : Ext w3 => x.cell (p := ⟨W.heap.size + 1, 4, none⟩) o1.lt (o1.cell 4 rfl)
  have b5 := fun x : Ext w3 => x.cell (p := ⟨W.heap.size + 1, 5, none⟩) o1.lt (o1.cell 5 rfl)
  have b6 := fun x : Ext w3 => x.cell (p := ⟨W.heap.size + 1, 6, none⟩) o1.lt (o1.cell 6 rfl)
  have b7 := fun x : Ext w3 => x.cell (p := ⟨W.heap.size + 1, 7, none⟩) o1.lt (o1.cell 7 rfl)
  have b8 := fun x : Ext w3 => x.cell (p := ⟨W.heap.size + 1, 8, none⟩) o1.lt (o1.cell 8 rfl)
  have b9 := fun x : Ext w3 => x.cell (p := ⟨W.heap.size + 1, 9, none⟩) o1.lt (o1.cell 9 rfl)
  have b10 := fun x : Ext w3 => x.cell (p := ⟨W.heap.size + 1, 10, none⟩) o1.lt (o1.cell 10 rfl)
  have O2 : Hid _ := o2
  have HB3 : Hid _ := hb3
  have HW3 : Hid _ := hw3
  clear o0 o1 o2 hb3 hw3 hN hK hY
  go_enter Try.func37, Try.ntmps37
  go_upto_region 1 with fail
  rw [← HW3.out]
  clear HW3
  refine wp_region_elast w3 (Below.refl _ _) rfl (by kernel_rfl) (by kernel_rfl) (by kernel_rfl) (by kernel_rfl) ?_
  simp only [List.dropLast]
  repeat (go_big_quiet_step (first
    | (go_at_call 19; first | exact Ext.call (fun V hV => QN.out V) _ | exact Ext.call (fun V hV => QK.out V) _ | exact Ext.call (fun V hV => QY.out V) _)
    | (go_at_call 53; exact Ext.call_same (fun V => ptexts0 _ _ V) _)
    | (go_at_call 54; exact Ext.call_same (fun V => pplaces0 _ _ V) _)
    | (go_at_call 55; exact Ext.call (fun V hV => pmsgs0 _ V) _)
    | (go_at_call 56; exact Ext.call_same (fun V => peach0_enm _ _ _ V) _)
    | (go_at_call 58; exact Ext.call_same (fun V => peach0_srv _ _ _ V) _)
    | (go_at_call 60; exact Ext.call_same (fun V => peach0_fld _ _ _ V) _)
    | (go_at_call 62; exact Ext.call_same (fun V => pbclone0 V) _)
    | (go_at_call 63; exact Ext.call (fun V hV => punknown0 _ V) _)))
  refine wpQuiet_nil ?_
  rintro w5 ⟨⟨_, hb5⟩, rfl⟩ Q' hQ'
  have HQ : Hid _ := hQ'
  have o5 := O2.out.below hb5 O2.out.lt
  obtain ⟨⟨c0, c1, c2, c3, c4, c5, c6, c7, c8, c9, c10⟩, ⟨d0, d1, d2, d3, d4, d5, d6, d7, d8, d9, d10⟩, dl⟩ := ob11 o5
  have O5 : Hid _ := o5
  have HB5 : Hid (Below W.heap.size W w5) := HB3.out.trans (hb5.mono HB3.out.size)
  clear hQ' o5 hb5 a0 a1 b0 b1 b2 b3 b4 b5 b6 b7 b8 b9 b10 HB3 O2 QN QK QY
  go_wp2
  refine HQ.out _ _ ?_
  clear HQ
  go_wp2
  refine file_ret (p := 4) ?_ (W.heap.size + 1 + 1) #[.string N, .string K, .slice none 0 0, .slice none 0 0, .slice none 0 0, .slice none 0 0, .slice none 0 0, .slice none 0 0, .string Y, .slice none 0 0, .slice none 0 0] rfl ?_ (set11 O5.out _ _ _ _ _ _ _ _ _ _ _) ?_ ?_
  · rfl
  · rfl
  · rfl
  · exact ⟨rfl, below11 _ (by omega) HB5.out _ _ _ _ _ _ _ _ _ _ _⟩

/-- A message of which there is nothing but the name. -/
def msg0 (N : ByteArray) : Array Value := #[.string N, .slice none 0 0, .slice none 0 0, .slice none 0 0, .slice none 0 0, .slice none 0 0, .slice none 0 0, .slice none 0 0, .slice none 0 0, .slice none 0 0, .slice none 0 0]

set_option maxRecDepth 100000 in
set_option maxHeartbeats 4000000 in
theorem pwmsg0 (N : ByteArray) (hN : N.size ≤ 1000000) (W : World) :
    Calls Try.prog 41 #[.agg #[.int .i64 1, .bool false], .agg (msg0 N)] W fun e W' => e = .returned (.agg (msg0 N)) ∧ Below W.heap.size W W' := by
  unfold msg0
  obtain ⟨w3, hw3⟩ : ∃ w3, w3 = (((W.alloc (.cells #[.int .i64 1, .bool false] 93)).alloc (.cells #[.string N, .slice none 0 0, .slice none 0 0, .slice none 0 0, .slice none 0 0, .slice none 0 0, .slice none 0 0, .slice none 0 0, .slice none 0 0, .slice none 0 0, .slice none 0 0] 30)).alloc (.cells #[.string ⟨#[]⟩, .slice none 0 0, .slice none 0 0, .slice none 0 0, .slice none 0 0, .slice none 0 0, .slice none 0 0, .slice none 0 0, .slice none 0 0, .slice none 0 0, .slice none 0 0] 30)).alloc (.cells #[.int .i64 0, .bool false] 93) := ⟨_, rfl⟩
  have o0 : Ob w3 W.heap.size #[.int .i64 1, .bool false] 93 := by rw [hw3]; exact (((Ob.new W _ _).alloc _).alloc _).alloc _
  have o1 : Ob w3 (W.heap.size + 1) #[.string N, .slice none 0 0, .slice none 0 0, .slice none 0 0, .slice none 0 0, .slice none 0 0, .slice none 0 0, .slice none 0 0, .slice none 0 0, .slice none 0 0, .slice none 0 0] 30 := by
    rw [hw3]
    have := ((Ob.new (W.alloc (.cells #[.int .i64 1, .bool false] 93)) #[.string N, .slice none 0 0, .slice none 0 0, .slice none 0 0, .slice none 0 0, .slice none 0 0, .slice none 0 0, .slice none 0 0, .slice none 0 0, .slice none 0 0, .slice none 0 0] 30).alloc (.cells #[.string ⟨#[]⟩, .slice none 0 0, .slice none 0 0, .slice none 0 0, .slice none 0 0, .slice none 0 0, .slice none 0 0, .slice none 0 0, .slice none 0 0, .slice none 0 0, .slice none 0 0] 30)).alloc (.cells #[.int .i64 0, .bool false] 93)
    simpa using this
  have o2 : Ob w3 (W.heap.size + 1 + 1) #[.string ⟨#[]⟩, .slice none 0 0, .slice none 0 0, .slice none 0 0, .slice none 0 0, .slice none 0 0, .slice none 0 0, .slice none 0 0, .slice none 0 0, .slice none 0 0, .slice none 0 0] 30 := by
    rw [hw3]
    have := (Ob.new ((W.alloc (.cells #[.int .i64 1, .bool false] 93)).alloc (.cells #[.string N, .slice none 0 0, .slice none 0 0, .slice none 0 0, .slice none 0 0, .slice none 0 0, .slice none 0 0, .slice none 0 0, .slice none 0 0, .slice none 0 0, .slice none 0 0] 30)) #[.string ⟨#[]⟩, .slice none 0 0, .slice none 0 0, .slice none 0 0, .slice none 0 0, .slice none 0 0, .slice none 0 0, .slice none 0 0, .slice none 0 0, .slice none 0 0, .slice none 0 0] 30).alloc (.cells #[.int .i64 0, .bool false] 93)
    simpa using this
  have o3 : Ob w3 (W.heap.size + 1 + 1 + 1) #[.int .i64 0, .bool false] 93 := by
    rw [hw3]
    have := Ob.new (((W.alloc (.cells #[.int .i64 1, .bool false] 93)).alloc (.cells #[.string N, .slice none 0 0, .slice none 0 0, .slice none 0 0, .slice none 0 0, .slice none 0 0, .slice none 0 0, .slice none 0 0, .slice none 0 0, .slice none 0 0, .slice none 0 0] 30)).alloc (.cells #[.string ⟨#[]⟩, .slice none 0 0, .slice none 0 0, .slice none 0 0, .slice none 0 0, .slice none 0 0, .slice none 0 0, .slice none 0 0, .slice none 0 0, .slice none 0 0, .slice none 0 0] 30)) #[.int .i64 0, .bool false] 93
    simpa using this
  have hb3 : Below W.heap.size W w3 := by rw [hw3]; exact ((((Below.refl _ W).alloc (Nat.le_refl _) _).alloc (by simp) _).alloc (by simp; omega) _).alloc (by simp; omega) _
  have QN : Hid _ := fun V => pnclone_any N V hN
  have a0 := fun x : Ext w3 => x.cell (p := ⟨W.heap.size, 0, none⟩) o0.lt (o0.cell 0 rfl)
  have a1 := fun x : Ext w3 => x.cell (p := ⟨W.heap.size, 1, none⟩) o0.lt (o0.cell 1 rfl)
  have b0 := fun x : Ext w3 => x.cell (p := ⟨W.heap.size + 1, 0, none⟩) o1.lt (o1.cell 0 rfl)
  have b1 := fun x : Ext w3 => x.cell (p := ⟨W.heap.size + 1, 1, none⟩) o1.lt (o1.cell 1 rfl)
  have b2 := fun x : Ext w3 => x.cell (p := ⟨W.heap.size + 1, 2, none⟩) o1.lt (o1.cell 2 rfl)
  have b3 := fun x : Ext w3 => x.cell (p := ⟨W.heap.size + 1, 3, none⟩) o1.lt (o1.cell 3 rfl)
  have b4 := fun x : Ext w3 => x.cell (p := ⟨W.heap.size + 1, 4, none⟩) o1.lt (o1.cell 4 rfl)
  have b5 := fun x : Ext w3 => x.cell (p := ⟨W.heap.size + 1, 5, none⟩) o1.lt (o1.cell 5 rfl)
  have b6 := fun x : Ext w3 => x.cell (p := ⟨W.heap.size + 1, 6, none⟩) o1.lt (o1.cell 6 rfl)
  have b7 := fun x : Ext w3 => x.cell (p := ⟨W.heap.size + 1, 7, none⟩) o1.lt (o1.cell 7 rfl)
  have b8 := fun x : Ext w3 => x.cell (p := ⟨W.heap.size + 1, 8, none⟩) o1.lt (o1.cell 8 rfl)
  have b9 := fun x : Ext w3 => x.cell (p := ⟨W.heap.size + 1, 9, none⟩) o1.lt (o1.cell 9 rfl)
  have b10 := fun x : Ext w3 => x.cell (p := ⟨W.heap.size + 1, 10, none⟩) o1.lt (o1.cell 10 rfl)
  have e0 := fun x : Ext w3 => x.cell (p := ⟨W.heap.size + 1 + 1 + 1, 0, none⟩) o3.lt (o3.cell 0 rfl)
  have e1 := fun x : Ext w3 => x.cell (p := ⟨W.heap.size + 1 + 1 + 1, 1, none⟩) o3.lt (o3.cell 1 rfl)
  have O2 : Hid _ := o2
  have HB3 : Hid _ := hb3
  have HW3 : Hid _ := hw3
  clear o0 o1 o2 o3 hb3 hw3 hN
  go_enter Try.func41, Try.ntmps41
  go_upto_region 2 with fail
  rw [← HW3.out]
  clear HW3
  refine wp_region_elast w3 (Below.refl _ _) rfl (by kernel_rfl) (by kernel_rfl) (by kernel_rfl) (by kernel_rfl) ?_
  simp only [List.dropLast]
  repeat (go_big_quiet_step (first
    | (go_at_call 19; exact Ext.call (fun V hV => QN.out V) _)
    | (go_at_call 53; exact Ext.call_same (fun V => ptexts0 _ _ V) _)
    | (go_at_call 55; exact Ext.call (fun V hV => pmsgs0 _ V) _)
    | (go_at_call 56; exact Ext.call_same (fun V => peach0_enm _ _ _ V) _)
    | (go_at_call 66; exact Ext.call_same (fun V => peach0_rng _ _ _ V) _)
    | (go_at_call 68; exact Ext.call_same (fun V => peach0_one _ _ _ V) _)
    | (go_at_call 60; exact Ext.call_same (fun V => peach0_fld _ _ _ V) _)
    | (go_at_call 62; exact Ext.call_same (fun V => pbclone0 V) _)
    | (go_at_call 63; exact Ext.call (fun V hV => punknown0 _ V) _)))
  refine wpQuiet_nil ?_
  rintro w5 ⟨⟨_, hb5⟩, rfl⟩ Q' hQ'
  have HQ : Hid _ := hQ'
  have o5 := O2.out.below hb5 O2.out.lt
  obtain ⟨⟨c0, c1, c2, c3, c4, c5, c6, c7, c8, c9, c10⟩, ⟨d0, d1, d2, d3, d4, d5, d6, d7, d8, d9, d10⟩, dl⟩ := ob11 o5
  have O5 : Hid _ := o5
  have HB5 : Hid (Below W.heap.size W w5) := HB3.out.trans (hb5.mono HB3.out.size)
  clear hQ' o5 hb5 a0 a1 b0 b1 b2 b3 b4 b5 b6 b7 b8 b9 b10 e0 e1 HB3 O2 QN
  go_wp2
  refine HQ.out _ _ ?_
  clear HQ
  go_wp2
  refine msg_ret (p := 4) ?_ (W.heap.size + 1 + 1) #[.string N, .slice none 0 0, .slice none 0 0, .slice none 0 0, .slice none 0 0, .slice none 0 0, .slice none 0 0, .slice none 0 0, .slice none 0 0, .slice none 0 0, .slice none 0 0] rfl ?_ (set11 O5.out _ _ _ _ _ _ _ _ _ _ _) ?_ ?_
  · rfl
  · rfl
  · rfl
  · exact ⟨rfl, below11 _ (by omega) HB5.out _ _ _ _ _ _ _ _ _ _ _⟩

end Go.Proofs.Ytjbppjemilijdaa

/- Imports of files as plain functions: lists that rise, what is come to, orders. -/
namespace Go.Proofs.Ytjbppjemilijdaa
set_option linter.unusedVariables false
set_option linter.unusedSimpArgs false

/-- A file's path, what it imports, which of these are public. -/
structure Un where
  path : ByteArray
  deps : List ByteArray
  pub : List Int

/-- The order of texts. -/
def slt (x y : ByteArray) : Bool := Op.bytesLess x.toList y.toList

theorem bytesLess_irrefl : ∀ (l : List UInt8), Op.bytesLess l l = false
  | [] => by simp [Op.bytesLess]
  | a :: l => by simp [Op.bytesLess, bytesLess_irrefl l]

theorem bytesLess_trans : ∀ (a b c : List UInt8), Op.bytesLess a b = true → Op.bytesLess b c = true → Op.bytesLess a c = true
  | [], [], c, h, _ => by simp [Op.bytesLess] at h
  | [], _ :: _, [], _, h => by simp [Op.bytesLess] at h
  | [], _ :: _, _ :: _, _, _ => by simp [Op.bytesLess]
  | _ :: _, [], _, h, _ => by simp [Op.bytesLess] at h
  | _ :: _, _ :: _, [], _, h => by simp [Op.bytesLess] at h
  | x :: a, y :: b, z :: c, h1, h2 => by
    simp only [Op.bytesLess, Bool.or_eq_true, Bool.and_eq_true, decide_eq_true_eq, beq_iff_eq] at h1 h2 ⊢
    rcases h1 with h1 | ⟨rfl, h1⟩
    · rcases h2 with h2 | ⟨rfl, h2⟩
      · exact .inl (UInt8.lt_trans h1 h2)
      · exact .inl h1
    · rcases h2 with h2 | ⟨rfl, h2⟩
      · exact .inl h2
      · exact .inr ⟨rfl, bytesLess_trans a b c h1 h2⟩

theorem bytesLess_tri : ∀ (a b : List UInt8), Op.bytesLess a b = false → Op.bytesLess b a = false → a = b
  | [], [], _, _ => rfl
  | [], _ :: _, h, _ => by simp [Op.bytesLess] at h
  | _ :: _, [], _, h => by simp [Op.bytesLess] at h
  | x :: a, y :: b, h1, h2 => by
    simp only [Op.bytesLess, Bool.or_eq_false_iff, Bool.and_eq_false_iff, decide_eq_false_iff_not, beq_eq_false_iff_ne] at h1 h2
    have hxy : x = y := by
      have a1 := UInt8.not_lt.1 h1.1
      have a2 := UInt8.not_lt.1 h2.1
      exact UInt8.le_antisymm a2 a1
    subst hxy
    have b1 : Op.bytesLess a b = false := by simpa using h1.2
    have b2 : Op.bytesLess b a = false := by simpa using h2.2
    rw [bytesLess_tri a b b1 b2]

theorem toList_inj {x y : ByteArray} (h : x.toList = y.toList) : x = y := by
  rw [ByteArray.toList_eq, ByteArray.toList_eq] at h
  cases x
  cases y
  simpa using h

theorem slt_irrefl (x : ByteArray) : slt x x = false := bytesLess_irrefl _

theorem slt_trans {x y z : ByteArray} (h1 : slt x y = true) (h2 : slt y z = true) : slt x z = true := bytesLess_trans _ _ _ h1 h2

theorem slt_tri {x y : ByteArray} (h1 : slt x y = false) (h2 : slt y x = false) : x = y := toList_inj (bytesLess_tri _ _ h1 h2)

/-- Whether a list has a text. -/
def hin (l : List ByteArray) (x : ByteArray) : Bool := l.any fun y => decide (y = x)

theorem hin_iff (l : List ByteArray) (x : ByteArray) : hin l x = true ↔ x ∈ l := by
  unfold hin
  simp

theorem hin_not (l : List ByteArray) (x : ByteArray) : ¬ hin l x = true ↔ x ∉ l := not_congr (hin_iff l x)

/-- A text into a rising list, once. -/
def hput : List ByteArray → ByteArray → List ByteArray
  | [], s => [s]
  | x :: r, s => if slt x s = true then x :: hput r s else if x = s then x :: r else s :: x :: r

/-- A list that rises. -/
def Ris (l : List ByteArray) : Prop := l.Pairwise fun a b => slt a b = true

theorem hput_mem : ∀ (l : List ByteArray) (s y : ByteArray), y ∈ hput l s ↔ y = s ∨ y ∈ l
  | [], s, y => by simp [hput]
  | x :: r, s, y => by
    rw [hput]
    split
    · rw [List.mem_cons, hput_mem r s y, List.mem_cons]
      constructor
      · rintro (h | h | h)
        · exact .inr (.inl h)
        · exact .inl h
        · exact .inr (.inr h)
      · rintro (h | h | h)
        · exact .inr (.inl h)
        · exact .inl h
        · exact .inr (.inr h)
    · split
      · rename_i h
        subst h
        simp
      · simp

theorem hput_ris : ∀ (l : List ByteArray) (s : ByteArray), Ris l → Ris (hput l s)
  | [], s, _ => by simp [hput, Ris]
  | x :: r, s, h => by
    have h1 := List.pairwise_cons.1 h
    rw [hput]
    split
    · rename_i hx
      refine List.pairwise_cons.2 ⟨fun y hy => ?_, hput_ris r s h1.2⟩
      rcases (hput_mem r s y).1 hy with rfl | hy
      · exact hx
      · exact h1.1 y hy
    · split
      · exact h
      · rename_i hx hne
        have hsx : slt s x = true := by
          cases hq : slt s x with
          | true => rfl
          | false => exact absurd (slt_tri (by simpa using hx) hq) hne
        refine List.pairwise_cons.2 ⟨fun y hy => ?_, h⟩
        rcases List.mem_cons.1 hy with rfl | hy
        · exact hsx
        · exact slt_trans hsx (h1.1 y hy)

/-- Two lists that rise and have the same texts are the same. -/
theorem ris_ext : ∀ (a b : List ByteArray), Ris a → Ris b → (∀ x, x ∈ a ↔ x ∈ b) → a = b
  | [], [], _, _, _ => rfl
  | [], y :: b, _, _, h => by have := (h y).2 (by simp); simp at this
  | x :: a, [], _, _, h => by have := (h x).1 (by simp); simp at this
  | x :: a, y :: b, ha, hb, h => by
    have h1 := List.pairwise_cons.1 ha
    have h2 := List.pairwise_cons.1 hb
    have hxy : x = y := by
      rcases List.mem_cons.1 ((h x).1 (by simp)) with e | e
      · exact e
      · rcases List.mem_cons.1 ((h y).2 (by simp)) with e2 | e2
        · exact e2.symm
        · have := slt_trans (h2.1 x e) (h1.1 y e2)
          rw [slt_irrefl] at this
          cases this
    subst hxy
    rw [ris_ext a b h1.2 h2.2 (fun z => ?_)]
    constructor
    · intro hz
      rcases List.mem_cons.1 ((h z).1 (by simp [hz])) with rfl | e
      · have := h1.1 z hz
        rw [slt_irrefl] at this
        cases this
      · exact e
    · intro hz
      rcases List.mem_cons.1 ((h z).2 (by simp [hz])) with rfl | e
      · have := h2.1 z hz
        rw [slt_irrefl] at this
        cases this
      · exact e

theorem ris_nodup {l : List ByteArray} (h : Ris l) : l.Nodup := by
  refine List.Pairwise.imp ?_ h
  intro a b hab e
  subst e
  rw [slt_irrefl] at hab
  cases hab

/-- What is come to from some texts on. -/
inductive Rch (next : ByteArray → List ByteArray) (S : List ByteArray) : ByteArray → Prop
  | seed {x : ByteArray} (h : x ∈ S) : Rch next S x
  | step {x y : ByteArray} (h : Rch next S x) (hy : y ∈ next x) : Rch next S y

theorem Rch.least {next : ByteArray → List ByteArray} {S : List ByteArray} {P : ByteArray → Prop} (h0 : ∀ x ∈ S, P x) (h1 : ∀ x, P x → ∀ y ∈ next x, P y) {x : ByteArray} (h : Rch next S x) : P x := by
  induction h with
  | seed h => exact h0 _ h
  | step h hy ih => exact h1 _ ih _ hy

/-- The unit of a path: the first one's place. -/
def hfind (l : List Un) (p : ByteArray) : Option Nat := l.findIdx? fun u => decide (u.path = p)

/-- What a path's unit is. -/
def hunit (l : List Un) (p : ByteArray) : Option Un := l.find? fun u => decide (u.path = p)

theorem hunit_find : ∀ (l : List Un) (p : ByteArray), hunit l p = (hfind l p).bind fun i => l[i]?
  | [], p => by simp [hunit, hfind]
  | u :: l, p => by
    have ih := hunit_find l p
    unfold hunit hfind at *
    rw [List.find?_cons, List.findIdx?_cons]
    by_cases h : u.path = p
    · simp [h]
    · simp only [h, decide_false, Bool.false_eq_true, if_false]
      rw [ih]
      cases List.findIdx? (fun u => decide (u.path = p)) l <;> simp

/-- What a file imports. -/
def hdeps (l : List Un) (p : ByteArray) : List ByteArray := match hunit l p with | some u => u.deps | none => []

/-- .. and what of that is public. -/
def upubs (u : Un) : List ByteArray := (u.pub.filter fun n : Int => decide (0 ≤ n ∧ n < (u.deps.length : Int))).map fun n : Int => u.deps.getD n.toNat default

def hpubs (l : List Un) (p : ByteArray) : List ByteArray := match hunit l p with | some u => upubs u | none => []

/-- The files that are come to, one by one: what is still to be looked at, what was, what there is. -/
def hbfs (next : ByteArray → List ByteArray) (upd : List ByteArray → ByteArray → List ByteArray) : Nat → List ByteArray → List ByteArray → List ByteArray → List ByteArray
  | 0, _, _, out => out
  | _ + 1, [], _, out => out
  | f + 1, p :: q, done, out => if hin done p = true then hbfs next upd f q done out else hbfs next upd f (q ++ next p) (upd done p) (hput out p)

/-- What is left to be done, at most. -/
def hpot (next : ByteArray → List ByteArray) (l : List Un) (done : List ByteArray) : Nat := (l.map fun u => if hin done u.path = true then 0 else (next u.path).length).sum

theorem hpot_less (next : ByteArray → List ByteArray) (done done' : List ByteArray) (p : ByteArray) (hd : ∀ x, x ∈ done' ↔ x = p ∨ x ∈ done) (hp : p ∉ done) : ∀ (l : List Un), ((∃ u ∈ l, u.path = p) ∨ next p = []) → hpot next l done' + (next p).length ≤ hpot next l done
  | [], h => by
    rcases h with ⟨u, hu, _⟩ | h
    · cases hu
    · simp [hpot, h]
  | u :: l, h => by
    have hmono : ∀ (l : List Un), hpot next l done' ≤ hpot next l done := by
      intro l
      induction l with
      | nil => simp [hpot]
      | cons u l ih =>
        unfold hpot at *
        simp only [List.map_cons, List.sum_cons]
        have : (if hin done' u.path = true then 0 else (next u.path).length) ≤ (if hin done u.path = true then 0 else (next u.path).length) := by
          by_cases h1 : u.path ∈ done
          · rw [if_pos ((hin_iff _ _).2 h1), if_pos ((hin_iff _ _).2 ((hd _).2 (.inr h1)))]; omega
          · rw [if_neg ((hin_not _ _).2 h1)]; split <;> omega
        omega
    by_cases hu : u.path = p
    · have := hmono l
      unfold hpot at *
      simp only [List.map_cons, List.sum_cons]
      rw [if_pos ((hin_iff _ _).2 ((hd _).2 (.inl hu))), if_neg ((hin_not _ _).2 (by rw [hu]; exact hp)), hu]
      omega
    · have ih := hpot_less next done done' p hd hp l (by
        rcases h with ⟨v, hv, hvp⟩ | h
        · rcases List.mem_cons.1 hv with rfl | hv
          · exact absurd hvp hu
          · exact .inl ⟨v, hv, hvp⟩
        · exact .inr h)
      have := hmono [u]
      unfold hpot at *
      simp only [List.map_cons, List.sum_cons, List.map_nil, List.sum_nil] at *
      omega

/-- What has no unit leads nowhere. -/
def Lead (next : ByteArray → List ByteArray) (l : List Un) : Prop := ∀ p, (∃ u ∈ l, u.path = p) ∨ next p = []

theorem hunit_some {l : List Un} {p : ByteArray} {u : Un} (h : hunit l p = some u) : u ∈ l ∧ u.path = p := by
  have h1 := List.find?_some h
  exact ⟨List.mem_of_find?_eq_some h, by simpa using h1⟩

theorem hunit_none {l : List Un} {p : ByteArray} (h : hunit l p = none) : ∀ u ∈ l, u.path ≠ p := by
  intro u hu
  have := List.find?_eq_none.1 h u hu
  simpa using this

theorem lead_deps (l : List Un) : Lead (hdeps l) l := by
  intro p
  unfold hdeps
  cases h : hunit l p with
  | none => right; rfl
  | some u => left; exact ⟨u, (hunit_some h).1, (hunit_some h).2⟩

theorem lead_pubs (l : List Un) : Lead (hpubs l) l := by
  intro p
  unfold hpubs
  cases h : hunit l p with
  | none => right; rfl
  | some u => left; exact ⟨u, (hunit_some h).1, (hunit_some h).2⟩

/-- All that the search answers: what was there, and what is come to. -/
theorem hbfs_spec {next : ByteArray → List ByteArray} {upd : List ByteArray → ByteArray → List ByteArray} {l : List Un} (hu : ∀ d p x, x ∈ upd d p ↔ x = p ∨ x ∈ d) (hl : Lead next l) (S : List ByteArray) (O : List ByteArray) :
    ∀ (f : Nat) (q done out : List ByteArray), q.length + hpot next l done ≤ f → Ris out → (∀ x, x ∈ out ↔ x ∈ O ∨ x ∈ done) → (∀ x ∈ S, x ∈ done ∨ x ∈ q) → (∀ x ∈ done, ∀ y ∈ next x, y ∈ done ∨ y ∈ q) → (∀ x, x ∈ done ∨ x ∈ q → Rch next S x) →
      Ris (hbfs next upd f q done out) ∧ ∀ x, x ∈ hbfs next upd f q done out ↔ x ∈ O ∨ Rch next S x
  | f, [], done, out, hf, hr, ho, h1, h2, h3 => by
    have e : hbfs next upd f [] done out = out := by cases f <;> rfl
    rw [e]
    refine ⟨hr, fun x => (ho x).trans ⟨fun h => h.imp id (fun h => h3 x (.inl h)), fun h => h.imp id (fun h => ?_)⟩⟩
    exact h.least (P := fun x => x ∈ done) (fun x hx => by simpa using h1 x hx) (fun x hx y hy => by simpa using h2 x hx y hy)
  | 0, p :: q, done, out, hf, _, _, _, _, _ => by simp at hf
  | f + 1, p :: q, done, out, hf, hr, ho, h1, h2, h3 => by
    rw [hbfs]
    by_cases hp : p ∈ done
    · rw [if_pos ((hin_iff _ _).2 hp)]
      have mv : ∀ x, x ∈ done ∨ x ∈ p :: q → x ∈ done ∨ x ∈ q := by
        rintro x (h | h)
        · exact .inl h
        · rcases List.mem_cons.1 h with rfl | h
          · exact .inl hp
          · exact .inr h
      refine hbfs_spec hu hl S O f q done out (by simp at hf; omega) hr ho (fun x hx => mv x (h1 x hx)) (fun x hx y hy => mv y (h2 x hx y hy)) (fun x hx => h3 x (hx.imp id (fun h => by simp [h])))
    · rw [if_neg ((hin_not _ _).2 hp)]
      have hpot := hpot_less next done (upd done p) p (fun x => hu _ _ _) hp l (hl p)
      refine hbfs_spec hu hl S O f (q ++ next p) (upd done p) (hput out p) (by simp at hf ⊢; omega) (hput_ris _ _ hr) ?_ ?_ ?_ ?_
      · intro x
        rw [hput_mem, ho, hu]
        constructor
        · rintro (h | h | h)
          · exact .inr (.inl h)
          · exact .inl h
          · exact .inr (.inr h)
        · rintro (h | h | h)
          · exact .inr (.inl h)
          · exact .inl h
          · exact .inr (.inr h)
      · intro x hx
        rw [hu, List.mem_append]
        rcases h1 x hx with h | h
        · exact .inl (.inr h)
        · rcases List.mem_cons.1 h with rfl | h
          · exact .inl (.inl rfl)
          · exact .inr (.inl h)
      · intro x hx y hy
        rw [hu, List.mem_append]
        rcases (hu _ _ _).1 hx with rfl | hx
        · exact .inr (.inr hy)
        · rcases h2 x hx y hy with h | h
          · exact .inl (.inr h)
          · rcases List.mem_cons.1 h with rfl | h
            · exact .inl (.inl rfl)
            · exact .inr (.inl h)
      · intro x hx
        rw [hu, List.mem_append] at hx
        have hpr : Rch next S p := h3 p (.inr (by simp))
        rcases hx with (rfl | h) | h | h
        · exact hpr
        · exact h3 x (.inl h)
        · exact h3 x (.inr (by simp [h]))
        · exact .step hpr h

/-- What a file sees. -/
def hvis (l : List Un) (p : ByteArray) : List ByteArray :=
  match hunit l p with
  | none => []
  | some u => hbfs (hpubs l) (fun d x => d ++ [x]) (u.deps.length + hpot (hpubs l) l []) u.deps [] [p]

/-- What a file comes to. -/
def hclo (l : List Un) (p : ByteArray) : List ByteArray :=
  match hunit l p with
  | none => []
  | some _ => hbfs (hdeps l) hput (1 + hpot (hdeps l) l []) [p] [] []

theorem hvis_spec {l : List Un} {p : ByteArray} {u : Un} (h : hunit l p = some u) : Ris (hvis l p) ∧ ∀ x, x ∈ hvis l p ↔ x = p ∨ Rch (hpubs l) u.deps x := by
  unfold hvis
  rw [h]
  have := hbfs_spec (next := hpubs l) (upd := fun d x => d ++ [x]) (l := l) (fun d p x => by simp [or_comm]) (lead_pubs l) u.deps [p] _ u.deps [] [p] (Nat.le_refl _) (by simp [Ris]) (fun x => by simp) (fun x hx => .inr hx) (fun x hx => by simp at hx) (fun x hx => .seed (by simpa using hx))
  simpa using this

theorem hclo_spec {l : List Un} {p : ByteArray} {u : Un} (h : hunit l p = some u) : Ris (hclo l p) ∧ ∀ x, x ∈ hclo l p ↔ Rch (hdeps l) [p] x := by
  unfold hclo
  rw [h]
  have := hbfs_spec (next := hdeps l) (upd := hput) (l := l) (fun d p x => hput_mem d p x) (lead_deps l) [p] [] (1 + hpot (hdeps l) l []) [p] [] [] (by simp) (by simp [Ris]) (fun x => by simp) (fun x hx => .inr hx) (fun x hx => by simp at hx) (fun x hx => .seed (by simpa using hx))
  simpa using this

theorem hvis_none {l : List Un} {p : ByteArray} (h : hunit l p = none) : hvis l p = [] := by unfold hvis; rw [h]

theorem hclo_none {l : List Un} {p : ByteArray} (h : hunit l p = none) : hclo l p = [] := by unfold hclo; rw [h]

end Go.Proofs.Ytjbppjemilijdaa

/- The order of files that are asked, as a plain function, and what it keeps. -/
namespace Go.Proofs.Ytjbppjemilijdaa
set_option linter.unusedVariables false
set_option linter.unusedSimpArgs false

/-- What is there, what is on the way, the first error. -/
structure Hs where
  out : List ByteArray
  way : List ByteArray
  path : ByteArray
  e : Int

/-- Whether a text stands twice. -/
def hdupA : List ByteArray → List ByteArray → Bool
  | _, [] => false
  | pre, d :: r => hin pre d || hdupA (pre ++ [d]) r

def hdup (l : List ByteArray) : Bool := hdupA [] l

/-- A path and what it imports. -/
def hcome (l : List Un) : Nat → ByteArray → Hs → Hs
  | 0, _, s => s
  | f + 1, p, s =>
    if s.e ≠ 0 ∨ hin s.out p = true then s
    else if hin s.way p = true then { s with path := p, e := 101 }
    else match hunit l p with
      | none => { s with path := p, e := 100 }
      | some u =>
        if hdup u.deps = true then { s with path := p, e := 102 }
        else
          let s2 := u.deps.foldl (fun s d => hcome l f d s) { s with way := s.way ++ [p] }
          if s2.e = 0 then { out := s2.out ++ [p], way := s.way, path := s2.path, e := s2.e } else { s2 with way := s.way }

def hs0 : Hs := ⟨[], [], ⟨#[]⟩, 0⟩

def hrun (l : List Un) (asked : List ByteArray) : Hs := asked.foldl (fun s p => hcome l (l.length + 1) p s) hs0

/-- The order, a path, the error's number. -/
def hord (l : List Un) (asked : List ByteArray) : List ByteArray × ByteArray × Int :=
  if (hrun l asked).e = 0 then ((hrun l asked).out, ⟨#[]⟩, 0) else ([], (hrun l asked).path, (hrun l asked).e)

theorem nodup_le : ∀ (a b : List ByteArray), a.Nodup → (∀ x ∈ a, x ∈ b) → a.length ≤ b.length
  | [], b, _, _ => by simp
  | x :: a, b, hn, hs => by
    have h1 := List.pairwise_cons.1 hn
    have hx : x ∈ b := hs x (by simp)
    obtain ⟨b1, b2, rfl⟩ := List.append_of_mem hx
    have ih := nodup_le a (b1 ++ b2) h1.2 (fun y hy => by
      have h2 := hs y (by simp [hy])
      have hne : y ≠ x := fun e => h1.1 y hy e.symm
      simp only [List.mem_append, List.mem_cons] at h2 ⊢
      rcases h2 with h2 | h2 | h2
      · exact .inl h2
      · exact absurd h2 hne
      · exact .inr h2)
    simp only [List.length_append, List.length_cons] at ih ⊢
    omega

theorem nodup_len {a b : List ByteArray} (ha : a.Nodup) (hb : b.Nodup) (h : ∀ x, x ∈ a ↔ x ∈ b) : a.length = b.length :=
  Nat.le_antisymm (nodup_le a b ha (fun x hx => (h x).1 hx)) (nodup_le b a hb (fun x hx => (h x).2 hx))

/-- What is on the way is of files, each once. -/
def WayOk (l : List Un) (way : List ByteArray) : Prop := way.Nodup ∧ ∀ x ∈ way, ∃ u, hunit l x = some u

theorem WayOk.le {l : List Un} {way : List ByteArray} (h : WayOk l way) : way.length ≤ l.length := by
  have := nodup_le way (l.map Un.path) h.1 (fun x hx => by
    obtain ⟨u, hu⟩ := h.2 x hx
    obtain ⟨h1, h2⟩ := hunit_some hu
    exact List.mem_map.2 ⟨u, h1, h2⟩)
  simpa using this

theorem WayOk.push {l : List Un} {way : List ByteArray} {p : ByteArray} {u : Un} (h : WayOk l way) (hp : p ∉ way) (hu : hunit l p = some u) : WayOk l (way ++ [p]) := by
  refine ⟨?_, fun x hx => ?_⟩
  · rw [List.nodup_append]
    refine ⟨h.1, by simp, fun a ha b hb => ?_⟩
    simp only [List.mem_cons, List.not_mem_nil, or_false] at hb
    subst hb
    exact fun e => hp (e ▸ ha)
  · rcases List.mem_append.1 hx with hx | hx
    · exact h.2 x hx
    · simp only [List.mem_cons, List.not_mem_nil, or_false] at hx
      subst hx
      exact ⟨u, hu⟩

/-- Files that stand in order: each behind all that it imports. -/
inductive Ordd (l : List Un) : List ByteArray → Prop
  | nil : Ordd l []
  | snoc {out : List ByteArray} {p : ByteArray} {u : Un} (h : Ordd l out) (hp : p ∉ out) (hu : hunit l p = some u) (hd : hdup u.deps = false) (hs : ∀ d ∈ u.deps, d ∈ out) : Ordd l (out ++ [p])

/-- What a step keeps. -/
structure Kept (l : List Un) (P : ByteArray → Prop) (s s' : Hs) : Prop where
  way : s'.way = s.way
  more : ∃ r, s'.out = s.out ++ r
  ord : Ordd l s.out → Ordd l s'.out
  reach : ∀ x ∈ s'.out, x ∈ s.out ∨ P x
  err : s'.e = 0 → s.e = 0
  noway : ∀ x ∈ s.way, x ∈ s'.out → x ∈ s.out

theorem Kept.refl (l : List Un) (P : ByteArray → Prop) (s : Hs) : Kept l P s s := ⟨rfl, ⟨[], by simp⟩, id, fun x h => .inl h, id, fun _ _ h => h⟩

theorem Kept.trans {l : List Un} {P : ByteArray → Prop} {s t u : Hs} (h : Kept l P s t) (g : Kept l P t u) : Kept l P s u := by
  refine ⟨g.way.trans h.way, ?_, fun hs => g.ord (h.ord hs), fun x hx => ?_, fun e => h.err (g.err e), fun x hx h2 => h.noway x hx (g.noway x (by rw [h.way]; exact hx) h2)⟩
  · obtain ⟨r1, e1⟩ := h.more
    obtain ⟨r2, e2⟩ := g.more
    exact ⟨r1 ++ r2, by rw [e2, e1, List.append_assoc]⟩
  · rcases g.reach x hx with h1 | h1
    · exact h.reach x h1
    · exact .inr h1

theorem Kept.imp {l : List Un} {P Q : ByteArray → Prop} {s t : Hs} (h : Kept l P s t) (hpq : ∀ x, P x → Q x) : Kept l Q s t :=
  ⟨h.way, h.more, h.ord, fun x hx => (h.reach x hx).imp id (hpq x), h.err, h.noway⟩

theorem hdeps_of {l : List Un} {p : ByteArray} {u : Un} (h : hunit l p = some u) : hdeps l p = u.deps := by unfold hdeps; rw [h]

/-- Paths one by one: what each keeps, all keep. -/
theorem fold_kept {l : List Un} {P : ByteArray → Prop} {g : Hs → ByteArray → Hs} : ∀ (ds : List ByteArray) (s : Hs), (∀ d ∈ ds, ∀ s', s'.way = s.way → Kept l P s' (g s' d) ∧ ((g s' d).e = 0 → d ∈ (g s' d).out)) →
    Kept l P s (ds.foldl g s) ∧ ((ds.foldl g s).e = 0 → ∀ d ∈ ds, d ∈ (ds.foldl g s).out)
  | [], s, _ => ⟨Kept.refl _ _ _, fun _ d h => by simp at h⟩
  | d :: ds, s, h => by
    have h1 := h d (by simp) s rfl
    have h2 := fold_kept ds (g s d) (fun d' hd' s' hs' => h d' (by simp [hd']) s' (hs'.trans h1.1.way))
    rw [List.foldl_cons]
    refine ⟨h1.1.trans h2.1, fun he d' hd' => ?_⟩
    rcases List.mem_cons.1 hd' with rfl | hd'
    · obtain ⟨r, hr⟩ := h2.1.more
      rw [hr]
      exact List.mem_append.2 (.inl (h1.2 (h2.1.err he)))
    · exact h2.2 he d' hd'

theorem rch_up {next : ByteArray → List ByteArray} {p d x : ByteArray} (hd : d ∈ next p) (h : Rch next [d] x) : Rch next [p] x := by
  refine h.least (P := fun x => Rch next [p] x) (fun y hy => ?_) (fun y hy z hz => .step hy hz)
  simp only [List.mem_cons, List.not_mem_nil, or_false] at hy
  subst hy
  exact .step (.seed (by simp)) hd

theorem hcome_kept {l : List Un} : ∀ (f : Nat) (p : ByteArray) (s : Hs), WayOk l s.way → l.length + 1 ≤ f + s.way.length →
    Kept l (Rch (hdeps l) [p]) s (hcome l f p s) ∧ ((hcome l f p s).e = 0 → p ∈ (hcome l f p s).out)
  | 0, p, s, hw, hf => by have := hw.le; omega
  | f + 1, p, s, hw, hf => by
    rw [hcome]
    by_cases h1 : s.e ≠ 0 ∨ hin s.out p = true
    · rw [if_pos h1]
      refine ⟨Kept.refl _ _ _, fun he => ?_⟩
      rcases h1 with h1 | h1
      · exact absurd he h1
      · exact (hin_iff _ _).1 h1
    · rw [if_neg h1]
      have he : s.e = 0 := by
        rcases Classical.em (s.e = 0) with h | h
        · exact h
        · exact absurd (.inl h) h1
      have hno : p ∉ s.out := fun h => h1 (.inr ((hin_iff _ _).2 h))
      by_cases h2 : hin s.way p = true
      · rw [if_pos h2]
        exact ⟨⟨rfl, ⟨[], by simp⟩, id, fun x h => .inl h, (fun h => by cases h), fun _ _ h => h⟩, fun h => by cases h⟩
      · rw [if_neg h2]
        have hpw : p ∉ s.way := (hin_not _ _).1 h2
        cases hu : hunit l p with
        | none => exact ⟨⟨rfl, ⟨[], by simp⟩, id, fun x h => .inl h, (fun h => by cases h), fun _ _ h => h⟩, fun h => by cases h⟩
        | some u =>
          simp only
          by_cases h3 : hdup u.deps = true
          · rw [if_pos h3]
            exact ⟨⟨rfl, ⟨[], by simp⟩, id, fun x h => .inl h, (fun h => by cases h), fun _ _ h => h⟩, fun h => by cases h⟩
          · rw [if_neg h3]
            have hfold := fold_kept (l := l) (P := Rch (hdeps l) [p]) (g := fun s d => hcome l f d s) u.deps { s with way := s.way ++ [p] } (fun d hd s' hs' => by
              have hw' : WayOk l s'.way := by rw [hs']; exact hw.push hpw hu
              have := hcome_kept f d s' hw' (by rw [hs']; simp; omega)
              exact ⟨this.1.imp (fun x hx => rch_up (by rw [hdeps_of hu]; exact hd) hx), this.2⟩)
            generalize hs2 : u.deps.foldl (fun s d => hcome l f d s) { s with way := s.way ++ [p] } = s2 at hfold
            obtain ⟨hk, hm⟩ := hfold
            by_cases h4 : s2.e = 0
            · rw [if_pos h4]
              refine ⟨⟨rfl, ?_, fun ho => ?_, fun x hx => ?_, fun _ => he, fun x hx h2 => ?_⟩, fun _ => by simp⟩
              · obtain ⟨r, hr⟩ := hk.more
                exact ⟨r ++ [p], by simp only; rw [hr, List.append_assoc]⟩
              · by_cases hp2 : p ∈ s2.out
                · exact absurd (hk.noway p (by simp) hp2) hno
                · exact .snoc (hk.ord ho) hp2 hu (by simpa using h3) (hm h4)
              · rcases List.mem_append.1 hx with hx | hx
                · exact hk.reach x hx
                · simp only [List.mem_cons, List.not_mem_nil, or_false] at hx
                  subst hx
                  exact .inr (.seed (by simp))
              · rcases List.mem_append.1 h2 with h2 | h2
                · exact hk.noway x (by simp [hx]) h2
                · simp only [List.mem_cons, List.not_mem_nil, or_false] at h2
                  subst h2
                  exact absurd hx hpw
            · rw [if_neg h4]
              exact ⟨⟨rfl, hk.more, hk.ord, hk.reach, fun h => absurd h h4, fun x hx h2 => hk.noway x (by simp [hx]) h2⟩, fun h => absurd h h4⟩

theorem hrun_kept (l : List Un) (asked : List ByteArray) : (hrun l asked).way = [] ∧ Ordd l (hrun l asked).out ∧ (∀ x ∈ (hrun l asked).out, ∃ p ∈ asked, Rch (hdeps l) [p] x) ∧ ((hrun l asked).e = 0 → ∀ p ∈ asked, p ∈ (hrun l asked).out) := by
  have h := fold_kept (l := l) (P := fun x => ∃ p ∈ asked, Rch (hdeps l) [p] x) (g := fun s p => hcome l (l.length + 1) p s) asked hs0 (fun d hd s' hs' => by
    have := hcome_kept (l := l) (l.length + 1) d s' (by rw [hs']; exact ⟨List.nodup_nil, fun x hx => by simp [hs0] at hx⟩) (by omega)
    exact ⟨this.1.imp (fun x hx => ⟨d, hd, hx⟩), this.2⟩)
  refine ⟨h.1.way, h.1.ord .nil, fun x hx => ?_, h.2⟩
  rcases h.1.reach x hx with h2 | h2
  · simp [hs0] at h2
  · exact h2

theorem Ordd.nodup {l : List Un} {out : List ByteArray} (h : Ordd l out) : out.Nodup := by
  induction h with
  | nil => simp
  | @snoc out p u h hp hu hd hs ih =>
    rw [List.nodup_append]
    refine ⟨ih, by simp, fun a ha b hb => ?_⟩
    simp only [List.mem_cons, List.not_mem_nil, or_false] at hb
    subst hb
    exact fun e => hp (e ▸ ha)

theorem Ordd.closed {l : List Un} {out : List ByteArray} (h : Ordd l out) : ∀ x ∈ out, ∀ y ∈ hdeps l x, y ∈ out := by
  induction h with
  | nil => intro x hx; simp at hx
  | @snoc out p u h hp hu hd hs ih =>
    intro x hx y hy
    rcases List.mem_append.1 hx with hx | hx
    · exact List.mem_append.2 (.inl (ih x hx y hy))
    · simp only [List.mem_cons, List.not_mem_nil, or_false] at hx
      subst hx
      rw [hdeps_of hu] at hy
      exact List.mem_append.2 (.inl (hs y hy))

/-- What stands at a place: its unit, and all that it imports ahead of it. -/
theorem Ordd.at {l : List Un} {out : List ByteArray} (h : Ordd l out) : ∀ (i : Nat) (p : ByteArray), out[i]? = some p → ∃ u, hunit l p = some u ∧ hdup u.deps = false ∧ ∀ d ∈ u.deps, d ∈ out.take i := by
  induction h with
  | nil => intro i p h; simp at h
  | @snoc out p u h hp hu hd hs ih =>
    intro i x hi
    rcases Nat.lt_or_ge i out.length with hlt | hge
    · rw [List.getElem?_append_left hlt] at hi
      obtain ⟨u', h1, h2, h3⟩ := ih i x hi
      refine ⟨u', h1, h2, fun d hd => ?_⟩
      rw [List.take_append_of_le_length (by omega)]
      exact h3 d hd
    · rw [List.getElem?_append_right hge] at hi
      have hi0 : i - out.length = 0 := by
        rcases Nat.eq_zero_or_pos (i - out.length) with h0 | h0
        · exact h0
        · rw [List.getElem?_eq_none (by simp; omega)] at hi; cases hi
      rw [hi0] at hi
      simp at hi
      subst hi
      refine ⟨u, hu, hd, fun d hdd => ?_⟩
      have : i = out.length := by omega
      subst this
      simp [hs d hdd]

/-- With no error: just what the asked ones come to. -/
theorem hord_mem {l : List Un} {asked : List ByteArray} (h : (hrun l asked).e = 0) (x : ByteArray) : x ∈ (hrun l asked).out ↔ ∃ p ∈ asked, Rch (hdeps l) [p] x := by
  obtain ⟨_, h2, h3, h4⟩ := hrun_kept l asked
  refine ⟨h3 x, fun ⟨p, hp, hr⟩ => ?_⟩
  refine hr.least (P := fun x => x ∈ (hrun l asked).out) (fun y hy => ?_) (fun y hy z hz => h2.closed y hy z hz)
  simp only [List.mem_cons, List.not_mem_nil, or_false] at hy
  subst hy
  exact h4 h y hp

/-- The closures of all that is asked, put together. -/
def hwant (l : List Un) (asked : List ByteArray) : List ByteArray := asked.foldl (fun w s => (hclo l s).foldl hput w) []

theorem foldl_put : ∀ (xs w : List ByteArray), Ris w → Ris (xs.foldl hput w) ∧ ∀ x, x ∈ xs.foldl hput w ↔ x ∈ w ∨ x ∈ xs
  | [], w, h => ⟨h, fun x => by simp⟩
  | y :: xs, w, h => by
    have ih := foldl_put xs (hput w y) (hput_ris _ _ h)
    rw [List.foldl_cons]
    refine ⟨ih.1, fun x => ?_⟩
    rw [ih.2, hput_mem, List.mem_cons]
    constructor
    · rintro ((h | h) | h)
      · exact .inr (.inl h)
      · exact .inl h
      · exact .inr (.inr h)
    · rintro (h | h | h)
      · exact .inl (.inr h)
      · exact .inl (.inl h)
      · exact .inr h

theorem hwant_spec (l : List Un) : ∀ (asked w : List ByteArray), Ris w → Ris (asked.foldl (fun w s => (hclo l s).foldl hput w) w) ∧ ∀ x, x ∈ asked.foldl (fun w s => (hclo l s).foldl hput w) w ↔ x ∈ w ∨ ∃ p ∈ asked, x ∈ hclo l p
  | [], w, h => ⟨h, fun x => by simp⟩
  | y :: xs, w, h => by
    have h1 := foldl_put (hclo l y) w h
    have ih := hwant_spec l xs _ h1.1
    rw [List.foldl_cons]
    refine ⟨ih.1, fun x => ?_⟩
    rw [ih.2, h1.2]
    constructor
    · rintro ((h | h) | ⟨p, hp, h⟩)
      · exact .inl h
      · exact .inr ⟨y, by simp, h⟩
      · exact .inr ⟨p, by simp [hp], h⟩
    · rintro (h | ⟨p, hp, h⟩)
      · exact .inl (.inl h)
      · rcases List.mem_cons.1 hp with rfl | hp
        · exact .inl (.inr h)
        · exact .inr ⟨p, hp, h⟩

theorem hwant_mem {l : List Un} {asked : List ByteArray} (h : (hrun l asked).e = 0) : (∀ x, x ∈ (hrun l asked).out ↔ x ∈ hwant l asked) ∧ (hrun l asked).out.length = (hwant l asked).length := by
  have hs := hwant_spec l asked [] (by simp [Ris])
  obtain ⟨_, h2, _, h4⟩ := hrun_kept l asked
  have hm : ∀ x, x ∈ (hrun l asked).out ↔ x ∈ hwant l asked := by
    intro x
    rw [hord_mem h]
    unfold hwant
    rw [hs.2]
    simp only [List.not_mem_nil, false_or]
    refine exists_congr fun p => and_congr_right fun hp => ?_
    obtain ⟨i, hi⟩ := List.getElem?_of_mem (h4 h p hp)
    obtain ⟨u, hu, _⟩ := h2.at i p hi
    exact ((hclo_spec hu).2 x).symm
  exact ⟨hm, nodup_len h2.nodup (ris_nodup hs.1) hm⟩

/-- Files that stand in order are in order already. -/
theorem hcome_again {l : List Un} (out : List ByteArray) (p : ByteArray) (u : Un) (pt : ByteArray) (hp : p ∉ out) (hu : hunit l p = some u) (hd : hdup u.deps = false) (hs : ∀ d ∈ u.deps, d ∈ out) (f : Nat) : hcome l (f + 1) p ⟨out, [], pt, 0⟩ = ⟨out ++ [p], [], pt, 0⟩ := by
  have key : ∀ (ds : List ByteArray), (∀ d ∈ ds, d ∈ out) → ds.foldl (fun s d => hcome l f d s) ⟨out, [p], pt, 0⟩ = ⟨out, [p], pt, 0⟩ := by
    intro ds
    induction ds with
    | nil => intro _; rfl
    | cons d ds ih =>
      intro h
      rw [List.foldl_cons]
      have e : hcome l f d ⟨out, [p], pt, 0⟩ = ⟨out, [p], pt, 0⟩ := by
        cases f with
        | zero => rfl
        | succ f => rw [hcome, if_pos (.inr ((hin_iff _ _).2 (h d (by simp))))]
      rw [e]
      exact ih (fun d hd => h d (by simp [hd]))
  rw [hcome, if_neg (by rintro (h | h); exact h rfl; exact hp ((hin_iff _ _).1 h)), if_neg (by simp [hin]), hu]
  simp only [hd, Bool.false_eq_true, if_false, List.nil_append]
  rw [key u.deps hs]
  simp

theorem hrun_again {l : List Un} {out : List ByteArray} (h : Ordd l out) : hrun l out = ⟨out, [], ⟨#[]⟩, 0⟩ := by
  unfold hrun
  induction h with
  | nil => rfl
  | @snoc out p u h hp hu hd hs ih =>
    rw [List.foldl_append, ih]
    exact hcome_again out p u _ hp hu hd hs l.length

theorem hord_again {l : List Un} {asked : List ByteArray} (h : (hrun l asked).e = 0) : hord l (hrun l asked).out = ((hrun l asked).out, ⟨#[]⟩, 0) := by
  unfold hord
  rw [hrun_again (hrun_kept l asked).2.1]
  simp

/-- A file comes to all that it sees. -/
theorem hvis_clo {l : List Un} {p : ByteArray} : (∀ x ∈ hvis l p, x ∈ hclo l p) ∧ ((hvis l p).length = 0 ↔ (hclo l p).length = 0) ∧ ((hvis l p).length ≠ 0 → p ∈ hvis l p) := by
  cases hu : hunit l p with
  | none =>
    rw [hvis_none hu, hclo_none hu]
    simp
  | some u =>
    have hv := hvis_spec hu
    have hc := hclo_spec hu
    have h1 : p ∈ hvis l p := (hv.2 p).2 (.inl rfl)
    have h2 : p ∈ hclo l p := (hc.2 p).2 (.seed (by simp))
    refine ⟨fun x hx => ?_, ?_, fun _ => h1⟩
    · rw [hc.2]
      rcases (hv.2 x).1 hx with rfl | hx
      · exact .seed (by simp)
      · refine hx.least (P := fun x => Rch (hdeps l) [p] x) (fun y hy => Rch.step (x := p) (.seed (by simp)) (by rw [hdeps_of hu]; exact hy)) (fun y hy z hz => .step hy ?_)
        unfold hpubs at hz
        unfold hdeps
        cases hy2 : hunit l y with
        | none => rw [hy2] at hz; cases hz
        | some v =>
          rw [hy2] at hz
          simp only [upubs, List.mem_map, List.mem_filter, decide_eq_true_eq] at hz ⊢
          obtain ⟨n, ⟨_, hn0, hn1⟩, rfl⟩ := hz
          rw [List.getD_eq_getElem?_getD, List.getElem?_eq_getElem (by omega)]
          simp
    · constructor
      · intro h
        rw [List.eq_nil_of_length_eq_zero h] at h1
        simp at h1
      · intro h
        rw [List.eq_nil_of_length_eq_zero h] at h2
        simp at h2

end Go.Proofs.Ytjbppjemilijdaa

/- Lists of texts, of numbers and of units in memory. -/
namespace Go.Proofs.Ytjbppjemilijdaa
open Go.RowKit
set_option linter.unusedVariables false
set_option linter.unusedSimpArgs false

/-- The slice at a, of len texts, holds zs in the world w. -/
structure Sb (w : World) (a : Option Addr) (len cap : Nat) (zs : List ByteArray) : Prop where
  hlen : zs.length = len
  h63 : (len : Int) ≤ 9223372036854775807
  hcap : len ≤ cap
  hnil : a = none → cap = 0
  hmem : 0 < len → ∃ b off, a = some ⟨b, off, none⟩ ∧ b < w.heap.size ∧ ∀ (i : Nat) (z : ByteArray), zs[i]? = some z → w.cell? ⟨b, off + i, none⟩ = some (.string z)

theorem Sb.below {w w' : World} {a : Option Addr} {len cap : Nat} {zs : List ByteArray} (h : Sb w a len cap zs) (hb : Below w.heap.size w w') : Sb w' a len cap zs := by
  refine ⟨h.hlen, h.h63, h.hcap, h.hnil, fun hp => ?_⟩
  obtain ⟨b, off, h1, hlt, hc⟩ := h.hmem hp
  exact ⟨b, off, h1, Nat.lt_of_lt_of_le hlt hb.size, fun i z hi => (hb.cell hlt).trans (hc i z hi)⟩

/-- The slice at a, of len numbers, holds zs in the world w. -/
structure Sn (w : World) (a : Option Addr) (len cap : Nat) (zs : List Int) : Prop where
  hlen : zs.length = len
  h63 : (len : Int) ≤ 9223372036854775807
  hcap : len ≤ cap
  hnil : a = none → cap = 0
  hbd : ∀ z ∈ zs, -9223372036854775808 ≤ z ∧ z ≤ 9223372036854775807
  hmem : 0 < len → ∃ b off, a = some ⟨b, off, none⟩ ∧ b < w.heap.size ∧ ∀ (i : Nat) (z : Int), zs[i]? = some z → w.cell? ⟨b, off + i, none⟩ = some (.int .i64 z)

theorem Sn.below {w w' : World} {a : Option Addr} {len cap : Nat} {zs : List Int} (h : Sn w a len cap zs) (hb : Below w.heap.size w w') : Sn w' a len cap zs := by
  refine ⟨h.hlen, h.h63, h.hcap, h.hnil, h.hbd, fun hp => ?_⟩
  obtain ⟨b, off, h1, hlt, hc⟩ := h.hmem hp
  exact ⟨b, off, h1, Nat.lt_of_lt_of_le hlt hb.size, fun i z hi => (hb.cell hlt).trans (hc i z hi)⟩

/-- A unit, and where its lists lie. -/
structure Um where
  path : ByteArray
  da : Option Addr
  dc : Nat
  deps : List ByteArray
  pa : Option Addr
  pc : Nat
  pub : List Int

def Um.un (u : Um) : Un := ⟨u.path, u.deps, u.pub⟩

def Um.cells (u : Um) : List Value := [.string u.path, .slice u.da u.deps.length u.dc, .slice u.pa u.pub.length u.pc]

/-- The slice at a, of units, holds us in the world w. -/
structure Ul (w : World) (a : Option Addr) (len cap : Nat) (us : List Um) : Prop where
  hlen : us.length = len
  h63 : (len : Int) ≤ 9223372036854775807
  hcap : len ≤ cap
  hnil : a = none → cap = 0
  hmem : 0 < len → ∃ b off, a = some ⟨b, off, none⟩ ∧ b < w.heap.size ∧ ∀ (i : Nat) (u : Um), us[i]? = some u → ∀ (j : Nat) (v : Value), u.cells[j]? = some v → w.cell? ⟨b, off + i * 3 + j, none⟩ = some v
  hall : ∀ (i : Nat) (u : Um), us[i]? = some u → Sb w u.da u.deps.length u.dc u.deps ∧ Sn w u.pa u.pub.length u.pc u.pub

theorem Ul.below {w w' : World} {a : Option Addr} {len cap : Nat} {us : List Um} (h : Ul w a len cap us) (hb : Below w.heap.size w w') : Ul w' a len cap us := by
  refine ⟨h.hlen, h.h63, h.hcap, h.hnil, fun hp => ?_, fun i u hi => ⟨(h.hall i u hi).1.below hb, (h.hall i u hi).2.below hb⟩⟩
  obtain ⟨b, off, h1, hlt, hc⟩ := h.hmem hp
  exact ⟨b, off, h1, Nat.lt_of_lt_of_le hlt hb.size, fun i u hi j v hj => (hb.cell hlt).trans (hc i u hi j v hj)⟩

theorem unit_cells {w : World} {b off k : Nat} {us : List Um} {u : Um} (hc : ∀ (i : Nat) (u : Um), us[i]? = some u → ∀ (j : Nat) (v : Value), u.cells[j]? = some v → w.cell? ⟨b, off + i * 3 + j, none⟩ = some v) (hk : us[k]? = some u) :
    w.cell? ⟨b, off + k * 3, none⟩ = some (.string u.path) ∧ w.cell? ⟨b, off + k * 3 + 1, none⟩ = some (.slice u.da u.deps.length u.dc) ∧ w.cell? ⟨b, off + k * 3 + 2, none⟩ = some (.slice u.pa u.pub.length u.pc) :=
  ⟨hc k u hk 0 _ rfl, hc k u hk 1 _ rfl, hc k u hk 2 _ rfl⟩

/-- The call's own list of texts. -/
def Sw (w : World) (base : Nat) (v : Value) (zs : List ByteArray) : Prop := w.ownsRow base 9 1 v zs.length (zs.map Value.string)

theorem Sw.nil (w : World) (base : Nat) : Sw w base (.slice none 0 0) [] := World.ownsRow_nil _ _ _ _

theorem Sw.below {w w' : World} {base : Nat} {v : Value} {zs : List ByteArray} (h : Sw w base v zs) (hb : Below w.heap.size w w') : Sw w' base v zs := own_below h hb

theorem Sw.base {w : World} {base base' : Nat} {v : Value} {zs : List ByteArray} (h : Sw w base v zs) (hb : base' ≤ base) : Sw w base' v zs := own_base h hb

theorem Sw.slice {w : World} {base : Nat} {v : Value} {zs : List ByteArray} (h : Sw w base v zs) : ∃ a c, v = .slice a zs.length c := own_slice h

theorem Sb.of_own {w : World} {base : Nat} {a : Option Addr} {len cap : Nat} {zs : List ByteArray} (h : Sw w base (.slice a len cap) zs) : Sb w a len cap zs := by
  rcases h.2 with ⟨he, hn⟩ | ⟨g, c, cur, he, hg, hh, h1, h2, h3, h4⟩
  · simp at he
    obtain ⟨rfl, rfl, rfl⟩ := he
    exact ⟨hn, by omega, Nat.le_refl _, fun _ => rfl, fun h => absurd h (by omega)⟩
  · simp at he
    obtain ⟨rfl, rfl, rfl⟩ := he
    refine ⟨rfl, by unfold maxLen at h2; omega, h1, (fun h => by simp at h), fun _ => ⟨g, 0, rfl, (h.lt g rfl).2, fun i z hi => ?_⟩⟩
    have hil : i < zs.length := (List.getElem?_eq_some_iff.1 hi).1
    have := h.cellAt i (by omega)
    rw [Nat.zero_add, this]
    simp [hi]

theorem Try.infoStr2 : (Try.prog.info? 9).map (fun i => (i.zero, i.size, i.bytes)) = some (some (.string { data := #[] }), 1, 16) := by kernel_rfl

theorem wpList_append_sw {w : World} {ops : Array Oper} {rest : List Oper} {o : Oper} {f : Act} {Q : Exit → Act → World → Prop} (hgd : o.guard = none) (s x : Operand)
    (ho : o.op = .call { callee := .builtin .append, args := #[s, x], argTypes := #[27, 27] }) (base : Nat) (v : Value) (zs : List ByteArray) (z : ByteArray) (b cap : Nat)
    (hs : f.eval s = v) (hx : f.eval x = .slice (some ⟨b, 0, none⟩) 1 cap) (hown : Sw w base v zs) (hc : w.cell? ⟨b, 0, none⟩ = some (.string z)) (hn : zs.length + 1 ≤ 1000000) (hbase : base ≤ w.heap.size)
    (h : ∀ v' w', Sw w' base v' (zs ++ [z]) → w.grownBy w' v.ownBlock → (v'.ownBlock = v.ownBlock ∨ v'.ownBlock = some w.heap.size) → wpList Try.prog ops Q rest (f.put o.dst v') w') : wpList Try.prog ops Q (o :: rest) f w := by
  refine wpList_plain hgd fun K hK => ?_
  obtain ⟨i0, hi, hz0, hz1, hz2⟩ := info_parts Try.infoStr2
  obtain ⟨v', w', hrun, h1, h2, _, h3⟩ := run_append_own_at (P := Try.prog) w base 27 o.type 9 i0 _ 1 16 Try.underlying27 hi hz0 hz1 hz2 rfl (by decide) v zs.length _ hown ⟨b, 0, none⟩ 1 cap [.string z] rfl
    (fun j u hj => by
      match j, hj with
      | 0, hj => simp at hj; subst hj; simpa [Addr.add] using hc)
    (fun u hu => by simp at hu; subst hu; rfl) (by unfold maxLen; omega) (by omega) hbase
  unfold Oper.wp
  simp [execOp, ho, resolve, invoke, builtin, hs, hx, hrun, Result.andThen]
  exact hK _ _ (h v' w' (by unfold Sw; simpa using h1) h2 h3)

theorem text_cell (W : World) (s : ByteArray) : (W.alloc (.cells #[.string s] 9)).cell? ⟨W.heap.size, 0, none⟩ = some (.string s) := by
  rw [World.cell?_alloc_new]; rfl

theorem text_eq (x y : ByteArray) : (x.toList == y.toList) = decide (x = y) := by
  by_cases h : x = y
  · subst h; simp
  · have : x.toList ≠ y.toList := fun e => h (toList_inj e)
    simp [h, this]

end Go.Proofs.Ytjbppjemilijdaa
