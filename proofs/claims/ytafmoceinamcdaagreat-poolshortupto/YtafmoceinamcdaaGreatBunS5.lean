/- Put together by a program out of these texts of mine: VFile, VThen, VPut, VPt. -/
import Derived.Deep.DeepCutAuto
import Derived.Test.YtafmoceinamcdaaGreatBunS2
import Derived.Test.YtafmoceinamcdaaGreatBunS3
import Derived.Test.YtafmoceinamcdaaGreatBunS4

namespace Go.Proofs.YtafmoceinamcdaaGreat
open Go.RowKit
set_option linter.unusedVariables false
set_option linter.unusedSimpArgs false

theorem file_ret {fn : Func} {R : Ending → World → Prop} {a : Act} {w : World} {p : Tmp} (h : fn.results = #[.cell p 62]) (gb : Nat) (cs : Array Value) (hs : cs.size = 11) (hp : a.tmps.getD p undef = .pointer (some ⟨gb, 0, none⟩)) (hg : Ob w gb cs 62) (hd : a.defers = []) (hR : R (.returned (.agg cs)) w) : bodyPost Tryz.prog fn R .ret a w := by
  refine bodyPost_ret (v := .agg cs) ?_ hd hR
  have hp' : a.tmps[p]?.getD undef = .pointer (some ⟨gb, 0, none⟩) := by simpa using hp
  have hsz : (Tryz.prog.info? 62).map (·.size) = some 11 := by kernel_rfl
  have hl := run_loadVar_row (P := Tryz.prog) w gb 62 62 cs (0, 0) _ hg.eq Tryz.underlying62 rfl (hsz.trans (by rw [hs]))
  simp [results, h, hp', asAddr, hl]

theorem msg_ret {fn : Func} {R : Ending → World → Prop} {a : Act} {w : World} {p : Tmp} (h : fn.results = #[.cell p 40]) (gb : Nat) (cs : Array Value) (hs : cs.size = 11) (hp : a.tmps.getD p undef = .pointer (some ⟨gb, 0, none⟩)) (hg : Ob w gb cs 40) (hd : a.defers = []) (hR : R (.returned (.agg cs)) w) : bodyPost Tryz.prog fn R .ret a w := by
  refine bodyPost_ret (v := .agg cs) ?_ hd hR
  have hp' : a.tmps[p]?.getD undef = .pointer (some ⟨gb, 0, none⟩) := by simpa using hp
  have hsz : (Tryz.prog.info? 40).map (·.size) = some 11 := by kernel_rfl
  have hl := run_loadVar_row (P := Tryz.prog) w gb 40 40 cs (0, 0) _ hg.eq Tryz.underlying40 rfl (hsz.trans (by rw [hs]))
  simp [results, h, hp', asAddr, hl]

theorem set11 {w : World} {b : Nat} {T : TypeId} {y0 y1 y2 y3 y4 y5 y6 y7 y8 y9 y10 : Value} (h : Ob w b #[y0, y1, y2, y3, y4, y5, y6, y7, y8, y9, y10] T) (x0 x1 x2 x3 x4 x5 x6 x7 x8 x9 x10 : Value) :
    Ob (((((((((((w.setCell ⟨b, 0, none⟩ x0).setCell ⟨b, 1, none⟩ x1).setCell ⟨b, 2, none⟩ x2).setCell ⟨b, 3, none⟩ x3).setCell ⟨b, 4, none⟩ x4).setCell ⟨b, 5, none⟩ x5).setCell ⟨b, 6, none⟩ x6).setCell ⟨b, 7, none⟩ x7).setCell ⟨b, 8, none⟩ x8).setCell ⟨b, 9, none⟩ x9).setCell ⟨b, 10, none⟩ x10) b #[x0, x1, x2, x3, x4, x5, x6, x7, x8, x9, x10] T := by
  have := ((((((((((h.set 0 x0).set 1 x1).set 2 x2).set 3 x3).set 4 x4).set 5 x5).set 6 x6).set 7 x7).set 8 x8).set 9 x9).set 10 x10
  simpa using this

theorem below11 {n : Nat} {W w : World} (b : Nat) (hb : n ≤ b) (h : Below n W w) (x0 x1 x2 x3 x4 x5 x6 x7 x8 x9 x10 : Value) :
    Below n W (((((((((((w.setCell ⟨b, 0, none⟩ x0).setCell ⟨b, 1, none⟩ x1).setCell ⟨b, 2, none⟩ x2).setCell ⟨b, 3, none⟩ x3).setCell ⟨b, 4, none⟩ x4).setCell ⟨b, 5, none⟩ x5).setCell ⟨b, 6, none⟩ x6).setCell ⟨b, 7, none⟩ x7).setCell ⟨b, 8, none⟩ x8).setCell ⟨b, 9, none⟩ x9).setCell ⟨b, 10, none⟩ x10) :=
  (((((((((((h.setCell (p := ⟨b, 0, none⟩) hb _).setCell (p := ⟨b, 1, none⟩) hb _).setCell (p := ⟨b, 2, none⟩) hb _).setCell (p := ⟨b, 3, none⟩) hb _).setCell (p := ⟨b, 4, none⟩) hb _).setCell (p := ⟨b, 5, none⟩) hb _).setCell (p := ⟨b, 6, none⟩) hb _).setCell (p := ⟨b, 7, none⟩) hb _).setCell (p := ⟨b, 8, none⟩) hb _).setCell (p := ⟨b, 9, none⟩) hb _).setCell (p := ⟨b, 10, none⟩) hb _)

set_option maxRecDepth 100000 in
set_option maxHeartbeats 4000000 in
theorem pwfile0 (N K Y : ByteArray) (hN : N.size ≤ 1000000) (hK : K.size ≤ 1000000) (hY : Y.size ≤ 1000000) (vm : Value) (hvm : ∃ a n c, vm = .slice a n c) (W : World) :
    Calls Tryz.prog 51 #[.agg #[.int .i64 0, .bool false], .agg #[.string N, .string K, .slice none 0 0, .slice none 0 0, vm, .slice none 0 0, .slice none 0 0, .slice none 0 0, .string Y, .slice none 0 0, .slice none 0 0]] W fun e W' => e = .returned (.agg #[.string N, .string K, .slice none 0 0, .slice none 0 0, .slice none 0 0, .slice none 0 0, .slice none 0 0, .slice none 0 0, .string Y, .slice none 0 0, .slice none 0 0]) ∧ Below W.heap.size W W' := by
  obtain ⟨ma, mn, mc, rfl⟩ := hvm
  obtain ⟨w3, hw3⟩ : ∃ w3, w3 = ((W.alloc (.cells #[.int .i64 0, .bool false] 100)).alloc (.cells #[.string N, .string K, .slice none 0 0, .slice none 0 0, .slice ma mn mc, .slice none 0 0, .slice none 0 0, .slice none 0 0, .string Y, .slice none 0 0, .slice none 0 0] 62)).alloc (.cells #[.string ⟨#[]⟩, .string ⟨#[]⟩, .slice none 0 0, .slice none 0 0, .slice none 0 0, .slice none 0 0, .slice none 0 0, .slice none 0 0, .string ⟨#[]⟩, .slice none 0 0, .slice none 0 0] 62) := ⟨_, rfl⟩
  have o0 : Ob w3 W.heap.size #[.int .i64 0, .bool false] 100 := by rw [hw3]; exact ((Ob.new W _ _).alloc _).alloc _
  have o1 : Ob w3 (W.heap.size + 1) #[.string N, .string K, .slice none 0 0, .slice none 0 0, .slice ma mn mc, .slice none 0 0, .slice none 0 0, .slice none 0 0, .string Y, .slice none 0 0, .slice none 0 0] 62 := by
    rw [hw3]
    have := (Ob.new (W.alloc (.cells #[.int .i64 0, .bool false] 100)) #[.string N, .string K, .slice none 0 0, .slice none 0 0, .slice ma mn mc, .slice none 0 0, .slice none 0 0, .slice none 0 0, .string Y, .slice none 0 0, .slice none 0 0] 62).alloc (.cells #[.string ⟨#[]⟩, .string ⟨#[]⟩, .slice none 0 0, .slice none 0 0, .slice none 0 0, .slice none 0 0, .slice none 0 0, .slice none 0 0, .string ⟨#[]⟩, .slice none 0 0, .slice none 0 0] 62)
    simpa using this
  have o2 : Ob w3 (W.heap.size + 1 + 1) #[.string ⟨#[]⟩, .string ⟨#[]⟩, .slice none 0 0, .slice none 0 0, .slice none 0 0, .slice none 0 0, .slice none 0 0, .slice none 0 0, .string ⟨#[]⟩, .slice none 0 0, .slice none 0 0] 62 := by
    rw [hw3]
    have := Ob.new ((W.alloc (.cells #[.int .i64 0, .bool false] 100)).alloc (.cells #[.string N, .string K, .slice none 0 0, .slice none 0 0, .slice ma mn mc, .slice none 0 0, .slice none 0 0, .slice none 0 0, .string Y, .slice none 0 0, .slice none 0 0] 62)) #[.string ⟨#[]⟩, .string ⟨#[]⟩, .slice none 0 0, .slice none 0 0, .slice none 0 0, .slice none 0 0, .slice none 0 0, .slice none 0 0, .string ⟨#[]⟩, .slice none 0 0, .slice none 0 0] 62
    simpa using this
  have hb3 : Below W.heap.size W w3 := by rw [hw3]; exact (((Below.refl _ W).alloc (Nat.le_refl _) _).alloc (by simp) _).alloc (by simp; omega) _
  have QN : Hid _ := fun V => pnclone_any N V hN
  have QK : Hid _ := fun V => pnclone_any K V hK
  have QY : Hid _ := fun V => pnclone_any Y V hY
  have a0 := fun x : Ext w3 => x.cell (p := ⟨W.heap.size, 0, none⟩) o0.lt (o0.cell 0 rfl)
  have a1 := fun x : Ext w3 => x.cell (p := ⟨W.heap.size, 1, none⟩) o0.lt (o0.cell 1 rfl)
  have b0 := fun x : Ext w3 => x.cell (p := ⟨W.heap.size + 1, 0, none⟩) o1.lt (o1.cell 0 rfl)
  have b1 := fun x : Ext w3 => x.cell (p := ⟨W.heap.size + 1, 1, none⟩) o1.lt (o1.cell 1 rfl)
  have b2 := fun x : Ext w3 => x.cell (p := ⟨W.heap.size + 1, 2, none⟩) o1.lt (o1.cell 2 rfl)
  have b3 := fun x : Ext w3 => x.cell (p := ⟨W.heap.size + 1, 3, none⟩) o1.lt (o1.cell 3 rfl)
  have b4 := fun x : Ext w3 => x.cell (p := ⟨W.heap.size + 1, 4, none⟩) o1.lt (o1.cell 4 rfl)
  have b5 := fun x : Ext w3 => x.cell (p := ⟨W.heap.size + 1, 5, none⟩) o1.lt (o1.cell 5 rfl)
  have b6 := fun x : Ext w3 => x.cell (p := ⟨W.heap.size + 1, 6, none⟩) o1.lt (o1.cell 6 rfl)
  have b7 := fun x : Ext w3 => x.cell (p := ⟨W.heap.size + 1, 7, none⟩) o1.lt (o1.cell 7 rfl)
  have b8 := fun x : Ext w3 => x.cell (p := ⟨W.heap.size + 1, 8, none⟩) o1.lt (o1.cell 8 rfl)
  have b9 := fun x : Ext w3 => x.cell (p := ⟨W.heap.size + 1, 9, none⟩) o1.lt (o1.cell 9 rfl)
  have b10 := fun x : Ext w3 => x.cell (p := ⟨W.heap.size + 1, 10, none⟩) o1.lt (o1.cell 10 rfl)
  have O2 : Hid _ := o2
  have HB3 : Hid _ := hb3
  have HW3 : Hid _ := hw3
  clear o0 o1 o2 hb3 hw3 hN hK hY
  go_enter Tryz.func51, Tryz.ntmps51
  go_upto_region 1 with fail
  rw [← HW3.out]
  clear HW3
  refine wp_region_elast w3 (Below.refl _ _) rfl (by kernel_rfl) (by kernel_rfl) (by kernel_rfl) (by kernel_rfl) ?_
  simp only [List.dropLast]
  repeat (go_big_quiet_step (first
    | (go_at_call 45; first | exact Ext.call (fun V hV => QN.out V) _ | exact Ext.call (fun V hV => QK.out V) _ | exact Ext.call (fun V hV => QY.out V) _)
    | (go_at_call 36; exact Ext.call_same (fun V => ptexts0 _ _ V) _)
    | (go_at_call 63; exact Ext.call_same (fun V => pplaces0 _ _ V) _)
    | (go_at_call 79; exact Ext.call (fun V hV => pmsgs0 _ V) _)
    | (go_at_call 80; exact Ext.call_same (fun V => peach0_enm _ _ _ V) _)
    | (go_at_call 99; exact Ext.call_same (fun V => peach0_srv _ _ _ V) _)
    | (go_at_call 78; exact Ext.call_same (fun V => peach0_fld _ _ _ V) _)
    | (go_at_call 85; exact Ext.call_same (fun V => pbclone0 V) _)
    | (go_at_call 86; exact Ext.call (fun V hV => punknown0 _ V) _)))
  refine wpQuiet_nil ?_
  rintro w5 ⟨⟨_, hb5⟩, rfl⟩ Q' hQ'
  have HQ : Hid _ := hQ'
  have o5 := O2.out.below hb5 O2.out.lt
  obtain ⟨⟨c0, c1, c2, c3, c4, c5, c6, c7, c8, c9, c10⟩, ⟨d0, d1, d2, d3, d4, d5, d6, d7, d8, d9, d10⟩, dl⟩ := ob11 o5
  have O5 : Hid _ := o5
  have HB5 : Hid (Below W.heap.size W w5) := HB3.out.trans (hb5.mono HB3.out.size)
  clear hQ' o5 hb5 a0 a1 b0 b1 b2 b3 b4 b5 b6 b7 b8 b9 b10 HB3 O2 QN QK QY
  go_wp2
  refine HQ.out _ _ ?_
  clear HQ
  go_wp2
  refine file_ret (p := 4) ?_ (W.heap.size + 1 + 1) #[.string N, .string K, .slice none 0 0, .slice none 0 0, .slice none 0 0, .slice none 0 0, .slice none 0 0, .slice none 0 0, .string Y, .slice none 0 0, .slice none 0 0] rfl ?_ (set11 O5.out _ _ _ _ _ _ _ _ _ _ _) ?_ ?_
  · rfl
  · rfl
  · rfl
  · exact ⟨rfl, below11 _ (by omega) HB5.out _ _ _ _ _ _ _ _ _ _ _⟩

def msg0 (N : ByteArray) : Array Value := #[.string N, .slice none 0 0, .slice none 0 0, .slice none 0 0, .slice none 0 0, .slice none 0 0, .slice none 0 0, .slice none 0 0, .slice none 0 0, .slice none 0 0, .slice none 0 0]

set_option maxRecDepth 100000 in
set_option maxHeartbeats 4000000 in
theorem pwmsg0 (N : ByteArray) (hN : N.size ≤ 1000000) (W : World) :
    Calls Tryz.prog 42 #[.agg #[.int .i64 1, .bool false], .agg (msg0 N)] W fun e W' => e = .returned (.agg (msg0 N)) ∧ Below W.heap.size W W' := by
  unfold msg0
  obtain ⟨w3, hw3⟩ : ∃ w3, w3 = (((W.alloc (.cells #[.int .i64 1, .bool false] 100)).alloc (.cells #[.string N, .slice none 0 0, .slice none 0 0, .slice none 0 0, .slice none 0 0, .slice none 0 0, .slice none 0 0, .slice none 0 0, .slice none 0 0, .slice none 0 0, .slice none 0 0] 40)).alloc (.cells #[.string ⟨#[]⟩, .slice none 0 0, .slice none 0 0, .slice none 0 0, .slice none 0 0, .slice none 0 0, .slice none 0 0, .slice none 0 0, .slice none 0 0, .slice none 0 0, .slice none 0 0] 40)).alloc (.cells #[.int .i64 0, .bool false] 100) := ⟨_, rfl⟩
  have o0 : Ob w3 W.heap.size #[.int .i64 1, .bool false] 100 := by rw [hw3]; exact (((Ob.new W _ _).alloc _).alloc _).alloc _
  have o1 : Ob w3 (W.heap.size + 1) #[.string N, .slice none 0 0, .slice none 0 0, .slice none 0 0, .slice none 0 0, .slice none 0 0, .slice none 0 0, .slice none 0 0, .slice none 0 0, .slice none 0 0, .slice none 0 0] 40 := by
    rw [hw3]
    have := ((Ob.new (W.alloc (.cells #[.int .i64 1, .bool false] 100)) #[.string N, .slice none 0 0, .slice none 0 0, .slice none 0 0, .slice none 0 0, .slice none 0 0, .slice none 0 0, .slice none 0 0, .slice none 0 0, .slice none 0 0, .slice none 0 0] 40).alloc (.cells #[.string ⟨#[]⟩, .slice none 0 0, .slice none 0 0, .slice none 0 0, .slice none 0 0, .slice none 0 0, .slice none 0 0, .slice none 0 0, .slice none 0 0, .slice none 0 0, .slice none 0 0] 40)).alloc (.cells #[.int .i64 0, .bool false] 100)
    simpa using this
  have o2 : Ob w3 (W.heap.size + 1 + 1) #[.string ⟨#[]⟩, .slice none 0 0, .slice none 0 0, .slice none 0 0, .slice none 0 0, .slice none 0 0, .slice none 0 0, .slice none 0 0, .slice none 0 0, .slice none 0 0, .slice none 0 0] 40 := by
    rw [hw3]
    have := (Ob.new ((W.alloc (.cells #[.int .i64 1, .bool false] 100)).alloc (.cells #[.string N, .slice none 0 0, .slice none 0 0, .slice none 0 0, .slice none 0 0, .slice none 0 0, .slice none 0 0, .slice none 0 0, .slice none 0 0, .slice none 0 0, .slice none 0 0] 40)) #[.string ⟨#[]⟩, .slice none 0 0, .slice none 0 0, .slice none 0 0, .slice none 0 0, .slice none 0 0, .slice none 0 0, .slice none 0 0, .slice none 0 0, .slice none 0 0, .slice none 0 0] 40).alloc (.cells #[.int .i64 0, .bool false] 100)
    simpa using this
  have o3 : Ob w3 (W.heap.size + 1 + 1 + 1) #[.int .i64 0, .bool false] 100 := by
    rw [hw3]
    have := Ob.new (((W.alloc (.cells #[.int .i64 1, .bool false] 100)).alloc (.cells #[.string N, .slice none 0 0, .slice none 0 0, .slice none 0 0, .slice none 0 0, .slice none 0 0, .slice none 0 0, .slice none 0 0, .slice none 0 0, .slice none 0 0, .slice none 0 0] 40)).alloc (.cells #[.string ⟨#[]⟩, .slice none 0 0, .slice none 0 0, .slice none 0 0, .slice none 0 0, .slice none 0 0, .slice none 0 0, .slice none 0 0, .slice none 0 0, .slice none 0 0, .slice none 0 0] 40)) #[.int .i64 0, .bool false] 100
    simpa using this
  have hb3 : Below W.heap.size W w3 := by rw [hw3]; exact ((((Below.refl _ W).alloc (Nat.le_refl _) _).alloc (by simp) _).alloc (by simp; omega) _).alloc (by simp; omega) _
  have QN : Hid _ := fun V => pnclone_any N V hN
  have a0 := fun x : Ext w3 => x.cell (p := ⟨W.heap.size, 0, none⟩) o0.lt (o0.cell 0 rfl)
  have a1 := fun x : Ext w3 => x.cell (p := ⟨W.heap.size, 1, none⟩) o0.lt (o0.cell 1 rfl)
  have b0 := fun x : Ext w3 => x.cell (p := ⟨W.heap.size + 1, 0, none⟩) o1.lt (o1.cell 0 rfl)
  have b1 := fun x : Ext w3 => x.cell (p := ⟨W.heap.size + 1, 1, none⟩) o1.lt (o1.cell 1 rfl)
  have b2 := fun x : Ext w3 => x.cell (p := ⟨W.heap.size + 1, 2, none⟩) o1.lt (o1.cell 2 rfl)
  have b3 := fun x : Ext w3 => x.cell (p := ⟨W.heap.size + 1, 3, none⟩) o1.lt (o1.cell 3 rfl)
  have b4 := fun x : Ext w3 => x.cell (p := ⟨W.heap.size + 1, 4, none⟩) o1.lt (o1.cell 4 rfl)
  have b5 := fun x : Ext w3 => x.cell (p := ⟨W.heap.size + 1, 5, none⟩) o1.lt (o1.cell 5 rfl)
  have b6 := fun x : Ext w3 => x.cell (p := ⟨W.heap.size + 1, 6, none⟩) o1.lt (o1.cell 6 rfl)
  have b7 := fun x : Ext w3 => x.cell (p := ⟨W.heap.size + 1, 7, none⟩) o1.lt (o1.cell 7 rfl)
  have b8 := fun x : Ext w3 => x.cell (p := ⟨W.heap.size + 1, 8, none⟩) o1.lt (o1.cell 8 rfl)
  have b9 := fun x : Ext w3 => x.cell (p := ⟨W.heap.size + 1, 9, none⟩) o1.lt (o1.cell 9 rfl)
  have b10 := fun x : Ext w3 => x.cell (p := ⟨W.heap.size + 1, 10, none⟩) o1.lt (o1.cell 10 rfl)
  have e0 := fun x : Ext w3 => x.cell (p := ⟨W.heap.size + 1 + 1 + 1, 0, none⟩) o3.lt (o3.cell 0 rfl)
  have e1 := fun x : Ext w3 => x.cell (p := ⟨W.heap.size + 1 + 1 + 1, 1, none⟩) o3.lt (o3.cell 1 rfl)
  have O2 : Hid _ := o2
  have HB3 : Hid _ := hb3
  have HW3 : Hid _ := hw3
  clear o0 o1 o2 o3 hb3 hw3 hN
  go_enter Tryz.func42, Tryz.ntmps42
  go_upto_region 2 with fail
  rw [← HW3.out]
  clear HW3
  refine wp_region_elast w3 (Below.refl _ _) rfl (by kernel_rfl) (by kernel_rfl) (by kernel_rfl) (by kernel_rfl) ?_
  simp only [List.dropLast]
  repeat (go_big_quiet_step (first
    | (go_at_call 45; exact Ext.call (fun V hV => QN.out V) _)
    | (go_at_call 36; exact Ext.call_same (fun V => ptexts0 _ _ V) _)
    | (go_at_call 79; exact Ext.call (fun V hV => pmsgs0 _ V) _)
    | (go_at_call 80; exact Ext.call_same (fun V => peach0_enm _ _ _ V) _)
    | (go_at_call 81; exact Ext.call_same (fun V => peach0_rng _ _ _ V) _)
    | (go_at_call 83; exact Ext.call_same (fun V => peach0_one _ _ _ V) _)
    | (go_at_call 78; exact Ext.call_same (fun V => peach0_fld _ _ _ V) _)
    | (go_at_call 85; exact Ext.call_same (fun V => pbclone0 V) _)
    | (go_at_call 86; exact Ext.call (fun V hV => punknown0 _ V) _)))
  refine wpQuiet_nil ?_
  rintro w5 ⟨⟨_, hb5⟩, rfl⟩ Q' hQ'
  have HQ : Hid _ := hQ'
  have o5 := O2.out.below hb5 O2.out.lt
  obtain ⟨⟨c0, c1, c2, c3, c4, c5, c6, c7, c8, c9, c10⟩, ⟨d0, d1, d2, d3, d4, d5, d6, d7, d8, d9, d10⟩, dl⟩ := ob11 o5
  have O5 : Hid _ := o5
  have HB5 : Hid (Below W.heap.size W w5) := HB3.out.trans (hb5.mono HB3.out.size)
  clear hQ' o5 hb5 a0 a1 b0 b1 b2 b3 b4 b5 b6 b7 b8 b9 b10 e0 e1 HB3 O2 QN
  go_wp2
  refine HQ.out _ _ ?_
  clear HQ
  go_wp2
  refine msg_ret (p := 4) ?_ (W.heap.size + 1 + 1) #[.string N, .slice none 0 0, .slice none 0 0, .slice none 0 0, .slice none 0 0, .slice none 0 0, .slice none 0 0, .slice none 0 0, .slice none 0 0, .slice none 0 0, .slice none 0 0] rfl ?_ (set11 O5.out _ _ _ _ _ _ _ _ _ _ _) ?_ ?_
  · rfl
  · rfl
  · rfl
  · exact ⟨rfl, below11 _ (by omega) HB5.out _ _ _ _ _ _ _ _ _ _ _⟩

theorem wpOp_listP {P : Program} {ops : Array Oper} {Q : Exit → Act → World → Prop} {i : Nat} {K : Act → World → Prop} {a : Act} {w : World} {o : Oper} (ho : ops[i]? = some o)
    (h : ∀ Q' : Exit → Act → World → Prop, (∀ a w, K a w → Q' .normal a w) → (∀ c a w, Q (.panic c) a w → Q' (.panic c) a w) → wpList P ops Q' [o] a w) : wpOp P ops Q i K a w := by
  have h1 := h (fun e a w => match e with | .normal => K a w | e => Q e a w) (fun _ _ h => h) (fun _ _ _ h => h)
  unfold wpOp
  simp only [ho]
  simp only [wpList] at h1
  split
  · rename_i hw
    rw [if_pos hw] at h1
    refine h1.imp (fun h2 => ?_) (fun h2 => ⟨h2.1, h2.2⟩)
    unfold Oper.wp at *
    generalize (execOp a.eval o).run P w = r at *
    cases r with
    | ok n w' =>
      cases n <;> simp only [Oper.upon] at h2 ⊢ <;>
        first
          | exact h2
          | exact Calls.mono h2 (fun e w'' he => by cases e <;> exact he)
    | halt x w' => cases x <;> simp only [Oper.upon] at h2 ⊢ <;> exact h2
  · rename_i hw
    rw [if_neg hw] at h1
    exact h1

section
variable {P : Program} {ops : Array Oper} {md : Region.Mode} {C : World → Prop}

def waitedT (md : Region.Mode) (ops : Array Oper) (z : Nat) : Bool :=
  decide (z < ops.size) && (List.range ops.size).all (fun i => match ops[i]? with
    | some o => o.after.all (fun e => !Region.binds md e || decide (e.on < i))
    | none => false) && (List.range z).all (fun k => (List.range (z + 1)).any (fun i => match ops[i]? with
    | some o => o.after.any (fun e => Region.binds md e && decide (e.on = k))
    | none => false)) && (List.range ops.size).all (fun i => decide (i ≤ z) || match ops[i]? with
    | some o => o.after.any (fun e => Region.binds md e && decide (z ≤ e.on))
    | none => false)

theorem all_listedT {z : Nat} (hw : waitedT md ops z = true) {listed : Array Bool} (h : Dc md ops listed) (hz : z ∈ Region.ready md ops listed) : ∀ k, k < z → listed.getD k true = true := by
  simp only [waitedT, Bool.and_eq_true, decide_eq_true_eq] at hw
  obtain ⟨⟨⟨hsz, hlt⟩, hall⟩, _⟩ := hw
  have key : ∀ d k, k + d = z → d ≠ 0 → listed.getD k true = true := by
    intro d
    induction d using Nat.strongRecOn with
    | _ d ih =>
      intro k hk hd
      have h1 := List.all_eq_true.1 hall k (List.mem_range.2 (by omega))
      obtain ⟨i, hi, h2⟩ := List.any_eq_true.1 h1
      have hi' := List.mem_range.1 hi
      cases ho : ops[i]? with
      | none => rw [ho] at h2; cases h2
      | some o =>
        rw [ho] at h2
        obtain ⟨j, hj, h3⟩ := Array.any_eq_true.1 h2
        rw [Bool.and_eq_true] at h3
        have hon : o.after[j].on = k := of_decide_eq_true h3.2
        have hki : k < i := by
          have h4 := List.all_eq_true.1 hlt i (List.mem_range.2 (by omega))
          rw [ho] at h4
          have h5 := Array.all_eq_true_iff_forall_mem.1 h4 o.after[j] (Array.getElem_mem hj)
          rw [h3.1] at h5
          rw [← hon]
          simpa using h5
        by_cases hiz : i = z
        · subst hiz
          obtain ⟨oz, hoz, _, h5⟩ := ready_true hz
          rw [hoz] at ho
          cases ho
          rw [← hon]
          exact h5 _ (Array.getElem_mem hj) h3.1
        · have h5 := ih (z - i) (by omega) i (by omega) (by omega)
          rw [← hon]
          exact h i o ho h5 _ (Array.getElem_mem hj) h3.1
  intro k hk
  exact key (z - k) k (by omega) (by omega)

theorem first_ready {z : Nat} (hw : waitedT md ops z = true) {listed : Array Bool} (hs : listed.size = ops.size) (hz : listed.getD z true = false) : ∃ k, k ≤ z ∧ k ∈ Region.ready md ops listed ∧ ∀ j, j < k → listed.getD j true = true := by
  simp only [waitedT, Bool.and_eq_true, decide_eq_true_eq] at hw
  obtain ⟨⟨⟨hsz, hlt⟩, _⟩, _⟩ := hw
  have key : ∀ i, i ≤ z → listed.getD i true = false → ∃ k, k ≤ z ∧ k ∈ Region.ready md ops listed ∧ ∀ j, j < k → listed.getD j true = true := by
    intro i
    induction i using Nat.strongRecOn with
    | _ i ih =>
      intro hi hu
      by_cases hall : ∀ j, j < i → listed.getD j true = true
      · have hio : i < ops.size := by omega
        refine ⟨i, hi, mem_ready.2 ⟨hu, ops[i], Array.getElem?_eq_getElem hio, fun e he hb => ?_⟩, hall⟩
        have h4 := List.all_eq_true.1 hlt i (List.mem_range.2 hio)
        rw [Array.getElem?_eq_getElem hio] at h4
        have h5 := Array.all_eq_true_iff_forall_mem.1 h4 e he
        rw [hb] at h5
        have h6 : e.on < i := by simpa using h5
        have := hall e.on h6
        have hl : e.on < listed.size := by omega
        simp [hl] at this ⊢
        exact this
      · obtain ⟨j, hj⟩ := Classical.not_forall.1 hall
        obtain ⟨h1, h2⟩ := Classical.not_imp.1 hj
        exact ih j h1 (by omega) (by simpa using h2)
  exact key z (Nat.le_refl _) hz

def preL (n z : Nat) : Array Bool := (List.replicate z true ++ List.replicate (n - z) false).toArray

theorem wpAny_of_T {z : Nat} (hw : waitedT md ops z = true) {E : Act → Prop} {Q : Exit → Act → World → Prop} (hE : ∀ a w, C w → E a → wpAny P md ops Q (ops.size - z) (preL ops.size z) a w) :
    ∀ (fuel : Nat) (listed : Array Bool) (a : Act) (w : World), C w → listed.size = ops.size → (∀ k, z ≤ k → k < ops.size → listed.getD k true = false) → Dc md ops listed → wpAnyZ P md ops C z E fuel listed a → wpAny P md ops Q (fuel + (ops.size - z)) listed a w
  | 0, listed, a, w, hC, hs, hz, hd, h => by
    have hzs : z < ops.size := by simp only [waitedT, Bool.and_eq_true, decide_eq_true_eq] at hw; exact hw.1.1.1
    obtain ⟨k, hkz, hk, hall⟩ := first_ready hw hs (hz z (Nat.le_refl _) hzs)
    obtain rfl := h.1 k hk
    have e : listed = preL ops.size k := by
      apply Array.ext_getElem?
      intro i
      have e0 : (preL ops.size k)[i]? = (List.replicate k true ++ List.replicate (ops.size - k) false)[i]? := by unfold preL; simp
      rw [e0]
      by_cases hi : i < ops.size
      · have hl : i < listed.size := by omega
        by_cases hik : i < k
        · have := hall i hik
          rw [Array.getD_eq_getD_getElem?, Array.getElem?_eq_getElem hl] at this
          rw [List.getElem?_append_left (by simpa using hik), List.getElem?_replicate, if_pos hik, Array.getElem?_eq_getElem hl]
          simpa using this
        · have := hz i (by omega) hi
          rw [Array.getD_eq_getD_getElem?, Array.getElem?_eq_getElem hl] at this
          rw [List.getElem?_append_right (by simpa using hik), List.length_replicate, List.getElem?_replicate, if_pos (by omega), Array.getElem?_eq_getElem hl]
          simpa using this
      · rw [Array.getElem?_eq_none (by omega), List.getElem?_eq_none (by simp; omega)]
    rw [Nat.zero_add, e]
    exact hE a w hC h.2
  | fuel + 1, listed, a, w, hC, hs, hz, hd, h => by
    have hzs : z < ops.size := by simp only [waitedT, Bool.and_eq_true, decide_eq_true_eq] at hw; exact hw.1.1.1
    rw [Nat.add_right_comm]
    refine ⟨fun h0 => ?_, fun i hi => ?_⟩
    · obtain ⟨k, _, hk, _⟩ := first_ready hw hs (hz z (Nat.le_refl _) hzs)
      rw [h0] at hk
      cases hk
    · have hio : i < ops.size := by obtain ⟨o, ho, _⟩ := ready_true hi; exact (Array.getElem?_eq_some_iff.1 ho).1
      rcases Nat.lt_trichotomy i z with hiz | hiz | hiz
      · exact wpOp_of_qOp hC (fun a' w' hC' h' => wpAny_of_T hw hE fuel _ a' w' hC' (by simpa using hs) (fun k hk hk2 => by rw [getD_set_ne true (by omega)]; exact hz k hk hk2) (hd.set hi hs) h') (h.2 i hi (by omega))
      · subst hiz
        obtain ⟨k, hk, hk2⟩ := h.1
        have := all_listedT hw hd hi k hk
        rw [this] at hk2
        cases hk2
      · exfalso
        have hw4 : (List.range ops.size).all (fun i => decide (i ≤ z) || match ops[i]? with
            | some o => o.after.any (fun e => Region.binds md e && decide (z ≤ e.on))
            | none => false) = true := by simp only [waitedT, Bool.and_eq_true] at hw; exact hw.2
        have h4 := List.all_eq_true.1 hw4 i (List.mem_range.2 hio)
        obtain ⟨o, ho, _, h5⟩ := ready_true hi
        rw [ho] at h4
        have h6 : o.after.any (fun e => Region.binds md e && decide (z ≤ e.on)) = true := by
          rw [Bool.or_eq_true] at h4
          rcases h4 with h4 | h4
          · simp at h4; omega
          · exact h4
        obtain ⟨j, hj, h7⟩ := Array.any_eq_true.1 h6
        rw [Bool.and_eq_true] at h7
        have h8 := h5 _ (Array.getElem_mem hj) h7.1
        have hon : o.after[j].on < i := by
          simp only [waitedT, Bool.and_eq_true] at hw
          have h9 := List.all_eq_true.1 hw.1.1.2 i (List.mem_range.2 hio)
          rw [ho] at h9
          have h10 := Array.all_eq_true_iff_forall_mem.1 h9 o.after[j] (Array.getElem_mem hj)
          rw [h7.1] at h10
          simpa using h10
        have h11 := hz _ (of_decide_eq_true h7.2) (by omega)
        rw [h11] at h8
        cases h8

theorem wp_region_then {id : Nat} {Q : Exit → Act → World → Prop} {a : Act} {w : World} {ls : List Oper} (W0 : World) (z r : Nat) (hr : ls.length - z = r) (h0 : Below W0.heap.size W0 w) (hm : P.follows .mixedOrders = true)
    (hs : Region.noSelect ls.toArray = true) (hl : lexZ .any ls.toArray z z 0 (Array.replicate ls.length false) = true) (hw : waitedT .any ls.toArray z = true)
    (h : wpQuiet P ls.toArray (fun w' => ∃ x : Ext W0, w' = x.val) (fun a' => ∀ w', (∃ x : Ext W0, w' = x.val) → wpAny P .any ls.toArray Q r (preL ls.length z) a' w') (ls.take z) a) : (Code.region id ls.toArray true).wp P Q a w := by
  subst hr
  refine wp_region_any hm ?_
  have hzs : z < ls.length := by simp only [waitedT, Bool.and_eq_true, decide_eq_true_eq] at hw; simpa using hw.1.1.1
  have htk : (ls.take z).length = z := by rw [List.length_take]; omega
  have h1 := wpAnyZ_lex (C := fun w' => ∃ x : Ext W0, w' = x.val) (md := .any) (z := z) hs (ls.take z) 0 (Array.replicate ls.length false) a (fun j hj => by rw [htk] at hj; simp [List.getElem?_take, hj]) (by rw [htk]; exact hl) h
  rw [htk] at h1
  have h2 := wpAny_of_T (C := fun w' => ∃ x : Ext W0, w' = x.val) hw (Q := Q) (E := fun a' => ∀ w', (∃ x : Ext W0, w' = x.val) → wpAny P .any ls.toArray Q (ls.length - z) (preL ls.length z) a' w') (fun a w hc he => by simpa using he w hc) z _ a w.drew ⟨⟨_, h0.drew⟩, rfl⟩ (by simp) (fun k hk hk2 => by
    have : k < ls.length := by simpa using hk2
    rw [Array.getD_eq_getD_getElem?, Array.getElem?_replicate, if_pos this]
    rfl) (fun i o ho hi e he hb => by
    have : i < ls.length := by simpa using (Array.getElem?_eq_some_iff.1 ho).1
    rw [Array.getD_eq_getD_getElem?, Array.getElem?_replicate, if_pos this] at hi
    cases hi) h1
  have e : z + (ls.toArray.size - z) = ls.toArray.size := by simp; omega
  rw [e] at h2
  simpa using h2

theorem wpAny_force {Q : Exit → Act → World → Prop} {r i : Nat} {listed : Array Bool} {a : Act} {w : World} {o : Oper} (hr : Region.ready md ops listed = [i]) (ho : ops[i]? = some o)
    (h : ∀ Q' : Exit → Act → World → Prop, (∀ a w, wpAny P md ops Q r (listed.setIfInBounds i true) a w → Q' .normal a w) → (∀ c a w, Q (.panic c) a w → Q' (.panic c) a w) → wpList P ops Q' [o] a w) : wpAny P md ops Q (r + 1) listed a w := by
  refine ⟨fun h0 => (by rw [h0] at hr; cases hr), fun j hj => ?_⟩
  rw [hr] at hj
  obtain rfl := List.mem_singleton.1 hj
  exact wpOp_listP ho h

theorem wpAny_end {Q : Exit → Act → World → Prop} {listed : Array Bool} {a : Act} {w : World} (hr : Region.ready md ops listed = []) (h : Q .normal a w) : wpAny P md ops Q 0 listed a w := ⟨hr, h⟩

end

theorem grown_ofV {w w' : World} {row : Option Nat} (hb : Below w.heap.size w w') : w.grownBy w' row := ⟨hb.os, hb.tape, hb.output, hb.size, fun k hk _ => hb.block k hk⟩

theorem grown_transV {w w1 w2 : World} {row : Option Nat} (h1 : w.grownBy w1 row) (h2 : w1.grownBy w2 row) : w.grownBy w2 row := World.grownBy.trans h1 h2

structure Po (w : World) (bp bs be : Nat) (vf : Value) (n : Nat) (g : ByteArray → Option Value) : Prop where
  blk : Ob w bp #[vf, .map (some bs), .map (some be)] 96
  sym : Mg w bs n g
  ext : Mg w be 0 (fun _ => none)
  ne : bp ≠ bs ∧ be ≠ bs ∧ bp ≠ be
  sl : ∃ a n c, vf = .slice a n c

theorem Po.below {w w' : World} {bp bs be : Nat} {vf : Value} {n : Nat} {g : ByteArray → Option Value} (h : Po w bp bs be vf n g) {B : Nat} (hb : Below B w w') (hB : w.heap.size ≤ B) : Po w' bp bs be vf n g :=
  ⟨h.blk.below hb (Nat.lt_of_lt_of_le h.blk.lt hB), h.sym.below hb (Nat.lt_of_lt_of_le h.sym.lt hB), h.ext.below hb (Nat.lt_of_lt_of_le h.ext.lt hB), h.ne, h.sl⟩

theorem Po.put {w w' : World} {bp bs be : Nat} {vf : Value} {n n' : Nat} {g g' : ByteArray → Option Value} (h : Po w bp bs be vf n g) (hg : w.grownBy w' (some bs)) (hm : Mg w' bs n' g') : Po w' bp bs be vf n' g' :=
  ⟨h.blk.grown hg (fun e => h.ne.1 (Option.some.inj e)), hm, h.ext.kept hg (fun e => h.ne.2.1 (Option.some.inj e)), h.ne, h.sl⟩

theorem zeroSym (w : World) : (zeroValue 93).run Tryz.prog w = .ok (.agg #[.int .i64 0, .string ⟨#[]⟩, .pointer none, .pointer none, .pointer none]) w := by kernel_rfl

theorem symMap : Tryz.prog.underlying 88 = some (.map 9 93) := by kernel_rfl

def gput (g : ByteArray → Option Value) (k : ByteArray) (v : Value) : ByteArray → Option Value := fun x => if x = k then some v else g x

set_option maxRecDepth 100000 in
set_option maxHeartbeats 4000000 in
theorem pput0 (H : ByteArray) (sc nm : List Int) (hsb : Hid (byts sc)) (hnb : Hid (byts nm)) (hsl : sc.length ≤ 10000) (hnl : nm.length ≤ 10000) (kd : Int) (p1 p2 p3 : Option Addr) (W : World) {bp bs be : Nat} {vf : Value} {n : Nat} {g : ByteArray → Option Value} (hP : Hid (Po W bp bs be vf n g)) (hg : g (strOfNums (njoin sc nm)) = none) :
    Calls Tryz.prog 147 #[.agg #[.pointer (some ⟨bp, 0, none⟩), .string H], .string (strOfNums sc), .string (strOfNums nm), .agg #[.int .i64 kd, .string ⟨#[]⟩, .pointer p1, .pointer p2, .pointer p3]] W fun e W' => e = .returned (.string (strOfNums (njoin sc nm))) ∧ W.grownBy W' (some bs) ∧ Mg W' bs (n + 1) (gput g (strOfNums (njoin sc nm)) (.agg #[.int .i64 kd, .string H, .pointer p1, .pointer p2, .pointer p3])) := by
  obtain ⟨w3, hw3⟩ : ∃ w3, w3 = (W.alloc (.cells #[.pointer (some ⟨bp, 0, none⟩), .string H] 204)).alloc (.cells #[.int .i64 kd, .string ⟨#[]⟩, .pointer p1, .pointer p2, .pointer p3] 93) := ⟨_, rfl⟩
  have o0 : Ob w3 W.heap.size #[.pointer (some ⟨bp, 0, none⟩), .string H] 204 := by rw [hw3]; exact (Ob.new W _ _).alloc _
  have o1 : Ob w3 (W.heap.size + 1) #[.int .i64 kd, .string ⟨#[]⟩, .pointer p1, .pointer p2, .pointer p3] 93 := by
    rw [hw3]
    have := Ob.new (W.alloc (.cells #[.pointer (some ⟨bp, 0, none⟩), .string H] 204)) #[.int .i64 kd, .string ⟨#[]⟩, .pointer p1, .pointer p2, .pointer p3] 93
    simpa using this
  have hb3 : Below W.heap.size W w3 := by rw [hw3]; exact ((Below.refl _ W).alloc (Nat.le_refl _) _).alloc (by simp) _
  have hP3 := hP.out.below hb3 (Nat.le_refl _)
  have hbl := hP.out.blk.lt
  have hsl2 := hP.out.sym.lt
  have QJ : Hid _ := pjoin_any sc nm w3 (show Hid (NTab w3) from trivial) hsb hnb hsl hnl
  have hks : (strOfNums (njoin sc nm)).size ≤ maxLen := by rw [strOfNums_size]; unfold njoin maxLen; split <;> simp <;> omega
  generalize strOfNums (njoin sc nm) = F at *
  generalize strOfNums sc = S at *
  generalize strOfNums nm = M at *
  have O0 : Hid _ := o0
  have O1 : Hid _ := o1
  have P3 : Hid _ := hP3
  have HB3 : Hid _ := hb3
  have HW3 : Hid _ := hw3
  have HG : Hid _ := hg
  have HKS : Hid _ := hks
  clear o0 o1 hb3 hw3 hP3 hg hks
  go_enter Tryz.func147, Tryz.ntmps147
  go_upto_region 1 with fail
  rw [← HW3.out]
  clear HW3
  go_wp2_with fail
  refine Calls.mono QJ.out ?_
  rintro e w4 ⟨rfl, hb4⟩
  have o0 := O0.out.below hb4 O0.out.lt
  have o1 := O1.out.below hb4 O1.out.lt
  have hP4 := P3.out.below hb4 (Nat.le_refl _)
  have HB4 : Hid (Below W.heap.size W w4) := HB3.out.trans (hb4.mono HB3.out.size)
  have hlk := hP4.sym.look symMap (zeroSym w4) F HKS.out true
  rw [HG.out] at hlk
  simp only [mlook] at hlk
  obtain ⟨w6, hw6⟩ : ∃ w6, w6 = (w4.setCell ⟨W.heap.size + 1, 1, none⟩ (.string H)).alloc (.cells #[.int .i64 0, .string ⟨#[]⟩, .pointer none, .pointer none, .pointer none] 93) := ⟨_, rfl⟩
  have hl4 : W.heap.size + 1 < w4.heap.size := o1.lt
  have hb6 : Below (W.heap.size + 1) w4 w6 := by rw [hw6]; exact ((Below.refl _ w4).setCell (p := ⟨W.heap.size + 1, 1, none⟩) (Nat.le_refl _) _).alloc (by simp; omega) _
  have q0 : Ob w6 W.heap.size #[.pointer (some ⟨bp, 0, none⟩), .string H] 204 := o0.below hb6 (by omega)
  have q1 : Ob w6 (W.heap.size + 1) #[.int .i64 kd, .string H, .pointer p1, .pointer p2, .pointer p3] 93 := by rw [hw6]; have := (o1.set 1 (.string H)).alloc (.cells #[.int .i64 0, .string ⟨#[]⟩, .pointer none, .pointer none, .pointer none] 93); simpa using this
  have q2 : Ob w6 bp #[vf, .map (some bs), .map (some be)] 96 := hP4.blk.below hb6 (by omega)
  have q3 : Mg w6 bs n g := hP4.sym.below hb6 (by omega)
  have HB6 : Hid (Below W.heap.size W w6) := HB4.out.trans (hb6.mono (by omega))
  have a0 := fun x : Ext w6 => x.cell (p := ⟨W.heap.size, 0, none⟩) q0.lt (q0.cell 0 rfl)
  have a1 := fun x : Ext w6 => x.cell (p := ⟨W.heap.size, 1, none⟩) q0.lt (q0.cell 1 rfl)
  have b0 := fun x : Ext w6 => x.cell (p := ⟨W.heap.size + 1, 0, none⟩) q1.lt (q1.cell 0 rfl)
  have b1 := fun x : Ext w6 => x.cell (p := ⟨W.heap.size + 1, 1, none⟩) q1.lt (q1.cell 1 rfl)
  have b2 := fun x : Ext w6 => x.cell (p := ⟨W.heap.size + 1, 2, none⟩) q1.lt (q1.cell 2 rfl)
  have b3 := fun x : Ext w6 => x.cell (p := ⟨W.heap.size + 1, 3, none⟩) q1.lt (q1.cell 3 rfl)
  have b4 := fun x : Ext w6 => x.cell (p := ⟨W.heap.size + 1, 4, none⟩) q1.lt (q1.cell 4 rfl)
  have c0 := fun x : Ext w6 => x.cell (p := ⟨bp, 0, none⟩) q2.lt (q2.cell 0 rfl)
  have c1 := fun x : Ext w6 => x.cell (p := ⟨bp, 1, none⟩) q2.lt (q2.cell 1 rfl)
  have c2 := fun x : Ext w6 => x.cell (p := ⟨bp, 2, none⟩) q2.lt (q2.cell 2 rfl)
  obtain ⟨⟨x0, x1⟩, _, xl⟩ := ob2 o0
  obtain ⟨⟨y0, y1, y2, y3, y4⟩, ⟨u0, u1, u2, u3, u4⟩, yl⟩ := ob5 o1
  have z1 : w4.cell? ⟨bp, 1, none⟩ = some (.map (some bs)) := hP4.blk.cell 1 rfl
  have zl := hP4.blk.lt
  have Q3 : Hid (Mg w6 bs n g) := q3
  have HW6 : Hid _ := hw6
  clear o0 o1 hP4 hb4 hb6 q0 q1 q2 q3 hw6 O0 O1 P3 HB3 HB4 QJ hP
  go_upto_region 6 with fail
  rw [← HW6.out]
  clear HW6 x0 x1 xl y0 y1 y2 y3 y4 u0 u1 u2 u3 u4 yl z1 zl hlk
  refine wp_region_elast w6 (Below.refl _ _) rfl (by kernel_rfl) (by kernel_rfl) (by kernel_rfl) (by kernel_rfl) ?_
  simp only [List.dropLast]
  repeat (go_big_quiet_step (fail))
  refine wpQuiet_nil ?_
  rintro w7 ⟨⟨_, hb7⟩, rfl⟩ Q' hQ'
  have HQ : Hid _ := hQ'
  obtain ⟨w8, hup, hm8, hg8⟩ := (Q3.out.below hb7 Q3.out.lt).put symMap F HKS.out (.agg #[.int .i64 kd, .string H, .pointer p1, .pointer p2, .pointer p3])
  rw [HG.out] at hm8
  have HM8 : Hid (Mg w8 bs (n + 1) (gput g F (.agg #[.int .i64 kd, .string H, .pointer p1, .pointer p2, .pointer p3]))) := hm8
  have HG8 : Hid (W.grownBy w8 (some bs)) := grown_transV (grown_ofV (HB6.out.trans (hb7.mono HB6.out.size))) hg8
  clear hQ' hm8 hg8 hb7 a0 a1 b0 b1 b2 b3 b4 c0 c1 c2 HB6 Q3
  go_wp2
  refine HQ.out _ _ ?_
  clear HQ
  go_wp2
  go_ret
  exact ⟨rfl, HG8.out, HM8.out⟩

def pkgV (H : ByteArray) : Value := .agg #[.int .i64 1, .string H, .pointer none, .pointer none, .pointer none]

structure Pk (W wr : World) (bp bs be : Nat) (vf : Value) (H : ByteArray) (n : Nat) (g : ByteArray → Option Value) : Prop where
  hom : Ob wr W.heap.size #[.pointer (some ⟨bp, 0, none⟩), .string H] 204
  po : Po wr bp bs be vf n g
  grown : W.grownBy wr (some bs)

theorem nparent_take (s : List Int) : (nparent s).1 = s.take (nparent s).1.length := by
  unfold nparent
  split
  · simp
  · simp only [List.length_take]
    rw [List.take_eq_take_iff]
    omega

theorem nparent_ltV (s : List Int) (h : s ≠ []) : (nparent s).1.length < s.length := by
  have h1 := nlast_le s s.length
  have h2 : 0 < s.length := List.length_pos_iff.2 h
  unfold nparent
  split
  · simpa using h2
  · rw [List.length_take]; omega

def strLen (v : Value) : Nat := match v with | .string s => s.size | _ => 0

set_option maxRecDepth 100000 in
set_option maxHeartbeats 4000000 in
theorem ppkg_gen (H : ByteArray) (T : List Int → Nat → (ByteArray → Option Value) → Prop) (hT : Hid (∀ s n g, T s n g → s ≠ [] → byts s ∧ (∀ i, 0 ≤ s.getD i 0 ∧ s.getD i 0 ≤ 255) ∧ s.length ≤ 10000 ∧ g (strOfNums s) = none ∧ T (nparent s).1 (n + 1) (gput g (strOfNums s) (pkgV H))))
    (s0 : List Int) (n0 : Nat) (g0 : ByteArray → Option Value) (h0 : Hid (T s0 n0 g0)) (W : World) {bp bs be : Nat} {vf : Value} (hP : Hid (Po W bp bs be vf n0 g0)) :
    Calls Tryz.prog 145 #[.agg #[.pointer (some ⟨bp, 0, none⟩), .string H], .string (strOfNums s0)] W fun e W' => e = .returned (.tuple #[]) ∧ W.grownBy W' (some bs) ∧ ∃ n g, T [] n g ∧ Po W' bp bs be vf n g := by
  obtain ⟨w3, hw3⟩ : ∃ w3, w3 = W.alloc (.cells #[.pointer (some ⟨bp, 0, none⟩), .string H] 204) := ⟨_, rfl⟩
  have hbl := hP.out.blk.lt
  have hsl2 := hP.out.sym.lt
  have K3 : Hid (Pk W w3 bp bs be vf H n0 g0) := by
    have hb3 : Below W.heap.size W w3 := by rw [hw3]; exact (Below.refl _ W).alloc (Nat.le_refl _) _
    exact ⟨by rw [hw3]; exact Ob.new W _ _, hP.out.below hb3 (Nat.le_refl _), grown_ofV hb3⟩
  have HW3 : Hid _ := hw3
  have hpp : ∀ w, (zeroValue 93).run Tryz.prog w = .ok (.agg #[.int .i64 0, .string ⟨#[]⟩, .pointer none, .pointer none, .pointer none]) w := zeroSym
  clear hw3 hP
  obtain ⟨S0, hS0⟩ : ∃ S0, S0 = strOfNums s0 := ⟨_, rfl⟩
  rw [← hS0]
  have HS0 : Hid _ := hS0
  clear hS0
  go_enter Tryz.func145, Tryz.ntmps145
  go_upto_region 1 with fail
  rw [← HW3.out]
  clear HW3
  go_loopw [1] (fun v wr => ∃ s n g, v = .string (strOfNums s) ∧ Hid (T s n g) ∧ Hid (Pk W wr bp bs be vf H n g)) (fun v _ => strLen v)
  case atStart => exact ⟨s0, n0, g0, by rw [HS0.out], h0, K3⟩
  case round =>
    obtain ⟨s, n, g, rfl, HT, K⟩ := hrel
    by_cases hse : s = []
    · subst hse
      have hne : ((strOfNums []).toList == []) = true := by rw [str_list]; rfl
      generalize strOfNums [] = S at *
      go_wp2
      go_end0
      exact ⟨rfl, K.out.grown, n, g, HT.out, K.out.po⟩
    · obtain ⟨hby, hz, hln, hgn, hT2⟩ := hT.out s n g HT.out hse
      have hne : ((strOfNums s).toList == []) = false := by
        cases s with
        | nil => exact absurd rfl hse
        | cons c r => exact str_ne c r
      have hks : (strOfNums s).size ≤ maxLen := by rw [strOfNums_size]; unfold maxLen; omega
      have QP : Hid _ := fun V => pparent_any s V (show Hid (NTab V) from trivial) hz (by omega)
      have hlt := nparent_ltV s hse
      have h1 := run_head s (nparent s).1.length (by omega) (by omega)
      rw [← nparent_take s] at h1
      have hlen : ((strOfNums (nparent s).1).size : Int) = ((nparent s).1.length : Int) := by rw [strOfNums_size]
      have hms : strLen (.string (strOfNums (nparent s).1)) < strLen (.string (strOfNums s)) := by simp only [strLen, strOfNums_size]; exact hlt
      have HT2 : Hid _ := hT2
      have HMS : Hid _ := hms
      have o0 := K.out.hom
      have hP4 := K.out.po
      have hlk := hP4.sym.look symMap (zeroSym wr) (strOfNums s) hks true
      rw [hgn] at hlk
      simp only [mlook] at hlk
      obtain ⟨w6, hw6⟩ : ∃ w6, w6 = wr.alloc (.cells #[.int .i64 0, .string ⟨#[]⟩, .pointer none, .pointer none, .pointer none] 93) := ⟨_, rfl⟩
      have hb6 : Below wr.heap.size wr w6 := by rw [hw6]; exact (Below.refl _ wr).alloc (Nat.le_refl _) _
      have q0 := o0.below hb6 o0.lt
      have hP6 := hP4.below hb6 (Nat.le_refl _)
      have q2 := hP6.blk
      have HG6 : Hid (W.grownBy w6 (some bs)) := grown_transV K.out.grown (grown_ofV hb6)
      have a0 := fun x : Ext w6 => x.cell (p := ⟨W.heap.size, 0, none⟩) q0.lt (q0.cell 0 rfl)
      have a1 := fun x : Ext w6 => x.cell (p := ⟨W.heap.size, 1, none⟩) q0.lt (q0.cell 1 rfl)
      have c0 := fun x : Ext w6 => x.cell (p := ⟨bp, 0, none⟩) q2.lt (q2.cell 0 rfl)
      have c1 := fun x : Ext w6 => x.cell (p := ⟨bp, 1, none⟩) q2.lt (q2.cell 1 rfl)
      have c2 := fun x : Ext w6 => x.cell (p := ⟨bp, 2, none⟩) q2.lt (q2.cell 2 rfl)
      obtain ⟨⟨x0, x1⟩, _, xl⟩ := ob2 o0
      have z1 : wr.cell? ⟨bp, 1, none⟩ = some (.map (some bs)) := hP4.blk.cell 1 rfl
      have zl := hP4.blk.lt
      have Q0 : Hid _ := q0
      have P6 : Hid (Po w6 bp bs be vf n g) := hP6
      have HGN : Hid _ := hgn
      have HKS : Hid _ := hks
      have HW6 : Hid _ := hw6
      clear o0 hP4 hb6 q0 q2 hP6 hw6 hT2 hms hgn hks hby hz hln hse K HT
      generalize hN1 : strOfNums (nparent s).1 = N1 at *
      have HN1 : Hid _ := hN1
      clear hN1
      generalize strOfNums (nparent s).2 = N2 at *
      generalize strOfNums s = S at *
      go_upto_region 6 with fail
      rw [← HW6.out]
      clear HW6 x0 x1 xl z1 zl hlk
      refine wp_region_elast w6 (Below.refl _ _) rfl (by kernel_rfl) (by kernel_rfl) (by kernel_rfl) (by kernel_rfl) ?_
      simp only [List.dropLast]
      repeat (go_big_quiet_step (fail))
      refine wpQuiet_nil ?_
      rintro w7 ⟨⟨_, hb7⟩, rfl⟩ Q' hQ'
      have HQ : Hid _ := hQ'
      have hP7 := P6.out.below hb7 (Nat.le_refl _)
      obtain ⟨w8, hup, hm8, hg8⟩ := hP7.sym.put symMap S HKS.out (.agg #[.int .i64 1, .string H, .pointer none, .pointer none, .pointer none])
      rw [HGN.out] at hm8
      have hP8 := hP7.put hg8 (show Mg w8 bs (n + 1) (gput g S (pkgV H)) from hm8)
      have P8 : Hid _ := hP8
      have HG8 : Hid (W.grownBy w8 (some bs)) := grown_transV (grown_transV HG6.out (grown_ofV hb7)) hg8
      have hbW : W.heap.size ≠ bs := by omega
      have q8 : Ob w8 W.heap.size #[.pointer (some ⟨bp, 0, none⟩), .string H] 204 := (Q0.out.below hb7 Q0.out.lt).grown hg8 (fun e => hbW (Option.some.inj e))
      have Q8 : Hid _ := q8
      clear hQ' hm8 hg8 hb7 a0 a1 c0 c1 c2 HG6 Q0 P6 hP7 hP8 q8
      go_wp2
      refine HQ.out _ _ ?_
      clear HQ hup
      go_wp2_with fail
      refine Calls.mono (QP.out _) ?_
      rintro e w9 ⟨rfl, hb9⟩
      have P9 : Hid _ := P8.out.below hb9 (Nat.le_refl _)
      have Q9 : Hid _ := Q8.out.below hb9 Q8.out.lt
      have HG9 : Hid (W.grownBy w9 (some bs)) := grown_transV HG8.out (grown_ofV hb9)
      clear hb9 P8 Q8 HG8 QP
      go_wp2
      go_roundw
      case rel => first | exact ⟨(nparent s).1, n + 1, _, by rw [HN1.out], HT2, ⟨Q9.out, P9.out, HG9.out⟩⟩ | ((repeat apply Exists.intro); exact ⟨⟨(nparent s).1, n + 1, _, by rw [HN1.out], HT2, ⟨Q9.out, P9.out, HG9.out⟩⟩, rfl⟩)
      case measure => exact HMS.out

set_option maxHeartbeats 400000 in
theorem qnclone_any (S : ByteArray) (w : World) (hlen : S.size ≤ 1000000000) :
    Calls Tryz.prog 45 #[.string S] w fun e w' => e = .returned (.string S) ∧ Below w.heap.size w w' := by
  have Q : Hid _ := Sh.stringslite_Clone S w (by omega)
  go_enter Tryz.func45, Tryz.ntmps45
  go_wp2_with fail
  refine Calls.mono Q.out ?_
  rintro e w1 ⟨rfl, hb⟩
  go_wp2
  go_ret
  exact ⟨rfl, hb⟩

set_option maxHeartbeats 1000000 in
theorem qjoin_any (a b : List Int) (w : World) (ha : Hid (byts a)) (hb : Hid (byts b)) (hl : a.length ≤ 400000000) (hl2 : b.length ≤ 400000000) :
    Calls Tryz.prog 57 #[.string (strOfNums a), .string (strOfNums b)] w fun e w' => e = .returned (.string (strOfNums (njoin a b))) ∧ Below w.heap.size w w' := by
  unfold njoin
  by_cases h : a = []
  · rw [if_pos h]
    have hne : ((strOfNums a).toList == []) = true := by rw [h, str_list]; rfl
    have Q : Hid _ := fun W => qnclone_any (strOfNums b) W (by rw [strOfNums_size]; omega)
    generalize strOfNums a = A at hne
    generalize strOfNums b = B at Q
    go_enter Tryz.func57, Tryz.ntmps57
    go_wp2_with fail
    refine Calls.mono (Q.out _) ?_
    rintro e w1 ⟨rfl, hb1⟩
    go_wp2
    go_ret
    exact ⟨rfl, hb1⟩
  · rw [if_neg h]
    have hne : ((strOfNums a).toList == []) = false := by
      cases a with
      | nil => exact absurd rfl h
      | cons c r => exact str_ne c r
    have h1 : ∀ W, (Op.stringOp .add (strOfNums a) { data := #[46] }).run Tryz.prog W = .ok (.string (strOfNums (a ++ [46]))) W := fun W => run_add W a [46] (by simp; omega)
    have h2 : ∀ W, (Op.stringOp .add (strOfNums (a ++ [46])) (strOfNums b)).run Tryz.prog W = .ok (.string (strOfNums (a ++ [46] ++ b))) W := fun W => run_add W (a ++ [46]) b (by simp; omega)
    clear h
    generalize strOfNums (a ++ [46] ++ b) = R at h2
    generalize strOfNums (a ++ [46]) = AP at h1 h2
    generalize strOfNums a = A at hne h1
    generalize strOfNums b = B at h2
    go_enter Tryz.func57, Tryz.ntmps57
    go_wp2
    go_ret
    exact ⟨rfl, Below.refl _ _⟩

structure Pq (w : World) (bp bs be : Nat) (vf : Value) (n : Nat) (g : ByteArray → Option Value) : Prop where
  blk : Ob w bp #[vf, .map (some bs), .map (some be)] 96
  sym : Mg w bs n g
  ne : bp ≠ bs ∧ be ≠ bs ∧ bp ≠ be
  sl : ∃ a n c, vf = .slice a n c

theorem Pq.below {w w' : World} {bp bs be : Nat} {vf : Value} {n : Nat} {g : ByteArray → Option Value} (h : Pq w bp bs be vf n g) {B : Nat} (hb : Below B w w') (hB : w.heap.size ≤ B) : Pq w' bp bs be vf n g :=
  ⟨h.blk.below hb (Nat.lt_of_lt_of_le h.blk.lt hB), h.sym.below hb (Nat.lt_of_lt_of_le h.sym.lt hB), h.ne, h.sl⟩

theorem Pq.put {w w' : World} {bp bs be : Nat} {vf : Value} {n n' : Nat} {g g' : ByteArray → Option Value} (h : Pq w bp bs be vf n g) (hg : w.grownBy w' (some bs)) (hm : Mg w' bs n' g') : Pq w' bp bs be vf n' g' :=
  ⟨h.blk.grown hg (fun e => h.ne.1 (Option.some.inj e)), hm, h.ne, h.sl⟩

def twi (F : ByteArray) : PanicEntry := { v := .iface 173 (.agg #[.string F]), recovered := false }

set_option maxRecDepth 100000 in
set_option maxHeartbeats 4000000 in
theorem qput_ok (H : ByteArray) (sc nm : List Int) (hsb : Hid (byts sc)) (hnb : Hid (byts nm)) (hsl : sc.length ≤ 400000000) (hnl : nm.length ≤ 400000000) (kd : Int) (p1 p2 p3 : Option Addr) (W : World) {bp bs be : Nat} {vf : Value} {n : Nat} {g : ByteArray → Option Value} (hP : Hid (Pq W bp bs be vf n g)) (hg : g (strOfNums (njoin sc nm)) = none) :
    Calls Tryz.prog 147 #[.agg #[.pointer (some ⟨bp, 0, none⟩), .string H], .string (strOfNums sc), .string (strOfNums nm), .agg #[.int .i64 kd, .string ⟨#[]⟩, .pointer p1, .pointer p2, .pointer p3]] W fun e W' => e = .returned (.string (strOfNums (njoin sc nm))) ∧ W.grownBy W' (some bs) ∧ Mg W' bs (n + 1) (gput g (strOfNums (njoin sc nm)) (.agg #[.int .i64 kd, .string H, .pointer p1, .pointer p2, .pointer p3])) := by
  obtain ⟨w3, hw3⟩ : ∃ w3, w3 = (W.alloc (.cells #[.pointer (some ⟨bp, 0, none⟩), .string H] 204)).alloc (.cells #[.int .i64 kd, .string ⟨#[]⟩, .pointer p1, .pointer p2, .pointer p3] 93) := ⟨_, rfl⟩
  have o0 : Ob w3 W.heap.size #[.pointer (some ⟨bp, 0, none⟩), .string H] 204 := by rw [hw3]; exact (Ob.new W _ _).alloc _
  have o1 : Ob w3 (W.heap.size + 1) #[.int .i64 kd, .string ⟨#[]⟩, .pointer p1, .pointer p2, .pointer p3] 93 := by
    rw [hw3]
    have := Ob.new (W.alloc (.cells #[.pointer (some ⟨bp, 0, none⟩), .string H] 204)) #[.int .i64 kd, .string ⟨#[]⟩, .pointer p1, .pointer p2, .pointer p3] 93
    simpa using this
  have hb3 : Below W.heap.size W w3 := by rw [hw3]; exact ((Below.refl _ W).alloc (Nat.le_refl _) _).alloc (by simp) _
  have hP3 := hP.out.below hb3 (Nat.le_refl _)
  have hbl := hP.out.blk.lt
  have hsl2 := hP.out.sym.lt
  have QJ : Hid _ := qjoin_any sc nm w3 hsb hnb hsl hnl
  have hks : (strOfNums (njoin sc nm)).size ≤ maxLen := by rw [strOfNums_size]; unfold njoin maxLen; split <;> simp <;> omega
  generalize strOfNums (njoin sc nm) = F at *
  generalize strOfNums sc = S at *
  generalize strOfNums nm = M at *
  have O0 : Hid _ := o0
  have O1 : Hid _ := o1
  have P3 : Hid _ := hP3
  have HB3 : Hid _ := hb3
  have HW3 : Hid _ := hw3
  have HG : Hid _ := hg
  have HKS : Hid _ := hks
  clear o0 o1 hb3 hw3 hP3 hg hks
  go_enter Tryz.func147, Tryz.ntmps147
  go_upto_region 1 with fail
  rw [← HW3.out]
  clear HW3
  go_wp2_with fail
  refine Calls.mono QJ.out ?_
  rintro e w4 ⟨rfl, hb4⟩
  have o0 := O0.out.below hb4 O0.out.lt
  have o1 := O1.out.below hb4 O1.out.lt
  have hP4 := P3.out.below hb4 (Nat.le_refl _)
  have HB4 : Hid (Below W.heap.size W w4) := HB3.out.trans (hb4.mono HB3.out.size)
  have hlk := hP4.sym.look symMap (zeroSym w4) F HKS.out true
  rw [HG.out] at hlk
  simp only [mlook] at hlk
  obtain ⟨w6, hw6⟩ : ∃ w6, w6 = (w4.setCell ⟨W.heap.size + 1, 1, none⟩ (.string H)).alloc (.cells #[.int .i64 0, .string ⟨#[]⟩, .pointer none, .pointer none, .pointer none] 93) := ⟨_, rfl⟩
  have hl4 : W.heap.size + 1 < w4.heap.size := o1.lt
  have hb6 : Below (W.heap.size + 1) w4 w6 := by rw [hw6]; exact ((Below.refl _ w4).setCell (p := ⟨W.heap.size + 1, 1, none⟩) (Nat.le_refl _) _).alloc (by simp; omega) _
  have q0 : Ob w6 W.heap.size #[.pointer (some ⟨bp, 0, none⟩), .string H] 204 := o0.below hb6 (by omega)
  have q1 : Ob w6 (W.heap.size + 1) #[.int .i64 kd, .string H, .pointer p1, .pointer p2, .pointer p3] 93 := by rw [hw6]; have := (o1.set 1 (.string H)).alloc (.cells #[.int .i64 0, .string ⟨#[]⟩, .pointer none, .pointer none, .pointer none] 93); simpa using this
  have q2 : Ob w6 bp #[vf, .map (some bs), .map (some be)] 96 := hP4.blk.below hb6 (by omega)
  have q3 : Mg w6 bs n g := hP4.sym.below hb6 (by omega)
  have HB6 : Hid (Below W.heap.size W w6) := HB4.out.trans (hb6.mono (by omega))
  have a0 := fun x : Ext w6 => x.cell (p := ⟨W.heap.size, 0, none⟩) q0.lt (q0.cell 0 rfl)
  have a1 := fun x : Ext w6 => x.cell (p := ⟨W.heap.size, 1, none⟩) q0.lt (q0.cell 1 rfl)
  have b0 := fun x : Ext w6 => x.cell (p := ⟨W.heap.size + 1, 0, none⟩) q1.lt (q1.cell 0 rfl)
  have b1 := fun x : Ext w6 => x.cell (p := ⟨W.heap.size + 1, 1, none⟩) q1.lt (q1.cell 1 rfl)
  have b2 := fun x : Ext w6 => x.cell (p := ⟨W.heap.size + 1, 2, none⟩) q1.lt (q1.cell 2 rfl)
  have b3 := fun x : Ext w6 => x.cell (p := ⟨W.heap.size + 1, 3, none⟩) q1.lt (q1.cell 3 rfl)
  have b4 := fun x : Ext w6 => x.cell (p := ⟨W.heap.size + 1, 4, none⟩) q1.lt (q1.cell 4 rfl)
  have c0 := fun x : Ext w6 => x.cell (p := ⟨bp, 0, none⟩) q2.lt (q2.cell 0 rfl)
  have c1 := fun x : Ext w6 => x.cell (p := ⟨bp, 1, none⟩) q2.lt (q2.cell 1 rfl)
  have c2 := fun x : Ext w6 => x.cell (p := ⟨bp, 2, none⟩) q2.lt (q2.cell 2 rfl)
  obtain ⟨⟨x0, x1⟩, _, xl⟩ := ob2 o0
  obtain ⟨⟨y0, y1, y2, y3, y4⟩, ⟨u0, u1, u2, u3, u4⟩, yl⟩ := ob5 o1
  have z1 : w4.cell? ⟨bp, 1, none⟩ = some (.map (some bs)) := hP4.blk.cell 1 rfl
  have zl := hP4.blk.lt
  have Q3 : Hid (Mg w6 bs n g) := q3
  have HW6 : Hid _ := hw6
  clear o0 o1 hP4 hb4 hb6 q0 q1 q2 q3 hw6 O0 O1 P3 HB3 HB4 QJ hP
  go_upto_region 6 with fail
  rw [← HW6.out]
  clear HW6 x0 x1 xl y0 y1 y2 y3 y4 u0 u1 u2 u3 u4 yl z1 zl hlk
  refine wp_region_elast w6 (Below.refl _ _) rfl (by kernel_rfl) (by kernel_rfl) (by kernel_rfl) (by kernel_rfl) ?_
  simp only [List.dropLast]
  repeat (go_big_quiet_step (fail))
  refine wpQuiet_nil ?_
  rintro w7 ⟨⟨_, hb7⟩, rfl⟩ Q' hQ'
  have HQ : Hid _ := hQ'
  obtain ⟨w8, hup, hm8, hg8⟩ := (Q3.out.below hb7 Q3.out.lt).put symMap F HKS.out (.agg #[.int .i64 kd, .string H, .pointer p1, .pointer p2, .pointer p3])
  rw [HG.out] at hm8
  have HM8 : Hid (Mg w8 bs (n + 1) (gput g F (.agg #[.int .i64 kd, .string H, .pointer p1, .pointer p2, .pointer p3]))) := hm8
  have HG8 : Hid (W.grownBy w8 (some bs)) := grown_transV (grown_ofV (HB6.out.trans (hb7.mono HB6.out.size))) hg8
  clear hQ' hm8 hg8 hb7 a0 a1 b0 b1 b2 b3 b4 c0 c1 c2 HB6 Q3
  go_wp2
  refine HQ.out _ _ ?_
  clear HQ
  go_wp2
  go_ret
  exact ⟨rfl, HG8.out, HM8.out⟩

set_option maxRecDepth 100000 in
set_option maxHeartbeats 4000000 in
theorem qput_dup (H : ByteArray) (sc nm : List Int) (hsb : Hid (byts sc)) (hnb : Hid (byts nm)) (hsl : sc.length ≤ 400000000) (hnl : nm.length ≤ 400000000) (kd : Int) (p1 p2 p3 : Option Addr) (W : World) {bp bs be : Nat} {vf : Value} {n : Nat} {g : ByteArray → Option Value} (hP : Hid (Pq W bp bs be vf n g)) (v0 : Int) (H0 : ByteArray) (q1 q2 q3 : Option Addr) (hg : g (strOfNums (njoin sc nm)) = some (.agg #[.int .i64 v0, .string H0, .pointer q1, .pointer q2, .pointer q3])) :
    Calls Tryz.prog 147 #[.agg #[.pointer (some ⟨bp, 0, none⟩), .string H], .string (strOfNums sc), .string (strOfNums nm), .agg #[.int .i64 kd, .string ⟨#[]⟩, .pointer p1, .pointer p2, .pointer p3]] W fun e W' => e = .panicked [twi (strOfNums (njoin sc nm))] ∧ Below W.heap.size W W' := by
  obtain ⟨w3, hw3⟩ : ∃ w3, w3 = (W.alloc (.cells #[.pointer (some ⟨bp, 0, none⟩), .string H] 204)).alloc (.cells #[.int .i64 kd, .string ⟨#[]⟩, .pointer p1, .pointer p2, .pointer p3] 93) := ⟨_, rfl⟩
  have o0 : Ob w3 W.heap.size #[.pointer (some ⟨bp, 0, none⟩), .string H] 204 := by rw [hw3]; exact (Ob.new W _ _).alloc _
  have o1 : Ob w3 (W.heap.size + 1) #[.int .i64 kd, .string ⟨#[]⟩, .pointer p1, .pointer p2, .pointer p3] 93 := by
    rw [hw3]
    have := Ob.new (W.alloc (.cells #[.pointer (some ⟨bp, 0, none⟩), .string H] 204)) #[.int .i64 kd, .string ⟨#[]⟩, .pointer p1, .pointer p2, .pointer p3] 93
    simpa using this
  have hb3 : Below W.heap.size W w3 := by rw [hw3]; exact ((Below.refl _ W).alloc (Nat.le_refl _) _).alloc (by simp) _
  have hP3 := hP.out.below hb3 (Nat.le_refl _)
  have hbl := hP.out.blk.lt
  have hsl2 := hP.out.sym.lt
  have QJ : Hid _ := qjoin_any sc nm w3 hsb hnb hsl hnl
  have hks : (strOfNums (njoin sc nm)).size ≤ maxLen := by rw [strOfNums_size]; unfold njoin maxLen; split <;> simp <;> omega
  generalize strOfNums (njoin sc nm) = F at *
  generalize strOfNums sc = S at *
  generalize strOfNums nm = M at *
  have O0 : Hid _ := o0
  have O1 : Hid _ := o1
  have P3 : Hid _ := hP3
  have HB3 : Hid _ := hb3
  have HW3 : Hid _ := hw3
  have HG : Hid _ := hg
  have HKS : Hid _ := hks
  clear o0 o1 hb3 hw3 hP3 hg hks
  go_enter Tryz.func147, Tryz.ntmps147
  go_upto_region 1 with fail
  rw [← HW3.out]
  clear HW3
  go_wp2_with fail
  refine Calls.mono QJ.out ?_
  rintro e w4 ⟨rfl, hb4⟩
  have o0 := O0.out.below hb4 O0.out.lt
  have o1 := O1.out.below hb4 O1.out.lt
  have hP4 := P3.out.below hb4 (Nat.le_refl _)
  have HB4 : Hid (Below W.heap.size W w4) := HB3.out.trans (hb4.mono HB3.out.size)
  have hlk := hP4.sym.look symMap (zeroSym w4) F HKS.out true
  rw [HG.out] at hlk
  simp only [mlook] at hlk
  obtain ⟨⟨x0, x1⟩, _, xl⟩ := ob2 o0
  obtain ⟨⟨y0, y1, y2, y3, y4⟩, ⟨u0, u1, u2, u3, u4⟩, yl⟩ := ob5 o1
  have z1 : w4.cell? ⟨bp, 1, none⟩ = some (.map (some bs)) := hP4.blk.cell 1 rfl
  have zl := hP4.blk.lt
  clear o0 o1 hP4 hb4 O0 O1 P3 HB3 QJ hP
  go_wp2
  exact ⟨rfl, rfl, HB4.out.alloc HB4.out.size _⟩

end Go.Proofs.YtafmoceinamcdaaGreat
