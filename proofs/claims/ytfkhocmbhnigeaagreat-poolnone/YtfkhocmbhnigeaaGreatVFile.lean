/- Copies of a file and of a message whose lists are empty. -/
import Derived.Test.YtfkhocmbhnigeaaGreatVCop
import Derived.Test.YtfkhocmbhnigeaaGreatVLast
import Derived.Test.YtfkhocmbhnigeaaGreatNPe
import Derived.Deep.DeepCutAuto
namespace Go.Proofs.YtfkhocmbhnigeaaGreat
open Go.RowKit
set_option linter.unusedVariables false
set_option linter.unusedSimpArgs false

theorem file_ret {fn : Func} {R : Ending → World → Prop} {a : Act} {w : World} {p : Tmp} (h : fn.results = #[.cell p 62]) (gb : Nat) (cs : Array Value) (hs : cs.size = 11) (hp : a.tmps.getD p undef = .pointer (some ⟨gb, 0, none⟩)) (hg : Ob w gb cs 62) (hd : a.defers = []) (hR : R (.returned (.agg cs)) w) : bodyPost Tryz.prog fn R .ret a w := by
  refine bodyPost_ret (v := .agg cs) ?_ hd hR
  have hp' : a.tmps[p]?.getD undef = .pointer (some ⟨gb, 0, none⟩) := by simpa using hp
  have hsz : (Tryz.prog.info? 62).map (·.size) = some 11 := by kernel_rfl
  have hl := run_loadVar_row (P := Tryz.prog) w gb 62 62 cs (0, 0) _ hg.eq Tryz.underlying62 rfl (hsz.trans (by rw [hs]))
  simp [results, h, hp', asAddr, hl]

theorem msg_ret {fn : Func} {R : Ending → World → Prop} {a : Act} {w : World} {p : Tmp} (h : fn.results = #[.cell p 40]) (gb : Nat) (cs : Array Value) (hs : cs.size = 11) (hp : a.tmps.getD p undef = .pointer (some ⟨gb, 0, none⟩)) (hg : Ob w gb cs 40) (hd : a.defers = []) (hR : R (.returned (.agg cs)) w) : bodyPost Tryz.prog fn R .ret a w := by
  refine bodyPost_ret (v := .agg cs) ?_ hd hR
  have hp' : a.tmps[p]?.getD undef = .pointer (some ⟨gb, 0, none⟩) := by simpa using hp
  have hsz : (Tryz.prog.info? 40).map (·.size) = some 11 := by kernel_rfl
  have hl := run_loadVar_row (P := Tryz.prog) w gb 40 40 cs (0, 0) _ hg.eq Tryz.underlying40 rfl (hsz.trans (by rw [hs]))
  simp [results, h, hp', asAddr, hl]

theorem set11 {w : World} {b : Nat} {T : TypeId} {y0 y1 y2 y3 y4 y5 y6 y7 y8 y9 y10 : Value} (h : Ob w b #[y0, y1, y2, y3, y4, y5, y6, y7, y8, y9, y10] T) (x0 x1 x2 x3 x4 x5 x6 x7 x8 x9 x10 : Value) :
    Ob (((((((((((w.setCell ⟨b, 0, none⟩ x0).setCell ⟨b, 1, none⟩ x1).setCell ⟨b, 2, none⟩ x2).setCell ⟨b, 3, none⟩ x3).setCell ⟨b, 4, none⟩ x4).setCell ⟨b, 5, none⟩ x5).setCell ⟨b, 6, none⟩ x6).setCell ⟨b, 7, none⟩ x7).setCell ⟨b, 8, none⟩ x8).setCell ⟨b, 9, none⟩ x9).setCell ⟨b, 10, none⟩ x10) b #[x0, x1, x2, x3, x4, x5, x6, x7, x8, x9, x10] T := by
  have := ((((((((((h.set 0 x0).set 1 x1).set 2 x2).set 3 x3).set 4 x4).set 5 x5).set 6 x6).set 7 x7).set 8 x8).set 9 x9).set 10 x10
  simpa using this

theorem below11 {n : Nat} {W w : World} (b : Nat) (hb : n ≤ b) (h : Below n W w) (x0 x1 x2 x3 x4 x5 x6 x7 x8 x9 x10 : Value) :
    Below n W (((((((((((w.setCell ⟨b, 0, none⟩ x0).setCell ⟨b, 1, none⟩ x1).setCell ⟨b, 2, none⟩ x2).setCell ⟨b, 3, none⟩ x3).setCell ⟨b, 4, none⟩ x4).setCell ⟨b, 5, none⟩ x5).setCell ⟨b, 6, none⟩ x6).setCell ⟨b, 7, none⟩ x7).setCell ⟨b, 8, none⟩ x8).setCell ⟨b, 9, none⟩ x9).setCell ⟨b, 10, none⟩ x10) :=
  (((((((((((h.setCell (p := ⟨b, 0, none⟩) hb _).setCell (p := ⟨b, 1, none⟩) hb _).setCell (p := ⟨b, 2, none⟩) hb _).setCell (p := ⟨b, 3, none⟩) hb _).setCell (p := ⟨b, 4, none⟩) hb _).setCell (p := ⟨b, 5, none⟩) hb _).setCell (p := ⟨b, 6, none⟩) hb _).setCell (p := ⟨b, 7, none⟩) hb _).setCell (p := ⟨b, 8, none⟩) hb _).setCell (p := ⟨b, 9, none⟩) hb _).setCell (p := ⟨b, 10, none⟩) hb _)

set_option maxRecDepth 100000 in
set_option maxHeartbeats 4000000 in
theorem pwfile0 (N K Y : ByteArray) (hN : N.size ≤ 1000000) (hK : K.size ≤ 1000000) (hY : Y.size ≤ 1000000) (vm : Value) (hvm : ∃ a n c, vm = .slice a n c) (W : World) :
    Calls Tryz.prog 46 #[.agg #[.int .i64 0, .bool false], .agg #[.string N, .string K, .slice none 0 0, .slice none 0 0, vm, .slice none 0 0, .slice none 0 0, .slice none 0 0, .string Y, .slice none 0 0, .slice none 0 0]] W fun e W' => e = .returned (.agg #[.string N, .string K, .slice none 0 0, .slice none 0 0, .slice none 0 0, .slice none 0 0, .slice none 0 0, .slice none 0 0, .string Y, .slice none 0 0, .slice none 0 0]) ∧ Below W.heap.size W W' := by
  obtain ⟨ma, mn, mc, rfl⟩ := hvm
  obtain ⟨w3, hw3⟩ : ∃ w3, w3 = ((W.alloc (.cells #[.int .i64 0, .bool false] 95)).alloc (.cells #[.string N, .string K, .slice none 0 0, .slice none 0 0, .slice ma mn mc, .slice none 0 0, .slice none 0 0, .slice none 0 0, .string Y, .slice none 0 0, .slice none 0 0] 62)).alloc (.cells #[.string ⟨#[]⟩, .string ⟨#[]⟩, .slice none 0 0, .slice none 0 0, .slice none 0 0, .slice none 0 0, .slice none 0 0, .slice none 0 0, .string ⟨#[]⟩, .slice none 0 0, .slice none 0 0] 62) := ⟨_, rfl⟩
  have o0 : Ob w3 W.heap.size #[.int .i64 0, .bool false] 95 := by rw [hw3]; exact ((Ob.new W _ _).alloc _).alloc _
  have o1 : Ob w3 (W.heap.size + 1) #[.string N, .string K, .slice none 0 0, .slice none 0 0, .slice ma mn mc, .slice none 0 0, .slice none 0 0, .slice none 0 0, .string Y, .slice none 0 0, .slice none 0 0] 62 := by
    rw [hw3]
    have := (Ob.new (W.alloc (.cells #[.int .i64 0, .bool false] 95)) #[.string N, .string K, .slice none 0 0, .slice none 0 0, .slice ma mn mc, .slice none 0 0, .slice none 0 0, .slice none 0 0, .string Y, .slice none 0 0, .slice none 0 0] 62).alloc (.cells #[.string ⟨#[]⟩, .string ⟨#[]⟩, .slice none 0 0, .slice none 0 0, .slice none 0 0, .slice none 0 0, .slice none 0 0, .slice none 0 0, .string ⟨#[]⟩, .slice none 0 0, .slice none 0 0] 62)
    simpa using this
  have o2 : Ob w3 (W.heap.size + 1 + 1) #[.string ⟨#[]⟩, .string ⟨#[]⟩, .slice none 0 0, .slice none 0 0, .slice none 0 0, .slice none 0 0, .slice none 0 0, .slice none 0 0, .string ⟨#[]⟩, .slice none 0 0, .slice none 0 0] 62 := by
    rw [hw3]
    have := Ob.new ((W.alloc (.cells #[.int .i64 0, .bool false] 95)).alloc (.cells #[.string N, .string K, .slice none 0 0, .slice none 0 0, .slice ma mn mc, .slice none 0 0, .slice none 0 0, .slice none 0 0, .string Y, .slice none 0 0, .slice none 0 0] 62)) #[.string ⟨#[]⟩, .string ⟨#[]⟩, .slice none 0 0, .slice none 0 0, .slice none 0 0, .slice none 0 0, .slice none 0 0, .slice none 0 0, .string ⟨#[]⟩, .slice none 0 0, .slice none 0 0] 62
    simpa using this
  have hb3 : Below W.heap.size W w3 := by rw [hw3]; exact (((Below.refl _ W).alloc (Nat.le_refl _) _).alloc (by simp) _).alloc (by simp; omega) _
  have QN : Hid _ := fun V => pnclone_any N V hN
  have QK : Hid _ := fun V => pnclone_any K V hK
  have QY : Hid _ := fun V => pnclone_any Y V hY
  have a0 := fun x : Ext w3 => x.cell (p := ⟨W.heap.size, 0, none⟩) o0.lt (o0.cell 0 rfl)
  have a1 := fun x : Ext w3 => x.cell (p := ⟨W.heap.size, 1, none⟩) o0.lt (o0.cell 1 rfl)
  have b0 := fun x : Ext w3 => x.cell (p := ⟨W.heap.size + 1, 0, none⟩) o1.lt (o1.cell 0 rfl)
  have b1 := fun x : Ext w3 => x.cell (p := ⟨W.heap.size + 1, 1, none⟩) o1.lt (o1.cell 1 rfl)
  have b2 := fun x : Ext w3 => x.cell (p := ⟨W.heap.size + 1, 2, none⟩) o1.lt (o1.cell 2 rfl)
  have b3 := fun x : Ext w3 => x.cell (p := ⟨W.heap.size + 1, 3, none⟩) o1.lt (o1.cell 3 rfl)
  have b4 := fun x : Ext w3 => x.cell (p := ⟨W.heap.size + 1, 4, none⟩) o1.lt (o1.cell 4 rfl)
  have b5 := fun x : Ext w3 => x.cell (p := ⟨W.heap.size + 1, 5, none⟩) o1.lt (o1.cell 5 rfl)
  have b6 := fun x : Ext w3 => x.cell (p := ⟨W.heap.size + 1, 6, none⟩) o1.lt (o1.cell 6 rfl)
  have b7 := fun x : Ext w3 => x.cell (p := ⟨W.heap.size + 1, 7, none⟩) o1.lt (o1.cell 7 rfl)
  have b8 := fun x : Ext w3 => x.cell (p := ⟨W.heap.size + 1, 8, none⟩) o1.lt (o1.cell 8 rfl)
  have b9 := fun x : Ext w3 => x.cell (p := ⟨W.heap.size + 1, 9, none⟩) o1.lt (o1.cell 9 rfl)
  have b10 := fun x : Ext w3 => x.cell (p := ⟨W.heap.size + 1, 10, none⟩) o1.lt (o1.cell 10 rfl)
  have O2 : Hid _ := o2
  have HB3 : Hid _ := hb3
  have HW3 : Hid _ := hw3
  clear o0 o1 o2 hb3 hw3 hN hK hY
  go_enter Tryz.func46, Tryz.ntmps46
  go_upto_region 1 with fail
  rw [← HW3.out]
  clear HW3
  refine wp_region_elast w3 (Below.refl _ _) rfl (by kernel_rfl) (by kernel_rfl) (by kernel_rfl) (by kernel_rfl) ?_
  simp only [List.dropLast]
  repeat (go_big_quiet_step (first
    | (go_at_call 40; first | exact Ext.call (fun V hV => QN.out V) _ | exact Ext.call (fun V hV => QK.out V) _ | exact Ext.call (fun V hV => QY.out V) _)
    | (go_at_call 31; exact Ext.call_same (fun V => ptexts0 _ _ V) _)
    | (go_at_call 87; exact Ext.call_same (fun V => pplaces0 _ _ V) _)
    | (go_at_call 67; exact Ext.call (fun V hV => pmsgs0 _ V) _)
    | (go_at_call 68; exact Ext.call_same (fun V => peach0_enm _ _ _ V) _)
    | (go_at_call 88; exact Ext.call_same (fun V => peach0_srv _ _ _ V) _)
    | (go_at_call 66; exact Ext.call_same (fun V => peach0_fld _ _ _ V) _)
    | (go_at_call 73; exact Ext.call_same (fun V => pbclone0 V) _)
    | (go_at_call 74; exact Ext.call (fun V hV => punknown0 _ V) _)))
  refine wpQuiet_nil ?_
  rintro w5 ⟨⟨_, hb5⟩, rfl⟩ Q' hQ'
  have HQ : Hid _ := hQ'
  have o5 := O2.out.below hb5 O2.out.lt
  obtain ⟨⟨c0, c1, c2, c3, c4, c5, c6, c7, c8, c9, c10⟩, ⟨d0, d1, d2, d3, d4, d5, d6, d7, d8, d9, d10⟩, dl⟩ := ob11 o5
  have O5 : Hid _ := o5
  have HB5 : Hid (Below W.heap.size W w5) := HB3.out.trans (hb5.mono HB3.out.size)
  clear hQ' o5 hb5 a0 a1 b0 b1 b2 b3 b4 b5 b6 b7 b8 b9 b10 HB3 O2 QN QK QY
  go_wp2
  refine HQ.out _ _ ?_
  clear HQ
  go_wp2
  refine file_ret (p := 4) ?_ (W.heap.size + 1 + 1) #[.string N, .string K, .slice none 0 0, .slice none 0 0, .slice none 0 0, .slice none 0 0, .slice none 0 0, .slice none 0 0, .string Y, .slice none 0 0, .slice none 0 0] rfl ?_ (set11 O5.out _ _ _ _ _ _ _ _ _ _ _) ?_ ?_
  · rfl
  · rfl
  · rfl
  · exact ⟨rfl, below11 _ (by omega) HB5.out _ _ _ _ _ _ _ _ _ _ _⟩

/-- A message of which there is nothing but the name. -/
def msg0 (N : ByteArray) : Array Value := #[.string N, .slice none 0 0, .slice none 0 0, .slice none 0 0, .slice none 0 0, .slice none 0 0, .slice none 0 0, .slice none 0 0, .slice none 0 0, .slice none 0 0, .slice none 0 0]

set_option maxRecDepth 100000 in
set_option maxHeartbeats 4000000 in
theorem pwmsg0 (N : ByteArray) (hN : N.size ≤ 1000000) (W : World) :
    Calls Tryz.prog 37 #[.agg #[.int .i64 1, .bool false], .agg (msg0 N)] W fun e W' => e = .returned (.agg (msg0 N)) ∧ Below W.heap.size W W' := by
  unfold msg0
  obtain ⟨w3, hw3⟩ : ∃ w3, w3 = (((W.alloc (.cells #[.int .i64 1, .bool false] 95)).alloc (.cells #[.string N, .slice none 0 0, .slice none 0 0, .slice none 0 0, .slice none 0 0, .slice none 0 0, .slice none 0 0, .slice none 0 0, .slice none 0 0, .slice none 0 0, .slice none 0 0] 40)).alloc (.cells #[.string ⟨#[]⟩, .slice none 0 0, .slice none 0 0, .slice none 0 0, .slice none 0 0, .slice none 0 0, .slice none 0 0, .slice none 0 0, .slice none 0 0, .slice none 0 0, .slice none 0 0] 40)).alloc (.cells #[.int .i64 0, .bool false] 95) := ⟨_, rfl⟩
  have o0 : Ob w3 W.heap.size #[.int .i64 1, .bool false] 95 := by rw [hw3]; exact (((Ob.new W _ _).alloc _).alloc _).alloc _
  have o1 : Ob w3 (W.heap.size + 1) #[.string N, .slice none 0 0, .slice none 0 0, .slice none 0 0, .slice none 0 0, .slice none 0 0, .slice none 0 0, .slice none 0 0, .slice none 0 0, .slice none 0 0, .slice none 0 0] 40 := by
    rw [hw3]
    have := ((Ob.new (W.alloc (.cells #[.int .i64 1, .bool false] 95)) #[.string N, .slice none 0 0, .slice none 0 0, .slice none 0 0, .slice none 0 0, .slice none 0 0, .slice none 0 0, .slice none 0 0, .slice none 0 0, .slice none 0 0, .slice none 0 0] 40).alloc (.cells #[.string ⟨#[]⟩, .slice none 0 0, .slice none 0 0, .slice none 0 0, .slice none 0 0, .slice none 0 0, .slice none 0 0, .slice none 0 0, .slice none 0 0, .slice none 0 0, .slice none 0 0] 40)).alloc (.cells #[.int .i64 0, .bool false] 95)
    simpa using this
  have o2 : Ob w3 (W.heap.size + 1 + 1) #[.string ⟨#[]⟩, .slice none 0 0, .slice none 0 0, .slice none 0 0, .slice none 0 0, .slice none 0 0, .slice none 0 0, .slice none 0 0, .slice none 0 0, .slice none 0 0, .slice none 0 0] 40 := by
    rw [hw3]
    have := (Ob.new ((W.alloc (.cells #[.int .i64 1, .bool false] 95)).alloc (.cells #[.string N, .slice none 0 0, .slice none 0 0, .slice none 0 0, .slice none 0 0, .slice none 0 0, .slice none 0 0, .slice none 0 0, .slice none 0 0, .slice none 0 0, .slice none 0 0] 40)) #[.string ⟨#[]⟩, .slice none 0 0, .slice none 0 0, .slice none 0 0, .slice none 0 0, .slice none 0 0, .slice none 0 0, .slice none 0 0, .slice none 0 0, .slice none 0 0, .slice none 0 0] 40).alloc (.cells #[.int .i64 0, .bool false] 95)
    simpa using this
  have o3 : Ob w3 (W.heap.size + 1 + 1 + 1) #[.int .i64 0, .bool false] 95 := by
    rw [hw3]
    have := Ob.new (((W.alloc (.cells #[.int .i64 1, .bool false] 95)).alloc (.cells #[.string N, .slice none 0 0, .slice none 0 0, .slice none 0 0, .slice none 0 0, .slice none 0 0, .slice none 0 0, .slice none 0 0, .slice none 0 0, .slice none 0 0, .slice none 0 0] 40)).alloc (.cells #[.string ⟨#[]⟩, .slice none 0 0, .slice none 0 0, .slice none 0 0, .slice none 0 0, .slice none 0 0, .slice none 0 0, .slice none 0 0, .slice none 0 0, .slice none 0 0, .slice none 0 0] 40)) #[.int .i64 0, .bool false] 95
    simpa using this
  have hb3 : Below W.heap.size W w3 := by rw [hw3]; exact ((((Below.refl _ W).alloc (Nat.le_refl _) _).alloc (by simp) _).alloc (by simp; omega) _).alloc (by simp; omega) _
  have QN : Hid _ := fun V => pnclone_any N V hN
  have a0 := fun x : Ext w3 => x.cell (p := ⟨W.heap.size, 0, none⟩) o0.lt (o0.cell 0 rfl)
  have a1 := fun x : Ext w3 => x.cell (p := ⟨W.heap.size, 1, none⟩) o0.lt (o0.cell 1 rfl)
  have b0 := fun x : Ext w3 => x.cell (p := ⟨W.heap.size + 1, 0, none⟩) o1.lt (o1.cell 0 rfl)
  have b1 := fun x : Ext w3 => x.cell (p := ⟨W.heap.size + 1, 1, none⟩) o1.lt (o1.cell 1 rfl)
  have b2 := fun x : Ext w3 => x.cell (p := ⟨W.heap.size + 1, 2, none⟩) o1.lt (o1.cell 2 rfl)
  have b3 := fun x : Ext w3 => x.cell (p := ⟨W.heap.size + 1, 3, none⟩) o1.lt (o1.cell 3 rfl)
  have b4 := fun x : Ext w3 => x.cell (p := ⟨W.heap.size + 1, 4, none⟩) o1.lt (o1.cell 4 rfl)
  have b5 := fun x : Ext w3 => x.cell (p := ⟨W.heap.size + 1, 5, none⟩) o1.lt (o1.cell 5 rfl)
  have b6 := fun x : Ext w3 => x.cell (p := ⟨W.heap.size + 1, 6, none⟩) o1.lt (o1.cell 6 rfl)
  have b7 := fun x : Ext w3 => x.cell (p := ⟨W.heap.size + 1, 7, none⟩) o1.lt (o1.cell 7 rfl)
  have b8 := fun x : Ext w3 => x.cell (p := ⟨W.heap.size + 1, 8, none⟩) o1.lt (o1.cell 8 rfl)
  have b9 := fun x : Ext w3 => x.cell (p := ⟨W.heap.size + 1, 9, none⟩) o1.lt (o1.cell 9 rfl)
  have b10 := fun x : Ext w3 => x.cell (p := ⟨W.heap.size + 1, 10, none⟩) o1.lt (o1.cell 10 rfl)
  have e0 := fun x : Ext w3 => x.cell (p := ⟨W.heap.size + 1 + 1 + 1, 0, none⟩) o3.lt (o3.cell 0 rfl)
  have e1 := fun x : Ext w3 => x.cell (p := ⟨W.heap.size + 1 + 1 + 1, 1, none⟩) o3.lt (o3.cell 1 rfl)
  have O2 : Hid _ := o2
  have HB3 : Hid _ := hb3
  have HW3 : Hid _ := hw3
  clear o0 o1 o2 o3 hb3 hw3 hN
  go_enter Tryz.func37, Tryz.ntmps37
  go_upto_region 2 with fail
  rw [← HW3.out]
  clear HW3
  refine wp_region_elast w3 (Below.refl _ _) rfl (by kernel_rfl) (by kernel_rfl) (by kernel_rfl) (by kernel_rfl) ?_
  simp only [List.dropLast]
  repeat (go_big_quiet_step (first
    | (go_at_call 40; exact Ext.call (fun V hV => QN.out V) _)
    | (go_at_call 31; exact Ext.call_same (fun V => ptexts0 _ _ V) _)
    | (go_at_call 67; exact Ext.call (fun V hV => pmsgs0 _ V) _)
    | (go_at_call 68; exact Ext.call_same (fun V => peach0_enm _ _ _ V) _)
    | (go_at_call 69; exact Ext.call_same (fun V => peach0_rng _ _ _ V) _)
    | (go_at_call 71; exact Ext.call_same (fun V => peach0_one _ _ _ V) _)
    | (go_at_call 66; exact Ext.call_same (fun V => peach0_fld _ _ _ V) _)
    | (go_at_call 73; exact Ext.call_same (fun V => pbclone0 V) _)
    | (go_at_call 74; exact Ext.call (fun V hV => punknown0 _ V) _)))
  refine wpQuiet_nil ?_
  rintro w5 ⟨⟨_, hb5⟩, rfl⟩ Q' hQ'
  have HQ : Hid _ := hQ'
  have o5 := O2.out.below hb5 O2.out.lt
  obtain ⟨⟨c0, c1, c2, c3, c4, c5, c6, c7, c8, c9, c10⟩, ⟨d0, d1, d2, d3, d4, d5, d6, d7, d8, d9, d10⟩, dl⟩ := ob11 o5
  have O5 : Hid _ := o5
  have HB5 : Hid (Below W.heap.size W w5) := HB3.out.trans (hb5.mono HB3.out.size)
  clear hQ' o5 hb5 a0 a1 b0 b1 b2 b3 b4 b5 b6 b7 b8 b9 b10 e0 e1 HB3 O2 QN
  go_wp2
  refine HQ.out _ _ ?_
  clear HQ
  go_wp2
  refine msg_ret (p := 4) ?_ (W.heap.size + 1 + 1) #[.string N, .slice none 0 0, .slice none 0 0, .slice none 0 0, .slice none 0 0, .slice none 0 0, .slice none 0 0, .slice none 0 0, .slice none 0 0, .slice none 0 0, .slice none 0 0] rfl ?_ (set11 O5.out _ _ _ _ _ _ _ _ _ _ _) ?_ ?_
  · rfl
  · rfl
  · rfl
  · exact ⟨rfl, below11 _ (by omega) HB5.out _ _ _ _ _ _ _ _ _ _ _⟩

end Go.Proofs.YtfkhocmbhnigeaaGreat
