/- Put together by a program out of these texts of mine: VSoC, VSoD. -/
import Derived.Test.YtafmoceinamcdaaGreatBunS2
import Derived.Test.YtafmoceinamcdaaGreatBunS5
import Derived.Test.YtafmoceinamcdaaGreatBunS18
import Derived.Test.YtafmoceinamcdaaGreatBunS22

namespace Go.Proofs.YtafmoceinamcdaaGreat
open Go.RowKit Go.Shelf
set_option linter.unusedVariables false
set_option linter.unusedSimpArgs false

set_option maxRecDepth 100000 in
set_option maxHeartbeats 4000000 in
theorem so_sort {W0 : World} {B bp : Nat} {cf : ByteArray → ByteArray → Int} {G : ByteArray → Prop} (hcmp : Hid (CmpC W0 B bp cf G)) (n cap : Nat) (hn : n ≤ 1000000000) (W : World) (hf : Hid (Fb B W0 W)) (hr : Hid (Rg W B n G)) :
    Calls Tryz.prog 121 #[.slice (some ⟨B, 0, none⟩) n cap, cmpV bp] W fun e W' => e = .returned (.tuple #[]) ∧ Fb B W W' ∧ Rg W' B n G := by
  have hl : Calls Tryz.prog 130 #[.int .u64 (n : Int)] W fun e w' => e = .returned (.int .i64 (Lib.bitLen n : Nat)) ∧ w' = W := by
    have h := Any.bits_Len (SlLaysF0.n15.bits (P := Tryz.prog) (ρ := Sh.laysSlF6_f121_ren) { Sh.laysSlF6_f121 with }) (n : Int) W (by omega) (by omega)
    rw [Int.toNat_natCast] at h
    exact h
  have hb : Lib.bitLen n ≤ 62 := Lib.bitLen_le n 62 (by omega) (by omega)
  have QL : Hid _ := hl
  have QP : Hid _ := so_pdq hcmp n cap hn (n + 1) 0 n (Lib.bitLen n) (by omega) (Nat.zero_le _) (Nat.le_refl _) (by omega) W hf hr
  unfold cmpV at QP ⊢
  have wr : IntKind.u64.wrap (n : Int) = n := by simp [IntKind.wrap, IntKind.bits, IntKind.signed]; omega
  clear hl hb
  go_enter Tryz.func121, Tryz.ntmps121
  go_wp2_with fail
  refine Calls.mono QL.out ?_
  rintro e w' ⟨rfl, rfl⟩
  go_wp2_with fail
  refine Calls.mono QP.out ?_
  rintro e w2 ⟨rfl, f9, r9⟩
  have F9 : Hid _ := f9
  have R9 : Hid _ := r9
  clear f9 r9
  go_wp2_with fail
  go_end0
  exact ⟨rfl, F9.out, R9.out⟩

theorem so_none_ins (bp : Nat) (w : World) : Calls Tryz.prog 175 #[.slice none 0 0, .int .i64 0, .int .i64 0, cmpV bp] w fun e w' => e = .returned (.tuple #[]) ∧ w = w' := by
  unfold cmpV
  go_enter Tryz.func175, Tryz.ntmps175
  go_wp2
  go_loopw [8] (fun v wr => v = .int .i64 1 ∧ w = wr) (fun _ _ => 0)
  case atStart => exact ⟨rfl, rfl⟩
  case round =>
    obtain ⟨rfl, rfl⟩ := hrel
    go_wp2
    first
      | exact ⟨rfl, rfl⟩
      | (go_end0; exact ⟨rfl, rfl⟩)

theorem so_none_pdq (bp : Nat) (w : World) : Calls Tryz.prog 151 #[.slice none 0 0, .int .i64 0, .int .i64 0, .int .i64 0, cmpV bp] w fun e w' => e = .returned (.tuple #[]) ∧ w = w' := by
  have Q : Hid _ := so_none_ins bp w
  unfold cmpV at Q ⊢
  go_enter Tryz.func151, Tryz.ntmps151
  go_wp2
  go_loopw [1, 2] (fun v1 v2 wr => v1 = .int .i64 0 ∧ v2 = .int .i64 0 ∧ w = wr) (fun _ _ _ => 0)
  case atStart => exact ⟨rfl, rfl, rfl⟩
  case round =>
    obtain ⟨rfl, rfl, rfl⟩ := hrel
    go_wp2_with fail
    refine Calls.mono Q.out ?_
    rintro e w' ⟨rfl, rfl⟩
    go_wp2_with fail
    (try simp only [Exit.inBlock, Exit.then])
    refine bodyPost_ret (results_none rfl _ _ _) rfl ?_
    exact ⟨rfl, rfl⟩

set_option maxRecDepth 100000 in
theorem so_none (bp : Nat) (w : World) : Calls Tryz.prog 121 #[.slice none 0 0, cmpV bp] w fun e w' => e = .returned (.tuple #[]) ∧ w = w' := by
  have hl : Calls Tryz.prog 130 #[.int .u64 0] w fun e w' => e = .returned (.int .i64 0) ∧ w' = w := by
    have h := Any.bits_Len (SlLaysF0.n15.bits (P := Tryz.prog) (ρ := Sh.laysSlF6_f121_ren) { Sh.laysSlF6_f121 with }) 0 w (by omega) (by omega)
    exact h
  have QL : Hid _ := hl
  have Q : Hid _ := so_none_pdq bp w
  unfold cmpV at Q ⊢
  clear hl
  go_enter Tryz.func121, Tryz.ntmps121
  go_wp2_with fail
  refine Calls.mono QL.out ?_
  rintro e w' ⟨rfl, rfl⟩
  go_wp2_with fail
  refine Calls.mono Q.out ?_
  rintro e w2 ⟨rfl, rfl⟩
  go_wp2_with fail
  go_end0
  exact ⟨rfl, rfl⟩

end Go.Proofs.YtafmoceinamcdaaGreat

namespace Go.Proofs.YtafmoceinamcdaaGreat
open Go.RowKit
set_option linter.unusedVariables false
set_option linter.unusedSimpArgs false

def cmpI (x y : Int) : Int := if x < y then -1 else if x > y then 1 else 0
def cmpS (x y : ByteArray) : Int := if slt x y then -1 else if x.toList == y.toList then 0 else 1
def orI (x y : Int) : Int := if x = 0 then y else x

theorem b_nanI (x : Int) (w : World) : Calls Tryz.prog 183 #[.int .i64 x] w fun e w' => e = .returned (.bool false) ∧ w = w' := by
  go_enter Tryz.func183, Tryz.ntmps183
  go_wp2
  go_ret
  simp

theorem b_nanS (x : ByteArray) (w : World) : Calls Tryz.prog 184 #[.string x] w fun e w' => e = .returned (.bool false) ∧ w = w' := by
  go_enter Tryz.func184, Tryz.ntmps184
  go_wp2
  go_ret
  simp

theorem b_cmpI (x y : Int) (w : World) : Calls Tryz.prog 153 #[.int .i64 x, .int .i64 y] w fun e w' => e = .returned (.int .i64 (cmpI x y)) ∧ w = w' := by
  have q1 : Hid _ := b_nanI x w
  have q2 : Hid _ := b_nanI y w
  unfold cmpI
  by_cases h1 : x < y
  · rw [if_pos h1]
    go_enter Tryz.func153, Tryz.ntmps153
    go_wp2_with fail
    refine Calls.mono q1.out ?_
    rintro e w1 ⟨rfl, rfl⟩
    go_wp2_with fail
    refine Calls.mono q2.out ?_
    rintro e w1 ⟨rfl, rfl⟩
    go_wp2
    go_ret
    exact ⟨rfl, rfl⟩
  · rw [if_neg h1]
    by_cases h2 : x > y
    · rw [if_pos h2]
      go_enter Tryz.func153, Tryz.ntmps153
      go_wp2_with fail
      refine Calls.mono q1.out ?_
      rintro e w1 ⟨rfl, rfl⟩
      go_wp2_with fail
      refine Calls.mono q2.out ?_
      rintro e w1 ⟨rfl, rfl⟩
      go_wp2
      go_ret
      exact ⟨rfl, rfl⟩
    · rw [if_neg h2]
      go_enter Tryz.func153, Tryz.ntmps153
      go_wp2_with fail
      refine Calls.mono q1.out ?_
      rintro e w1 ⟨rfl, rfl⟩
      go_wp2_with fail
      refine Calls.mono q2.out ?_
      rintro e w1 ⟨rfl, rfl⟩
      go_wp2
      go_ret
      exact ⟨rfl, rfl⟩

theorem b_cmpS (x y : ByteArray) (w : World) : Calls Tryz.prog 154 #[.string x, .string y] w fun e w' => e = .returned (.int .i64 (cmpS x y)) ∧ w = w' := by
  have q1 : Hid _ := b_nanS x w
  have q2 : Hid _ := b_nanS y w
  unfold cmpS slt
  cases h1 : Op.bytesLess x.toList y.toList with
  | true =>
    rw [if_pos rfl]
    go_enter Tryz.func154, Tryz.ntmps154
    go_wp2_with fail
    refine Calls.mono q1.out ?_
    rintro e w1 ⟨rfl, rfl⟩
    go_wp2_with fail
    refine Calls.mono q2.out ?_
    rintro e w1 ⟨rfl, rfl⟩
    go_wp2
    go_ret
    exact ⟨rfl, rfl⟩
  | false =>
    rw [if_neg (by simp)]
    cases h2 : (x.toList == y.toList) with
    | true =>
      rw [if_pos rfl]
      have h3 : (!(Op.bytesLess x.toList y.toList || x.toList == y.toList)) = false := by rw [h1, h2]; rfl
      go_enter Tryz.func154, Tryz.ntmps154
      go_wp2_with fail
      refine Calls.mono q1.out ?_
      rintro e w1 ⟨rfl, rfl⟩
      go_wp2_with fail
      refine Calls.mono q2.out ?_
      rintro e w1 ⟨rfl, rfl⟩
      go_wp2
      go_ret
      exact ⟨rfl, rfl⟩
    | false =>
      rw [if_neg (by simp)]
      have h3 : (!(Op.bytesLess x.toList y.toList || x.toList == y.toList)) = true := by rw [h1, h2]; rfl
      go_enter Tryz.func154, Tryz.ntmps154
      go_wp2_with fail
      refine Calls.mono q1.out ?_
      rintro e w1 ⟨rfl, rfl⟩
      go_wp2_with fail
      refine Calls.mono q2.out ?_
      rintro e w1 ⟨rfl, rfl⟩
      go_wp2
      go_ret
      exact ⟨rfl, rfl⟩

theorem b_or (g : Nat) (x y : Int) (w : World) (ho : Ob w g #[.int .i64 x, .int .i64 y] 3) :
    Calls Tryz.prog 152 #[.slice (some ⟨g, 0, none⟩) 2 2] w fun e w' => e = .returned (.int .i64 (orI x y)) ∧ w = w' := by
  obtain ⟨⟨c0, c1⟩, _, cl⟩ := ob2 ho
  unfold orI
  by_cases hx : x = 0
  · subst hx
    rw [if_pos rfl]
    by_cases hy : y = 0
    · subst hy
      go_enter Tryz.func152, Tryz.ntmps152
      go_wp2
      go_loopw [8] (fun v wr => (v = .int .i64 0 ∨ v = .int .i64 1 ∨ v = .int .i64 2) ∧ w = wr) (fun v _ => 2 - (intOf v).toNat)
      case atStart => exact ⟨.inl rfl, rfl⟩
      case round =>
        obtain ⟨rfl | rfl | rfl, rfl⟩ := hrel
        · go_wp2
          exact ⟨⟨.inr (.inl (by go_num)), by first | rfl | trivial⟩, by simp [intOf]⟩
        · go_wp2
          exact ⟨⟨.inr (.inr (by go_num)), by first | rfl | trivial⟩, by simp [intOf]⟩
        · go_wp2
          go_ret
          exact ⟨rfl, rfl⟩
    · go_enter Tryz.func152, Tryz.ntmps152
      go_wp2
      go_loopw [8] (fun v wr => (v = .int .i64 0 ∨ v = .int .i64 1) ∧ w = wr) (fun v _ => 2 - (intOf v).toNat)
      case atStart => exact ⟨.inl rfl, rfl⟩
      case round =>
        obtain ⟨rfl | rfl, rfl⟩ := hrel
        · go_wp2
          exact ⟨⟨.inr (by go_num), by first | rfl | trivial⟩, by simp [intOf]⟩
        · go_wp2
          go_ret
          exact ⟨rfl, rfl⟩
  · rw [if_neg hx]
    go_enter Tryz.func152, Tryz.ntmps152
    go_wp2
    go_loopw [8] (fun v wr => v = .int .i64 0 ∧ w = wr) (fun v _ => 2 - (intOf v).toNat)
    case atStart => exact ⟨rfl, rfl⟩
    case round =>
      obtain ⟨rfl, rfl⟩ := hrel
      go_wp2
      go_ret
      exact ⟨rfl, rfl⟩

set_option maxRecDepth 100000 in
set_option maxHeartbeats 4000000 in
theorem by_any (W : World) {bp bs be n : Nat} {vf : Value} {g : ByteArray → Option Value} (hq : Hid (Pq W bp bs be vf n g)) (x y : ByteArray) (hx : x.size ≤ maxLen) (hy : y.size ≤ maxLen)
    (k1 : Int) (H1 : ByteArray) (p1 p2 : Option Addr) (b1 o1 : Nat) (gx : g x = some (.agg #[.int .i64 k1, .string H1, .pointer p1, .pointer p2, .pointer (some ⟨b1, o1, none⟩)]))
    (k2 : Int) (H2 : ByteArray) (p3 p4 : Option Addr) (b2 o2 : Nat) (gy : g y = some (.agg #[.int .i64 k2, .string H2, .pointer p3, .pointer p4, .pointer (some ⟨b2, o2, none⟩)]))
    (m1 m2 : Int) (hb1 : b1 < W.heap.size) (hb2 : b2 < W.heap.size) (c1 : W.cell? ⟨b1, o1 + 1, none⟩ = some (.int .i64 m1)) (c2 : W.cell? ⟨b2, o2 + 1, none⟩ = some (.int .i64 m2)) :
    Calls Tryz.prog 122 #[.pointer (some ⟨bp, 0, none⟩), .string x, .string y] W fun e W' => e = .returned (.int .i64 (orI (cmpI m1 m2) (cmpS x y))) ∧ Below W.heap.size W W' := by
  have q1 := hq.out.blk
  have q3 := hq.out.sym
  have a1 := fun V : Ext W => V.cell (p := ⟨bp, 1, none⟩) q1.lt (q1.cell 1 rfl)
  have d1 := fun V : Ext W => V.cell (p := ⟨b1, o1 + 1, none⟩) hb1 c1
  have d2 := fun V : Ext W => V.cell (p := ⟨b2, o2 + 1, none⟩) hb2 c2
  have l1 : ∀ V : Ext W, (Instr.lookup 88 (.map (some bs)) (.string x) false).run Tryz.prog V.val = .ok (.agg #[.int .i64 k1, .string H1, .pointer p1, .pointer p2, .pointer (some ⟨b1, o1, none⟩)]) V.val := fun V => by
    have := (q3.below V.ok q3.lt).look symMap (zeroSym V.val) x hx false
    rw [gx] at this
    simpa [mlook] using this
  have l2 : ∀ V : Ext W, (Instr.lookup 88 (.map (some bs)) (.string y) false).run Tryz.prog V.val = .ok (.agg #[.int .i64 k2, .string H2, .pointer p3, .pointer p4, .pointer (some ⟨b2, o2, none⟩)]) V.val := fun V => by
    have := (q3.below V.ok q3.lt).look symMap (zeroSym V.val) y hy false
    rw [gy] at this
    simpa [mlook] using this
  have f1 : ∀ w, (Instr.field 93 (.agg #[.int .i64 k1, .string H1, .pointer p1, .pointer p2, .pointer (some ⟨b1, o1, none⟩)]) 4).run Tryz.prog w = .ok (.pointer (some ⟨b1, o1, none⟩)) w := fun w => by kernel_rfl
  have f2 : ∀ w, (Instr.field 93 (.agg #[.int .i64 k2, .string H2, .pointer p3, .pointer p4, .pointer (some ⟨b2, o2, none⟩)]) 4).run Tryz.prog w = .ok (.pointer (some ⟨b2, o2, none⟩)) w := fun w => by kernel_rfl
  have qI : Hid _ := fun V => b_cmpI m1 m2 V
  have qS : Hid _ := fun V => b_cmpS x y V
  have hlt := q1.lt
  have hsz := Below.refl W.heap.size W
  clear q1 q3 gx gy hq c1 c2
  go_enter Tryz.func122, Tryz.ntmps122
  go_upto_region 1 with fail
  refine wp_region_then W 24 3 rfl (Below.refl _ _) (by kernel_rfl) (by kernel_rfl) (by kernel_rfl) (by kernel_rfl) ?_
  simp only [List.take]
  repeat (go_big_quiet_step (first
    | (go_at_call 153; exact Ext.call_same qI.out _)
    | (go_at_call 154; exact Ext.call_same qS.out _)))
  refine wpQuiet_nil ?_
  rintro w1 ⟨⟨_, hbw⟩, rfl⟩
  have HB1 : Hid _ := hbw
  clear a1 d1 d2 l1 l2 f1 f2 qI qS hbw
  have QO : Hid _ := b_or w1.heap.size (cmpI m1 m2) (cmpS x y) (w1.alloc (.cells #[.int .i64 (cmpI m1 m2), .int .i64 (cmpS x y)] 3)) (Ob.new w1 _ _)
  obtain ⟨wq, hwq⟩ : ∃ wq, w1.alloc (.cells #[.int .i64 (cmpI m1 m2), .int .i64 (cmpS x y)] 3) = wq := ⟨_, rfl⟩
  have hbq : Below w1.heap.size w1 wq := by rw [← hwq]; exact (Below.refl _ _).alloc (Nat.le_refl _) _
  have HBq : Hid (Below W.heap.size W wq) := HB1.out.trans (hbq.mono HB1.out.size)
  rw [hwq] at QO
  have HWq : Hid _ := hwq
  clear hbq hwq
  refine wpAny_force (i := 24) (by kernel_rfl) rfl ?_
  intro Q' hQ' hPn
  have HQ : Hid _ := hQ'
  clear hQ' hPn
  go_wp2
  rw [HWq.out]
  refine HQ.out _ _ ?_
  clear HQ HWq
  refine wpAny_force (i := 25) (by kernel_rfl) rfl ?_
  intro Q' hQ' hPn
  have HQ : Hid _ := hQ'
  clear hQ' hPn
  go_wp2_with fail
  refine Calls.mono QO.out ?_
  rintro e w2 ⟨rfl, rfl⟩
  go_wp2
  refine HQ.out _ _ ?_
  clear HQ
  refine wpAny_force (i := 26) (by kernel_rfl) rfl ?_
  intro Q' hQ' hPn
  have HQ : Hid _ := hQ'
  clear hQ' hPn
  go_wp2
  refine HQ.out _ _ ?_
  clear HQ
  refine wpAny_end (by kernel_rfl) ?_
  go_wp2
  go_ret
  exact ⟨rfl, HBq.out⟩

end Go.Proofs.YtafmoceinamcdaaGreat
