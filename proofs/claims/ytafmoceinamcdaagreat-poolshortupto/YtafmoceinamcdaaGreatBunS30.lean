/- Put together by a program out of these texts of mine: VRd, VRe. -/
import Derived.Test.YtafmoceinamcdaaGreatBunS4
import Derived.Test.YtafmoceinamcdaaGreatBunS29

namespace Go.Proofs.YtafmoceinamcdaaGreat
open Go.RowKit
set_option linter.unusedVariables false
set_option linter.unusedSimpArgs false

set_option maxRecDepth 100000 in
set_option maxHeartbeats 16000000 in
theorem rexts_any (W : World) (w0 : World) (B0 gp : Nat) (HBW0 : Hid (B0 ≤ W.heap.size)) (HW0 : Hid (w0.heap.size ≤ B0)) (HB00 : Hid (Below w0.heap.size w0 W)) (fv : Value) (hm : ByteArray) (st : Sl × Option ByteArray) (HP0 : Hid (Rp W B0 gp fv hm st)) (sc : List Int) (HSC : Hid (byts sc ∧ sc.length ≤ 400000000)) (a : Option Addr) (n c : Nat) (ms : List Md) (HS : Hid (Src w0 33 (.ls a n c ms) ∧ Nm (.ls a n c ms))) (HC : Hid (st.1.length + n ≤ 900000000)) :
    Calls Tryz.prog 127 #[.pointer (some ⟨gp, 0, none⟩), .slice a n c, .string (strOfNums sc)] W fun e W' => Aend W B0 gp fv hm ((valL sc 6 13 ms n).foldl (radd hm) st) e W' := by
  have hn : n ≤ 900000000 := by have := HC.out; omega
  go_enter Tryz.func127, Tryz.ntmps127
  go_wp2
  go_loopw [10] (fun v wr => ∃ k : Nat, v = .int .i64 (k : Int) ∧ k ≤ n ∧ Hid (Fr B0 W wr) ∧ Hid (Rp wr B0 gp fv hm ((valL sc 6 13 ms k).foldl (radd hm) st))) (fun v _ => n - (intOf v).toNat)
  case atStart => exact ⟨0, rfl, Nat.zero_le _, Fr.refl _ _, HP0⟩
  case round =>
    obtain ⟨k, rfl, hk, HF, HR⟩ := hrel
    by_cases hlk : k < n
    · skip
      have HBW := HB00.out.trans (HF.out.to_below HBW0.out |>.mono HW0.out)
      obtain ⟨b, off, es0, ex1, ex2, ex3, es4, es5, es6, ey7, ex8, es9, ey10, ea11, en11, ek11, ea12, en12, ek12, ha, hlt, cc0, cc1, cc2, cc3, cc4, cc5, cc6, cc7, cc8, cc9, cc10, cc11, cc12, hz0, hst⟩ := fld_src HS.out.1 HS.out.2 hlk
      subst ha
      have d0 := (HBW.cell (p := ⟨b, off + k * 13, none⟩) hlt).trans cc0
      have d1 := (HBW.cell (p := ⟨b, off + k * 13 + 1, none⟩) hlt).trans cc1
      have d2 := (HBW.cell (p := ⟨b, off + k * 13 + 2, none⟩) hlt).trans cc2
      have d3 := (HBW.cell (p := ⟨b, off + k * 13 + 3, none⟩) hlt).trans cc3
      have d4 := (HBW.cell (p := ⟨b, off + k * 13 + 4, none⟩) hlt).trans cc4
      have d5 := (HBW.cell (p := ⟨b, off + k * 13 + 5, none⟩) hlt).trans cc5
      have d6 := (HBW.cell (p := ⟨b, off + k * 13 + 6, none⟩) hlt).trans cc6
      have d7 := (HBW.cell (p := ⟨b, off + k * 13 + 7, none⟩) hlt).trans cc7
      have d8 := (HBW.cell (p := ⟨b, off + k * 13 + 8, none⟩) hlt).trans cc8
      have d9 := (HBW.cell (p := ⟨b, off + k * 13 + 9, none⟩) hlt).trans cc9
      have d10 := (HBW.cell (p := ⟨b, off + k * 13 + 10, none⟩) hlt).trans cc10
      have d11 := (HBW.cell (p := ⟨b, off + k * 13 + 11, none⟩) hlt).trans cc11
      have d12 := (HBW.cell (p := ⟨b, off + k * 13 + 12, none⟩) hlt).trans cc12
      have hlw := Nat.lt_of_lt_of_le hlt HBW.size
      clear cc0 cc1 cc2 cc3 cc4 cc5 cc6 cc7 cc8 cc9 cc10 cc11 cc12 hlt
      obtain ⟨w4, hwn⟩ : ∃ V, V = wr.alloc (.cells #[.string es0, .int .i64 ex1, .int .i64 ex2, .int .i64 ex3, .string es4, .string es5, .string es6, .bool ey7, .int .i64 ex8, .string es9, .bool ey10, .slice ea11 en11 ek11, .slice ea12 en12 ek12] 45) := ⟨_, rfl⟩
      have hbn : Below wr.heap.size wr w4 := by rw [hwn]; exact (Below.refl _ _).alloc (Nat.le_refl _) _
      have on : Ob w4 wr.heap.size #[.string es0, .int .i64 ex1, .int .i64 ex2, .int .i64 ex3, .string es4, .string es5, .string es6, .bool ey7, .int .i64 ex8, .string es9, .bool ey10, .slice ea11 en11 ek11, .slice ea12 en12 ek12] 45 := by rw [hwn]; exact Ob.new _ _ _
      have HWN : Hid _ := hwn
      have HRPN : Hid _ := HR.out.below hbn
      have HFRN : Hid (Fr B0 W w4) := HF.out.trans (Fr.of_below hbn)
      have hll := radds_len hm (valL sc 6 13 ms k) st
      rw [valL_len] at hll
      have QJ : Hid _ := fun V => rjn sc es0 V HSC.out.2 hz0
      have hbld : ∀ V, (Instr.build 47 #[(0, .string (jn sc es0)), (1, .int .i64 6), (5, .agg #[.string es0, .int .i64 ex1, .int .i64 ex2, .int .i64 ex3, .string es4, .string es5, .string es6, .bool ey7, .int .i64 ex8, .string es9, .bool ey10, .slice ea11 en11 ek11, .slice ea12 en12 ek12])]).run Tryz.prog V = .ok (.agg #[.string (jn sc es0), .int .i64 6, .string ⟨#[]⟩, .string ⟨#[]⟩, .slice none 0 0, .slice none 0 0, .slice none 0 0, .slice none 0 0, .slice none 0 0, .slice none 0 0, .slice none 0 0, .slice none 0 0, .slice none 0 0, .slice none 0 0, .string ⟨#[]⟩, .slice none 0 0, .slice none 0 0, .slice none 0 0, .string es0, .int .i64 ex1, .int .i64 ex2, .int .i64 ex3, .string es4, .string es5, .string es6, .bool ey7, .int .i64 ex8, .string es9, .bool ey10, .slice ea11 en11 ek11, .slice ea12 en12 ek12]) V := fun V => bldF _ _ _ _ _ _ _ _ _ _ _ _ _ _ _ V
      have b0 := fun V : Ext w4 => V.cell (p := ⟨wr.heap.size, 0, none⟩) on.lt (on.cell 0 rfl)
      have b1 := fun V : Ext w4 => V.cell (p := ⟨wr.heap.size, 1, none⟩) on.lt (on.cell 1 rfl)
      have b2 := fun V : Ext w4 => V.cell (p := ⟨wr.heap.size, 2, none⟩) on.lt (on.cell 2 rfl)
      have b3 := fun V : Ext w4 => V.cell (p := ⟨wr.heap.size, 3, none⟩) on.lt (on.cell 3 rfl)
      have b4 := fun V : Ext w4 => V.cell (p := ⟨wr.heap.size, 4, none⟩) on.lt (on.cell 4 rfl)
      have b5 := fun V : Ext w4 => V.cell (p := ⟨wr.heap.size, 5, none⟩) on.lt (on.cell 5 rfl)
      have b6 := fun V : Ext w4 => V.cell (p := ⟨wr.heap.size, 6, none⟩) on.lt (on.cell 6 rfl)
      have b7 := fun V : Ext w4 => V.cell (p := ⟨wr.heap.size, 7, none⟩) on.lt (on.cell 7 rfl)
      have b8 := fun V : Ext w4 => V.cell (p := ⟨wr.heap.size, 8, none⟩) on.lt (on.cell 8 rfl)
      have b9 := fun V : Ext w4 => V.cell (p := ⟨wr.heap.size, 9, none⟩) on.lt (on.cell 9 rfl)
      have b10 := fun V : Ext w4 => V.cell (p := ⟨wr.heap.size, 10, none⟩) on.lt (on.cell 10 rfl)
      have b11 := fun V : Ext w4 => V.cell (p := ⟨wr.heap.size, 11, none⟩) on.lt (on.cell 11 rfl)
      have b12 := fun V : Ext w4 => V.cell (p := ⟨wr.heap.size, 12, none⟩) on.lt (on.cell 12 rfl)
      have hlw2 := on.lt
      go_upto_region 3 with fail
      rw [← HWN.out]
      clear HWN hwn
      refine wp_region_elast w4 (Below.refl _ _) rfl (by kernel_rfl) (by kernel_rfl) (by kernel_rfl) (by kernel_rfl) ?_
      simp only [List.dropLast]
      repeat (go_big_quiet_step (first
        | (go_at_call 106; exact Ext.call_same QJ.out _)))
      refine wpQuiet_nil ?_
      rintro w7 ⟨⟨_, hb7⟩, rfl⟩ Q' hQ'
      have HQ : Hid _ := hQ'
      have HRP7 : Hid _ := HRPN.out.below hb7
      have HF7 : Hid (Fr B0 W w7) := HFRN.out.trans (Fr.of_below hb7)
      have QA : Hid _ := radd_any w7 B0 gp (by have h1 := HBW0.out; have h2 := HF7.out.size; omega) fv hm _ HRP7 (by have := HC.out; omega) (jn sc es0) 6 (.string ⟨#[]⟩) (.slice none 0 0) (.slice none 0 0) (.slice none 0 0) (.slice none 0 0) (.slice none 0 0) (.slice none 0 0) (.slice none 0 0) (.slice none 0 0) (.slice none 0 0) (.slice none 0 0) (.string ⟨#[]⟩) (.slice none 0 0) (.slice none 0 0) (.slice none 0 0) (.string es0) (.int .i64 ex1) (.int .i64 ex2) (.int .i64 ex3) (.string es4) (.string es5) (.string es6) (.bool ey7) (.int .i64 ex8) (.string es9) (.bool ey10) (.slice ea11 en11 ek11) (.slice ea12 en12 ek12) (by
        intro u hu
        simp only [List.mem_cons, List.not_mem_nil, or_false] at hu
        rcases hu with rfl | rfl | rfl | rfl | rfl | rfl | rfl | rfl | rfl | rfl | rfl | rfl | rfl | rfl | rfl | rfl | rfl | rfl | rfl | rfl | rfl | rfl | rfl | rfl | rfl | rfl | rfl | rfl <;> rfl)
      clear hQ' hb7 hbld QJ b0 b1 b2 b3 b4 b5 b6 b7 b8 b9 b10 b11 b12
      go_wp2_with fail
      refine Calls.mono QA.out ?_
      rintro e w8 ⟨rfl, hf8, hp8⟩
      have HF8 : Hid (Fr B0 W w8) := HF7.out.trans hf8
      have HP8 : Hid _ := hp8
      clear hf8 hp8 QA HRP7 HF7
      go_wp2
      refine HQ.out _ _ ?_
      clear HQ
      go_wp2
      go_roundw
      case rel => first | exact ⟨k + 1, by go_num, by omega, HF8, by rw [valL_succ, List.foldl_append, hst]; exact HP8⟩ | ((repeat apply Exists.intro); exact ⟨⟨k + 1, by go_num, by omega, HF8, by rw [valL_succ, List.foldl_append, hst]; exact HP8⟩, rfl⟩)
      case measure => simp [intOf]; omega
    · obtain rfl : k = n := by omega
      have HE : Hid (Aend W B0 gp fv hm ((valL sc 6 13 ms k).foldl (radd hm) st) (.returned (.tuple #[])) wr) := ⟨rfl, HF.out, HR.out⟩
      go_wp2
      first
        | exact HE.out
        | (go_end0; exact HE.out)

set_option maxRecDepth 100000 in
set_option maxHeartbeats 16000000 in
theorem renum_any (W : World) (w0 : World) (B0 gp : Nat) (HBW0 : Hid (B0 ≤ W.heap.size)) (HW0 : Hid (w0.heap.size ≤ B0)) (HB00 : Hid (Below w0.heap.size w0 W)) (fv : Value) (hm : ByteArray) (st : Sl × Option ByteArray) (HP0 : Hid (Rp W B0 gp fv hm st)) (sc : List Int) (HSC : Hid (byts sc ∧ sc.length ≤ 400000000)) (s0 : ByteArray) (HZ0 : Hid (s0.size ≤ 2000000)) (a1 : Option Addr) (n1 k1 : Nat) (m1 : List Md) (a2 : Option Addr) (n2 k2 : Nat) (a3 : Option Addr) (n3 k3 : Nat) (HS : Hid (Src w0 41 (.ls a1 n1 k1 m1) ∧ Nm (.ls a1 n1 k1 m1))) (HC : Hid (st.1.length + (1 + n1) ≤ 900000000)) :
    Calls Tryz.prog 126 #[.pointer (some ⟨gp, 0, none⟩), .agg #[.string s0, .slice a1 n1 k1, .slice a2 n2 k2, .slice a3 n3 k3], .string (strOfNums sc)] W fun e W' => Aend W B0 gp fv hm (((jn sc s0, 3) :: valL sc 4 4 m1 n1).foldl (radd hm) st) e W' := by
  have hn : n1 ≤ 900000000 := by have := HC.out; omega
  obtain ⟨w1, hw1⟩ : ∃ V, V = W.alloc (.cells #[.string s0, .slice a1 n1 k1, .slice a2 n2 k2, .slice a3 n3 k3] 43) := ⟨_, rfl⟩
  have HB1 : Hid (Below W.heap.size W w1) := by rw [hw1]; exact (Below.refl _ _).alloc (Nat.le_refl _) _
  have on : Ob w1 W.heap.size #[.string s0, .slice a1 n1 k1, .slice a2 n2 k2, .slice a3 n3 k3] 43 := by rw [hw1]; exact Ob.new _ _ _
  have O1 : Hid _ := on
  have HWN : Hid _ := hw1
  have hwn := hw1
  clear hw1
  have HRPN : Hid _ := HP0.out.below HB1.out
  have HFRN : Hid (Fr B0 w1 w1) := Fr.refl _ _
  have hll0 : st.1.length ≤ 900000000 := by have := HC.out; omega
  go_enter Tryz.func126, Tryz.ntmps126
  have QJ : Hid _ := fun V => rjn sc s0 V HSC.out.2 HZ0.out
  have hbld : ∀ V, (Instr.build 47 #[(0, .string (jn sc s0)), (1, .int .i64 3), (4, .agg #[.string s0, .slice a1 n1 k1, .slice a2 n2 k2, .slice a3 n3 k3])]).run Tryz.prog V = .ok (.agg #[.string (jn sc s0), .int .i64 3, .string ⟨#[]⟩, .string ⟨#[]⟩, .slice none 0 0, .slice none 0 0, .slice none 0 0, .slice none 0 0, .slice none 0 0, .slice none 0 0, .slice none 0 0, .slice none 0 0, .slice none 0 0, .slice none 0 0, .string s0, .slice a1 n1 k1, .slice a2 n2 k2, .slice a3 n3 k3, .string ⟨#[]⟩, .int .i64 0, .int .i64 0, .int .i64 0, .string ⟨#[]⟩, .string ⟨#[]⟩, .string ⟨#[]⟩, .bool false, .int .i64 0, .string ⟨#[]⟩, .bool false, .slice none 0 0, .slice none 0 0]) V := fun V => bldE _ _ _ _ _ _ V
  have b0 := fun V : Ext w1 => V.cell (p := ⟨W.heap.size, 0, none⟩) on.lt (on.cell 0 rfl)
  have b1 := fun V : Ext w1 => V.cell (p := ⟨W.heap.size, 1, none⟩) on.lt (on.cell 1 rfl)
  have b2 := fun V : Ext w1 => V.cell (p := ⟨W.heap.size, 2, none⟩) on.lt (on.cell 2 rfl)
  have b3 := fun V : Ext w1 => V.cell (p := ⟨W.heap.size, 3, none⟩) on.lt (on.cell 3 rfl)
  have hlw2 := on.lt
  go_upto_region 1 with fail
  rw [← HWN.out]
  clear HWN hwn
  refine wp_region_elast w1 (Below.refl _ _) rfl (by kernel_rfl) (by kernel_rfl) (by kernel_rfl) (by kernel_rfl) ?_
  simp only [List.dropLast]
  repeat (go_big_quiet_step (first
    | (go_at_call 106; exact Ext.call_same QJ.out _)))
  refine wpQuiet_nil ?_
  rintro w7 ⟨⟨_, hb7⟩, rfl⟩ Q' hQ'
  have HQ : Hid _ := hQ'
  have HRP7 : Hid _ := HRPN.out.below hb7
  have HF7 : Hid (Fr B0 w1 w7) := HFRN.out.trans (Fr.of_below hb7)
  have QA : Hid _ := radd_any w7 B0 gp (by have h1 := HBW0.out; have h2 := HF7.out.size; have h3 := HB1.out.size; omega) fv hm _ HRP7 (by exact hll0) (jn sc s0) 3 (.string ⟨#[]⟩) (.slice none 0 0) (.slice none 0 0) (.slice none 0 0) (.slice none 0 0) (.slice none 0 0) (.slice none 0 0) (.slice none 0 0) (.slice none 0 0) (.slice none 0 0) (.slice none 0 0) (.string s0) (.slice a1 n1 k1) (.slice a2 n2 k2) (.slice a3 n3 k3) (.string ⟨#[]⟩) (.int .i64 0) (.int .i64 0) (.int .i64 0) (.string ⟨#[]⟩) (.string ⟨#[]⟩) (.string ⟨#[]⟩) (.bool false) (.int .i64 0) (.string ⟨#[]⟩) (.bool false) (.slice none 0 0) (.slice none 0 0) (by
    intro u hu
    simp only [List.mem_cons, List.not_mem_nil, or_false] at hu
    rcases hu with rfl | rfl | rfl | rfl | rfl | rfl | rfl | rfl | rfl | rfl | rfl | rfl | rfl | rfl | rfl | rfl | rfl | rfl | rfl | rfl | rfl | rfl | rfl | rfl | rfl | rfl | rfl | rfl <;> rfl)
  clear hQ' hb7 hbld QJ b0 b1 b2 b3
  go_wp2_with fail
  refine Calls.mono QA.out ?_
  rintro e w8 ⟨rfl, hf8, hp8⟩
  have HF8 : Hid (Fr B0 w1 w8) := HF7.out.trans hf8
  have HP8 : Hid _ := hp8
  clear hf8 hp8 QA HRP7 HF7
  go_wp2
  refine HQ.out _ _ ?_
  clear HQ
  have o8 := HF8.out.ob O1.out (by decide) (by decide)
  obtain ⟨c0, c1, c2, c3⟩ := (ob4 o8).1
  have cl := o8.lt
  clear o8
  go_wp2
  go_loopw [19] (fun v wr => ∃ k : Nat, v = .int .i64 (k : Int) ∧ k ≤ n1 ∧ Hid (Fr B0 w1 wr) ∧ Hid (Rp wr B0 gp fv hm (((jn sc s0, 3) :: valL sc 4 4 m1 k).foldl (radd hm) st))) (fun v _ => n1 - (intOf v).toNat)
  case atStart => exact ⟨0, rfl, Nat.zero_le _, HF8, HP8⟩
  case round =>
    clear HF8 HP8 c0 c1 c2 c3 cl
    obtain ⟨k, rfl, hk, HF, HR⟩ := hrel
    by_cases hlk : k < n1
    · skip
      have HBW := HB00.out.trans ((Fr.of_below (B0 := B0) HB1.out).trans HF.out |>.to_below HBW0.out |>.mono HW0.out)
      obtain ⟨b, off, es0, ex1, ea2, en2, ek2, ea3, en3, ek3, ha, hlt, cc0, cc1, cc2, cc3, hz0, hst⟩ := val_src HS.out.1 HS.out.2 hlk
      subst ha
      have d0 := (HBW.cell (p := ⟨b, off + k * 4, none⟩) hlt).trans cc0
      have d1 := (HBW.cell (p := ⟨b, off + k * 4 + 1, none⟩) hlt).trans cc1
      have d2 := (HBW.cell (p := ⟨b, off + k * 4 + 2, none⟩) hlt).trans cc2
      have d3 := (HBW.cell (p := ⟨b, off + k * 4 + 3, none⟩) hlt).trans cc3
      have hlw := Nat.lt_of_lt_of_le hlt HBW.size
      clear cc0 cc1 cc2 cc3 hlt
      obtain ⟨w4, hwn⟩ : ∃ V, V = wr.alloc (.cells #[.string es0, .int .i64 ex1, .slice ea2 en2 ek2, .slice ea3 en3 ek3] 146) := ⟨_, rfl⟩
      have hbn : Below wr.heap.size wr w4 := by rw [hwn]; exact (Below.refl _ _).alloc (Nat.le_refl _) _
      have on : Ob w4 wr.heap.size #[.string es0, .int .i64 ex1, .slice ea2 en2 ek2, .slice ea3 en3 ek3] 146 := by rw [hwn]; exact Ob.new _ _ _
      have HWN : Hid _ := hwn
      have HRPN : Hid _ := HR.out.below hbn
      have HFRN : Hid (Fr B0 w1 w4) := HF.out.trans (Fr.of_below hbn)
      have hsz := HFRN.out.size
      have hll := radds_len hm ((jn sc s0, 3) :: valL sc 4 4 m1 k) st
      rw [List.length_cons, valL_len] at hll
      have QJ : Hid _ := fun V => rjn sc es0 V HSC.out.2 hz0
      have hbld : ∀ V, (Instr.build 47 #[(0, .string (jn sc es0)), (1, .int .i64 4)]).run Tryz.prog V = .ok (.agg #[.string (jn sc es0), .int .i64 4, .string ⟨#[]⟩, .string ⟨#[]⟩, .slice none 0 0, .slice none 0 0, .slice none 0 0, .slice none 0 0, .slice none 0 0, .slice none 0 0, .slice none 0 0, .slice none 0 0, .slice none 0 0, .slice none 0 0, .string ⟨#[]⟩, .slice none 0 0, .slice none 0 0, .slice none 0 0, .string ⟨#[]⟩, .int .i64 0, .int .i64 0, .int .i64 0, .string ⟨#[]⟩, .string ⟨#[]⟩, .string ⟨#[]⟩, .bool false, .int .i64 0, .string ⟨#[]⟩, .bool false, .slice none 0 0, .slice none 0 0]) V := fun V => bld0 _ _ V
      have QA : Hid _ := radd_any w4 B0 gp (by have h1 := HBW0.out; have h2 := HB1.out.size; omega) fv hm _ HRPN (by have := HC.out; omega) (jn sc es0) 4 (.string ⟨#[]⟩) (.slice none 0 0) (.slice none 0 0) (.slice none 0 0) (.slice none 0 0) (.slice none 0 0) (.slice none 0 0) (.slice none 0 0) (.slice none 0 0) (.slice none 0 0) (.slice none 0 0) (.string ⟨#[]⟩) (.slice none 0 0) (.slice none 0 0) (.slice none 0 0) (.string ⟨#[]⟩) (.int .i64 0) (.int .i64 0) (.int .i64 0) (.string ⟨#[]⟩) (.string ⟨#[]⟩) (.string ⟨#[]⟩) (.bool false) (.int .i64 0) (.string ⟨#[]⟩) (.bool false) (.slice none 0 0) (.slice none 0 0) (by
        intro u hu
        simp only [List.mem_cons, List.not_mem_nil, or_false] at hu
        rcases hu with rfl | rfl | rfl | rfl | rfl | rfl | rfl | rfl | rfl | rfl | rfl | rfl | rfl | rfl | rfl | rfl | rfl | rfl | rfl | rfl | rfl | rfl | rfl | rfl | rfl | rfl | rfl | rfl <;> rfl)
      obtain ⟨b0, b1, b2, b3⟩ := (ob4 on).1
      have hlw2 := on.lt
      go_upto_region 5 with fail
      rw [← HWN.out]
      clear HWN hwn
      go_wp2_with fail
      refine Calls.mono (QJ.out _) ?_
      rintro e w5 ⟨rfl, rfl⟩
      go_wp2_with fail
      refine Calls.mono QA.out ?_
      rintro e w8 ⟨rfl, hf8, hp8⟩
      have HF8 : Hid (Fr B0 w1 w8) := HFRN.out.trans hf8
      have HP8 : Hid _ := hp8
      clear hf8 hp8 QA QJ hbld b0 b1 b2 b3 d0 d1 d2 d3
      go_wp2
      go_roundw
      case rel => first | exact ⟨k + 1, by go_num, by omega, HF8, by rw [valL_succ, ← List.cons_append, List.foldl_append, hst]; exact HP8⟩ | ((repeat apply Exists.intro); exact ⟨⟨k + 1, by go_num, by omega, HF8, by rw [valL_succ, ← List.cons_append, List.foldl_append, hst]; exact HP8⟩, rfl⟩)
      case measure => simp [intOf]; omega
    · obtain rfl : k = n1 := by omega
      have HE : Hid (Aend W B0 gp fv hm (((jn sc s0, 3) :: valL sc 4 4 m1 k).foldl (radd hm) st) (.returned (.tuple #[])) wr) := ⟨rfl, (Fr.of_below HB1.out).trans HF.out, HR.out⟩
      go_wp2
      first
        | exact HE.out
        | (go_end0; exact HE.out)

noncomputable def one1 (f : Nat) (sc : List Int) (s0 : ByteArray) (m1 : List Md) (n1 : Nat) (m6 : List Md) (n6 : Nat) (m2 : List Md) (n2 : Nat) (m3 : List Md) (n3 : Nat) (m5 : List Md) (n5 : Nat) : List (ByteArray × Int) :=
  (jn sc s0, 2) :: (valL (njoin sc (numsOf s0)) 5 13 m1 n1 ++ (valL (njoin sc (numsOf s0)) 7 3 m6 n6 ++ (msgL f (njoin sc (numsOf s0)) m2 n2 ++ (enumL (njoin sc (numsOf s0)) m3 n3 ++ valL (njoin sc (numsOf s0)) 6 13 m5 n5))))

def RmC (w0 : World) (f : Nat) : Prop :=
  ∀ (W : World) (B0 gp : Nat) (fv : Value) (hm : ByteArray) (st : Sl × Option ByteArray) (sc : List Int) (s0 : ByteArray) (a1 : Option Addr) (n1 k1 : Nat) (m1 : List Md) (a2 : Option Addr) (n2 k2 : Nat) (m2 : List Md) (a3 : Option Addr) (n3 k3 : Nat) (m3 : List Md) (a4 : Option Addr) (n4 k4 : Nat) (a5 : Option Addr) (n5 k5 : Nat) (m5 : List Md) (a6 : Option Addr) (n6 k6 : Nat) (m6 : List Md) (a7 : Option Addr) (n7 k7 : Nat) (a8 : Option Addr) (n8 k8 : Nat) (a9 : Option Addr) (n9 k9 : Nat) (a10 : Option Addr) (n10 k10 : Nat), Hid (B0 ≤ W.heap.size) → Hid (w0.heap.size ≤ B0) → Hid (Below w0.heap.size w0 W) → Hid (Rp W B0 gp fv hm st) → Hid (byts sc ∧ sc.length + f * 2000001 ≤ 300000000) → Hid (s0.size ≤ 2000000) → Hid ((Src w0 33 (.ls a1 n1 k1 m1) ∧ Nm (.ls a1 n1 k1 m1)) ∧ (Src w0 34 (.ls a2 n2 k2 m2) ∧ Nm (.ls a2 n2 k2 m2)) ∧ (Src w0 35 (.ls a3 n3 k3 m3) ∧ Nm (.ls a3 n3 k3 m3)) ∧ (Src w0 33 (.ls a5 n5 k5 m5) ∧ Nm (.ls a5 n5 k5 m5)) ∧ (Src w0 37 (.ls a6 n6 k6 m6) ∧ Nm (.ls a6 n6 k6 m6))) → Hid (okd f n2 m2 = true) → Hid (st.1.length + (one1 f sc s0 m1 n1 m6 n6 m2 n2 m3 n3 m5 n5).length ≤ 900000000) →
    Calls Tryz.prog 125 #[.pointer (some ⟨gp, 0, none⟩), .agg #[.string s0, .slice a1 n1 k1, .slice a2 n2 k2, .slice a3 n3 k3, .slice a4 n4 k4, .slice a5 n5 k5, .slice a6 n6 k6, .slice a7 n7 k7, .slice a8 n8 k8, .slice a9 n9 k9, .slice a10 n10 k10], .string (strOfNums sc)] W fun e W' => Aend W B0 gp fv hm ((one1 f sc s0 m1 n1 m6 n6 m2 n2 m3 n3 m5 n5).foldl (radd hm) st) e W'

theorem byts_njoin {a b : List Int} (ha : byts a) (hb : byts b) : byts (njoin a b) := by
  unfold njoin
  split
  · exact hb
  · intro x hx
    simp only [List.mem_append, List.mem_cons, List.not_mem_nil, or_false] at hx
    rcases hx with (hx | rfl) | hx
    · exact ha x hx
    · exact ⟨by omega, by omega⟩
    · exact hb x hx

theorem rokd_at {f n : Nat} {ms : List Md} (h : okd (f + 1) n ms = true) {i : Nat} (hi : i < n) : okd f (lsN ms (i * 11 + 2)) (lsM ms (i * 11 + 2)) = true := by
  unfold okd at h
  exact List.all_eq_true.1 h i (List.mem_range.2 hi)

theorem oneL_one1 (f : Nat) (sc : List Int) (ms : List Md) (i : Nat) : oneL f sc ms i = one1 f sc (strAt ms (i * 11)) (lsM ms (i * 11 + 1)) (lsN ms (i * 11 + 1)) (lsM ms (i * 11 + 6)) (lsN ms (i * 11 + 6)) (lsM ms (i * 11 + 2)) (lsN ms (i * 11 + 2)) (lsM ms (i * 11 + 3)) (lsN ms (i * 11 + 3)) (lsM ms (i * 11 + 5)) (lsN ms (i * 11 + 5)) := rfl

set_option maxRecDepth 100000 in
set_option maxHeartbeats 16000000 in
theorem rmsg_walk (w0 : World) (f : Nat) (IH : ∀ f', f = f' + 1 → RmC w0 f') : RmC w0 f := by
  intro W B0 gp fv hm st sc s0 a1 n1 k1 m1 a2 n2 k2 m2 a3 n3 k3 m3 a4 n4 k4 a5 n5 k5 m5 a6 n6 k6 m6 a7 n7 k7 a8 n8 k8 a9 n9 k9 a10 n10 k10 HBW0 HW0 HB00 HP0 HSC HZ0 HS HOK HC
  obtain ⟨sq, hsq⟩ : ∃ sq, sq = njoin sc (numsOf s0) := ⟨_, rfl⟩
  have HSQ : Hid (byts sq ∧ sq.length + f * 2000001 ≤ 300000000 + 2000001) := by
    rw [hsq]
    refine ⟨byts_njoin HSC.out.1 (numsOf_byts s0), ?_⟩
    have h1 := HSC.out.2
    have h2 := HZ0.out
    have h3 := numsOf_len s0
    unfold njoin
    split
    · omega
    · simp only [List.length_append, List.length_cons, List.length_nil]; omega
  have hjn : jn sc s0 = strOfNums sq := by rw [hsq]; rfl
  have HALL : Hid (one1 f sc s0 m1 n1 m6 n6 m2 n2 m3 n3 m5 n5 = ((((([(strOfNums sq, 2)] ++ valL sq 5 13 m1 n1) ++ valL sq 7 3 m6 n6) ++ msgL f sq m2 n2) ++ enumL sq m3 n3) ++ valL sq 6 13 m5 n5)) := by
    show _ = _
    unfold one1
    rw [hjn, ← hsq]
    simp [List.append_assoc]
  have HLEN : Hid (st.1.length + (1 + (n1 + (n6 + ((msgL f sq m2 n2).length + ((enumL sq m3 n3).length + n5))))) ≤ 900000000) := by
    have h := HC.out
    rw [HALL.out] at h
    simp only [List.length_append, List.length_cons, List.length_nil, valL_len] at h
    show _ ≤ _
    omega
  have hn1 : n1 ≤ 900000000 := by have := HLEN.out; omega
  have hn6 : n6 ≤ 900000000 := by have := HLEN.out; omega
  have hn3 : n3 ≤ 9223372036854775807 := by obtain ⟨⟨h, _⟩, _⟩ := HS.out.2.2.1; cases h with | ls hT hnc hm hnil hlen hmem hk => unfold maxLen at hm; omega
  have hn2 : n2 ≤ 9223372036854775807 := by obtain ⟨⟨h, _⟩, _⟩ := HS.out.2.1; cases h with | ls hT hnc hm hnil hlen hmem hk => unfold maxLen at hm; omega
  obtain ⟨w1, hw1⟩ : ∃ V, V = W.alloc (.cells #[.string s0, .slice a1 n1 k1, .slice a2 n2 k2, .slice a3 n3 k3, .slice a4 n4 k4, .slice a5 n5 k5, .slice a6 n6 k6, .slice a7 n7 k7, .slice a8 n8 k8, .slice a9 n9 k9, .slice a10 n10 k10] 40) := ⟨_, rfl⟩
  have HB1 : Hid (Below W.heap.size W w1) := by rw [hw1]; exact (Below.refl _ _).alloc (Nat.le_refl _) _
  have on : Ob w1 W.heap.size #[.string s0, .slice a1 n1 k1, .slice a2 n2 k2, .slice a3 n3 k3, .slice a4 n4 k4, .slice a5 n5 k5, .slice a6 n6 k6, .slice a7 n7 k7, .slice a8 n8 k8, .slice a9 n9 k9, .slice a10 n10 k10] 40 := by rw [hw1]; exact Ob.new _ _ _
  have O1 : Hid _ := on
  have HWN : Hid _ := hw1
  have hwn := hw1
  clear hw1
  have HRPN : Hid _ := HP0.out.below HB1.out
  have QJ : Hid (∀ V, Calls Tryz.prog 106 #[.string (strOfNums sc), .string s0] V fun e V' => e = .returned (.string (strOfNums sq)) ∧ V = V') := fun V => by rw [← hjn]; exact rjn sc s0 V (by have := HSC.out.2; omega) HZ0.out
  have hbld : ∀ V, (Instr.build 47 #[(0, .string (strOfNums sq)), (1, .int .i64 2), (3, .agg #[.string s0, .slice a1 n1 k1, .slice a2 n2 k2, .slice a3 n3 k3, .slice a4 n4 k4, .slice a5 n5 k5, .slice a6 n6 k6, .slice a7 n7 k7, .slice a8 n8 k8, .slice a9 n9 k9, .slice a10 n10 k10])]).run Tryz.prog V = .ok (.agg #[.string (strOfNums sq), .int .i64 2, .string ⟨#[]⟩, .string s0, .slice a1 n1 k1, .slice a2 n2 k2, .slice a3 n3 k3, .slice a4 n4 k4, .slice a5 n5 k5, .slice a6 n6 k6, .slice a7 n7 k7, .slice a8 n8 k8, .slice a9 n9 k9, .slice a10 n10 k10, .string ⟨#[]⟩, .slice none 0 0, .slice none 0 0, .slice none 0 0, .string ⟨#[]⟩, .int .i64 0, .int .i64 0, .int .i64 0, .string ⟨#[]⟩, .string ⟨#[]⟩, .string ⟨#[]⟩, .bool false, .int .i64 0, .string ⟨#[]⟩, .bool false, .slice none 0 0, .slice none 0 0]) V := fun V => bldM _ _ _ _ _ _ _ _ _ _ _ _ _ V
  have QA : Hid _ := radd_any w1 B0 gp (by have h1 := HBW0.out; have h2 := HB1.out.size; omega) fv hm st HRPN (by have := HLEN.out; omega) (strOfNums sq) 2 (.string s0) (.slice a1 n1 k1) (.slice a2 n2 k2) (.slice a3 n3 k3) (.slice a4 n4 k4) (.slice a5 n5 k5) (.slice a6 n6 k6) (.slice a7 n7 k7) (.slice a8 n8 k8) (.slice a9 n9 k9) (.slice a10 n10 k10) (.string ⟨#[]⟩) (.slice none 0 0) (.slice none 0 0) (.slice none 0 0) (.string ⟨#[]⟩) (.int .i64 0) (.int .i64 0) (.int .i64 0) (.string ⟨#[]⟩) (.string ⟨#[]⟩) (.string ⟨#[]⟩) (.bool false) (.int .i64 0) (.string ⟨#[]⟩) (.bool false) (.slice none 0 0) (.slice none 0 0) (by
  intro u hu
  simp only [List.mem_cons, List.not_mem_nil, or_false] at hu
  rcases hu with rfl | rfl | rfl | rfl | rfl | rfl | rfl | rfl | rfl | rfl | rfl | rfl | rfl | rfl | rfl | rfl | rfl | rfl | rfl | rfl | rfl | rfl | rfl | rfl | rfl | rfl | rfl | rfl <;> rfl)
  obtain ⟨c0, c1, c2, c3, c4, c5, c6, c7, c8, c9, c10⟩ := (ob11 on).1
  have cl := on.lt
  clear on hsq hjn
  go_enter Tryz.func125, Tryz.ntmps125
  go_upto_region 1 with fail
  rw [← HWN.out]
  clear HWN hwn
  go_wp2_with fail
  refine Calls.mono (QJ.out _) ?_
  rintro e w5 ⟨rfl, rfl⟩
  go_wp2_with fail
  refine Calls.mono QA.out ?_
  rintro e w8 ⟨rfl, hf8, hp8⟩
  have HF8 : Hid (Fr B0 w1 w8) := hf8
  have HP8 : Hid (Rp w8 B0 gp fv hm ([(strOfNums sq, 2)].foldl (radd hm) st)) := hp8
  clear hf8 hp8 QA QJ hbld c0 c1 c2 c3 c4 c5 c6 c7 c8 c9 c10 cl
  have o8 := HF8.out.ob O1.out (by decide) (by decide)
  obtain ⟨c0, c1, c2, c3, c4, c5, c6, c7, c8, c9, c10⟩ := (ob11 o8).1
  have cl := o8.lt
  clear o8
  go_wp2
  go_loopw [27] (fun v wr => ∃ k : Nat, v = .int .i64 (k : Int) ∧ k ≤ n1 ∧ Hid (Fr B0 w1 wr) ∧ Hid (Rp wr B0 gp fv hm (([(strOfNums sq, 2)] ++ valL sq 5 13 m1 k).foldl (radd hm) st))) (fun v _ => n1 - (intOf v).toNat)
  case atStart => exact ⟨0, rfl, Nat.zero_le _, HF8, by have h := HP8.out; simpa [valL, Hid] using h⟩
  case round =>
    clear HF8 HP8 c0 c1 c2 c3 c4 c5 c6 c7 c8 c9 c10 cl
    obtain ⟨k, rfl, hk, HF, HR⟩ := hrel
    by_cases hlk : k < n1
    · skip
      have HBW := HB00.out.trans ((Fr.of_below (B0 := B0) HB1.out).trans HF.out |>.to_below HBW0.out |>.mono HW0.out)
      obtain ⟨b, off, es0, ex1, ex2, ex3, es4, es5, es6, ey7, ex8, es9, ey10, ea11, en11, ek11, ea12, en12, ek12, ha, hlt, cc0, cc1, cc2, cc3, cc4, cc5, cc6, cc7, cc8, cc9, cc10, cc11, cc12, hz0, hst⟩ := fld_src HS.out.1.1 HS.out.1.2 hlk
      subst ha
      have d0 := (HBW.cell (p := ⟨b, off + k * 13, none⟩) hlt).trans cc0
      have d1 := (HBW.cell (p := ⟨b, off + k * 13 + 1, none⟩) hlt).trans cc1
      have d2 := (HBW.cell (p := ⟨b, off + k * 13 + 2, none⟩) hlt).trans cc2
      have d3 := (HBW.cell (p := ⟨b, off + k * 13 + 3, none⟩) hlt).trans cc3
      have d4 := (HBW.cell (p := ⟨b, off + k * 13 + 4, none⟩) hlt).trans cc4
      have d5 := (HBW.cell (p := ⟨b, off + k * 13 + 5, none⟩) hlt).trans cc5
      have d6 := (HBW.cell (p := ⟨b, off + k * 13 + 6, none⟩) hlt).trans cc6
      have d7 := (HBW.cell (p := ⟨b, off + k * 13 + 7, none⟩) hlt).trans cc7
      have d8 := (HBW.cell (p := ⟨b, off + k * 13 + 8, none⟩) hlt).trans cc8
      have d9 := (HBW.cell (p := ⟨b, off + k * 13 + 9, none⟩) hlt).trans cc9
      have d10 := (HBW.cell (p := ⟨b, off + k * 13 + 10, none⟩) hlt).trans cc10
      have d11 := (HBW.cell (p := ⟨b, off + k * 13 + 11, none⟩) hlt).trans cc11
      have d12 := (HBW.cell (p := ⟨b, off + k * 13 + 12, none⟩) hlt).trans cc12
      have hlw := Nat.lt_of_lt_of_le hlt HBW.size
      clear cc0 cc1 cc2 cc3 cc4 cc5 cc6 cc7 cc8 cc9 cc10 cc11 cc12 hlt
      obtain ⟨w4, hwn⟩ : ∃ V, V = wr.alloc (.cells #[.string es0, .int .i64 ex1, .int .i64 ex2, .int .i64 ex3, .string es4, .string es5, .string es6, .bool ey7, .int .i64 ex8, .string es9, .bool ey10, .slice ea11 en11 ek11, .slice ea12 en12 ek12] 45) := ⟨_, rfl⟩
      have hbn : Below wr.heap.size wr w4 := by rw [hwn]; exact (Below.refl _ _).alloc (Nat.le_refl _) _
      have on : Ob w4 wr.heap.size #[.string es0, .int .i64 ex1, .int .i64 ex2, .int .i64 ex3, .string es4, .string es5, .string es6, .bool ey7, .int .i64 ex8, .string es9, .bool ey10, .slice ea11 en11 ek11, .slice ea12 en12 ek12] 45 := by rw [hwn]; exact Ob.new _ _ _
      have HWN : Hid _ := hwn
      have HRPN : Hid _ := HR.out.below hbn
      have HFRN : Hid (Fr B0 w1 w4) := HF.out.trans (Fr.of_below hbn)
      have hll := radds_len hm ([(strOfNums sq, 2)] ++ valL sq 5 13 m1 k) st
      simp only [List.length_append, List.length_cons, List.length_nil, valL_len] at hll
      have hlt9 := HLEN.out
      have QJ : Hid _ := fun V => rjn sq es0 V (by have := HSQ.out.2; omega) hz0
      have hbld : ∀ V, (Instr.build 47 #[(0, .string (jn sq es0)), (1, .int .i64 5), (5, .agg #[.string es0, .int .i64 ex1, .int .i64 ex2, .int .i64 ex3, .string es4, .string es5, .string es6, .bool ey7, .int .i64 ex8, .string es9, .bool ey10, .slice ea11 en11 ek11, .slice ea12 en12 ek12])]).run Tryz.prog V = .ok (.agg #[.string (jn sq es0), .int .i64 5, .string ⟨#[]⟩, .string ⟨#[]⟩, .slice none 0 0, .slice none 0 0, .slice none 0 0, .slice none 0 0, .slice none 0 0, .slice none 0 0, .slice none 0 0, .slice none 0 0, .slice none 0 0, .slice none 0 0, .string ⟨#[]⟩, .slice none 0 0, .slice none 0 0, .slice none 0 0, .string es0, .int .i64 ex1, .int .i64 ex2, .int .i64 ex3, .string es4, .string es5, .string es6, .bool ey7, .int .i64 ex8, .string es9, .bool ey10, .slice ea11 en11 ek11, .slice ea12 en12 ek12]) V := fun V => bldF _ _ _ _ _ _ _ _ _ _ _ _ _ _ _ V
      have b0 := fun V : Ext w4 => V.cell (p := ⟨wr.heap.size, 0, none⟩) on.lt (on.cell 0 rfl)
      have b1 := fun V : Ext w4 => V.cell (p := ⟨wr.heap.size, 1, none⟩) on.lt (on.cell 1 rfl)
      have b2 := fun V : Ext w4 => V.cell (p := ⟨wr.heap.size, 2, none⟩) on.lt (on.cell 2 rfl)
      have b3 := fun V : Ext w4 => V.cell (p := ⟨wr.heap.size, 3, none⟩) on.lt (on.cell 3 rfl)
      have b4 := fun V : Ext w4 => V.cell (p := ⟨wr.heap.size, 4, none⟩) on.lt (on.cell 4 rfl)
      have b5 := fun V : Ext w4 => V.cell (p := ⟨wr.heap.size, 5, none⟩) on.lt (on.cell 5 rfl)
      have b6 := fun V : Ext w4 => V.cell (p := ⟨wr.heap.size, 6, none⟩) on.lt (on.cell 6 rfl)
      have b7 := fun V : Ext w4 => V.cell (p := ⟨wr.heap.size, 7, none⟩) on.lt (on.cell 7 rfl)
      have b8 := fun V : Ext w4 => V.cell (p := ⟨wr.heap.size, 8, none⟩) on.lt (on.cell 8 rfl)
      have b9 := fun V : Ext w4 => V.cell (p := ⟨wr.heap.size, 9, none⟩) on.lt (on.cell 9 rfl)
      have b10 := fun V : Ext w4 => V.cell (p := ⟨wr.heap.size, 10, none⟩) on.lt (on.cell 10 rfl)
      have b11 := fun V : Ext w4 => V.cell (p := ⟨wr.heap.size, 11, none⟩) on.lt (on.cell 11 rfl)
      have b12 := fun V : Ext w4 => V.cell (p := ⟨wr.heap.size, 12, none⟩) on.lt (on.cell 12 rfl)
      have hlw2 := on.lt
      go_upto_region 6 with fail
      rw [← HWN.out]
      clear HWN hwn
      refine wp_region_elast w4 (Below.refl _ _) rfl (by kernel_rfl) (by kernel_rfl) (by kernel_rfl) (by kernel_rfl) ?_
      simp only [List.dropLast]
      repeat (go_big_quiet_step (first
        | (go_at_call 106; exact Ext.call_same QJ.out _)))
      refine wpQuiet_nil ?_
      rintro w7 ⟨⟨_, hb7⟩, rfl⟩ Q' hQ'
      have HQ : Hid _ := hQ'
      have HRP7 : Hid _ := HRPN.out.below hb7
      have HF7 : Hid (Fr B0 w1 w7) := HFRN.out.trans (Fr.of_below hb7)
      have QA : Hid _ := radd_any w7 B0 gp (by have h1 := HBW0.out; have h2 := HF7.out.size; have h3 := HB1.out.size; omega) fv hm _ HRP7 (by omega) (jn sq es0) 5 (.string ⟨#[]⟩) (.slice none 0 0) (.slice none 0 0) (.slice none 0 0) (.slice none 0 0) (.slice none 0 0) (.slice none 0 0) (.slice none 0 0) (.slice none 0 0) (.slice none 0 0) (.slice none 0 0) (.string ⟨#[]⟩) (.slice none 0 0) (.slice none 0 0) (.slice none 0 0) (.string es0) (.int .i64 ex1) (.int .i64 ex2) (.int .i64 ex3) (.string es4) (.string es5) (.string es6) (.bool ey7) (.int .i64 ex8) (.string es9) (.bool ey10) (.slice ea11 en11 ek11) (.slice ea12 en12 ek12) (by
        intro u hu
        simp only [List.mem_cons, List.not_mem_nil, or_false] at hu
        rcases hu with rfl | rfl | rfl | rfl | rfl | rfl | rfl | rfl | rfl | rfl | rfl | rfl | rfl | rfl | rfl | rfl | rfl | rfl | rfl | rfl | rfl | rfl | rfl | rfl | rfl | rfl | rfl | rfl <;> rfl)
      clear hQ' hb7 hbld QJ b0 b1 b2 b3 b4 b5 b6 b7 b8 b9 b10 b11 b12
      go_wp2_with fail
      refine Calls.mono QA.out ?_
      rintro e w8 ⟨rfl, hf8, hp8⟩
      have HF8 : Hid (Fr B0 w1 w8) := HF7.out.trans hf8
      have HP8 : Hid _ := hp8
      clear hf8 hp8 QA HRP7 HF7
      go_wp2
      refine HQ.out _ _ ?_
      clear HQ
      go_wp2
      go_roundw
      case rel => first | exact ⟨k + 1, by go_num, by omega, HF8, by rw [valL_succ, ← List.append_assoc, List.foldl_append, hst]; exact HP8⟩ | ((repeat apply Exists.intro); exact ⟨⟨k + 1, by go_num, by omega, HF8, by rw [valL_succ, ← List.append_assoc, List.foldl_append, hst]; exact HP8⟩, rfl⟩)
      case measure => simp [intOf]; omega
    · have HKN : Hid (k = n1) := by show _ = _; omega
      have HF8 : Hid (Fr B0 w1 wr) := HF
      have HP8 : Hid (Rp wr B0 gp fv hm (([(strOfNums sq, 2)] ++ valL sq 5 13 m1 n1).foldl (radd hm) st)) := by have h := HR.out; rw [HKN.out] at h; exact h
      have hkn := HKN.out.symm
      clear HF HR
      subst hkn
      have o8 := HF8.out.ob O1.out (by decide) (by decide)
      obtain ⟨c0, c1, c2, c3, c4, c5, c6, c7, c8, c9, c10⟩ := (ob11 o8).1
      have cl := o8.lt
      clear o8
      go_wp2
      go_loopw [43] (fun v wr => ∃ k : Nat, v = .int .i64 (k : Int) ∧ k ≤ n6 ∧ Hid (Fr B0 w1 wr) ∧ Hid (Rp wr B0 gp fv hm ((([(strOfNums sq, 2)] ++ valL sq 5 13 m1 n1) ++ valL sq 7 3 m6 k).foldl (radd hm) st))) (fun v _ => n6 - (intOf v).toNat)
      case atStart => exact ⟨0, rfl, Nat.zero_le _, HF8, by have h := HP8.out; simpa [valL, Hid] using h⟩
      case round =>
        clear HF8 HP8 c0 c1 c2 c3 c4 c5 c6 c7 c8 c9 c10 cl
        obtain ⟨k, rfl, hk, HF, HR⟩ := hrel
        by_cases hlk : k < n6
        · skip
          have HBW := HB00.out.trans ((Fr.of_below (B0 := B0) HB1.out).trans HF.out |>.to_below HBW0.out |>.mono HW0.out)
          obtain ⟨b, off, es0, ea1, en1, ek1, ea2, en2, ek2, ha, hlt, cc0, cc1, cc2, hz0, hst⟩ := one_src HS.out.2.2.2.2.1 HS.out.2.2.2.2.2 hlk
          subst ha
          have d0 := (HBW.cell (p := ⟨b, off + k * 3, none⟩) hlt).trans cc0
          have d1 := (HBW.cell (p := ⟨b, off + k * 3 + 1, none⟩) hlt).trans cc1
          have d2 := (HBW.cell (p := ⟨b, off + k * 3 + 2, none⟩) hlt).trans cc2
          have hlw := Nat.lt_of_lt_of_le hlt HBW.size
          clear cc0 cc1 cc2 hlt
          obtain ⟨w4, hwn⟩ : ∃ V, V = wr.alloc (.cells #[.string es0, .slice ea1 en1 ek1, .slice ea2 en2 ek2] 141) := ⟨_, rfl⟩
          have hbn : Below wr.heap.size wr w4 := by rw [hwn]; exact (Below.refl _ _).alloc (Nat.le_refl _) _
          have on : Ob w4 wr.heap.size #[.string es0, .slice ea1 en1 ek1, .slice ea2 en2 ek2] 141 := by rw [hwn]; exact Ob.new _ _ _
          have HWN : Hid _ := hwn
          have HRPN : Hid _ := HR.out.below hbn
          have HFRN : Hid (Fr B0 w1 w4) := HF.out.trans (Fr.of_below hbn)
          have hll := radds_len hm (([(strOfNums sq, 2)] ++ valL sq 5 13 m1 n1) ++ valL sq 7 3 m6 k) st
          simp only [List.length_append, List.length_cons, List.length_nil, valL_len] at hll
          have hlt9 := HLEN.out
          have QJ : Hid _ := fun V => rjn sq es0 V (by have := HSQ.out.2; omega) hz0
          have hbld : ∀ V, (Instr.build 47 #[(0, .string (jn sq es0)), (1, .int .i64 7)]).run Tryz.prog V = .ok (.agg #[.string (jn sq es0), .int .i64 7, .string ⟨#[]⟩, .string ⟨#[]⟩, .slice none 0 0, .slice none 0 0, .slice none 0 0, .slice none 0 0, .slice none 0 0, .slice none 0 0, .slice none 0 0, .slice none 0 0, .slice none 0 0, .slice none 0 0, .string ⟨#[]⟩, .slice none 0 0, .slice none 0 0, .slice none 0 0, .string ⟨#[]⟩, .int .i64 0, .int .i64 0, .int .i64 0, .string ⟨#[]⟩, .string ⟨#[]⟩, .string ⟨#[]⟩, .bool false, .int .i64 0, .string ⟨#[]⟩, .bool false, .slice none 0 0, .slice none 0 0]) V := fun V => bld0 _ _ V
          have QA : Hid _ := radd_any w4 B0 gp (by have h1 := HBW0.out; have h2 := HB1.out.size; have h3 := HFRN.out.size; omega) fv hm _ HRPN (by omega) (jn sq es0) 7 (.string ⟨#[]⟩) (.slice none 0 0) (.slice none 0 0) (.slice none 0 0) (.slice none 0 0) (.slice none 0 0) (.slice none 0 0) (.slice none 0 0) (.slice none 0 0) (.slice none 0 0) (.slice none 0 0) (.string ⟨#[]⟩) (.slice none 0 0) (.slice none 0 0) (.slice none 0 0) (.string ⟨#[]⟩) (.int .i64 0) (.int .i64 0) (.int .i64 0) (.string ⟨#[]⟩) (.string ⟨#[]⟩) (.string ⟨#[]⟩) (.bool false) (.int .i64 0) (.string ⟨#[]⟩) (.bool false) (.slice none 0 0) (.slice none 0 0) (by
            intro u hu
            simp only [List.mem_cons, List.not_mem_nil, or_false] at hu
            rcases hu with rfl | rfl | rfl | rfl | rfl | rfl | rfl | rfl | rfl | rfl | rfl | rfl | rfl | rfl | rfl | rfl | rfl | rfl | rfl | rfl | rfl | rfl | rfl | rfl | rfl | rfl | rfl | rfl <;> rfl)
          obtain ⟨b0, b1, b2⟩ := (ob3 on).1
          have hlw2 := on.lt
          go_upto_region 11 with fail
          rw [← HWN.out]
          clear HWN hwn
          go_wp2_with fail
          refine Calls.mono (QJ.out _) ?_
          rintro e w5 ⟨rfl, rfl⟩
          go_wp2_with fail
          refine Calls.mono QA.out ?_
          rintro e w8 ⟨rfl, hf8, hp8⟩
          have HF8 : Hid (Fr B0 w1 w8) := HFRN.out.trans hf8
          have HP8 : Hid _ := hp8
          clear hf8 hp8 QA QJ hbld b0 b1 b2 d0 d1 d2
          go_wp2
          go_roundw
          case rel => first | exact ⟨k + 1, by go_num, by omega, HF8, by rw [valL_succ, ← List.append_assoc, List.foldl_append, hst]; exact HP8⟩ | ((repeat apply Exists.intro); exact ⟨⟨k + 1, by go_num, by omega, HF8, by rw [valL_succ, ← List.append_assoc, List.foldl_append, hst]; exact HP8⟩, rfl⟩)
          case measure => simp [intOf]; omega
        · have HKN : Hid (k = n6) := by show _ = _; omega
          have HF8 : Hid (Fr B0 w1 wr) := HF
          have HP8 : Hid (Rp wr B0 gp fv hm ((([(strOfNums sq, 2)] ++ valL sq 5 13 m1 n1) ++ valL sq 7 3 m6 n6).foldl (radd hm) st)) := by have h := HR.out; rw [HKN.out] at h; exact h
          have hkn := HKN.out.symm
          clear HF HR
          subst hkn
          have o8 := HF8.out.ob O1.out (by decide) (by decide)
          obtain ⟨c0, c1, c2, c3, c4, c5, c6, c7, c8, c9, c10⟩ := (ob11 o8).1
          have cl := o8.lt
          clear o8
          go_wp2
          go_loopw [58] (fun v wr => ∃ k : Nat, v = .int .i64 (k : Int) ∧ k ≤ n2 ∧ Hid (Fr B0 w1 wr) ∧ Hid (Rp wr B0 gp fv hm (((([(strOfNums sq, 2)] ++ valL sq 5 13 m1 n1) ++ valL sq 7 3 m6 n6) ++ msgL f sq m2 k).foldl (radd hm) st))) (fun v _ => n2 - (intOf v).toNat)
          case atStart => exact ⟨0, rfl, Nat.zero_le _, HF8, by have h := HP8.out; simpa [msgL_zero, Hid] using h⟩
          case round =>
            clear HF8 HP8 c0 c1 c2 c3 c4 c5 c6 c7 c8 c9 c10 cl
            obtain ⟨k, rfl, hk, HF, HR⟩ := hrel
            by_cases hlk : k < n2
            · skip
              have HBW := HB00.out.trans ((Fr.of_below (B0 := B0) HB1.out).trans HF.out |>.to_below HBW0.out |>.mono HW0.out)
              obtain ⟨f', rfl⟩ : ∃ f', f = f' + 1 := by
                cases f with
                | zero => have h := HOK.out; simp [okd] at h; omega
                | succ f' => exact ⟨f', rfl⟩
              have HIH : Hid _ := IH f' rfl
              obtain ⟨b, off, es0, ea1, en1, ek1, em1, ea2, en2, ek2, em2, ea3, en3, ek3, em3, ea4, en4, ek4, em4, ea5, en5, ek5, em5, ea6, en6, ek6, em6, ea7, en7, ek7, em7, ea8, en8, ek8, em8, ea9, en9, ek9, em9, ea10, en10, ek10, em10, ha, hlt, cc0, cc1, cc2, cc3, cc4, cc5, cc6, cc7, cc8, cc9, cc10, r1, r2, r3, r4, r5, r6, r7, r8, r9, r10, t1, ln1, lm1, t2, ln2, lm2, t3, ln3, lm3, t5, ln5, lm5, t6, ln6, lm6, hz0, hst⟩ := msg_src HS.out.2.1.1 HS.out.2.1.2 hlk
              subst ha
              have d0 := (HBW.cell (p := ⟨b, off + k * 11, none⟩) hlt).trans cc0
              have d1 := (HBW.cell (p := ⟨b, off + k * 11 + 1, none⟩) hlt).trans cc1
              have d2 := (HBW.cell (p := ⟨b, off + k * 11 + 2, none⟩) hlt).trans cc2
              have d3 := (HBW.cell (p := ⟨b, off + k * 11 + 3, none⟩) hlt).trans cc3
              have d4 := (HBW.cell (p := ⟨b, off + k * 11 + 4, none⟩) hlt).trans cc4
              have d5 := (HBW.cell (p := ⟨b, off + k * 11 + 5, none⟩) hlt).trans cc5
              have d6 := (HBW.cell (p := ⟨b, off + k * 11 + 6, none⟩) hlt).trans cc6
              have d7 := (HBW.cell (p := ⟨b, off + k * 11 + 7, none⟩) hlt).trans cc7
              have d8 := (HBW.cell (p := ⟨b, off + k * 11 + 8, none⟩) hlt).trans cc8
              have d9 := (HBW.cell (p := ⟨b, off + k * 11 + 9, none⟩) hlt).trans cc9
              have d10 := (HBW.cell (p := ⟨b, off + k * 11 + 10, none⟩) hlt).trans cc10
              have hlw := Nat.lt_of_lt_of_le hlt HBW.size
              clear cc0 cc1 cc2 cc3 cc4 cc5 cc6 cc7 cc8 cc9 cc10 hlt
              obtain ⟨w4, hwn⟩ : ∃ V, V = wr.alloc (.cells #[.string es0, .slice ea1 en1 ek1, .slice ea2 en2 ek2, .slice ea3 en3 ek3, .slice ea4 en4 ek4, .slice ea5 en5 ek5, .slice ea6 en6 ek6, .slice ea7 en7 ek7, .slice ea8 en8 ek8, .slice ea9 en9 ek9, .slice ea10 en10 ek10] 40) := ⟨_, rfl⟩
              have hbn : Below wr.heap.size wr w4 := by rw [hwn]; exact (Below.refl _ _).alloc (Nat.le_refl _) _
              have on : Ob w4 wr.heap.size #[.string es0, .slice ea1 en1 ek1, .slice ea2 en2 ek2, .slice ea3 en3 ek3, .slice ea4 en4 ek4, .slice ea5 en5 ek5, .slice ea6 en6 ek6, .slice ea7 en7 ek7, .slice ea8 en8 ek8, .slice ea9 en9 ek9, .slice ea10 en10 ek10] 40 := by rw [hwn]; exact Ob.new _ _ _
              have HWN : Hid _ := hwn
              have HRPN : Hid _ := HR.out.below hbn
              have HFRN : Hid (Fr B0 w1 w4) := HF.out.trans (Fr.of_below hbn)
              have HSQ9 : sq.length + f' * 2000001 ≤ 300000000 := by
                have h := HSQ.out.2
                rw [Nat.add_mul, Nat.one_mul] at h
                generalize f' * 2000001 = q at h ⊢
                omega
              have hokk := rokd_at HOK.out hlk
              rw [ln2, lm2] at hokk
              have hone : oneL f' sq m2 k = one1 f' sq es0 em1 en1 em6 en6 em2 en2 em3 en3 em5 en5 := by
                rw [oneL_one1, hst, lm1, ln1, lm6, ln6, lm2, ln2, lm3, ln3, lm5, ln5]
              have hsplit : (msgL (f' + 1) sq m2 k).length + (one1 f' sq es0 em1 en1 em6 en6 em2 en2 em3 en3 em5 en5).length ≤ (msgL (f' + 1) sq m2 n2).length := by
                obtain ⟨rr, hrr⟩ := msgL_split f' sq m2 hlk
                rw [hrr, hone]
                simp only [List.length_append]
                omega
              have hll := radds_len hm ((([(strOfNums sq, 2)] ++ valL sq 5 13 m1 n1) ++ valL sq 7 3 m6 n6) ++ msgL (f' + 1) sq m2 k) st
              simp only [List.length_append, List.length_cons, List.length_nil, valL_len] at hll
              have hlt9 := HLEN.out
              have QM : Hid _ := HIH.out w4 B0 gp fv hm _ sq es0 ea1 en1 ek1 em1 ea2 en2 ek2 em2 ea3 en3 ek3 em3 ea4 en4 ek4 ea5 en5 ek5 em5 ea6 en6 ek6 em6 ea7 en7 ek7 ea8 en8 ek8 ea9 en9 ek9 ea10 en10 ek10 (show Hid _ from (by show _ ≤ _; have h1 := HBW0.out; have h2 := HB1.out.size; have h3 := HFRN.out.size; omega)) HW0 (show Hid _ from HBW.trans (hbn.mono HBW.size)) HRPN (show Hid (byts sq ∧ sq.length + f' * 2000001 ≤ 300000000) from ⟨HSQ.out.1, HSQ9⟩) (show Hid _ from hz0) (show Hid _ from ⟨⟨r1, t1⟩, ⟨r2, t2⟩, ⟨r3, t3⟩, ⟨r5, t5⟩, ⟨r6, t6⟩⟩) (show Hid _ from hokk) (show Hid _ from (by show _ ≤ _; omega))
              obtain ⟨b0, b1, b2, b3, b4, b5, b6, b7, b8, b9, b10⟩ := (ob11 on).1
              have hlw2 := on.lt
              have HONE : Hid _ := hone
              clear hokk hone hsplit r1 r2 r3 r4 r5 r6 r7 r8 r9 r10 t1 t2 t3 t5 t6 ln1 lm1 ln2 lm2 ln3 lm3 ln5 lm5 ln6 lm6
              go_upto_region 16 with fail
              rw [← HWN.out]
              clear HWN hwn
              go_wp2_with fail
              refine Calls.mono QM.out ?_
              rintro e w8 ⟨rfl, hf8, hp8⟩
              have HF8 : Hid (Fr B0 w1 w8) := HFRN.out.trans hf8
              have HP8 : Hid _ := hp8
              clear hf8 hp8 QM b0 d0 b1 d1 b2 d2 b3 d3 b4 d4 b5 d5 b6 d6 b7 d7 b8 d8 b9 d9 b10 d10
              go_wp2
              go_roundw
              case rel => first | exact ⟨k + 1, by go_num, by omega, HF8, by rw [msgL_succ, ← List.append_assoc, List.foldl_append, HONE.out]; exact HP8⟩ | ((repeat apply Exists.intro); exact ⟨⟨k + 1, by go_num, by omega, HF8, by rw [msgL_succ, ← List.append_assoc, List.foldl_append, HONE.out]; exact HP8⟩, rfl⟩)
              case measure => simp [intOf]; omega
            · have HKN : Hid (k = n2) := by show _ = _; omega
              have HF8 : Hid (Fr B0 w1 wr) := HF
              have HP8 : Hid (Rp wr B0 gp fv hm (((([(strOfNums sq, 2)] ++ valL sq 5 13 m1 n1) ++ valL sq 7 3 m6 n6) ++ msgL f sq m2 n2).foldl (radd hm) st)) := by have h := HR.out; rw [HKN.out] at h; exact h
              have hkn := HKN.out.symm
              clear HF HR
              subst hkn
              have o8 := HF8.out.ob O1.out (by decide) (by decide)
              obtain ⟨c0, c1, c2, c3, c4, c5, c6, c7, c8, c9, c10⟩ := (ob11 o8).1
              have cl := o8.lt
              clear o8
              go_wp2
              go_loopw [70] (fun v wr => ∃ k : Nat, v = .int .i64 (k : Int) ∧ k ≤ n3 ∧ Hid (Fr B0 w1 wr) ∧ Hid (Rp wr B0 gp fv hm ((((([(strOfNums sq, 2)] ++ valL sq 5 13 m1 n1) ++ valL sq 7 3 m6 n6) ++ msgL f sq m2 n2) ++ enumL sq m3 k).foldl (radd hm) st))) (fun v _ => n3 - (intOf v).toNat)
              case atStart => exact ⟨0, rfl, Nat.zero_le _, HF8, by have h := HP8.out; simpa [enumL, Hid] using h⟩
              case round =>
                clear HF8 HP8 c0 c1 c2 c3 c4 c5 c6 c7 c8 c9 c10 cl
                obtain ⟨k, rfl, hk, HF, HR⟩ := hrel
                by_cases hlk : k < n3
                · skip
                  have HBW := HB00.out.trans ((Fr.of_below (B0 := B0) HB1.out).trans HF.out |>.to_below HBW0.out |>.mono HW0.out)
                  obtain ⟨b, off, es0, ea1, en1, ek1, em1, ea2, en2, ek2, ea3, en3, ek3, ha, hlt, cc0, cc1, cc2, cc3, r1, t1, ln1, lm1, hz0, hst⟩ := enu_src HS.out.2.2.1.1 HS.out.2.2.1.2 hlk
                  subst ha
                  have d0 := (HBW.cell (p := ⟨b, off + k * 4, none⟩) hlt).trans cc0
                  have d1 := (HBW.cell (p := ⟨b, off + k * 4 + 1, none⟩) hlt).trans cc1
                  have d2 := (HBW.cell (p := ⟨b, off + k * 4 + 2, none⟩) hlt).trans cc2
                  have d3 := (HBW.cell (p := ⟨b, off + k * 4 + 3, none⟩) hlt).trans cc3
                  have hlw := Nat.lt_of_lt_of_le hlt HBW.size
                  clear cc0 cc1 cc2 cc3 hlt
                  obtain ⟨w4, hwn⟩ : ∃ V, V = wr.alloc (.cells #[.string es0, .slice ea1 en1 ek1, .slice ea2 en2 ek2, .slice ea3 en3 ek3] 43) := ⟨_, rfl⟩
                  have hbn : Below wr.heap.size wr w4 := by rw [hwn]; exact (Below.refl _ _).alloc (Nat.le_refl _) _
                  have on : Ob w4 wr.heap.size #[.string es0, .slice ea1 en1 ek1, .slice ea2 en2 ek2, .slice ea3 en3 ek3] 43 := by rw [hwn]; exact Ob.new _ _ _
                  have HWN : Hid _ := hwn
                  have HRPN : Hid _ := HR.out.below hbn
                  have HFRN : Hid (Fr B0 w1 w4) := HF.out.trans (Fr.of_below hbn)
                  have hsplit : (enumL sq m3 k).length + (1 + en1) ≤ (enumL sq m3 n3).length := by
                    obtain ⟨rr, hrr⟩ := enumL_split sq m3 hlk
                    rw [hrr, enumL_succ, ln1]
                    simp only [List.length_append, List.length_cons, valL_len]
                    omega
                  have hll := radds_len hm (((([(strOfNums sq, 2)] ++ valL sq 5 13 m1 n1) ++ valL sq 7 3 m6 n6) ++ msgL f sq m2 n2) ++ enumL sq m3 k) st
                  simp only [List.length_append, List.length_cons, List.length_nil, valL_len] at hll
                  have hlt9 := HLEN.out
                  have QM : Hid _ := renum_any w4 w0 B0 gp (show Hid _ from (by show _ ≤ _; have h1 := HBW0.out; have h2 := HB1.out.size; have h3 := HFRN.out.size; omega)) HW0 (show Hid _ from HBW.trans (hbn.mono HBW.size)) fv hm _ HRPN sq (show Hid _ from ⟨HSQ.out.1, by have := HSQ.out.2; omega⟩) es0 (show Hid _ from hz0) ea1 en1 ek1 em1 ea2 en2 ek2 ea3 en3 ek3 (show Hid _ from ⟨r1, t1⟩) (show Hid _ from (by show _ ≤ _; omega))
                  obtain ⟨b0, b1, b2, b3⟩ := (ob4 on).1
                  have hlw2 := on.lt
                  have HONE : Hid (enumL sq m3 (k + 1) = enumL sq m3 k ++ ((jn sq es0, 3) :: valL sq 4 4 em1 en1)) := by show _ = _; rw [enumL_succ, hst, lm1, ln1]
                  clear hsplit r1 t1 ln1 lm1
                  go_upto_region 21 with fail
                  rw [← HWN.out]
                  clear HWN hwn
                  go_wp2_with fail
                  refine Calls.mono QM.out ?_
                  rintro e w8 ⟨rfl, hf8, hp8⟩
                  have HF8 : Hid (Fr B0 w1 w8) := HFRN.out.trans hf8
                  have HP8 : Hid _ := hp8
                  clear hf8 hp8 QM b0 b1 b2 b3 d0 d1 d2 d3
                  go_wp2
                  go_roundw
                  case rel => first | exact ⟨k + 1, by go_num, by omega, HF8, by rw [HONE.out, ← List.append_assoc, List.foldl_append]; exact HP8⟩ | ((repeat apply Exists.intro); exact ⟨⟨k + 1, by go_num, by omega, HF8, by rw [HONE.out, ← List.append_assoc, List.foldl_append]; exact HP8⟩, rfl⟩)
                  case measure => simp [intOf]; omega
                · have HKN : Hid (k = n3) := by show _ = _; omega
                  have HF8 : Hid (Fr B0 w1 wr) := HF
                  have HP8 : Hid (Rp wr B0 gp fv hm ((((([(strOfNums sq, 2)] ++ valL sq 5 13 m1 n1) ++ valL sq 7 3 m6 n6) ++ msgL f sq m2 n2) ++ enumL sq m3 n3).foldl (radd hm) st)) := by have h := HR.out; rw [HKN.out] at h; exact h
                  have hkn := HKN.out.symm
                  clear HF HR
                  subst hkn
                  have HFRN : Hid (Fr B0 w1 wr) := HF8
                  have HBW : Hid (Below w0.heap.size w0 wr) := HB00.out.trans ((Fr.of_below (B0 := B0) HB1.out).trans HF8.out |>.to_below HBW0.out |>.mono HW0.out)
                  have hll := radds_len hm (((([(strOfNums sq, 2)] ++ valL sq 5 13 m1 n1) ++ valL sq 7 3 m6 n6) ++ msgL f sq m2 n2) ++ enumL sq m3 n3) st
                  simp only [List.length_append, List.length_cons, List.length_nil, valL_len] at hll
                  have hlt9 := HLEN.out
                  have QX : Hid _ := rexts_any wr w0 B0 gp (show Hid _ from (by show _ ≤ _; have h1 := HBW0.out; have h2 := HB1.out.size; have h3 := HFRN.out.size; omega)) HW0 HBW fv hm _ HP8 sq (show Hid _ from ⟨HSQ.out.1, by have := HSQ.out.2; omega⟩) a5 n5 k5 m5 (show Hid _ from HS.out.2.2.2.1) (show Hid _ from (by show _ ≤ _; omega))
                  have o8 := HF8.out.ob O1.out (by decide) (by decide)
                  obtain ⟨c0, c1, c2, c3, c4, c5, c6, c7, c8, c9, c10⟩ := (ob11 o8).1
                  have cl := o8.lt
                  clear o8
                  go_wp2_with fail
                  refine Calls.mono QX.out ?_
                  rintro e w8 ⟨rfl, hf8, hp8⟩
                  have HE : Hid (Aend W B0 gp fv hm ((one1 f sc s0 m1 n1 m6 n6 m2 n2 m3 n3 m5 n5).foldl (radd hm) st) (.returned (.tuple #[])) w8) := ⟨rfl, (Fr.of_below HB1.out).trans (HF8.out.trans hf8), by rw [HALL.out, List.foldl_append]; exact hp8⟩
                  clear hf8 hp8 QX c0 c1 c2 c3 c4 c5 c6 c7 c8 c9 c10 cl
                  go_wp2
                  first
                    | exact HE.out
                    | (go_end0; exact HE.out)

theorem rmsg_all (w0 : World) : ∀ f, RmC w0 f
  | 0 => rmsg_walk w0 0 (fun f e => by cases e)
  | f + 1 => rmsg_walk w0 (f + 1) (fun f' e => by cases e; exact rmsg_all w0 f)

end Go.Proofs.YtafmoceinamcdaaGreat
