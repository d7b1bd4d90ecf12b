/- Put together by a program out of these texts of mine: DBf, DEf. -/
import Derived.Deep.DeepCutAuto
import Derived.Test.YtafmoceinamcdaaGreatBunS4
import Derived.Test.YtafmoceinamcdaaGreatBunS6
import Derived.Test.YtafmoceinamcdaaGreatBunS8

namespace Go.Proofs.YtafmoceinamcdaaGreat
open Go.RowKit
set_option linter.unusedVariables false
set_option linter.unusedSimpArgs false

set_option maxRecDepth 100000 in
set_option maxHeartbeats 4000000 in
theorem kfield_any (A : TypeId → Prop) (hA : A 5) (lv : Int) (s0 : ByteArray) (x1 : Int) (x2 : Int) (x3 : Int) (s4 : ByteArray) (s5 : ByteArray) (s6 : ByteArray) (b7 : Bool) (x8 : Int) (s9 : ByteArray) (b10 : Bool) (a11 : Option Addr) (n11 k11 : Nat) (m11 : List Md) (a12 : Option Addr) (n12 k12 : Nat) (m12 : List Md) (w : World) (h11 : Hid (Src w 38 (.ls a11 n11 k11 m11))) (h12 : Hid (Src w 38 (.ls a12 n12 k12 m12))) (h0 : Hid (s0.size ≤ 140737488355328)) (h4 : Hid (s4.size ≤ 140737488355328)) (h5 : Hid (s5.size ≤ 140737488355328)) (h6 : Hid (s6.size ≤ 140737488355328)) (h9 : Hid (s9.size ≤ 140737488355328)) :
    Calls Tryz.prog 44 #[.agg #[.int .i64 lv, .bool false], .agg #[.string s0, .int .i64 x1, .int .i64 x2, .int .i64 x3, .string s4, .string s5, .string s6, .bool b7, .int .i64 x8, .string s9, .bool b10, .slice a11 n11 k11, .slice a12 n12 k12]] w fun e w' => ∃ p11 r11 p12 r12, e = .returned (.agg #[.string s0, .int .i64 x1, .int .i64 x2, .int .i64 x3, .string s4, .string s5, .string s6, .bool b7, .int .i64 x8, .string s9, .bool b10, .slice p11 n11 r11, .slice p12 n12 r12]) ∧ CpyL w' w.heap.size A [9, 2, 3, 3, 9, 9, 9, 4, 3, 9, 4, 38, 38] [.str s0, .num .i64 x1, .num .i64 x2, .num .i64 x3, .str s4, .str s5, .str s6, .tru b7, .num .i64 x8, .str s9, .tru b10, .ls a11 n11 k11 m11, .ls a12 n12 k12 m12] [.string s0, .int .i64 x1, .int .i64 x2, .int .i64 x3, .string s4, .string s5, .string s6, .bool b7, .int .i64 x8, .string s9, .bool b10, .slice p11 n11 r11, .slice p12 n12 r12] ∧ Below w.heap.size w w' := by
  obtain ⟨W, hW⟩ : ∃ W, ((w.alloc (.cells #[.int .i64 lv, .bool false] 100)).alloc (.cells #[.string s0, .int .i64 x1, .int .i64 x2, .int .i64 x3, .string s4, .string s5, .string s6, .bool b7, .int .i64 x8, .string s9, .bool b10, .slice a11 n11 k11, .slice a12 n12 k12] 45)).alloc (.cells #[.string ⟨#[]⟩, .int .i64 0, .int .i64 0, .int .i64 0, .string ⟨#[]⟩, .string ⟨#[]⟩, .string ⟨#[]⟩, .bool false, .int .i64 0, .string ⟨#[]⟩, .bool false, .slice none 0 0, .slice none 0 0] 45) = W := ⟨_, rfl⟩
  have o0 : Ob W w.heap.size #[.int .i64 lv, .bool false] 100 := by rw [← hW]; exact ((Ob.new w _ _).alloc _).alloc _
  have o1 : Ob W (w.heap.size + 1) #[.string s0, .int .i64 x1, .int .i64 x2, .int .i64 x3, .string s4, .string s5, .string s6, .bool b7, .int .i64 x8, .string s9, .bool b10, .slice a11 n11 k11, .slice a12 n12 k12] 45 := by rw [← hW]; have := Ob.new (w.alloc (.cells #[.int .i64 lv, .bool false] 100)) #[.string s0, .int .i64 x1, .int .i64 x2, .int .i64 x3, .string s4, .string s5, .string s6, .bool b7, .int .i64 x8, .string s9, .bool b10, .slice a11 n11 k11, .slice a12 n12 k12] 45; rw [World.size_alloc] at this; exact this.alloc _
  have o2 : Ob W (w.heap.size + 1 + 1) #[.string ⟨#[]⟩, .int .i64 0, .int .i64 0, .int .i64 0, .string ⟨#[]⟩, .string ⟨#[]⟩, .string ⟨#[]⟩, .bool false, .int .i64 0, .string ⟨#[]⟩, .bool false, .slice none 0 0, .slice none 0 0] 45 := by rw [← hW]; have := Ob.new ((w.alloc (.cells #[.int .i64 lv, .bool false] 100)).alloc (.cells #[.string s0, .int .i64 x1, .int .i64 x2, .int .i64 x3, .string s4, .string s5, .string s6, .bool b7, .int .i64 x8, .string s9, .bool b10, .slice a11 n11 k11, .slice a12 n12 k12] 45)) #[.string ⟨#[]⟩, .int .i64 0, .int .i64 0, .int .i64 0, .string ⟨#[]⟩, .string ⟨#[]⟩, .string ⟨#[]⟩, .bool false, .int .i64 0, .string ⟨#[]⟩, .bool false, .slice none 0 0, .slice none 0 0] 45; simp only [World.size_alloc] at this; exact this
  have hb : Below w.heap.size w W := by rw [← hW]; exact (((Below.refl _ _).alloc (Nat.le_refl _) _).alloc (by simp) _).alloc (by simp; omega) _
  have HW : Hid _ := hW
  have O0 : Hid _ := o0
  have O1 : Hid _ := o1
  have O2 : Hid _ := o2
  have HB : Hid _ := hb
  have l0 := o0.lt
  have l1 := o1.lt
  have l2 := o2.lt
  clear hW o0 o1 o2 hb
  go_enter Tryz.func44, Tryz.ntmps44
  go_upto_region 1 with fail
  rw [HW.out]
  clear HW
  have HD : Hid (Below W.heap.size W W.drew) := (Below.refl _ _).drew
  refine wp_region_heldG 35 (S := fun V => Below W.heap.size W V) rfl ?_
  refine wpAnyG_take (i := 0) (v := ?_) rfl (by kernel_rfl) (by kernel_rfl) (by kernel_rfl) (by kernel_rfl) (fun _ _ _ h => h) (Or.inl ⟨by rfl, ?_⟩) HD.out ?_
  rotate_left
  · intro V HV
    go_simp
    try with_reducible rfl
  refine wpAnyG_take (i := 1) (v := ?_) rfl (by kernel_rfl) (by kernel_rfl) (by kernel_rfl) (by kernel_rfl) (fun _ _ _ h => h) (Or.inl ⟨by rfl, ?_⟩) HD.out ?_
  rotate_left
  · intro V HV
    have z0 := (HV.cell (p := ⟨w.heap.size + 1, 0, none⟩) l1).trans (O1.out.cell 0 rfl)
    go_simp
    try with_reducible rfl
  refine wpAnyG_take (i := 3) (v := ?_) rfl (by kernel_rfl) (by kernel_rfl) (by kernel_rfl) (by kernel_rfl) (fun _ _ _ h => h) (Or.inl ⟨by rfl, ?_⟩) HD.out ?_
  rotate_left
  · intro V HV
    go_simp
    try with_reducible rfl
  refine wpAnyG_take (i := 4) (v := ?_) rfl (by kernel_rfl) (by kernel_rfl) (by kernel_rfl) (by kernel_rfl) (fun _ _ _ h => h) (Or.inl ⟨by rfl, ?_⟩) HD.out ?_
  rotate_left
  · intro V HV
    have z0 := (HV.cell (p := ⟨w.heap.size + 1, 1, none⟩) l1).trans (O1.out.cell 1 rfl)
    go_simp
    try with_reducible rfl
  refine wpAnyG_take (i := 5) (v := ?_) rfl (by kernel_rfl) (by kernel_rfl) (by kernel_rfl) (by kernel_rfl) (fun _ _ _ h => h) (Or.inl ⟨by rfl, ?_⟩) HD.out ?_
  rotate_left
  · intro V HV
    go_simp
    try with_reducible rfl
  refine wpAnyG_take (i := 6) (v := ?_) rfl (by kernel_rfl) (by kernel_rfl) (by kernel_rfl) (by kernel_rfl) (fun _ _ _ h => h) (Or.inl ⟨by rfl, ?_⟩) HD.out ?_
  rotate_left
  · intro V HV
    have z0 := (HV.cell (p := ⟨w.heap.size + 1, 2, none⟩) l1).trans (O1.out.cell 2 rfl)
    go_simp
    try with_reducible rfl
  refine wpAnyG_take (i := 7) (v := ?_) rfl (by kernel_rfl) (by kernel_rfl) (by kernel_rfl) (by kernel_rfl) (fun _ _ _ h => h) (Or.inl ⟨by rfl, ?_⟩) HD.out ?_
  rotate_left
  · intro V HV
    go_simp
    try with_reducible rfl
  refine wpAnyG_take (i := 8) (v := ?_) rfl (by kernel_rfl) (by kernel_rfl) (by kernel_rfl) (by kernel_rfl) (fun _ _ _ h => h) (Or.inl ⟨by rfl, ?_⟩) HD.out ?_
  rotate_left
  · intro V HV
    have z0 := (HV.cell (p := ⟨w.heap.size + 1, 3, none⟩) l1).trans (O1.out.cell 3 rfl)
    go_simp
    try with_reducible rfl
  refine wpAnyG_take (i := 9) (v := ?_) rfl (by kernel_rfl) (by kernel_rfl) (by kernel_rfl) (by kernel_rfl) (fun _ _ _ h => h) (Or.inl ⟨by rfl, ?_⟩) HD.out ?_
  rotate_left
  · intro V HV
    go_simp
    try with_reducible rfl
  refine wpAnyG_take (i := 10) (v := ?_) rfl (by kernel_rfl) (by kernel_rfl) (by kernel_rfl) (by kernel_rfl) (fun _ _ _ h => h) (Or.inl ⟨by rfl, ?_⟩) HD.out ?_
  rotate_left
  · intro V HV
    have z0 := (HV.cell (p := ⟨w.heap.size + 1, 4, none⟩) l1).trans (O1.out.cell 4 rfl)
    go_simp
    try with_reducible rfl
  refine wpAnyG_take (i := 12) (v := ?_) rfl (by kernel_rfl) (by kernel_rfl) (by kernel_rfl) (by kernel_rfl) (fun _ _ _ h => h) (Or.inl ⟨by rfl, ?_⟩) HD.out ?_
  rotate_left
  · intro V HV
    go_simp
    try with_reducible rfl
  refine wpAnyG_take (i := 13) (v := ?_) rfl (by kernel_rfl) (by kernel_rfl) (by kernel_rfl) (by kernel_rfl) (fun _ _ _ h => h) (Or.inl ⟨by rfl, ?_⟩) HD.out ?_
  rotate_left
  · intro V HV
    have z0 := (HV.cell (p := ⟨w.heap.size + 1, 5, none⟩) l1).trans (O1.out.cell 5 rfl)
    go_simp
    try with_reducible rfl
  refine wpAnyG_take (i := 15) (v := ?_) rfl (by kernel_rfl) (by kernel_rfl) (by kernel_rfl) (by kernel_rfl) (fun _ _ _ h => h) (Or.inl ⟨by rfl, ?_⟩) HD.out ?_
  rotate_left
  · intro V HV
    go_simp
    try with_reducible rfl
  refine wpAnyG_take (i := 16) (v := ?_) rfl (by kernel_rfl) (by kernel_rfl) (by kernel_rfl) (by kernel_rfl) (fun _ _ _ h => h) (Or.inl ⟨by rfl, ?_⟩) HD.out ?_
  rotate_left
  · intro V HV
    have z0 := (HV.cell (p := ⟨w.heap.size + 1, 6, none⟩) l1).trans (O1.out.cell 6 rfl)
    go_simp
    try with_reducible rfl
  refine wpAnyG_take (i := 18) (v := ?_) rfl (by kernel_rfl) (by kernel_rfl) (by kernel_rfl) (by kernel_rfl) (fun _ _ _ h => h) (Or.inl ⟨by rfl, ?_⟩) HD.out ?_
  rotate_left
  · intro V HV
    go_simp
    try with_reducible rfl
  refine wpAnyG_take (i := 19) (v := ?_) rfl (by kernel_rfl) (by kernel_rfl) (by kernel_rfl) (by kernel_rfl) (fun _ _ _ h => h) (Or.inl ⟨by rfl, ?_⟩) HD.out ?_
  rotate_left
  · intro V HV
    have z0 := (HV.cell (p := ⟨w.heap.size + 1, 7, none⟩) l1).trans (O1.out.cell 7 rfl)
    go_simp
    try with_reducible rfl
  refine wpAnyG_take (i := 20) (v := ?_) rfl (by kernel_rfl) (by kernel_rfl) (by kernel_rfl) (by kernel_rfl) (fun _ _ _ h => h) (Or.inl ⟨by rfl, ?_⟩) HD.out ?_
  rotate_left
  · intro V HV
    go_simp
    try with_reducible rfl
  refine wpAnyG_take (i := 21) (v := ?_) rfl (by kernel_rfl) (by kernel_rfl) (by kernel_rfl) (by kernel_rfl) (fun _ _ _ h => h) (Or.inl ⟨by rfl, ?_⟩) HD.out ?_
  rotate_left
  · intro V HV
    have z0 := (HV.cell (p := ⟨w.heap.size + 1, 8, none⟩) l1).trans (O1.out.cell 8 rfl)
    go_simp
    try with_reducible rfl
  refine wpAnyG_take (i := 22) (v := ?_) rfl (by kernel_rfl) (by kernel_rfl) (by kernel_rfl) (by kernel_rfl) (fun _ _ _ h => h) (Or.inl ⟨by rfl, ?_⟩) HD.out ?_
  rotate_left
  · intro V HV
    go_simp
    try with_reducible rfl
  refine wpAnyG_take (i := 23) (v := ?_) rfl (by kernel_rfl) (by kernel_rfl) (by kernel_rfl) (by kernel_rfl) (fun _ _ _ h => h) (Or.inl ⟨by rfl, ?_⟩) HD.out ?_
  rotate_left
  · intro V HV
    have z0 := (HV.cell (p := ⟨w.heap.size + 1, 9, none⟩) l1).trans (O1.out.cell 9 rfl)
    go_simp
    try with_reducible rfl
  refine wpAnyG_take (i := 25) (v := ?_) rfl (by kernel_rfl) (by kernel_rfl) (by kernel_rfl) (by kernel_rfl) (fun _ _ _ h => h) (Or.inl ⟨by rfl, ?_⟩) HD.out ?_
  rotate_left
  · intro V HV
    go_simp
    try with_reducible rfl
  refine wpAnyG_take (i := 26) (v := ?_) rfl (by kernel_rfl) (by kernel_rfl) (by kernel_rfl) (by kernel_rfl) (fun _ _ _ h => h) (Or.inl ⟨by rfl, ?_⟩) HD.out ?_
  rotate_left
  · intro V HV
    have z0 := (HV.cell (p := ⟨w.heap.size + 1, 10, none⟩) l1).trans (O1.out.cell 10 rfl)
    go_simp
    try with_reducible rfl
  refine wpAnyG_take (i := 27) (v := ?_) rfl (by kernel_rfl) (by kernel_rfl) (by kernel_rfl) (by kernel_rfl) (fun _ _ _ h => h) (Or.inl ⟨by rfl, ?_⟩) HD.out ?_
  rotate_left
  · intro V HV
    go_simp
    try with_reducible rfl
  refine wpAnyG_take (i := 28) (v := ?_) rfl (by kernel_rfl) (by kernel_rfl) (by kernel_rfl) (by kernel_rfl) (fun _ _ _ h => h) (Or.inl ⟨by rfl, ?_⟩) HD.out ?_
  rotate_left
  · intro V HV
    have z0 := (HV.cell (p := ⟨w.heap.size + 1, 11, none⟩) l1).trans (O1.out.cell 11 rfl)
    go_simp
    try with_reducible rfl
  refine wpAnyG_take (i := 30) (v := ?_) rfl (by kernel_rfl) (by kernel_rfl) (by kernel_rfl) (by kernel_rfl) (fun _ _ _ h => h) (Or.inl ⟨by rfl, ?_⟩) HD.out ?_
  rotate_left
  · intro V HV
    have z0 := (HV.cell (p := ⟨w.heap.size, 0, none⟩) l0).trans (O0.out.cell 0 rfl)
    have z1 := (HV.cell (p := ⟨w.heap.size, 1, none⟩) l0).trans (O0.out.cell 1 rfl)
    go_simp
    try with_reducible rfl
  refine wpAnyG_take (i := 31) (v := ?_) rfl (by kernel_rfl) (by kernel_rfl) (by kernel_rfl) (by kernel_rfl) (fun _ _ _ h => h) (Or.inl ⟨by rfl, ?_⟩) HD.out ?_
  rotate_left
  · intro V HV
    go_simp
    try with_reducible rfl
  refine wpAnyG_take (i := 32) (v := ?_) rfl (by kernel_rfl) (by kernel_rfl) (by kernel_rfl) (by kernel_rfl) (fun _ _ _ h => h) (Or.inl ⟨by rfl, ?_⟩) HD.out ?_
  rotate_left
  · intro V HV
    have z0 := (HV.cell (p := ⟨w.heap.size + 1, 12, none⟩) l1).trans (O1.out.cell 12 rfl)
    go_simp
    try with_reducible rfl
  refine wpAnyG_all (rs := [2]) (by kernel_rfl) (by simp) ?_
  intro i hi
  obtain rfl : i = 2 := by simpa using hi
  clear hi
  refine wpOp_listV rfl ?_
  intro Q' hQ'
  have HQ : Hid _ := hQ'
  clear hQ'
  go_wp2_with fail
  refine Calls.mono (kclone_any s0 _ h0) ?_
  rintro e w4 ⟨rfl, hbl⟩
  have HB4 : Hid (Below W.heap.size W w4) := HD.out.trans (hbl.mono HD.out.size)
  clear hbl
  go_wp2
  refine HQ.out _ _ ⟨.inr HB4.out, ?_⟩
  clear HQ
  refine wpAnyG_all (rs := [11]) (by kernel_rfl) (by simp) ?_
  intro i hi
  obtain rfl : i = 11 := by simpa using hi
  clear hi
  refine wpOp_listV rfl ?_
  intro Q' hQ'
  have HQ : Hid _ := hQ'
  clear hQ'
  go_wp2_with fail
  refine Calls.mono (kclone_any s4 _ h4) ?_
  rintro e w5 ⟨rfl, hbl⟩
  have HB5 : Hid (Below W.heap.size W w5) := HB4.out.trans (hbl.mono HB4.out.size)
  clear hbl
  go_wp2
  refine HQ.out _ _ ⟨.inr HB5.out, ?_⟩
  clear HQ
  refine wpAnyG_all (rs := [14]) (by kernel_rfl) (by simp) ?_
  intro i hi
  obtain rfl : i = 14 := by simpa using hi
  clear hi
  refine wpOp_listV rfl ?_
  intro Q' hQ'
  have HQ : Hid _ := hQ'
  clear hQ'
  go_wp2_with fail
  refine Calls.mono (kclone_any s5 _ h5) ?_
  rintro e w6 ⟨rfl, hbl⟩
  have HB6 : Hid (Below W.heap.size W w6) := HB5.out.trans (hbl.mono HB5.out.size)
  clear hbl
  go_wp2
  refine HQ.out _ _ ⟨.inr HB6.out, ?_⟩
  clear HQ
  refine wpAnyG_all (rs := [17]) (by kernel_rfl) (by simp) ?_
  intro i hi
  obtain rfl : i = 17 := by simpa using hi
  clear hi
  refine wpOp_listV rfl ?_
  intro Q' hQ'
  have HQ : Hid _ := hQ'
  clear hQ'
  go_wp2_with fail
  refine Calls.mono (kclone_any s6 _ h6) ?_
  rintro e w7 ⟨rfl, hbl⟩
  have HB7 : Hid (Below W.heap.size W w7) := HB6.out.trans (hbl.mono HB6.out.size)
  clear hbl
  go_wp2
  refine HQ.out _ _ ⟨.inr HB7.out, ?_⟩
  clear HQ
  refine wpAnyG_all (rs := [24]) (by kernel_rfl) (by simp) ?_
  intro i hi
  obtain rfl : i = 24 := by simpa using hi
  clear hi
  refine wpOp_listV rfl ?_
  intro Q' hQ'
  have HQ : Hid _ := hQ'
  clear hQ'
  go_wp2_with fail
  refine Calls.mono (kclone_any s9 _ h9) ?_
  rintro e w8 ⟨rfl, hbl⟩
  have HB8 : Hid (Below W.heap.size W w8) := HB7.out.trans (hbl.mono HB7.out.size)
  clear hbl
  go_wp2
  refine HQ.out _ _ ⟨.inr HB8.out, ?_⟩
  clear HQ
  refine wpAnyG_all (rs := [29]) (by kernel_rfl) (by simp) ?_
  intro i hi
  obtain rfl : i = 29 := by simpa using hi
  clear hi
  refine wpOp_listV rfl ?_
  intro Q' hQ'
  have HQ : Hid _ := hQ'
  clear hQ'
  go_wp2_with fail
  refine Calls.mono (kbytes_any A hA a11 n11 k11 m11 _ (show Hid _ from ((h11.out.under HB.out).under HB8.out).1) (show Hid _ from h11.out.2)) ?_
  rintro e w9 ⟨v, rfl, hcp, hbl⟩
  have HB9 : Hid (Below W.heap.size W w9) := HB8.out.trans (hbl.mono HB8.out.size)
  obtain ⟨p11, r11, rfl⟩ := cpy_ls hcp
  have C11_9 : Hid (Cpy w9 W.heap.size A 38 (.ls a11 n11 k11 m11) (.slice p11 n11 r11)) := hcp.from HB8.out.size
  clear hcp
  clear hbl
  go_wp2
  refine HQ.out _ _ ⟨.inr HB9.out, ?_⟩
  clear HQ
  refine wpAnyG_all (rs := [33]) (by kernel_rfl) (by simp) ?_
  intro i hi
  obtain rfl : i = 33 := by simpa using hi
  clear hi
  refine wpOp_listV rfl ?_
  intro Q' hQ'
  have HQ : Hid _ := hQ'
  clear hQ'
  go_wp2_with fail
  refine Calls.mono (kunk_any A hA (.int .i64 lv) a12 n12 k12 m12 _ (show Hid _ from ((h12.out.under HB.out).under HB9.out).1) (show Hid _ from h12.out.2)) ?_
  rintro e w10 ⟨v, rfl, hcp, hbl⟩
  have HB10 : Hid (Below W.heap.size W w10) := HB9.out.trans (hbl.mono HB9.out.size)
  have C11_10 : Hid (Cpy w10 W.heap.size A 38 (.ls a11 n11 k11 m11) (.slice p11 n11 r11)) := Cpy.under C11_9.out hbl
  clear C11_9
  obtain ⟨p12, r12, rfl⟩ := cpy_ls hcp
  have C12_10 : Hid (Cpy w10 W.heap.size A 38 (.ls a12 n12 k12 m12) (.slice p12 n12 r12)) := hcp.from HB9.out.size
  clear hcp
  clear hbl
  go_wp2
  refine HQ.out _ _ ⟨.inr HB10.out, ?_⟩
  clear HQ
  refine wpAnyG_take (i := 34) (v := ?_) rfl (by kernel_rfl) (by kernel_rfl) (by kernel_rfl) (by kernel_rfl) (fun _ _ _ h => h) (Or.inl ⟨by rfl, ?_⟩) HB10.out ?_
  rotate_left
  · intro V HV
    go_simp
    try with_reducible rfl
  refine wpAnyG_all (rs := [35]) (by kernel_rfl) (by simp) ?_
  intro i hi
  obtain rfl : i = 35 := by simpa using hi
  clear hi
  refine wpOp_listV rfl ?_
  intro Q' hQ'
  have HQ : Hid _ := hQ'
  clear hQ'
  have O2' : Hid _ := O2.out.below HB10.out l2
  obtain ⟨⟨y0, y1, y2, y3, y4, y5, y6, y7, y8, y9, y10, y11, y12⟩, ⟨g0, g1, g2, g3, g4, g5, g6, g7, g8, g9, g10, g11, g12⟩, l2'⟩ := ob13 (show Ob w10 (w.heap.size + 1 + 1) #[.string ⟨#[]⟩, .int .i64 0, .int .i64 0, .int .i64 0, .string ⟨#[]⟩, .string ⟨#[]⟩, .string ⟨#[]⟩, .bool false, .int .i64 0, .string ⟨#[]⟩, .bool false, .slice none 0 0, .slice none 0 0] 45 from O2'.out)
  go_wp2
  refine HQ.out _ _ ⟨.inl trivial, ?_⟩
  clear HQ
  refine wpAnyG_done (by kernel_rfl) ?_ _
  go_wp2
  refine bodyPost_ret (v := .agg #[.string s0, .int .i64 x1, .int .i64 x2, .int .i64 x3, .string s4, .string s5, .string s6, .bool b7, .int .i64 x8, .string s9, .bool b10, .slice p11 n11 r11, .slice p12 n12 r12]) (by simp [results, Tryz.results44, go_sem, y0, y1, y2, y3, y4, y5, y6, y7, y8, y9, y10, y11, y12]) rfl ⟨_, _, _, _, rfl, ?_, ?_⟩
  · exact CpyL.cons (Cpy.str s0) (CpyL.cons (Cpy.num x1 Tryz.underlying2) (CpyL.cons (Cpy.num x2 Tryz.underlying3) (CpyL.cons (Cpy.num x3 Tryz.underlying3) (CpyL.cons (Cpy.str s4) (CpyL.cons (Cpy.str s5) (CpyL.cons (Cpy.str s6) (CpyL.cons (Cpy.tru b7 Tryz.underlying4) (CpyL.cons (Cpy.num x8 Tryz.underlying3) (CpyL.cons (Cpy.str s9) (CpyL.cons (Cpy.tru b10 Tryz.underlying4) (CpyL.cons (Cpy.from (Cpy.set (Cpy.set (Cpy.set (Cpy.set (Cpy.set (Cpy.set (Cpy.set (Cpy.set (Cpy.set (Cpy.set (Cpy.set (Cpy.set (Cpy.set (C11_10.out) (b := w.heap.size + 1 + 1) l2 0 _) (b := w.heap.size + 1 + 1) l2 1 _) (b := w.heap.size + 1 + 1) l2 2 _) (b := w.heap.size + 1 + 1) l2 3 _) (b := w.heap.size + 1 + 1) l2 4 _) (b := w.heap.size + 1 + 1) l2 5 _) (b := w.heap.size + 1 + 1) l2 6 _) (b := w.heap.size + 1 + 1) l2 7 _) (b := w.heap.size + 1 + 1) l2 8 _) (b := w.heap.size + 1 + 1) l2 9 _) (b := w.heap.size + 1 + 1) l2 10 _) (b := w.heap.size + 1 + 1) l2 11 _) (b := w.heap.size + 1 + 1) l2 12 _) HB.out.size) (CpyL.cons (Cpy.from (Cpy.set (Cpy.set (Cpy.set (Cpy.set (Cpy.set (Cpy.set (Cpy.set (Cpy.set (Cpy.set (Cpy.set (Cpy.set (Cpy.set (Cpy.set (C12_10.out) (b := w.heap.size + 1 + 1) l2 0 _) (b := w.heap.size + 1 + 1) l2 1 _) (b := w.heap.size + 1 + 1) l2 2 _) (b := w.heap.size + 1 + 1) l2 3 _) (b := w.heap.size + 1 + 1) l2 4 _) (b := w.heap.size + 1 + 1) l2 5 _) (b := w.heap.size + 1 + 1) l2 6 _) (b := w.heap.size + 1 + 1) l2 7 _) (b := w.heap.size + 1 + 1) l2 8 _) (b := w.heap.size + 1 + 1) l2 9 _) (b := w.heap.size + 1 + 1) l2 10 _) (b := w.heap.size + 1 + 1) l2 11 _) (b := w.heap.size + 1 + 1) l2 12 _) HB.out.size) (CpyL.nil _ _ _)))))))))))))
  · exact (((((((((((((HB.out.trans (HB10.out.mono HB.out.size)).setCell (p := ⟨w.heap.size + 1 + 1, 0, none⟩) (by simp; omega) _).setCell (p := ⟨w.heap.size + 1 + 1, 1, none⟩) (by simp; omega) _).setCell (p := ⟨w.heap.size + 1 + 1, 2, none⟩) (by simp; omega) _).setCell (p := ⟨w.heap.size + 1 + 1, 3, none⟩) (by simp; omega) _).setCell (p := ⟨w.heap.size + 1 + 1, 4, none⟩) (by simp; omega) _).setCell (p := ⟨w.heap.size + 1 + 1, 5, none⟩) (by simp; omega) _).setCell (p := ⟨w.heap.size + 1 + 1, 6, none⟩) (by simp; omega) _).setCell (p := ⟨w.heap.size + 1 + 1, 7, none⟩) (by simp; omega) _).setCell (p := ⟨w.heap.size + 1 + 1, 8, none⟩) (by simp; omega) _).setCell (p := ⟨w.heap.size + 1 + 1, 9, none⟩) (by simp; omega) _).setCell (p := ⟨w.heap.size + 1 + 1, 10, none⟩) (by simp; omega) _).setCell (p := ⟨w.heap.size + 1 + 1, 11, none⟩) (by simp; omega) _).setCell (p := ⟨w.heap.size + 1 + 1, 12, none⟩) (by simp; omega) _

theorem flds_field : flds Tryz.prog 45 = [9, 2, 3, 3, 9, 9, 9, 4, 3, 9, 4, 38, 38] := by kernel_rfl

theorem field_at {w : World} {a : Option Addr} {n c : Nat} {ms : List Md} (h : Src w 33 (.ls a n c ms)) (i : Nat) (hi : i < n) :
    ∃ b off s0 x1 x2 x3 s4 s5 s6 b7 x8 s9 b10 a11 n11 k11 m11 a12 n12 k12 m12, a = some ⟨b, off, none⟩ ∧ b < w.heap.size ∧ w.cell? ⟨b, off + i * 13, none⟩ = some (.string s0) ∧ w.cell? ⟨b, off + i * 13 + 1, none⟩ = some (.int .i64 x1) ∧ w.cell? ⟨b, off + i * 13 + 2, none⟩ = some (.int .i64 x2) ∧ w.cell? ⟨b, off + i * 13 + 3, none⟩ = some (.int .i64 x3) ∧ w.cell? ⟨b, off + i * 13 + 4, none⟩ = some (.string s4) ∧ w.cell? ⟨b, off + i * 13 + 5, none⟩ = some (.string s5) ∧ w.cell? ⟨b, off + i * 13 + 6, none⟩ = some (.string s6) ∧ w.cell? ⟨b, off + i * 13 + 7, none⟩ = some (.bool b7) ∧ w.cell? ⟨b, off + i * 13 + 8, none⟩ = some (.int .i64 x8) ∧ w.cell? ⟨b, off + i * 13 + 9, none⟩ = some (.string s9) ∧ w.cell? ⟨b, off + i * 13 + 10, none⟩ = some (.bool b10) ∧ w.cell? ⟨b, off + i * 13 + 11, none⟩ = some (.slice a11 n11 k11) ∧ w.cell? ⟨b, off + i * 13 + 12, none⟩ = some (.slice a12 n12 k12) ∧ Src w 38 (.ls a11 n11 k11 m11) ∧ Src w 38 (.ls a12 n12 k12 m12) ∧ s0.size ≤ 140737488355328 ∧ s4.size ≤ 140737488355328 ∧ s5.size ≤ 140737488355328 ∧ s6.size ≤ 140737488355328 ∧ s9.size ≤ 140737488355328 ∧ ms[i * 13 + 0]? = some (.str s0) ∧ ms[i * 13 + 1]? = some (.num .i64 x1) ∧ ms[i * 13 + 2]? = some (.num .i64 x2) ∧ ms[i * 13 + 3]? = some (.num .i64 x3) ∧ ms[i * 13 + 4]? = some (.str s4) ∧ ms[i * 13 + 5]? = some (.str s5) ∧ ms[i * 13 + 6]? = some (.str s6) ∧ ms[i * 13 + 7]? = some (.tru b7) ∧ ms[i * 13 + 8]? = some (.num .i64 x8) ∧ ms[i * 13 + 9]? = some (.str s9) ∧ ms[i * 13 + 10]? = some (.tru b10) ∧ ms[i * 13 + 11]? = some (.ls a11 n11 k11 m11) ∧ ms[i * 13 + 12]? = some (.ls a12 n12 k12 m12) := by
  obtain ⟨h, hz⟩ := h
  cases h with
  | ls hT hnc hm hnil hlen hmem hk =>
    rename_i E
    have hE : E = 45 := by
      have := Tryz.underlying33
      rw [this] at hT
      cases hT
      rfl
    subst hE
    cases hz with
    | ls hT2 hb2 hk2 =>
    rename_i E
    have hE : E = 45 := by
      have := Tryz.underlying33
      rw [this] at hT2
      cases hT2
      rfl
    subst hE
    rw [flds_field] at hlen hk hk2
    obtain ⟨b, off, rfl, hb, hc⟩ := hmem (by omega)
    have hg : ∀ j, j < 13 → ∃ m, ms[i * 13 + j]? = some m := fun j hj => ⟨_, List.getElem?_eq_getElem (by simp at hlen; omega)⟩
    have hmod : ∀ j, j < 13 → (i * 13 + j) % 13 = j := fun j hj => by omega
    obtain ⟨q0, hq0⟩ := hg 0 (by omega)
    have ok0 := hk _ _ 9 hq0 (by rw [show ([9, 2, 3, 3, 9, 9, 9, 4, 3, 9, 4, 38, 38] : List TypeId).length = 13 from rfl, hmod 0 (by omega)]; rfl)
    have sz0 := hk2 _ _ 9 hq0 (by rw [show ([9, 2, 3, 3, 9, 9, 9, 4, 3, 9, 4, 38, 38] : List TypeId).length = 13 from rfl, hmod 0 (by omega)]; rfl)
    have cl0 := hc _ _ hq0
    obtain ⟨q1, hq1⟩ := hg 1 (by omega)
    have ok1 := hk _ _ 2 hq1 (by rw [show ([9, 2, 3, 3, 9, 9, 9, 4, 3, 9, 4, 38, 38] : List TypeId).length = 13 from rfl, hmod 1 (by omega)]; rfl)
    have sz1 := hk2 _ _ 2 hq1 (by rw [show ([9, 2, 3, 3, 9, 9, 9, 4, 3, 9, 4, 38, 38] : List TypeId).length = 13 from rfl, hmod 1 (by omega)]; rfl)
    have cl1 := hc _ _ hq1
    obtain ⟨q2, hq2⟩ := hg 2 (by omega)
    have ok2 := hk _ _ 3 hq2 (by rw [show ([9, 2, 3, 3, 9, 9, 9, 4, 3, 9, 4, 38, 38] : List TypeId).length = 13 from rfl, hmod 2 (by omega)]; rfl)
    have sz2 := hk2 _ _ 3 hq2 (by rw [show ([9, 2, 3, 3, 9, 9, 9, 4, 3, 9, 4, 38, 38] : List TypeId).length = 13 from rfl, hmod 2 (by omega)]; rfl)
    have cl2 := hc _ _ hq2
    obtain ⟨q3, hq3⟩ := hg 3 (by omega)
    have ok3 := hk _ _ 3 hq3 (by rw [show ([9, 2, 3, 3, 9, 9, 9, 4, 3, 9, 4, 38, 38] : List TypeId).length = 13 from rfl, hmod 3 (by omega)]; rfl)
    have sz3 := hk2 _ _ 3 hq3 (by rw [show ([9, 2, 3, 3, 9, 9, 9, 4, 3, 9, 4, 38, 38] : List TypeId).length = 13 from rfl, hmod 3 (by omega)]; rfl)
    have cl3 := hc _ _ hq3
    obtain ⟨q4, hq4⟩ := hg 4 (by omega)
    have ok4 := hk _ _ 9 hq4 (by rw [show ([9, 2, 3, 3, 9, 9, 9, 4, 3, 9, 4, 38, 38] : List TypeId).length = 13 from rfl, hmod 4 (by omega)]; rfl)
    have sz4 := hk2 _ _ 9 hq4 (by rw [show ([9, 2, 3, 3, 9, 9, 9, 4, 3, 9, 4, 38, 38] : List TypeId).length = 13 from rfl, hmod 4 (by omega)]; rfl)
    have cl4 := hc _ _ hq4
    obtain ⟨q5, hq5⟩ := hg 5 (by omega)
    have ok5 := hk _ _ 9 hq5 (by rw [show ([9, 2, 3, 3, 9, 9, 9, 4, 3, 9, 4, 38, 38] : List TypeId).length = 13 from rfl, hmod 5 (by omega)]; rfl)
    have sz5 := hk2 _ _ 9 hq5 (by rw [show ([9, 2, 3, 3, 9, 9, 9, 4, 3, 9, 4, 38, 38] : List TypeId).length = 13 from rfl, hmod 5 (by omega)]; rfl)
    have cl5 := hc _ _ hq5
    obtain ⟨q6, hq6⟩ := hg 6 (by omega)
    have ok6 := hk _ _ 9 hq6 (by rw [show ([9, 2, 3, 3, 9, 9, 9, 4, 3, 9, 4, 38, 38] : List TypeId).length = 13 from rfl, hmod 6 (by omega)]; rfl)
    have sz6 := hk2 _ _ 9 hq6 (by rw [show ([9, 2, 3, 3, 9, 9, 9, 4, 3, 9, 4, 38, 38] : List TypeId).length = 13 from rfl, hmod 6 (by omega)]; rfl)
    have cl6 := hc _ _ hq6
    obtain ⟨q7, hq7⟩ := hg 7 (by omega)
    have ok7 := hk _ _ 4 hq7 (by rw [show ([9, 2, 3, 3, 9, 9, 9, 4, 3, 9, 4, 38, 38] : List TypeId).length = 13 from rfl, hmod 7 (by omega)]; rfl)
    have sz7 := hk2 _ _ 4 hq7 (by rw [show ([9, 2, 3, 3, 9, 9, 9, 4, 3, 9, 4, 38, 38] : List TypeId).length = 13 from rfl, hmod 7 (by omega)]; rfl)
    have cl7 := hc _ _ hq7
    obtain ⟨q8, hq8⟩ := hg 8 (by omega)
    have ok8 := hk _ _ 3 hq8 (by rw [show ([9, 2, 3, 3, 9, 9, 9, 4, 3, 9, 4, 38, 38] : List TypeId).length = 13 from rfl, hmod 8 (by omega)]; rfl)
    have sz8 := hk2 _ _ 3 hq8 (by rw [show ([9, 2, 3, 3, 9, 9, 9, 4, 3, 9, 4, 38, 38] : List TypeId).length = 13 from rfl, hmod 8 (by omega)]; rfl)
    have cl8 := hc _ _ hq8
    obtain ⟨q9, hq9⟩ := hg 9 (by omega)
    have ok9 := hk _ _ 9 hq9 (by rw [show ([9, 2, 3, 3, 9, 9, 9, 4, 3, 9, 4, 38, 38] : List TypeId).length = 13 from rfl, hmod 9 (by omega)]; rfl)
    have sz9 := hk2 _ _ 9 hq9 (by rw [show ([9, 2, 3, 3, 9, 9, 9, 4, 3, 9, 4, 38, 38] : List TypeId).length = 13 from rfl, hmod 9 (by omega)]; rfl)
    have cl9 := hc _ _ hq9
    obtain ⟨q10, hq10⟩ := hg 10 (by omega)
    have ok10 := hk _ _ 4 hq10 (by rw [show ([9, 2, 3, 3, 9, 9, 9, 4, 3, 9, 4, 38, 38] : List TypeId).length = 13 from rfl, hmod 10 (by omega)]; rfl)
    have sz10 := hk2 _ _ 4 hq10 (by rw [show ([9, 2, 3, 3, 9, 9, 9, 4, 3, 9, 4, 38, 38] : List TypeId).length = 13 from rfl, hmod 10 (by omega)]; rfl)
    have cl10 := hc _ _ hq10
    obtain ⟨q11, hq11⟩ := hg 11 (by omega)
    have ok11 := hk _ _ 38 hq11 (by rw [show ([9, 2, 3, 3, 9, 9, 9, 4, 3, 9, 4, 38, 38] : List TypeId).length = 13 from rfl, hmod 11 (by omega)]; rfl)
    have sz11 := hk2 _ _ 38 hq11 (by rw [show ([9, 2, 3, 3, 9, 9, 9, 4, 3, 9, 4, 38, 38] : List TypeId).length = 13 from rfl, hmod 11 (by omega)]; rfl)
    have cl11 := hc _ _ hq11
    obtain ⟨q12, hq12⟩ := hg 12 (by omega)
    have ok12 := hk _ _ 38 hq12 (by rw [show ([9, 2, 3, 3, 9, 9, 9, 4, 3, 9, 4, 38, 38] : List TypeId).length = 13 from rfl, hmod 12 (by omega)]; rfl)
    have sz12 := hk2 _ _ 38 hq12 (by rw [show ([9, 2, 3, 3, 9, 9, 9, 4, 3, 9, 4, 38, 38] : List TypeId).length = 13 from rfl, hmod 12 (by omega)]; rfl)
    have cl12 := hc _ _ hq12
    obtain ⟨s0, rfl, _⟩ := ok_str2 Tryz.underlying9 ok0
    obtain ⟨x1, rfl⟩ := ok_num2 Tryz.underlying2 ok1
    obtain ⟨x2, rfl⟩ := ok_num2 Tryz.underlying3 ok2
    obtain ⟨x3, rfl⟩ := ok_num2 Tryz.underlying3 ok3
    obtain ⟨s4, rfl, _⟩ := ok_str2 Tryz.underlying9 ok4
    obtain ⟨s5, rfl, _⟩ := ok_str2 Tryz.underlying9 ok5
    obtain ⟨s6, rfl, _⟩ := ok_str2 Tryz.underlying9 ok6
    obtain ⟨b7, rfl⟩ := ok_tru2 Tryz.underlying4 ok7
    obtain ⟨x8, rfl⟩ := ok_num2 Tryz.underlying3 ok8
    obtain ⟨s9, rfl, _⟩ := ok_str2 Tryz.underlying9 ok9
    obtain ⟨b10, rfl⟩ := ok_tru2 Tryz.underlying4 ok10
    obtain ⟨a11, n11, k11, m11, rfl⟩ := ok_ls2 Tryz.underlying38 ok11
    obtain ⟨a12, n12, k12, m12, rfl⟩ := ok_ls2 Tryz.underlying38 ok12
    refine ⟨b, off, s0, x1, x2, x3, s4, s5, s6, b7, x8, s9, b10, a11, n11, k11, m11, a12, n12, k12, m12, rfl, hb, ?_, ?_, ?_, ?_, ?_, ?_, ?_, ?_, ?_, ?_, ?_, ?_, ?_, ⟨ok11, sz11⟩, ⟨ok12, sz12⟩, sz_str sz0, sz_str sz4, sz_str sz5, sz_str sz6, sz_str sz9, hq0, hq1, hq2, hq3, hq4, hq5, hq6, hq7, hq8, hq9, hq10, hq11, hq12⟩
    · simpa [Md.val, Nat.add_assoc] using cl0
    · simpa [Md.val, Nat.add_assoc] using cl1
    · simpa [Md.val, Nat.add_assoc] using cl2
    · simpa [Md.val, Nat.add_assoc] using cl3
    · simpa [Md.val, Nat.add_assoc] using cl4
    · simpa [Md.val, Nat.add_assoc] using cl5
    · simpa [Md.val, Nat.add_assoc] using cl6
    · simpa [Md.val, Nat.add_assoc] using cl7
    · simpa [Md.val, Nat.add_assoc] using cl8
    · simpa [Md.val, Nat.add_assoc] using cl9
    · simpa [Md.val, Nat.add_assoc] using cl10
    · simpa [Md.val, Nat.add_assoc] using cl11
    · simpa [Md.val, Nat.add_assoc] using cl12

theorem Tryz.inffield : (Tryz.prog.info? 45).map (fun i => (i.zero, i.size, i.bytes)) = some (some (.agg #[.string ⟨#[]⟩, .int .i64 0, .int .i64 0, .int .i64 0, .string ⟨#[]⟩, .string ⟨#[]⟩, .string ⟨#[]⟩, .bool false, .int .i64 0, .string ⟨#[]⟩, .bool false, .slice none 0 0, .slice none 0 0]), 13, 176) := by kernel_rfl

theorem new_field (w : World) (x0 : Value) (x1 : Value) (x2 : Value) (x3 : Value) (x4 : Value) (x5 : Value) (x6 : Value) (x7 : Value) (x8 : Value) (x9 : Value) (x10 : Value) (x11 : Value) (x12 : Value) (t : TypeId) : ∀ (j : Nat) (u : Value), [x0, x1, x2, x3, x4, x5, x6, x7, x8, x9, x10, x11, x12][j]? = some u → (w.alloc (.cells #[x0, x1, x2, x3, x4, x5, x6, x7, x8, x9, x10, x11, x12] t)).cell? (({ block := w.heap.size, off := 0 } : Addr).add j) = some u := by
  intro j u hj
  have hl : j < 13 := (List.getElem?_eq_some_iff.1 hj).1
  match j, hl with
  | 0, _ => simp at hj; subst hj; simp [Addr.add]
  | 1, _ => simp at hj; subst hj; simp [Addr.add]
  | 2, _ => simp at hj; subst hj; simp [Addr.add]
  | 3, _ => simp at hj; subst hj; simp [Addr.add]
  | 4, _ => simp at hj; subst hj; simp [Addr.add]
  | 5, _ => simp at hj; subst hj; simp [Addr.add]
  | 6, _ => simp at hj; subst hj; simp [Addr.add]
  | 7, _ => simp at hj; subst hj; simp [Addr.add]
  | 8, _ => simp at hj; subst hj; simp [Addr.add]
  | 9, _ => simp at hj; subst hj; simp [Addr.add]
  | 10, _ => simp at hj; subst hj; simp [Addr.add]
  | 11, _ => simp at hj; subst hj; simp [Addr.add]
  | 12, _ => simp at hj; subst hj; simp [Addr.add]

theorem hes_field {ms : List Md} {k : Nat} {q0 q1 q2 q3 q4 q5 q6 q7 q8 q9 q10 q11 q12 : Md} (h : ms[k * 13 + 0]? = some q0 ∧ ms[k * 13 + 1]? = some q1 ∧ ms[k * 13 + 2]? = some q2 ∧ ms[k * 13 + 3]? = some q3 ∧ ms[k * 13 + 4]? = some q4 ∧ ms[k * 13 + 5]? = some q5 ∧ ms[k * 13 + 6]? = some q6 ∧ ms[k * 13 + 7]? = some q7 ∧ ms[k * 13 + 8]? = some q8 ∧ ms[k * 13 + 9]? = some q9 ∧ ms[k * 13 + 10]? = some q10 ∧ ms[k * 13 + 11]? = some q11 ∧ ms[k * 13 + 12]? = some q12) : ∀ j, j < [9, 2, 3, 3, 9, 9, 9, 4, 3, 9, 4, 38, 38].length → ms[k * 13 + j]? = [q0, q1, q2, q3, q4, q5, q6, q7, q8, q9, q10, q11, q12][j]? := by
  intro j hj
  have hl : j < 13 := hj
  match j, hl with
  | 0, _ => exact h.1
  | 1, _ => exact h.2.1
  | 2, _ => exact h.2.2.1
  | 3, _ => exact h.2.2.2.1
  | 4, _ => exact h.2.2.2.2.1
  | 5, _ => exact h.2.2.2.2.2.1
  | 6, _ => exact h.2.2.2.2.2.2.1
  | 7, _ => exact h.2.2.2.2.2.2.2.1
  | 8, _ => exact h.2.2.2.2.2.2.2.2.1
  | 9, _ => exact h.2.2.2.2.2.2.2.2.2.1
  | 10, _ => exact h.2.2.2.2.2.2.2.2.2.2.1
  | 11, _ => exact h.2.2.2.2.2.2.2.2.2.2.2.1
  | 12, _ => exact h.2.2.2.2.2.2.2.2.2.2.2.2

set_option maxRecDepth 100000 in
set_option maxHeartbeats 4000000 in
theorem kfields_any (A : TypeId → Prop) (hA : A 5 ∧ A 45) (lv : Int) (a : Option Addr) (n c : Nat) (ms : List Md) (w : World) (hs : Hid (Src w 33 (.ls a n c ms))) :
    Calls Tryz.prog 78 #[.slice a n c, .func (.func 44) #[.agg #[.int .i64 lv, .bool false]] #[]] w fun e w' => ∃ v, e = .returned v ∧ Cpy w' w.heap.size A 33 (.ls a n c ms) v ∧ Below w.heap.size w w' := by
  obtain ⟨i0, hi, hz0, hz1, hz2⟩ := info_parts Tryz.inffield
  obtain ⟨hn, hby, hml⟩ : (n : Int) ≤ 9223372036854775807 ∧ n * 176 ≤ 140737488355328 ∧ ms.length = n * 13 := by
    obtain ⟨ok, sz⟩ := hs.out
    refine ⟨?_, ?_, ?_⟩
    · cases ok with
      | ls hT hnc hm => unfold maxLen at hm; omega
    · cases sz with
      | ls hT hb hk =>
        rw [Tryz.underlying33] at hT
        cases hT
        have : Tryz.prog.bytesOf 45 = 176 := by kernel_rfl
        rw [this] at hb
        exact hb
    · cases ok with
      | ls hT hnc hm hnil hlen hmem hk =>
        rw [Tryz.underlying33] at hT
        cases hT
        rw [flds_field] at hlen
        exact hlen
  have HML : Hid _ := hml
  clear hml
  have HA : Hid _ := hA
  clear hA
  go_enter Tryz.func78, Tryz.ntmps78
  go_wp2
  go_loopw [5, 10] (fun v i wr => ∃ k : Nat, k ≤ n ∧ i = .int .i64 (k : Int) ∧ Hid (Eac wr w.heap.size (fun X => A X ∧ X ≠ 45) 45 ms k v) ∧ Hid (Below w.heap.size w wr)) (fun _ i _ => n - (intOf i).toNat)
  case atStart => exact ⟨0, Nat.zero_le _, rfl, Eac.nil _ _ _ _ _, Below.refl _ _⟩
  case round =>
    obtain ⟨k, hk, rfl, HE, HW⟩ := hrel
    have hwz := HW.out.size
    by_cases hlk : k < n
    · obtain ⟨b, off, s0, x1, x2, x3, s4, s5, s6, b7, x8, s9, b10, a11, n11, k11, m11, a12, n12, k12, m12, rfl, hlt, d0, d1, d2, d3, d4, d5, d6, d7, d8, d9, d10, d11, d12, S11, S12, Z0, Z4, Z5, Z6, Z9, G0, G1, G2, G3, G4, G5, G6, G7, G8, G9, G10, G11, G12⟩ := field_at (hs.out.under HW.out) k hlk
      have HS11 : Hid _ := S11
      have HS12 : Hid _ := S12
      have HZ0 : Hid _ := Z0
      have HZ4 : Hid _ := Z4
      have HZ5 : Hid _ := Z5
      have HZ6 : Hid _ := Z6
      have HZ9 : Hid _ := Z9
      have HG : Hid (ms[k * 13 + 0]? = some (.str s0) ∧ ms[k * 13 + 1]? = some (.num .i64 x1) ∧ ms[k * 13 + 2]? = some (.num .i64 x2) ∧ ms[k * 13 + 3]? = some (.num .i64 x3) ∧ ms[k * 13 + 4]? = some (.str s4) ∧ ms[k * 13 + 5]? = some (.str s5) ∧ ms[k * 13 + 6]? = some (.str s6) ∧ ms[k * 13 + 7]? = some (.tru b7) ∧ ms[k * 13 + 8]? = some (.num .i64 x8) ∧ ms[k * 13 + 9]? = some (.str s9) ∧ ms[k * 13 + 10]? = some (.tru b10) ∧ ms[k * 13 + 11]? = some (.ls a11 n11 k11 m11) ∧ ms[k * 13 + 12]? = some (.ls a12 n12 k12 m12)) := ⟨G0, G1, G2, G3, G4, G5, G6, G7, G8, G9, G10, G11, G12⟩
      clear S11 S12 Z0 Z4 Z5 Z6 Z9 G0 G1 G2 G3 G4 G5 G6 G7 G8 G9 G10 G11 G12 hs
      have HX : Hid (Below wr.heap.size wr (wr.alloc (.cells #[.string s0, .int .i64 x1, .int .i64 x2, .int .i64 x3, .string s4, .string s5, .string s6, .bool b7, .int .i64 x8, .string s9, .bool b10, .slice a11 n11 k11, .slice a12 n12 k12] 45))) := (Below.refl _ _).alloc (Nat.le_refl _) _
      have Q : Hid _ := kfield_any (fun X => A X ∧ X ≠ 45) (show _ from (by have hA := HA.out; exact ⟨hA.1, by decide⟩)) lv s0 x1 x2 x3 s4 s5 s6 b7 x8 s9 b10 a11 n11 k11 m11 a12 n12 k12 m12 (wr.alloc (.cells #[.string s0, .int .i64 x1, .int .i64 x2, .int .i64 x3, .string s4, .string s5, .string s6, .bool b7, .int .i64 x8, .string s9, .bool b10, .slice a11 n11 k11, .slice a12 n12 k12] 45)) (show Hid _ from Src.under HS11.out HX.out) (show Hid _ from Src.under HS12.out HX.out) (show Hid _ from HZ0.out) (show Hid _ from HZ4.out) (show Hid _ from HZ5.out) (show Hid _ from HZ6.out) (show Hid _ from HZ9.out)
      go_wp2_with fail
      refine Calls.mono Q.out ?_
      rintro e w2 ⟨p11, r11, p12, r12, rfl, hcp, hb2⟩
      have HB2 : Hid (Below wr.heap.size wr w2) := HX.out.trans (hb2.mono (by simp))
      have HC2 : Hid (CpyL w2 w.heap.size (fun X => A X ∧ X ≠ 45) [9, 2, 3, 3, 9, 9, 9, 4, 3, 9, 4, 38, 38] [.str s0, .num .i64 x1, .num .i64 x2, .num .i64 x3, .str s4, .str s5, .str s6, .tru b7, .num .i64 x8, .str s9, .tru b10, .ls a11 n11 k11 m11, .ls a12 n12 k12 m12] [.string s0, .int .i64 x1, .int .i64 x2, .int .i64 x3, .string s4, .string s5, .string s6, .bool b7, .int .i64 x8, .string s9, .bool b10, .slice p11 n11 r11, .slice p12 n12 r12]) := (show CpyL _ _ _ _ _ _ from hcp).from (by simp; omega)
      have HE2 : Hid (Eac w2 w.heap.size (fun X => A X ∧ X ≠ 45) 45 ms k u5) := Eac.under HE.out HB2.out
      clear hcp hb2 Q HX HE
      have hzz := HB2.out.size
      have HE3 : Hid (Eac (w2.alloc (.cells #[.string s0, .int .i64 x1, .int .i64 x2, .int .i64 x3, .string s4, .string s5, .string s6, .bool b7, .int .i64 x8, .string s9, .bool b10, .slice p11 n11 r11, .slice p12 n12 r12] 45)) w.heap.size (fun X => A X ∧ X ≠ 45) 45 ms k u5) := Eac.under HE2.out ((Below.refl _ _).alloc (Nat.le_refl _) _)
      have HC3 : Hid (CpyL (w2.alloc (.cells #[.string s0, .int .i64 x1, .int .i64 x2, .int .i64 x3, .string s4, .string s5, .string s6, .bool b7, .int .i64 x8, .string s9, .bool b10, .slice p11 n11 r11, .slice p12 n12 r12] 45)) w.heap.size (fun X => A X ∧ X ≠ 45) [9, 2, 3, 3, 9, 9, 9, 4, 3, 9, 4, 38, 38] [.str s0, .num .i64 x1, .num .i64 x2, .num .i64 x3, .str s4, .str s5, .str s6, .tru b7, .num .i64 x8, .str s9, .tru b10, .ls a11 n11 k11 m11, .ls a12 n12 k12 m12] [.string s0, .int .i64 x1, .int .i64 x2, .int .i64 x3, .string s4, .string s5, .string s6, .bool b7, .int .i64 x8, .string s9, .bool b10, .slice p11 n11 r11, .slice p12 n12 r12]) := CpyL.under HC2.out ((Below.refl _ _).alloc (Nat.le_refl _) _)
      obtain ⟨ms', hown0, hall0⟩ := HE3.out
      have HO : Hid ((w2.alloc (.cells #[.string s0, .int .i64 x1, .int .i64 x2, .int .i64 x3, .string s4, .string s5, .string s6, .bool b7, .int .i64 x8, .string s9, .bool b10, .slice p11 n11 r11, .slice p12 n12 r12] 45)).ownsRow w.heap.size 45 13 u5 k (ms'.map Md.val)) := by rw [flds_field] at hown0; exact hown0
      have HO0 : Hid _ := hown0
      have HALL : Hid _ := hall0
      clear hown0 hall0 HE3 HE2 HC2
      go_wp2_with (at_builtin; refine wpList_append_own_at _ rfl _ _ 33 rfl w.heap.size 45 i0 (.agg #[.string ⟨#[]⟩, .int .i64 0, .int .i64 0, .int .i64 0, .string ⟨#[]⟩, .string ⟨#[]⟩, .string ⟨#[]⟩, .bool false, .int .i64 0, .string ⟨#[]⟩, .bool false, .slice none 0 0, .slice none 0 0]) 13 176 Tryz.underlying33 hi hz0 hz1 hz2 rfl (by decide) _ k _ rfl HO.out ⟨w2.heap.size, 0, none⟩ 1 1 [.string s0, .int .i64 x1, .int .i64 x2, .int .i64 x3, .string s4, .string s5, .string s6, .bool b7, .int .i64 x8, .string s9, .bool b10, .slice p11 n11 r11, .slice p12 n12 r12] rfl rfl (new_field _ _ _ _ _ _ _ _ _ _ _ _ _ _ _) (by intro u hu; simp at hu; rcases hu with rfl | rfl | rfl | rfl | rfl | rfl | rfl | rfl | rfl | rfl | rfl | rfl | rfl <;> rfl) (by unfold maxLen; omega) (by omega) (by simp; omega) ?_; intro v4 w4 hown4 hgrow4 hnil4 hat4; have HP4 : Hid (Eac w4 w.heap.size (fun X => A X ∧ X ≠ 45) 45 ms (k + 1) v4) := Eac.push (fun X h => h.2) HO0.out HALL.out (by rw [flds_field]; exact HC3.out) (by rw [flds_field]; rfl) (by rw [flds_field]; exact hes_field HG.out) hgrow4 (by rw [flds_field]; exact hown4); have HB4 : Hid (Below w.heap.size w w4) := (HW.out.trans ((HB2.out.alloc HB2.out.size _).mono HW.out.size)).grown hgrow4 (by simp; omega) (fun g hg => own_low HO.out hg); obtain ⟨a4, c4, rfl⟩ := own_slice hown4; clear hown4 hgrow4 hnil4 hat4 HO HO0 HALL HC3)
      go_roundw
      case rel => exact ⟨k + 1, by omega, by go_num, HP4.out, HB4.out⟩
      case measure => simp [intOf]; omega
    · have hkn : k = n := by omega
      subst hkn
      have HF : Hid (Cpy wr w.heap.size A 33 (.ls a k c ms) u5) := Eac.all Tryz.underlying33 (fun X h => h.1) HA.out.2 (by rw [flds_field]; exact HML.out) HE.out
      go_wp2
      go_ret
      exact ⟨_, rfl, HF.out, HW.out⟩

end Go.Proofs.YtafmoceinamcdaaGreat
