/- Put together by a program out of these texts of mine: DFi. -/
import Derived.Deep.DeepCutAuto
import Derived.Test.YtafmoceinamcdaaGreatBunS4
import Derived.Test.YtafmoceinamcdaaGreatBunS6
import Derived.Test.YtafmoceinamcdaaGreatBunS8
import Derived.Test.YtafmoceinamcdaaGreatBunS11

namespace Go.Proofs.YtafmoceinamcdaaGreat
open Go.RowKit
set_option linter.unusedVariables false
set_option linter.unusedSimpArgs false

set_option maxRecDepth 100000 in
set_option maxHeartbeats 8000000 in
theorem kfile_any (A : TypeId → Prop) (hA : ∀ X ∈ tyAll, A X) (s0 : ByteArray) (s1 : ByteArray) (a2 : Option Addr) (n2 k2 : Nat) (m2 : List Md) (a3 : Option Addr) (n3 k3 : Nat) (m3 : List Md) (a4 : Option Addr) (n4 k4 : Nat) (a5 : Option Addr) (n5 k5 : Nat) (m5 : List Md) (a6 : Option Addr) (n6 k6 : Nat) (m6 : List Md) (a7 : Option Addr) (n7 k7 : Nat) (m7 : List Md) (s8 : ByteArray) (a9 : Option Addr) (n9 k9 : Nat) (m9 : List Md) (a10 : Option Addr) (n10 k10 : Nat) (m10 : List Md) (w : World) (h2 : Hid (Src w 30 (.ls a2 n2 k2 m2))) (h3 : Hid (Src w 59 (.ls a3 n3 k3 m3))) (h5 : Hid (Src w 35 (.ls a5 n5 k5 m5))) (h6 : Hid (Src w 60 (.ls a6 n6 k6 m6))) (h7 : Hid (Src w 33 (.ls a7 n7 k7 m7))) (h9 : Hid (Src w 38 (.ls a9 n9 k9 m9))) (h10 : Hid (Src w 38 (.ls a10 n10 k10 m10))) (h0 : Hid (s0.size ≤ 140737488355328)) (h1 : Hid (s1.size ≤ 140737488355328)) (h8 : Hid (s8.size ≤ 140737488355328)) :
    Calls Tryz.prog 51 #[.agg #[.int .i64 0, .bool false], .agg #[.string s0, .string s1, .slice a2 n2 k2, .slice a3 n3 k3, .slice a4 n4 k4, .slice a5 n5 k5, .slice a6 n6 k6, .slice a7 n7 k7, .string s8, .slice a9 n9 k9, .slice a10 n10 k10]] w fun e w' => ∃ p2 r2 p3 r3 p5 r5 p6 r6 p7 r7 p9 r9 p10 r10, e = .returned (.agg #[.string s0, .string s1, .slice p2 n2 r2, .slice p3 n3 r3, .slice none 0 0, .slice p5 n5 r5, .slice p6 n6 r6, .slice p7 n7 r7, .string s8, .slice p9 n9 r9, .slice p10 n10 r10]) ∧ CpyL w' w.heap.size A [9, 9, 30, 59, 34, 35, 60, 33, 9, 38, 38] [.str s0, .str s1, .ls a2 n2 k2 m2, .ls a3 n3 k3 m3, .ls none 0 0 [], .ls a5 n5 k5 m5, .ls a6 n6 k6 m6, .ls a7 n7 k7 m7, .str s8, .ls a9 n9 k9 m9, .ls a10 n10 k10 m10] [.string s0, .string s1, .slice p2 n2 r2, .slice p3 n3 r3, .slice none 0 0, .slice p5 n5 r5, .slice p6 n6 r6, .slice p7 n7 r7, .string s8, .slice p9 n9 r9, .slice p10 n10 r10] ∧ Below w.heap.size w w' := by
  obtain ⟨W, hW⟩ : ∃ W, ((w.alloc (.cells #[.int .i64 0, .bool false] 100)).alloc (.cells #[.string s0, .string s1, .slice a2 n2 k2, .slice a3 n3 k3, .slice a4 n4 k4, .slice a5 n5 k5, .slice a6 n6 k6, .slice a7 n7 k7, .string s8, .slice a9 n9 k9, .slice a10 n10 k10] 62)).alloc (.cells #[.string ⟨#[]⟩, .string ⟨#[]⟩, .slice none 0 0, .slice none 0 0, .slice none 0 0, .slice none 0 0, .slice none 0 0, .slice none 0 0, .string ⟨#[]⟩, .slice none 0 0, .slice none 0 0] 62) = W := ⟨_, rfl⟩
  have o0 : Ob W w.heap.size #[.int .i64 0, .bool false] 100 := by rw [← hW]; exact (((Ob.new w _ _).alloc _).alloc _)
  have o1 : Ob W (w.heap.size + 1) #[.string s0, .string s1, .slice a2 n2 k2, .slice a3 n3 k3, .slice a4 n4 k4, .slice a5 n5 k5, .slice a6 n6 k6, .slice a7 n7 k7, .string s8, .slice a9 n9 k9, .slice a10 n10 k10] 62 := by rw [← hW]; have := Ob.new (w.alloc (.cells #[.int .i64 0, .bool false] 100)) #[.string s0, .string s1, .slice a2 n2 k2, .slice a3 n3 k3, .slice a4 n4 k4, .slice a5 n5 k5, .slice a6 n6 k6, .slice a7 n7 k7, .string s8, .slice a9 n9 k9, .slice a10 n10 k10] 62; rw [World.size_alloc] at this; exact (this.alloc _)
  have o2 : Ob W (w.heap.size + 1 + 1) #[.string ⟨#[]⟩, .string ⟨#[]⟩, .slice none 0 0, .slice none 0 0, .slice none 0 0, .slice none 0 0, .slice none 0 0, .slice none 0 0, .string ⟨#[]⟩, .slice none 0 0, .slice none 0 0] 62 := by rw [← hW]; have := Ob.new ((w.alloc (.cells #[.int .i64 0, .bool false] 100)).alloc (.cells #[.string s0, .string s1, .slice a2 n2 k2, .slice a3 n3 k3, .slice a4 n4 k4, .slice a5 n5 k5, .slice a6 n6 k6, .slice a7 n7 k7, .string s8, .slice a9 n9 k9, .slice a10 n10 k10] 62)) #[.string ⟨#[]⟩, .string ⟨#[]⟩, .slice none 0 0, .slice none 0 0, .slice none 0 0, .slice none 0 0, .slice none 0 0, .slice none 0 0, .string ⟨#[]⟩, .slice none 0 0, .slice none 0 0] 62; simp only [World.size_alloc] at this; exact this
  have hb : Below w.heap.size w W := by rw [← hW]; exact (((Below.refl _ _).alloc (Nat.le_refl _) _).alloc (by simp) _).alloc (by simp; omega) _
  have HW : Hid _ := hW
  have O0 : Hid _ := o0
  have O1 : Hid _ := o1
  have O2 : Hid _ := o2
  have HB : Hid _ := hb
  have l0 := o0.lt
  have l1 := o1.lt
  have l2 := o2.lt
  clear hW o0 o1 o2 hb
  go_enter Tryz.func51, Tryz.ntmps51
  go_upto_region 1 with fail
  rw [HW.out]
  clear HW
  have HD : Hid (Below W.heap.size W W.drew) := (Below.refl _ _).drew
  refine wp_region_heldG 42 (S := fun V => Below W.heap.size W V) rfl ?_
  refine wpAnyG_take (i := 0) (v := ?_) rfl (by kernel_rfl) (by kernel_rfl) (by kernel_rfl) (by kernel_rfl) (fun _ _ _ h => h) (Or.inl ⟨by rfl, ?_⟩) HD.out ?_
  rotate_left
  · intro V HV
    go_simp
    try with_reducible rfl
  refine wpAnyG_take (i := 1) (v := ?_) rfl (by kernel_rfl) (by kernel_rfl) (by kernel_rfl) (by kernel_rfl) (fun _ _ _ h => h) (Or.inl ⟨by rfl, ?_⟩) HD.out ?_
  rotate_left
  · intro V HV
    have z0 := (HV.cell (p := ⟨w.heap.size + 1, 0, none⟩) l1).trans (O1.out.cell 0 rfl)
    go_simp
    try with_reducible rfl
  refine wpAnyG_take (i := 3) (v := ?_) rfl (by kernel_rfl) (by kernel_rfl) (by kernel_rfl) (by kernel_rfl) (fun _ _ _ h => h) (Or.inl ⟨by rfl, ?_⟩) HD.out ?_
  rotate_left
  · intro V HV
    go_simp
    try with_reducible rfl
  refine wpAnyG_take (i := 4) (v := ?_) rfl (by kernel_rfl) (by kernel_rfl) (by kernel_rfl) (by kernel_rfl) (fun _ _ _ h => h) (Or.inl ⟨by rfl, ?_⟩) HD.out ?_
  rotate_left
  · intro V HV
    have z0 := (HV.cell (p := ⟨w.heap.size + 1, 1, none⟩) l1).trans (O1.out.cell 1 rfl)
    go_simp
    try with_reducible rfl
  refine wpAnyG_take (i := 6) (v := ?_) rfl (by kernel_rfl) (by kernel_rfl) (by kernel_rfl) (by kernel_rfl) (fun _ _ _ h => h) (Or.inl ⟨by rfl, ?_⟩) HD.out ?_
  rotate_left
  · intro V HV
    go_simp
    try with_reducible rfl
  refine wpAnyG_take (i := 7) (v := ?_) rfl (by kernel_rfl) (by kernel_rfl) (by kernel_rfl) (by kernel_rfl) (fun _ _ _ h => h) (Or.inl ⟨by rfl, ?_⟩) HD.out ?_
  rotate_left
  · intro V HV
    have z0 := (HV.cell (p := ⟨w.heap.size + 1, 2, none⟩) l1).trans (O1.out.cell 2 rfl)
    go_simp
    try with_reducible rfl
  refine wpAnyG_take (i := 9) (v := ?_) rfl (by kernel_rfl) (by kernel_rfl) (by kernel_rfl) (by kernel_rfl) (fun _ _ _ h => h) (Or.inl ⟨by rfl, ?_⟩) HD.out ?_
  rotate_left
  · intro V HV
    go_simp
    try with_reducible rfl
  refine wpAnyG_take (i := 10) (v := ?_) rfl (by kernel_rfl) (by kernel_rfl) (by kernel_rfl) (by kernel_rfl) (fun _ _ _ h => h) (Or.inl ⟨by rfl, ?_⟩) HD.out ?_
  rotate_left
  · intro V HV
    have z0 := (HV.cell (p := ⟨w.heap.size + 1, 3, none⟩) l1).trans (O1.out.cell 3 rfl)
    go_simp
    try with_reducible rfl
  refine wpAnyG_take (i := 12) (v := ?_) rfl (by kernel_rfl) (by kernel_rfl) (by kernel_rfl) (by kernel_rfl) (fun _ _ _ h => h) (Or.inl ⟨by rfl, ?_⟩) HD.out ?_
  rotate_left
  · intro V HV
    have z0 := (HV.cell (p := ⟨w.heap.size, 0, none⟩) l0).trans (O0.out.cell 0 rfl)
    have z1 := (HV.cell (p := ⟨w.heap.size, 1, none⟩) l0).trans (O0.out.cell 1 rfl)
    go_simp
    try with_reducible rfl
  refine wpAnyG_take (i := 13) (v := ?_) rfl (by kernel_rfl) (by kernel_rfl) (by kernel_rfl) (by kernel_rfl) (fun _ _ _ h => h) (Or.inl ⟨by rfl, ?_⟩) HD.out ?_
  rotate_left
  · intro V HV
    go_simp
    try with_reducible rfl
  refine wpAnyG_take (i := 14) (v := ?_) rfl (by kernel_rfl) (by kernel_rfl) (by kernel_rfl) (by kernel_rfl) (fun _ _ _ h => h) (Or.inl ⟨by rfl, ?_⟩) HD.out ?_
  rotate_left
  · intro V HV
    have z0 := (HV.cell (p := ⟨w.heap.size + 1, 4, none⟩) l1).trans (O1.out.cell 4 rfl)
    go_simp
    try with_reducible rfl
  refine wpAnyG_take (i := 16) (v := ?_) rfl (by kernel_rfl) (by kernel_rfl) (by kernel_rfl) (by kernel_rfl) (fun _ _ _ h => h) (Or.inl ⟨by rfl, ?_⟩) HD.out ?_
  rotate_left
  · intro V HV
    go_simp
    try with_reducible rfl
  refine wpAnyG_take (i := 17) (v := ?_) rfl (by kernel_rfl) (by kernel_rfl) (by kernel_rfl) (by kernel_rfl) (fun _ _ _ h => h) (Or.inl ⟨by rfl, ?_⟩) HD.out ?_
  rotate_left
  · intro V HV
    have z0 := (HV.cell (p := ⟨w.heap.size + 1, 5, none⟩) l1).trans (O1.out.cell 5 rfl)
    go_simp
    try with_reducible rfl
  refine wpAnyG_take (i := 18) (v := ?_) rfl (by kernel_rfl) (by kernel_rfl) (by kernel_rfl) (by kernel_rfl) (fun _ _ _ h => h) (Or.inl ⟨by rfl, ?_⟩) HD.out ?_
  rotate_left
  · intro V HV
    have z0 := (HV.cell (p := ⟨w.heap.size, 0, none⟩) l0).trans (O0.out.cell 0 rfl)
    have z1 := (HV.cell (p := ⟨w.heap.size, 1, none⟩) l0).trans (O0.out.cell 1 rfl)
    go_simp
    try with_reducible rfl
  refine wpAnyG_take (i := 19) (v := ?_) rfl (by kernel_rfl) (by kernel_rfl) (by kernel_rfl) (by kernel_rfl) (fun _ _ _ h => h) (Or.inl ⟨by rfl, ?_⟩) HD.out ?_
  rotate_left
  · intro V HV
    go_simp
    try with_reducible rfl
  refine wpAnyG_take (i := 21) (v := ?_) rfl (by kernel_rfl) (by kernel_rfl) (by kernel_rfl) (by kernel_rfl) (fun _ _ _ h => h) (Or.inl ⟨by rfl, ?_⟩) HD.out ?_
  rotate_left
  · intro V HV
    go_simp
    try with_reducible rfl
  refine wpAnyG_take (i := 22) (v := ?_) rfl (by kernel_rfl) (by kernel_rfl) (by kernel_rfl) (by kernel_rfl) (fun _ _ _ h => h) (Or.inl ⟨by rfl, ?_⟩) HD.out ?_
  rotate_left
  · intro V HV
    have z0 := (HV.cell (p := ⟨w.heap.size + 1, 6, none⟩) l1).trans (O1.out.cell 6 rfl)
    go_simp
    try with_reducible rfl
  refine wpAnyG_take (i := 23) (v := ?_) rfl (by kernel_rfl) (by kernel_rfl) (by kernel_rfl) (by kernel_rfl) (fun _ _ _ h => h) (Or.inl ⟨by rfl, ?_⟩) HD.out ?_
  rotate_left
  · intro V HV
    have z0 := (HV.cell (p := ⟨w.heap.size, 0, none⟩) l0).trans (O0.out.cell 0 rfl)
    have z1 := (HV.cell (p := ⟨w.heap.size, 1, none⟩) l0).trans (O0.out.cell 1 rfl)
    go_simp
    try with_reducible rfl
  refine wpAnyG_take (i := 24) (v := ?_) rfl (by kernel_rfl) (by kernel_rfl) (by kernel_rfl) (by kernel_rfl) (fun _ _ _ h => h) (Or.inl ⟨by rfl, ?_⟩) HD.out ?_
  rotate_left
  · intro V HV
    go_simp
    try with_reducible rfl
  refine wpAnyG_take (i := 26) (v := ?_) rfl (by kernel_rfl) (by kernel_rfl) (by kernel_rfl) (by kernel_rfl) (fun _ _ _ h => h) (Or.inl ⟨by rfl, ?_⟩) HD.out ?_
  rotate_left
  · intro V HV
    go_simp
    try with_reducible rfl
  refine wpAnyG_take (i := 27) (v := ?_) rfl (by kernel_rfl) (by kernel_rfl) (by kernel_rfl) (by kernel_rfl) (fun _ _ _ h => h) (Or.inl ⟨by rfl, ?_⟩) HD.out ?_
  rotate_left
  · intro V HV
    have z0 := (HV.cell (p := ⟨w.heap.size + 1, 7, none⟩) l1).trans (O1.out.cell 7 rfl)
    go_simp
    try with_reducible rfl
  refine wpAnyG_take (i := 28) (v := ?_) rfl (by kernel_rfl) (by kernel_rfl) (by kernel_rfl) (by kernel_rfl) (fun _ _ _ h => h) (Or.inl ⟨by rfl, ?_⟩) HD.out ?_
  rotate_left
  · intro V HV
    have z0 := (HV.cell (p := ⟨w.heap.size, 0, none⟩) l0).trans (O0.out.cell 0 rfl)
    have z1 := (HV.cell (p := ⟨w.heap.size, 1, none⟩) l0).trans (O0.out.cell 1 rfl)
    go_simp
    try with_reducible rfl
  refine wpAnyG_take (i := 29) (v := ?_) rfl (by kernel_rfl) (by kernel_rfl) (by kernel_rfl) (by kernel_rfl) (fun _ _ _ h => h) (Or.inl ⟨by rfl, ?_⟩) HD.out ?_
  rotate_left
  · intro V HV
    go_simp
    try with_reducible rfl
  refine wpAnyG_take (i := 31) (v := ?_) rfl (by kernel_rfl) (by kernel_rfl) (by kernel_rfl) (by kernel_rfl) (fun _ _ _ h => h) (Or.inl ⟨by rfl, ?_⟩) HD.out ?_
  rotate_left
  · intro V HV
    go_simp
    try with_reducible rfl
  refine wpAnyG_take (i := 32) (v := ?_) rfl (by kernel_rfl) (by kernel_rfl) (by kernel_rfl) (by kernel_rfl) (fun _ _ _ h => h) (Or.inl ⟨by rfl, ?_⟩) HD.out ?_
  rotate_left
  · intro V HV
    have z0 := (HV.cell (p := ⟨w.heap.size + 1, 8, none⟩) l1).trans (O1.out.cell 8 rfl)
    go_simp
    try with_reducible rfl
  refine wpAnyG_take (i := 34) (v := ?_) rfl (by kernel_rfl) (by kernel_rfl) (by kernel_rfl) (by kernel_rfl) (fun _ _ _ h => h) (Or.inl ⟨by rfl, ?_⟩) HD.out ?_
  rotate_left
  · intro V HV
    go_simp
    try with_reducible rfl
  refine wpAnyG_take (i := 35) (v := ?_) rfl (by kernel_rfl) (by kernel_rfl) (by kernel_rfl) (by kernel_rfl) (fun _ _ _ h => h) (Or.inl ⟨by rfl, ?_⟩) HD.out ?_
  rotate_left
  · intro V HV
    have z0 := (HV.cell (p := ⟨w.heap.size + 1, 9, none⟩) l1).trans (O1.out.cell 9 rfl)
    go_simp
    try with_reducible rfl
  refine wpAnyG_take (i := 37) (v := ?_) rfl (by kernel_rfl) (by kernel_rfl) (by kernel_rfl) (by kernel_rfl) (fun _ _ _ h => h) (Or.inl ⟨by rfl, ?_⟩) HD.out ?_
  rotate_left
  · intro V HV
    have z0 := (HV.cell (p := ⟨w.heap.size, 0, none⟩) l0).trans (O0.out.cell 0 rfl)
    have z1 := (HV.cell (p := ⟨w.heap.size, 1, none⟩) l0).trans (O0.out.cell 1 rfl)
    go_simp
    try with_reducible rfl
  refine wpAnyG_take (i := 38) (v := ?_) rfl (by kernel_rfl) (by kernel_rfl) (by kernel_rfl) (by kernel_rfl) (fun _ _ _ h => h) (Or.inl ⟨by rfl, ?_⟩) HD.out ?_
  rotate_left
  · intro V HV
    go_simp
    try with_reducible rfl
  refine wpAnyG_take (i := 39) (v := ?_) rfl (by kernel_rfl) (by kernel_rfl) (by kernel_rfl) (by kernel_rfl) (fun _ _ _ h => h) (Or.inl ⟨by rfl, ?_⟩) HD.out ?_
  rotate_left
  · intro V HV
    have z0 := (HV.cell (p := ⟨w.heap.size + 1, 10, none⟩) l1).trans (O1.out.cell 10 rfl)
    go_simp
    try with_reducible rfl
  refine wpAnyG_all (rs := [2]) (by kernel_rfl) (by simp) ?_
  intro i hi
  obtain rfl : i = 2 := by simpa using hi
  clear hi
  refine wpOp_listV rfl ?_
  intro Q' hQ'
  have HQ : Hid _ := hQ'
  clear hQ'
  go_wp2_with fail
  refine Calls.mono (kclone_any s0 _ h0) ?_
  rintro e w4 ⟨rfl, hbl⟩
  have HB4 : Hid (Below W.heap.size W w4) := HD.out.trans (hbl.mono HD.out.size)
  clear hbl
  go_wp2
  refine HQ.out _ _ ⟨.inr HB4.out, ?_⟩
  clear HQ
  refine wpAnyG_all (rs := [5]) (by kernel_rfl) (by simp) ?_
  intro i hi
  obtain rfl : i = 5 := by simpa using hi
  clear hi
  refine wpOp_listV rfl ?_
  intro Q' hQ'
  have HQ : Hid _ := hQ'
  clear hQ'
  go_wp2_with fail
  refine Calls.mono (kclone_any s1 _ h1) ?_
  rintro e w5 ⟨rfl, hbl⟩
  have HB5 : Hid (Below W.heap.size W w5) := HB4.out.trans (hbl.mono HB4.out.size)
  clear hbl
  go_wp2
  refine HQ.out _ _ ⟨.inr HB5.out, ?_⟩
  clear HQ
  refine wpAnyG_all (rs := [8]) (by kernel_rfl) (by simp) ?_
  intro i hi
  obtain rfl : i = 8 := by simpa using hi
  clear hi
  refine wpOp_listV rfl ?_
  intro Q' hQ'
  have HQ : Hid _ := hQ'
  clear hQ'
  go_wp2_with fail
  refine Calls.mono (ktexts_any A (hA _ (by decide)) a2 n2 k2 m2 _ (show Hid _ from Src.under (Src.under h2.out HB.out) HB5.out)) ?_
  rintro e w6 ⟨v, rfl, hcp, hbl⟩
  have HB6 : Hid (Below W.heap.size W w6) := HB5.out.trans (hbl.mono HB5.out.size)
  obtain ⟨p2, r2, rfl⟩ := cpy_ls hcp
  have C2_6 : Hid (Cpy w6 W.heap.size A 30 (.ls a2 n2 k2 m2) (.slice p2 n2 r2)) := hcp.from HB5.out.size
  clear hcp
  clear hbl
  go_wp2
  refine HQ.out _ _ ⟨.inr HB6.out, ?_⟩
  clear HQ
  refine wpAnyG_all (rs := [11]) (by kernel_rfl) (by simp) ?_
  intro i hi
  obtain rfl : i = 11 := by simpa using hi
  clear hi
  refine wpOp_listV rfl ?_
  intro Q' hQ'
  have HQ : Hid _ := hQ'
  clear hQ'
  go_wp2_with fail
  refine Calls.mono (kplaces_any A (hA _ (by decide)) a3 n3 k3 m3 _ (show Hid _ from Src.under (Src.under h3.out HB.out) HB6.out)) ?_
  rintro e w7 ⟨v, rfl, hcp, hbl⟩
  have HB7 : Hid (Below W.heap.size W w7) := HB6.out.trans (hbl.mono HB6.out.size)
  have C2_7 : Hid (Cpy w7 W.heap.size A 30 (.ls a2 n2 k2 m2) (.slice p2 n2 r2)) := Cpy.under C2_6.out hbl
  clear C2_6
  obtain ⟨p3, r3, rfl⟩ := cpy_ls hcp
  have C3_7 : Hid (Cpy w7 W.heap.size A 59 (.ls a3 n3 k3 m3) (.slice p3 n3 r3)) := hcp.from HB6.out.size
  clear hcp
  clear hbl
  go_wp2
  refine HQ.out _ _ ⟨.inr HB7.out, ?_⟩
  clear HQ
  refine wpAnyG_all (rs := [15]) (by kernel_rfl) (by simp) ?_
  intro i hi
  obtain rfl : i = 15 := by simpa using hi
  clear hi
  refine wpOp_listV rfl ?_
  intro Q' hQ'
  have HQ : Hid _ := hQ'
  clear hQ'
  go_wp2_with fail
  refine Calls.mono (kmsgs0 _ _) ?_
  rintro e w8 ⟨rfl, hbl⟩
  have HB8 : Hid (Below W.heap.size W w8) := HB7.out.trans (hbl.mono HB7.out.size)
  have C2_8 : Hid (Cpy w8 W.heap.size A 30 (.ls a2 n2 k2 m2) (.slice p2 n2 r2)) := Cpy.under C2_7.out hbl
  have C3_8 : Hid (Cpy w8 W.heap.size A 59 (.ls a3 n3 k3 m3) (.slice p3 n3 r3)) := Cpy.under C3_7.out hbl
  clear C2_7 C3_7
  clear hbl
  go_wp2
  refine HQ.out _ _ ⟨.inr HB8.out, ?_⟩
  clear HQ
  refine wpAnyG_all (rs := [20]) (by kernel_rfl) (by simp) ?_
  intro i hi
  obtain rfl : i = 20 := by simpa using hi
  clear hi
  refine wpOp_listV rfl ?_
  intro Q' hQ'
  have HQ : Hid _ := hQ'
  clear hQ'
  go_wp2_with fail
  refine Calls.mono (kenums_any A ⟨hA _ (by decide), hA _ (by decide), hA _ (by decide)⟩ 0 a5 n5 k5 m5 _ (show Hid _ from Src.under (Src.under h5.out HB.out) HB8.out)) ?_
  rintro e w9 ⟨v, rfl, hcp, hbl⟩
  have HB9 : Hid (Below W.heap.size W w9) := HB8.out.trans (hbl.mono HB8.out.size)
  have C2_9 : Hid (Cpy w9 W.heap.size A 30 (.ls a2 n2 k2 m2) (.slice p2 n2 r2)) := Cpy.under C2_8.out hbl
  have C3_9 : Hid (Cpy w9 W.heap.size A 59 (.ls a3 n3 k3 m3) (.slice p3 n3 r3)) := Cpy.under C3_8.out hbl
  clear C2_8 C3_8
  obtain ⟨p5, r5, rfl⟩ := cpy_ls hcp
  have C5_9 : Hid (Cpy w9 W.heap.size A 35 (.ls a5 n5 k5 m5) (.slice p5 n5 r5)) := hcp.from HB8.out.size
  clear hcp
  clear hbl
  go_wp2
  refine HQ.out _ _ ⟨.inr HB9.out, ?_⟩
  clear HQ
  refine wpAnyG_all (rs := [25]) (by kernel_rfl) (by simp) ?_
  intro i hi
  obtain rfl : i = 25 := by simpa using hi
  clear hi
  refine wpOp_listV rfl ?_
  intro Q' hQ'
  have HQ : Hid _ := hQ'
  clear hQ'
  go_wp2_with fail
  refine Calls.mono (kservices_any A ⟨hA _ (by decide), hA _ (by decide), hA _ (by decide)⟩ 0 a6 n6 k6 m6 _ (show Hid _ from Src.under (Src.under h6.out HB.out) HB9.out)) ?_
  rintro e w10 ⟨v, rfl, hcp, hbl⟩
  have HB10 : Hid (Below W.heap.size W w10) := HB9.out.trans (hbl.mono HB9.out.size)
  have C2_10 : Hid (Cpy w10 W.heap.size A 30 (.ls a2 n2 k2 m2) (.slice p2 n2 r2)) := Cpy.under C2_9.out hbl
  have C3_10 : Hid (Cpy w10 W.heap.size A 59 (.ls a3 n3 k3 m3) (.slice p3 n3 r3)) := Cpy.under C3_9.out hbl
  have C5_10 : Hid (Cpy w10 W.heap.size A 35 (.ls a5 n5 k5 m5) (.slice p5 n5 r5)) := Cpy.under C5_9.out hbl
  clear C2_9 C3_9 C5_9
  obtain ⟨p6, r6, rfl⟩ := cpy_ls hcp
  have C6_10 : Hid (Cpy w10 W.heap.size A 60 (.ls a6 n6 k6 m6) (.slice p6 n6 r6)) := hcp.from HB9.out.size
  clear hcp
  clear hbl
  go_wp2
  refine HQ.out _ _ ⟨.inr HB10.out, ?_⟩
  clear HQ
  refine wpAnyG_all (rs := [30]) (by kernel_rfl) (by simp) ?_
  intro i hi
  obtain rfl : i = 30 := by simpa using hi
  clear hi
  refine wpOp_listV rfl ?_
  intro Q' hQ'
  have HQ : Hid _ := hQ'
  clear hQ'
  go_wp2_with fail
  refine Calls.mono (kfields_any A ⟨hA _ (by decide), hA _ (by decide)⟩ 0 a7 n7 k7 m7 _ (show Hid _ from Src.under (Src.under h7.out HB.out) HB10.out)) ?_
  rintro e w11 ⟨v, rfl, hcp, hbl⟩
  have HB11 : Hid (Below W.heap.size W w11) := HB10.out.trans (hbl.mono HB10.out.size)
  have C2_11 : Hid (Cpy w11 W.heap.size A 30 (.ls a2 n2 k2 m2) (.slice p2 n2 r2)) := Cpy.under C2_10.out hbl
  have C3_11 : Hid (Cpy w11 W.heap.size A 59 (.ls a3 n3 k3 m3) (.slice p3 n3 r3)) := Cpy.under C3_10.out hbl
  have C5_11 : Hid (Cpy w11 W.heap.size A 35 (.ls a5 n5 k5 m5) (.slice p5 n5 r5)) := Cpy.under C5_10.out hbl
  have C6_11 : Hid (Cpy w11 W.heap.size A 60 (.ls a6 n6 k6 m6) (.slice p6 n6 r6)) := Cpy.under C6_10.out hbl
  clear C2_10 C3_10 C5_10 C6_10
  obtain ⟨p7, r7, rfl⟩ := cpy_ls hcp
  have C7_11 : Hid (Cpy w11 W.heap.size A 33 (.ls a7 n7 k7 m7) (.slice p7 n7 r7)) := hcp.from HB10.out.size
  clear hcp
  clear hbl
  go_wp2
  refine HQ.out _ _ ⟨.inr HB11.out, ?_⟩
  clear HQ
  refine wpAnyG_all (rs := [33]) (by kernel_rfl) (by simp) ?_
  intro i hi
  obtain rfl : i = 33 := by simpa using hi
  clear hi
  refine wpOp_listV rfl ?_
  intro Q' hQ'
  have HQ : Hid _ := hQ'
  clear hQ'
  go_wp2_with fail
  refine Calls.mono (kclone_any s8 _ h8) ?_
  rintro e w12 ⟨rfl, hbl⟩
  have HB12 : Hid (Below W.heap.size W w12) := HB11.out.trans (hbl.mono HB11.out.size)
  have C2_12 : Hid (Cpy w12 W.heap.size A 30 (.ls a2 n2 k2 m2) (.slice p2 n2 r2)) := Cpy.under C2_11.out hbl
  have C3_12 : Hid (Cpy w12 W.heap.size A 59 (.ls a3 n3 k3 m3) (.slice p3 n3 r3)) := Cpy.under C3_11.out hbl
  have C5_12 : Hid (Cpy w12 W.heap.size A 35 (.ls a5 n5 k5 m5) (.slice p5 n5 r5)) := Cpy.under C5_11.out hbl
  have C6_12 : Hid (Cpy w12 W.heap.size A 60 (.ls a6 n6 k6 m6) (.slice p6 n6 r6)) := Cpy.under C6_11.out hbl
  have C7_12 : Hid (Cpy w12 W.heap.size A 33 (.ls a7 n7 k7 m7) (.slice p7 n7 r7)) := Cpy.under C7_11.out hbl
  clear C2_11 C3_11 C5_11 C6_11 C7_11
  clear hbl
  go_wp2
  refine HQ.out _ _ ⟨.inr HB12.out, ?_⟩
  clear HQ
  refine wpAnyG_all (rs := [36]) (by kernel_rfl) (by simp) ?_
  intro i hi
  obtain rfl : i = 36 := by simpa using hi
  clear hi
  refine wpOp_listV rfl ?_
  intro Q' hQ'
  have HQ : Hid _ := hQ'
  clear hQ'
  go_wp2_with fail
  refine Calls.mono (kbytes_any A (hA _ (by decide)) a9 n9 k9 m9 _ (show Hid _ from ((h9.out.under HB.out).under HB12.out).1) (show Hid _ from h9.out.2)) ?_
  rintro e w13 ⟨v, rfl, hcp, hbl⟩
  have HB13 : Hid (Below W.heap.size W w13) := HB12.out.trans (hbl.mono HB12.out.size)
  have C2_13 : Hid (Cpy w13 W.heap.size A 30 (.ls a2 n2 k2 m2) (.slice p2 n2 r2)) := Cpy.under C2_12.out hbl
  have C3_13 : Hid (Cpy w13 W.heap.size A 59 (.ls a3 n3 k3 m3) (.slice p3 n3 r3)) := Cpy.under C3_12.out hbl
  have C5_13 : Hid (Cpy w13 W.heap.size A 35 (.ls a5 n5 k5 m5) (.slice p5 n5 r5)) := Cpy.under C5_12.out hbl
  have C6_13 : Hid (Cpy w13 W.heap.size A 60 (.ls a6 n6 k6 m6) (.slice p6 n6 r6)) := Cpy.under C6_12.out hbl
  have C7_13 : Hid (Cpy w13 W.heap.size A 33 (.ls a7 n7 k7 m7) (.slice p7 n7 r7)) := Cpy.under C7_12.out hbl
  clear C2_12 C3_12 C5_12 C6_12 C7_12
  obtain ⟨p9, r9, rfl⟩ := cpy_ls hcp
  have C9_13 : Hid (Cpy w13 W.heap.size A 38 (.ls a9 n9 k9 m9) (.slice p9 n9 r9)) := hcp.from HB12.out.size
  clear hcp
  clear hbl
  go_wp2
  refine HQ.out _ _ ⟨.inr HB13.out, ?_⟩
  clear HQ
  refine wpAnyG_all (rs := [40]) (by kernel_rfl) (by simp) ?_
  intro i hi
  obtain rfl : i = 40 := by simpa using hi
  clear hi
  refine wpOp_listV rfl ?_
  intro Q' hQ'
  have HQ : Hid _ := hQ'
  clear hQ'
  go_wp2_with fail
  refine Calls.mono (kunk_any A (hA _ (by decide)) (.int .i64 0) a10 n10 k10 m10 _ (show Hid _ from ((h10.out.under HB.out).under HB13.out).1) (show Hid _ from h10.out.2)) ?_
  rintro e w14 ⟨v, rfl, hcp, hbl⟩
  have HB14 : Hid (Below W.heap.size W w14) := HB13.out.trans (hbl.mono HB13.out.size)
  have C2_14 : Hid (Cpy w14 W.heap.size A 30 (.ls a2 n2 k2 m2) (.slice p2 n2 r2)) := Cpy.under C2_13.out hbl
  have C3_14 : Hid (Cpy w14 W.heap.size A 59 (.ls a3 n3 k3 m3) (.slice p3 n3 r3)) := Cpy.under C3_13.out hbl
  have C5_14 : Hid (Cpy w14 W.heap.size A 35 (.ls a5 n5 k5 m5) (.slice p5 n5 r5)) := Cpy.under C5_13.out hbl
  have C6_14 : Hid (Cpy w14 W.heap.size A 60 (.ls a6 n6 k6 m6) (.slice p6 n6 r6)) := Cpy.under C6_13.out hbl
  have C7_14 : Hid (Cpy w14 W.heap.size A 33 (.ls a7 n7 k7 m7) (.slice p7 n7 r7)) := Cpy.under C7_13.out hbl
  have C9_14 : Hid (Cpy w14 W.heap.size A 38 (.ls a9 n9 k9 m9) (.slice p9 n9 r9)) := Cpy.under C9_13.out hbl
  clear C2_13 C3_13 C5_13 C6_13 C7_13 C9_13
  obtain ⟨p10, r10, rfl⟩ := cpy_ls hcp
  have C10_14 : Hid (Cpy w14 W.heap.size A 38 (.ls a10 n10 k10 m10) (.slice p10 n10 r10)) := hcp.from HB13.out.size
  clear hcp
  clear hbl
  go_wp2
  refine HQ.out _ _ ⟨.inr HB14.out, ?_⟩
  clear HQ
  refine wpAnyG_take (i := 41) (v := ?_) rfl (by kernel_rfl) (by kernel_rfl) (by kernel_rfl) (by kernel_rfl) (fun _ _ _ h => h) (Or.inl ⟨by rfl, ?_⟩) HB14.out ?_
  rotate_left
  · intro V HV
    go_simp
    try with_reducible rfl
  refine wpAnyG_all (rs := [42]) (by kernel_rfl) (by simp) ?_
  intro i hi
  obtain rfl : i = 42 := by simpa using hi
  clear hi
  refine wpOp_listV rfl ?_
  intro Q' hQ'
  have HQ : Hid _ := hQ'
  clear hQ'
  have O2' : Hid _ := O2.out.below HB14.out l2
  obtain ⟨⟨y0, y1, y2, y3, y4, y5, y6, y7, y8, y9, y10⟩, ⟨g0, g1, g2, g3, g4, g5, g6, g7, g8, g9, g10⟩, l2'⟩ := ob11 (show Ob w14 (w.heap.size + 1 + 1) #[.string ⟨#[]⟩, .string ⟨#[]⟩, .slice none 0 0, .slice none 0 0, .slice none 0 0, .slice none 0 0, .slice none 0 0, .slice none 0 0, .string ⟨#[]⟩, .slice none 0 0, .slice none 0 0] 62 from O2'.out)
  go_wp2
  refine HQ.out _ _ ⟨.inl trivial, ?_⟩
  clear HQ
  refine wpAnyG_done (by kernel_rfl) ?_ _
  go_wp2
  refine bodyPost_ret (v := .agg #[.string s0, .string s1, .slice p2 n2 r2, .slice p3 n3 r3, .slice none 0 0, .slice p5 n5 r5, .slice p6 n6 r6, .slice p7 n7 r7, .string s8, .slice p9 n9 r9, .slice p10 n10 r10]) (by simp [results, Tryz.results51, go_sem, y0, y1, y2, y3, y4, y5, y6, y7, y8, y9, y10]) rfl ⟨_, _, _, _, _, _, _, _, _, _, _, _, _, _, rfl, ?_, ?_⟩
  · exact CpyL.cons (Cpy.str s0) (CpyL.cons (Cpy.str s1) (CpyL.cons (Cpy.from (Cpy.set (Cpy.set (Cpy.set (Cpy.set (Cpy.set (Cpy.set (Cpy.set (Cpy.set (Cpy.set (Cpy.set (Cpy.set (C2_14.out) (b := w.heap.size + 1 + 1) l2 0 _) (b := w.heap.size + 1 + 1) l2 1 _) (b := w.heap.size + 1 + 1) l2 2 _) (b := w.heap.size + 1 + 1) l2 3 _) (b := w.heap.size + 1 + 1) l2 4 _) (b := w.heap.size + 1 + 1) l2 5 _) (b := w.heap.size + 1 + 1) l2 6 _) (b := w.heap.size + 1 + 1) l2 7 _) (b := w.heap.size + 1 + 1) l2 8 _) (b := w.heap.size + 1 + 1) l2 9 _) (b := w.heap.size + 1 + 1) l2 10 _) HB.out.size) (CpyL.cons (Cpy.from (Cpy.set (Cpy.set (Cpy.set (Cpy.set (Cpy.set (Cpy.set (Cpy.set (Cpy.set (Cpy.set (Cpy.set (Cpy.set (C3_14.out) (b := w.heap.size + 1 + 1) l2 0 _) (b := w.heap.size + 1 + 1) l2 1 _) (b := w.heap.size + 1 + 1) l2 2 _) (b := w.heap.size + 1 + 1) l2 3 _) (b := w.heap.size + 1 + 1) l2 4 _) (b := w.heap.size + 1 + 1) l2 5 _) (b := w.heap.size + 1 + 1) l2 6 _) (b := w.heap.size + 1 + 1) l2 7 _) (b := w.heap.size + 1 + 1) l2 8 _) (b := w.heap.size + 1 + 1) l2 9 _) (b := w.heap.size + 1 + 1) l2 10 _) HB.out.size) (CpyL.cons (Cpy.void Tryz.underlying34 (hA _ (by decide))) (CpyL.cons (Cpy.from (Cpy.set (Cpy.set (Cpy.set (Cpy.set (Cpy.set (Cpy.set (Cpy.set (Cpy.set (Cpy.set (Cpy.set (Cpy.set (C5_14.out) (b := w.heap.size + 1 + 1) l2 0 _) (b := w.heap.size + 1 + 1) l2 1 _) (b := w.heap.size + 1 + 1) l2 2 _) (b := w.heap.size + 1 + 1) l2 3 _) (b := w.heap.size + 1 + 1) l2 4 _) (b := w.heap.size + 1 + 1) l2 5 _) (b := w.heap.size + 1 + 1) l2 6 _) (b := w.heap.size + 1 + 1) l2 7 _) (b := w.heap.size + 1 + 1) l2 8 _) (b := w.heap.size + 1 + 1) l2 9 _) (b := w.heap.size + 1 + 1) l2 10 _) HB.out.size) (CpyL.cons (Cpy.from (Cpy.set (Cpy.set (Cpy.set (Cpy.set (Cpy.set (Cpy.set (Cpy.set (Cpy.set (Cpy.set (Cpy.set (Cpy.set (C6_14.out) (b := w.heap.size + 1 + 1) l2 0 _) (b := w.heap.size + 1 + 1) l2 1 _) (b := w.heap.size + 1 + 1) l2 2 _) (b := w.heap.size + 1 + 1) l2 3 _) (b := w.heap.size + 1 + 1) l2 4 _) (b := w.heap.size + 1 + 1) l2 5 _) (b := w.heap.size + 1 + 1) l2 6 _) (b := w.heap.size + 1 + 1) l2 7 _) (b := w.heap.size + 1 + 1) l2 8 _) (b := w.heap.size + 1 + 1) l2 9 _) (b := w.heap.size + 1 + 1) l2 10 _) HB.out.size) (CpyL.cons (Cpy.from (Cpy.set (Cpy.set (Cpy.set (Cpy.set (Cpy.set (Cpy.set (Cpy.set (Cpy.set (Cpy.set (Cpy.set (Cpy.set (C7_14.out) (b := w.heap.size + 1 + 1) l2 0 _) (b := w.heap.size + 1 + 1) l2 1 _) (b := w.heap.size + 1 + 1) l2 2 _) (b := w.heap.size + 1 + 1) l2 3 _) (b := w.heap.size + 1 + 1) l2 4 _) (b := w.heap.size + 1 + 1) l2 5 _) (b := w.heap.size + 1 + 1) l2 6 _) (b := w.heap.size + 1 + 1) l2 7 _) (b := w.heap.size + 1 + 1) l2 8 _) (b := w.heap.size + 1 + 1) l2 9 _) (b := w.heap.size + 1 + 1) l2 10 _) HB.out.size) (CpyL.cons (Cpy.str s8) (CpyL.cons (Cpy.from (Cpy.set (Cpy.set (Cpy.set (Cpy.set (Cpy.set (Cpy.set (Cpy.set (Cpy.set (Cpy.set (Cpy.set (Cpy.set (C9_14.out) (b := w.heap.size + 1 + 1) l2 0 _) (b := w.heap.size + 1 + 1) l2 1 _) (b := w.heap.size + 1 + 1) l2 2 _) (b := w.heap.size + 1 + 1) l2 3 _) (b := w.heap.size + 1 + 1) l2 4 _) (b := w.heap.size + 1 + 1) l2 5 _) (b := w.heap.size + 1 + 1) l2 6 _) (b := w.heap.size + 1 + 1) l2 7 _) (b := w.heap.size + 1 + 1) l2 8 _) (b := w.heap.size + 1 + 1) l2 9 _) (b := w.heap.size + 1 + 1) l2 10 _) HB.out.size) (CpyL.cons (Cpy.from (Cpy.set (Cpy.set (Cpy.set (Cpy.set (Cpy.set (Cpy.set (Cpy.set (Cpy.set (Cpy.set (Cpy.set (Cpy.set (C10_14.out) (b := w.heap.size + 1 + 1) l2 0 _) (b := w.heap.size + 1 + 1) l2 1 _) (b := w.heap.size + 1 + 1) l2 2 _) (b := w.heap.size + 1 + 1) l2 3 _) (b := w.heap.size + 1 + 1) l2 4 _) (b := w.heap.size + 1 + 1) l2 5 _) (b := w.heap.size + 1 + 1) l2 6 _) (b := w.heap.size + 1 + 1) l2 7 _) (b := w.heap.size + 1 + 1) l2 8 _) (b := w.heap.size + 1 + 1) l2 9 _) (b := w.heap.size + 1 + 1) l2 10 _) HB.out.size) (CpyL.nil _ _ _)))))))))))
  · exact (((((((((((HB.out.trans (HB14.out.mono HB.out.size)).setCell (p := ⟨w.heap.size + 1 + 1, 0, none⟩) (by simp; omega) _).setCell (p := ⟨w.heap.size + 1 + 1, 1, none⟩) (by simp; omega) _).setCell (p := ⟨w.heap.size + 1 + 1, 2, none⟩) (by simp; omega) _).setCell (p := ⟨w.heap.size + 1 + 1, 3, none⟩) (by simp; omega) _).setCell (p := ⟨w.heap.size + 1 + 1, 4, none⟩) (by simp; omega) _).setCell (p := ⟨w.heap.size + 1 + 1, 5, none⟩) (by simp; omega) _).setCell (p := ⟨w.heap.size + 1 + 1, 6, none⟩) (by simp; omega) _).setCell (p := ⟨w.heap.size + 1 + 1, 7, none⟩) (by simp; omega) _).setCell (p := ⟨w.heap.size + 1 + 1, 8, none⟩) (by simp; omega) _).setCell (p := ⟨w.heap.size + 1 + 1, 9, none⟩) (by simp; omega) _).setCell (p := ⟨w.heap.size + 1 + 1, 10, none⟩) (by simp; omega) _

end Go.Proofs.YtafmoceinamcdaaGreat
