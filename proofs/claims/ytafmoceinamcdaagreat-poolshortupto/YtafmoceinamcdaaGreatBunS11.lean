/- Put together by a program out of these texts of mine: DBe, DEe, DMs. -/
import Derived.Deep.DeepCutAuto
import Derived.Test.YtafmoceinamcdaaGreatBunS4
import Derived.Test.YtafmoceinamcdaaGreatBunS6
import Derived.Test.YtafmoceinamcdaaGreatBunS8
import Derived.Test.YtafmoceinamcdaaGreatBunS9
import Derived.Test.YtafmoceinamcdaaGreatBunS10

namespace Go.Proofs.YtafmoceinamcdaaGreat
open Go.RowKit
set_option linter.unusedVariables false
set_option linter.unusedSimpArgs false

set_option maxRecDepth 100000 in
set_option maxHeartbeats 4000000 in
theorem kenum_any (A : TypeId → Prop) (hA : A 5 ∧ A 146) (lv : Int) (s0 : ByteArray) (a1 : Option Addr) (n1 k1 : Nat) (m1 : List Md) (a2 : Option Addr) (n2 k2 : Nat) (m2 : List Md) (a3 : Option Addr) (n3 k3 : Nat) (m3 : List Md) (w : World) (h1 : Hid (Src w 41 (.ls a1 n1 k1 m1))) (h2 : Hid (Src w 38 (.ls a2 n2 k2 m2))) (h3 : Hid (Src w 38 (.ls a3 n3 k3 m3))) (h0 : Hid (s0.size ≤ 140737488355328)) :
    Calls Tryz.prog 43 #[.agg #[.int .i64 lv, .bool false], .agg #[.string s0, .slice a1 n1 k1, .slice a2 n2 k2, .slice a3 n3 k3]] w fun e w' => ∃ p1 r1 p2 r2 p3 r3, e = .returned (.agg #[.string s0, .slice p1 n1 r1, .slice p2 n2 r2, .slice p3 n3 r3]) ∧ CpyL w' w.heap.size A [9, 41, 38, 38] [.str s0, .ls a1 n1 k1 m1, .ls a2 n2 k2 m2, .ls a3 n3 k3 m3] [.string s0, .slice p1 n1 r1, .slice p2 n2 r2, .slice p3 n3 r3] ∧ Below w.heap.size w w' := by
  obtain ⟨W, hW⟩ : ∃ W, ((w.alloc (.cells #[.int .i64 lv, .bool false] 100)).alloc (.cells #[.string s0, .slice a1 n1 k1, .slice a2 n2 k2, .slice a3 n3 k3] 43)).alloc (.cells #[.string ⟨#[]⟩, .slice none 0 0, .slice none 0 0, .slice none 0 0] 43) = W := ⟨_, rfl⟩
  have o0 : Ob W w.heap.size #[.int .i64 lv, .bool false] 100 := by rw [← hW]; exact ((Ob.new w _ _).alloc _).alloc _
  have o1 : Ob W (w.heap.size + 1) #[.string s0, .slice a1 n1 k1, .slice a2 n2 k2, .slice a3 n3 k3] 43 := by rw [← hW]; have := Ob.new (w.alloc (.cells #[.int .i64 lv, .bool false] 100)) #[.string s0, .slice a1 n1 k1, .slice a2 n2 k2, .slice a3 n3 k3] 43; rw [World.size_alloc] at this; exact this.alloc _
  have o2 : Ob W (w.heap.size + 1 + 1) #[.string ⟨#[]⟩, .slice none 0 0, .slice none 0 0, .slice none 0 0] 43 := by rw [← hW]; have := Ob.new ((w.alloc (.cells #[.int .i64 lv, .bool false] 100)).alloc (.cells #[.string s0, .slice a1 n1 k1, .slice a2 n2 k2, .slice a3 n3 k3] 43)) #[.string ⟨#[]⟩, .slice none 0 0, .slice none 0 0, .slice none 0 0] 43; simp only [World.size_alloc] at this; exact this
  have hb : Below w.heap.size w W := by rw [← hW]; exact (((Below.refl _ _).alloc (Nat.le_refl _) _).alloc (by simp) _).alloc (by simp; omega) _
  have HW : Hid _ := hW
  have O0 : Hid _ := o0
  have O1 : Hid _ := o1
  have O2 : Hid _ := o2
  have HB : Hid _ := hb
  have l0 := o0.lt
  have l1 := o1.lt
  have l2 := o2.lt
  clear hW o0 o1 o2 hb
  go_enter Tryz.func43, Tryz.ntmps43
  go_upto_region 1 with fail
  rw [HW.out]
  clear HW
  have HD : Hid (Below W.heap.size W W.drew) := (Below.refl _ _).drew
  refine wp_region_heldG 16 (S := fun V => Below W.heap.size W V) rfl ?_
  refine wpAnyG_take (i := 0) (v := ?_) rfl (by kernel_rfl) (by kernel_rfl) (by kernel_rfl) (by kernel_rfl) (fun _ _ _ h => h) (Or.inl ⟨by rfl, ?_⟩) HD.out ?_
  rotate_left
  · intro V HV
    go_simp
    try with_reducible rfl
  refine wpAnyG_take (i := 1) (v := ?_) rfl (by kernel_rfl) (by kernel_rfl) (by kernel_rfl) (by kernel_rfl) (fun _ _ _ h => h) (Or.inl ⟨by rfl, ?_⟩) HD.out ?_
  rotate_left
  · intro V HV
    have z0 := (HV.cell (p := ⟨w.heap.size + 1, 0, none⟩) l1).trans (O1.out.cell 0 rfl)
    go_simp
    try with_reducible rfl
  refine wpAnyG_take (i := 3) (v := ?_) rfl (by kernel_rfl) (by kernel_rfl) (by kernel_rfl) (by kernel_rfl) (fun _ _ _ h => h) (Or.inl ⟨by rfl, ?_⟩) HD.out ?_
  rotate_left
  · intro V HV
    go_simp
    try with_reducible rfl
  refine wpAnyG_take (i := 4) (v := ?_) rfl (by kernel_rfl) (by kernel_rfl) (by kernel_rfl) (by kernel_rfl) (fun _ _ _ h => h) (Or.inl ⟨by rfl, ?_⟩) HD.out ?_
  rotate_left
  · intro V HV
    have z0 := (HV.cell (p := ⟨w.heap.size + 1, 1, none⟩) l1).trans (O1.out.cell 1 rfl)
    go_simp
    try with_reducible rfl
  refine wpAnyG_take (i := 5) (v := ?_) rfl (by kernel_rfl) (by kernel_rfl) (by kernel_rfl) (by kernel_rfl) (fun _ _ _ h => h) (Or.inl ⟨by rfl, ?_⟩) HD.out ?_
  rotate_left
  · intro V HV
    have z0 := (HV.cell (p := ⟨w.heap.size, 0, none⟩) l0).trans (O0.out.cell 0 rfl)
    have z1 := (HV.cell (p := ⟨w.heap.size, 1, none⟩) l0).trans (O0.out.cell 1 rfl)
    go_simp
    try with_reducible rfl
  refine wpAnyG_take (i := 6) (v := ?_) rfl (by kernel_rfl) (by kernel_rfl) (by kernel_rfl) (by kernel_rfl) (fun _ _ _ h => h) (Or.inl ⟨by rfl, ?_⟩) HD.out ?_
  rotate_left
  · intro V HV
    go_simp
    try with_reducible rfl
  refine wpAnyG_take (i := 8) (v := ?_) rfl (by kernel_rfl) (by kernel_rfl) (by kernel_rfl) (by kernel_rfl) (fun _ _ _ h => h) (Or.inl ⟨by rfl, ?_⟩) HD.out ?_
  rotate_left
  · intro V HV
    go_simp
    try with_reducible rfl
  refine wpAnyG_take (i := 9) (v := ?_) rfl (by kernel_rfl) (by kernel_rfl) (by kernel_rfl) (by kernel_rfl) (fun _ _ _ h => h) (Or.inl ⟨by rfl, ?_⟩) HD.out ?_
  rotate_left
  · intro V HV
    have z0 := (HV.cell (p := ⟨w.heap.size + 1, 2, none⟩) l1).trans (O1.out.cell 2 rfl)
    go_simp
    try with_reducible rfl
  refine wpAnyG_take (i := 11) (v := ?_) rfl (by kernel_rfl) (by kernel_rfl) (by kernel_rfl) (by kernel_rfl) (fun _ _ _ h => h) (Or.inl ⟨by rfl, ?_⟩) HD.out ?_
  rotate_left
  · intro V HV
    have z0 := (HV.cell (p := ⟨w.heap.size, 0, none⟩) l0).trans (O0.out.cell 0 rfl)
    have z1 := (HV.cell (p := ⟨w.heap.size, 1, none⟩) l0).trans (O0.out.cell 1 rfl)
    go_simp
    try with_reducible rfl
  refine wpAnyG_take (i := 12) (v := ?_) rfl (by kernel_rfl) (by kernel_rfl) (by kernel_rfl) (by kernel_rfl) (fun _ _ _ h => h) (Or.inl ⟨by rfl, ?_⟩) HD.out ?_
  rotate_left
  · intro V HV
    go_simp
    try with_reducible rfl
  refine wpAnyG_take (i := 13) (v := ?_) rfl (by kernel_rfl) (by kernel_rfl) (by kernel_rfl) (by kernel_rfl) (fun _ _ _ h => h) (Or.inl ⟨by rfl, ?_⟩) HD.out ?_
  rotate_left
  · intro V HV
    have z0 := (HV.cell (p := ⟨w.heap.size + 1, 3, none⟩) l1).trans (O1.out.cell 3 rfl)
    go_simp
    try with_reducible rfl
  refine wpAnyG_all (rs := [2]) (by kernel_rfl) (by simp) ?_
  intro i hi
  obtain rfl : i = 2 := by simpa using hi
  clear hi
  refine wpOp_listV rfl ?_
  intro Q' hQ'
  have HQ : Hid _ := hQ'
  clear hQ'
  go_wp2_with fail
  refine Calls.mono (kclone_any s0 _ h0) ?_
  rintro e w4 ⟨rfl, hbl⟩
  have HB4 : Hid (Below W.heap.size W w4) := HD.out.trans (hbl.mono HD.out.size)
  clear hbl
  go_wp2
  refine HQ.out _ _ ⟨.inr HB4.out, ?_⟩
  clear HQ
  refine wpAnyG_all (rs := [7]) (by kernel_rfl) (by simp) ?_
  intro i hi
  obtain rfl : i = 7 := by simpa using hi
  clear hi
  refine wpOp_listV rfl ?_
  intro Q' hQ'
  have HQ : Hid _ := hQ'
  clear hQ'
  go_wp2_with fail
  refine Calls.mono (kvalues_any A hA lv a1 n1 k1 m1 _ (show Hid _ from Src.under (Src.under h1.out HB.out) HB4.out)) ?_
  rintro e w5 ⟨v, rfl, hcp, hbl⟩
  have HB5 : Hid (Below W.heap.size W w5) := HB4.out.trans (hbl.mono HB4.out.size)
  obtain ⟨p1, r1, rfl⟩ := cpy_ls hcp
  have C1_5 : Hid (Cpy w5 W.heap.size A 41 (.ls a1 n1 k1 m1) (.slice p1 n1 r1)) := hcp.from HB4.out.size
  clear hcp
  clear hbl
  go_wp2
  refine HQ.out _ _ ⟨.inr HB5.out, ?_⟩
  clear HQ
  refine wpAnyG_all (rs := [10]) (by kernel_rfl) (by simp) ?_
  intro i hi
  obtain rfl : i = 10 := by simpa using hi
  clear hi
  refine wpOp_listV rfl ?_
  intro Q' hQ'
  have HQ : Hid _ := hQ'
  clear hQ'
  go_wp2_with fail
  refine Calls.mono (kbytes_any A hA.1 a2 n2 k2 m2 _ (show Hid _ from ((h2.out.under HB.out).under HB5.out).1) (show Hid _ from h2.out.2)) ?_
  rintro e w6 ⟨v, rfl, hcp, hbl⟩
  have HB6 : Hid (Below W.heap.size W w6) := HB5.out.trans (hbl.mono HB5.out.size)
  have C1_6 : Hid (Cpy w6 W.heap.size A 41 (.ls a1 n1 k1 m1) (.slice p1 n1 r1)) := Cpy.under C1_5.out hbl
  clear C1_5
  obtain ⟨p2, r2, rfl⟩ := cpy_ls hcp
  have C2_6 : Hid (Cpy w6 W.heap.size A 38 (.ls a2 n2 k2 m2) (.slice p2 n2 r2)) := hcp.from HB5.out.size
  clear hcp
  clear hbl
  go_wp2
  refine HQ.out _ _ ⟨.inr HB6.out, ?_⟩
  clear HQ
  refine wpAnyG_all (rs := [14]) (by kernel_rfl) (by simp) ?_
  intro i hi
  obtain rfl : i = 14 := by simpa using hi
  clear hi
  refine wpOp_listV rfl ?_
  intro Q' hQ'
  have HQ : Hid _ := hQ'
  clear hQ'
  go_wp2_with fail
  refine Calls.mono (kunk_any A hA.1 (.int .i64 lv) a3 n3 k3 m3 _ (show Hid _ from ((h3.out.under HB.out).under HB6.out).1) (show Hid _ from h3.out.2)) ?_
  rintro e w7 ⟨v, rfl, hcp, hbl⟩
  have HB7 : Hid (Below W.heap.size W w7) := HB6.out.trans (hbl.mono HB6.out.size)
  have C1_7 : Hid (Cpy w7 W.heap.size A 41 (.ls a1 n1 k1 m1) (.slice p1 n1 r1)) := Cpy.under C1_6.out hbl
  have C2_7 : Hid (Cpy w7 W.heap.size A 38 (.ls a2 n2 k2 m2) (.slice p2 n2 r2)) := Cpy.under C2_6.out hbl
  clear C1_6 C2_6
  obtain ⟨p3, r3, rfl⟩ := cpy_ls hcp
  have C3_7 : Hid (Cpy w7 W.heap.size A 38 (.ls a3 n3 k3 m3) (.slice p3 n3 r3)) := hcp.from HB6.out.size
  clear hcp
  clear hbl
  go_wp2
  refine HQ.out _ _ ⟨.inr HB7.out, ?_⟩
  clear HQ
  refine wpAnyG_take (i := 15) (v := ?_) rfl (by kernel_rfl) (by kernel_rfl) (by kernel_rfl) (by kernel_rfl) (fun _ _ _ h => h) (Or.inl ⟨by rfl, ?_⟩) HB7.out ?_
  rotate_left
  · intro V HV
    go_simp
    try with_reducible rfl
  refine wpAnyG_all (rs := [16]) (by kernel_rfl) (by simp) ?_
  intro i hi
  obtain rfl : i = 16 := by simpa using hi
  clear hi
  refine wpOp_listV rfl ?_
  intro Q' hQ'
  have HQ : Hid _ := hQ'
  clear hQ'
  have O2' : Hid _ := O2.out.below HB7.out l2
  obtain ⟨⟨y0, y1, y2, y3⟩, ⟨g0, g1, g2, g3⟩, l2'⟩ := ob4 (show Ob w7 (w.heap.size + 1 + 1) #[.string ⟨#[]⟩, .slice none 0 0, .slice none 0 0, .slice none 0 0] 43 from O2'.out)
  go_wp2
  refine HQ.out _ _ ⟨.inl trivial, ?_⟩
  clear HQ
  refine wpAnyG_done (by kernel_rfl) ?_ _
  go_wp2
  refine bodyPost_ret (v := .agg #[.string s0, .slice p1 n1 r1, .slice p2 n2 r2, .slice p3 n3 r3]) (by simp [results, Tryz.results43, go_sem, y0, y1, y2, y3]) rfl ⟨_, _, _, _, _, _, rfl, ?_, ?_⟩
  · exact CpyL.cons (Cpy.str s0) (CpyL.cons (Cpy.from (Cpy.set (Cpy.set (Cpy.set (Cpy.set (C1_7.out) (b := w.heap.size + 1 + 1) l2 0 _) (b := w.heap.size + 1 + 1) l2 1 _) (b := w.heap.size + 1 + 1) l2 2 _) (b := w.heap.size + 1 + 1) l2 3 _) HB.out.size) (CpyL.cons (Cpy.from (Cpy.set (Cpy.set (Cpy.set (Cpy.set (C2_7.out) (b := w.heap.size + 1 + 1) l2 0 _) (b := w.heap.size + 1 + 1) l2 1 _) (b := w.heap.size + 1 + 1) l2 2 _) (b := w.heap.size + 1 + 1) l2 3 _) HB.out.size) (CpyL.cons (Cpy.from (Cpy.set (Cpy.set (Cpy.set (Cpy.set (C3_7.out) (b := w.heap.size + 1 + 1) l2 0 _) (b := w.heap.size + 1 + 1) l2 1 _) (b := w.heap.size + 1 + 1) l2 2 _) (b := w.heap.size + 1 + 1) l2 3 _) HB.out.size) (CpyL.nil _ _ _))))
  · exact ((((HB.out.trans (HB7.out.mono HB.out.size)).setCell (p := ⟨w.heap.size + 1 + 1, 0, none⟩) (by simp; omega) _).setCell (p := ⟨w.heap.size + 1 + 1, 1, none⟩) (by simp; omega) _).setCell (p := ⟨w.heap.size + 1 + 1, 2, none⟩) (by simp; omega) _).setCell (p := ⟨w.heap.size + 1 + 1, 3, none⟩) (by simp; omega) _

theorem flds_enum : flds Tryz.prog 43 = [9, 41, 38, 38] := by kernel_rfl

theorem enum_at {w : World} {a : Option Addr} {n c : Nat} {ms : List Md} (h : Src w 35 (.ls a n c ms)) (i : Nat) (hi : i < n) :
    ∃ b off s0 a1 n1 k1 m1 a2 n2 k2 m2 a3 n3 k3 m3, a = some ⟨b, off, none⟩ ∧ b < w.heap.size ∧ w.cell? ⟨b, off + i * 4, none⟩ = some (.string s0) ∧ w.cell? ⟨b, off + i * 4 + 1, none⟩ = some (.slice a1 n1 k1) ∧ w.cell? ⟨b, off + i * 4 + 2, none⟩ = some (.slice a2 n2 k2) ∧ w.cell? ⟨b, off + i * 4 + 3, none⟩ = some (.slice a3 n3 k3) ∧ Src w 41 (.ls a1 n1 k1 m1) ∧ Src w 38 (.ls a2 n2 k2 m2) ∧ Src w 38 (.ls a3 n3 k3 m3) ∧ s0.size ≤ 140737488355328 ∧ ms[i * 4 + 0]? = some (.str s0) ∧ ms[i * 4 + 1]? = some (.ls a1 n1 k1 m1) ∧ ms[i * 4 + 2]? = some (.ls a2 n2 k2 m2) ∧ ms[i * 4 + 3]? = some (.ls a3 n3 k3 m3) := by
  obtain ⟨h, hz⟩ := h
  cases h with
  | ls hT hnc hm hnil hlen hmem hk =>
    rename_i E
    have hE : E = 43 := by
      have := Tryz.underlying35
      rw [this] at hT
      cases hT
      rfl
    subst hE
    cases hz with
    | ls hT2 hb2 hk2 =>
    rename_i E
    have hE : E = 43 := by
      have := Tryz.underlying35
      rw [this] at hT2
      cases hT2
      rfl
    subst hE
    rw [flds_enum] at hlen hk hk2
    obtain ⟨b, off, rfl, hb, hc⟩ := hmem (by omega)
    have hg : ∀ j, j < 4 → ∃ m, ms[i * 4 + j]? = some m := fun j hj => ⟨_, List.getElem?_eq_getElem (by simp at hlen; omega)⟩
    have hmod : ∀ j, j < 4 → (i * 4 + j) % 4 = j := fun j hj => by omega
    obtain ⟨q0, hq0⟩ := hg 0 (by omega)
    have ok0 := hk _ _ 9 hq0 (by rw [show ([9, 41, 38, 38] : List TypeId).length = 4 from rfl, hmod 0 (by omega)]; rfl)
    have sz0 := hk2 _ _ 9 hq0 (by rw [show ([9, 41, 38, 38] : List TypeId).length = 4 from rfl, hmod 0 (by omega)]; rfl)
    have cl0 := hc _ _ hq0
    obtain ⟨q1, hq1⟩ := hg 1 (by omega)
    have ok1 := hk _ _ 41 hq1 (by rw [show ([9, 41, 38, 38] : List TypeId).length = 4 from rfl, hmod 1 (by omega)]; rfl)
    have sz1 := hk2 _ _ 41 hq1 (by rw [show ([9, 41, 38, 38] : List TypeId).length = 4 from rfl, hmod 1 (by omega)]; rfl)
    have cl1 := hc _ _ hq1
    obtain ⟨q2, hq2⟩ := hg 2 (by omega)
    have ok2 := hk _ _ 38 hq2 (by rw [show ([9, 41, 38, 38] : List TypeId).length = 4 from rfl, hmod 2 (by omega)]; rfl)
    have sz2 := hk2 _ _ 38 hq2 (by rw [show ([9, 41, 38, 38] : List TypeId).length = 4 from rfl, hmod 2 (by omega)]; rfl)
    have cl2 := hc _ _ hq2
    obtain ⟨q3, hq3⟩ := hg 3 (by omega)
    have ok3 := hk _ _ 38 hq3 (by rw [show ([9, 41, 38, 38] : List TypeId).length = 4 from rfl, hmod 3 (by omega)]; rfl)
    have sz3 := hk2 _ _ 38 hq3 (by rw [show ([9, 41, 38, 38] : List TypeId).length = 4 from rfl, hmod 3 (by omega)]; rfl)
    have cl3 := hc _ _ hq3
    obtain ⟨s0, rfl, _⟩ := ok_str2 Tryz.underlying9 ok0
    obtain ⟨a1, n1, k1, m1, rfl⟩ := ok_ls2 Tryz.underlying41 ok1
    obtain ⟨a2, n2, k2, m2, rfl⟩ := ok_ls2 Tryz.underlying38 ok2
    obtain ⟨a3, n3, k3, m3, rfl⟩ := ok_ls2 Tryz.underlying38 ok3
    refine ⟨b, off, s0, a1, n1, k1, m1, a2, n2, k2, m2, a3, n3, k3, m3, rfl, hb, ?_, ?_, ?_, ?_, ⟨ok1, sz1⟩, ⟨ok2, sz2⟩, ⟨ok3, sz3⟩, sz_str sz0, hq0, hq1, hq2, hq3⟩
    · simpa [Md.val, Nat.add_assoc] using cl0
    · simpa [Md.val, Nat.add_assoc] using cl1
    · simpa [Md.val, Nat.add_assoc] using cl2
    · simpa [Md.val, Nat.add_assoc] using cl3

theorem Tryz.infenum : (Tryz.prog.info? 43).map (fun i => (i.zero, i.size, i.bytes)) = some (some (.agg #[.string ⟨#[]⟩, .slice none 0 0, .slice none 0 0, .slice none 0 0]), 4, 88) := by kernel_rfl

theorem new_enum (w : World) (x0 : Value) (x1 : Value) (x2 : Value) (x3 : Value) (t : TypeId) : ∀ (j : Nat) (u : Value), [x0, x1, x2, x3][j]? = some u → (w.alloc (.cells #[x0, x1, x2, x3] t)).cell? (({ block := w.heap.size, off := 0 } : Addr).add j) = some u := by
  intro j u hj
  have hl : j < 4 := (List.getElem?_eq_some_iff.1 hj).1
  match j, hl with
  | 0, _ => simp at hj; subst hj; simp [Addr.add]
  | 1, _ => simp at hj; subst hj; simp [Addr.add]
  | 2, _ => simp at hj; subst hj; simp [Addr.add]
  | 3, _ => simp at hj; subst hj; simp [Addr.add]

theorem hes_enum {ms : List Md} {k : Nat} {q0 q1 q2 q3 : Md} (h : ms[k * 4 + 0]? = some q0 ∧ ms[k * 4 + 1]? = some q1 ∧ ms[k * 4 + 2]? = some q2 ∧ ms[k * 4 + 3]? = some q3) : ∀ j, j < [9, 41, 38, 38].length → ms[k * 4 + j]? = [q0, q1, q2, q3][j]? := by
  intro j hj
  have hl : j < 4 := hj
  match j, hl with
  | 0, _ => exact h.1
  | 1, _ => exact h.2.1
  | 2, _ => exact h.2.2.1
  | 3, _ => exact h.2.2.2

set_option maxRecDepth 100000 in
set_option maxHeartbeats 4000000 in
theorem kenums_any (A : TypeId → Prop) (hA : A 5 ∧ A 146 ∧ A 43) (lv : Int) (a : Option Addr) (n c : Nat) (ms : List Md) (w : World) (hs : Hid (Src w 35 (.ls a n c ms))) :
    Calls Tryz.prog 80 #[.slice a n c, .func (.func 43) #[.agg #[.int .i64 lv, .bool false]] #[]] w fun e w' => ∃ v, e = .returned v ∧ Cpy w' w.heap.size A 35 (.ls a n c ms) v ∧ Below w.heap.size w w' := by
  obtain ⟨i0, hi, hz0, hz1, hz2⟩ := info_parts Tryz.infenum
  obtain ⟨hn, hby, hml⟩ : (n : Int) ≤ 9223372036854775807 ∧ n * 88 ≤ 140737488355328 ∧ ms.length = n * 4 := by
    obtain ⟨ok, sz⟩ := hs.out
    refine ⟨?_, ?_, ?_⟩
    · cases ok with
      | ls hT hnc hm => unfold maxLen at hm; omega
    · cases sz with
      | ls hT hb hk =>
        rw [Tryz.underlying35] at hT
        cases hT
        have : Tryz.prog.bytesOf 43 = 88 := by kernel_rfl
        rw [this] at hb
        exact hb
    · cases ok with
      | ls hT hnc hm hnil hlen hmem hk =>
        rw [Tryz.underlying35] at hT
        cases hT
        rw [flds_enum] at hlen
        exact hlen
  have HML : Hid _ := hml
  clear hml
  have HA : Hid _ := hA
  clear hA
  go_enter Tryz.func80, Tryz.ntmps80
  go_wp2
  go_loopw [5, 10] (fun v i wr => ∃ k : Nat, k ≤ n ∧ i = .int .i64 (k : Int) ∧ Hid (Eac wr w.heap.size (fun X => A X ∧ X ≠ 43) 43 ms k v) ∧ Hid (Below w.heap.size w wr)) (fun _ i _ => n - (intOf i).toNat)
  case atStart => exact ⟨0, Nat.zero_le _, rfl, Eac.nil _ _ _ _ _, Below.refl _ _⟩
  case round =>
    obtain ⟨k, hk, rfl, HE, HW⟩ := hrel
    have hwz := HW.out.size
    by_cases hlk : k < n
    · obtain ⟨b, off, s0, a1, n1, k1, m1, a2, n2, k2, m2, a3, n3, k3, m3, rfl, hlt, d0, d1, d2, d3, S1, S2, S3, Z0, G0, G1, G2, G3⟩ := enum_at (hs.out.under HW.out) k hlk
      have HS1 : Hid _ := S1
      have HS2 : Hid _ := S2
      have HS3 : Hid _ := S3
      have HZ0 : Hid _ := Z0
      have HG : Hid (ms[k * 4 + 0]? = some (.str s0) ∧ ms[k * 4 + 1]? = some (.ls a1 n1 k1 m1) ∧ ms[k * 4 + 2]? = some (.ls a2 n2 k2 m2) ∧ ms[k * 4 + 3]? = some (.ls a3 n3 k3 m3)) := ⟨G0, G1, G2, G3⟩
      clear S1 S2 S3 Z0 G0 G1 G2 G3 hs
      have HX : Hid (Below wr.heap.size wr (wr.alloc (.cells #[.string s0, .slice a1 n1 k1, .slice a2 n2 k2, .slice a3 n3 k3] 43))) := (Below.refl _ _).alloc (Nat.le_refl _) _
      have Q : Hid _ := kenum_any (fun X => A X ∧ X ≠ 43) (show _ from (by have hA := HA.out; exact ⟨⟨hA.1, by decide⟩, ⟨hA.2.1, by decide⟩⟩)) lv s0 a1 n1 k1 m1 a2 n2 k2 m2 a3 n3 k3 m3 (wr.alloc (.cells #[.string s0, .slice a1 n1 k1, .slice a2 n2 k2, .slice a3 n3 k3] 43)) (show Hid _ from Src.under HS1.out HX.out) (show Hid _ from Src.under HS2.out HX.out) (show Hid _ from Src.under HS3.out HX.out) (show Hid _ from HZ0.out)
      go_wp2_with fail
      refine Calls.mono Q.out ?_
      rintro e w2 ⟨p1, r1, p2, r2, p3, r3, rfl, hcp, hb2⟩
      have HB2 : Hid (Below wr.heap.size wr w2) := HX.out.trans (hb2.mono (by simp))
      have HC2 : Hid (CpyL w2 w.heap.size (fun X => A X ∧ X ≠ 43) [9, 41, 38, 38] [.str s0, .ls a1 n1 k1 m1, .ls a2 n2 k2 m2, .ls a3 n3 k3 m3] [.string s0, .slice p1 n1 r1, .slice p2 n2 r2, .slice p3 n3 r3]) := (show CpyL _ _ _ _ _ _ from hcp).from (by simp; omega)
      have HE2 : Hid (Eac w2 w.heap.size (fun X => A X ∧ X ≠ 43) 43 ms k u5) := Eac.under HE.out HB2.out
      clear hcp hb2 Q HX HE
      have hzz := HB2.out.size
      have HE3 : Hid (Eac (w2.alloc (.cells #[.string s0, .slice p1 n1 r1, .slice p2 n2 r2, .slice p3 n3 r3] 43)) w.heap.size (fun X => A X ∧ X ≠ 43) 43 ms k u5) := Eac.under HE2.out ((Below.refl _ _).alloc (Nat.le_refl _) _)
      have HC3 : Hid (CpyL (w2.alloc (.cells #[.string s0, .slice p1 n1 r1, .slice p2 n2 r2, .slice p3 n3 r3] 43)) w.heap.size (fun X => A X ∧ X ≠ 43) [9, 41, 38, 38] [.str s0, .ls a1 n1 k1 m1, .ls a2 n2 k2 m2, .ls a3 n3 k3 m3] [.string s0, .slice p1 n1 r1, .slice p2 n2 r2, .slice p3 n3 r3]) := CpyL.under HC2.out ((Below.refl _ _).alloc (Nat.le_refl _) _)
      obtain ⟨ms', hown0, hall0⟩ := HE3.out
      have HO : Hid ((w2.alloc (.cells #[.string s0, .slice p1 n1 r1, .slice p2 n2 r2, .slice p3 n3 r3] 43)).ownsRow w.heap.size 43 4 u5 k (ms'.map Md.val)) := by rw [flds_enum] at hown0; exact hown0
      have HO0 : Hid _ := hown0
      have HALL : Hid _ := hall0
      clear hown0 hall0 HE3 HE2 HC2
      go_wp2_with (at_builtin; refine wpList_append_own_at _ rfl _ _ 35 rfl w.heap.size 43 i0 (.agg #[.string ⟨#[]⟩, .slice none 0 0, .slice none 0 0, .slice none 0 0]) 4 88 Tryz.underlying35 hi hz0 hz1 hz2 rfl (by decide) _ k _ rfl HO.out ⟨w2.heap.size, 0, none⟩ 1 1 [.string s0, .slice p1 n1 r1, .slice p2 n2 r2, .slice p3 n3 r3] rfl rfl (new_enum _ _ _ _ _ _) (by intro u hu; simp at hu; rcases hu with rfl | rfl | rfl | rfl <;> rfl) (by unfold maxLen; omega) (by omega) (by simp; omega) ?_; intro v4 w4 hown4 hgrow4 hnil4 hat4; have HP4 : Hid (Eac w4 w.heap.size (fun X => A X ∧ X ≠ 43) 43 ms (k + 1) v4) := Eac.push (fun X h => h.2) HO0.out HALL.out (by rw [flds_enum]; exact HC3.out) (by rw [flds_enum]; rfl) (by rw [flds_enum]; exact hes_enum HG.out) hgrow4 (by rw [flds_enum]; exact hown4); have HB4 : Hid (Below w.heap.size w w4) := (HW.out.trans ((HB2.out.alloc HB2.out.size _).mono HW.out.size)).grown hgrow4 (by simp; omega) (fun g hg => own_low HO.out hg); obtain ⟨a4, c4, rfl⟩ := own_slice hown4; clear hown4 hgrow4 hnil4 hat4 HO HO0 HALL HC3)
      go_roundw
      case rel => exact ⟨k + 1, by omega, by go_num, HP4.out, HB4.out⟩
      case measure => simp [intOf]; omega
    · have hkn : k = n := by omega
      subst hkn
      have HF : Hid (Cpy wr w.heap.size A 35 (.ls a k c ms) u5) := Eac.all Tryz.underlying35 (fun X h => h.1) HA.out.2.2 (by rw [flds_enum]; exact HML.out) HE.out
      go_wp2
      go_ret
      exact ⟨_, rfl, HF.out, HW.out⟩

def tyAll : List TypeId := [5, 9, 3, 146, 43, 45, 137, 141, 161, 159, 40]

theorem Cpy.void {w : World} {lo : Nat} {A : TypeId → Prop} {T E : TypeId} (hT : Tryz.prog.underlying T = some (.slice E)) (hA : A E) : Cpy w lo A T (.ls none 0 0 []) (.slice none 0 0) :=
  ⟨.ls none 0 0 [], rfl, .ls hT hA (World.ownsRow_nil _ _ _ _) (fun i m F h => by simp at h), .ls rfl (fun i m m' h => by simp at h)⟩

theorem kmsgs0 (v : Value) (w : World) :
    Calls Tryz.prog 79 #[.agg #[.int .i64 0, .bool false], v] w fun e w' => e = .returned (.slice none 0 0) ∧ Below w.heap.size w w' := by
  have HB : Hid (Below w.heap.size w (w.alloc (.cells #[.int .i64 0, .bool false] 100))) := (Below.refl _ _).alloc (Nat.le_refl _) _
  go_enter Tryz.func79, Tryz.ntmps79
  go_wp2
  go_ret
  exact ⟨rfl, HB.out⟩

set_option maxRecDepth 100000 in
set_option maxHeartbeats 8000000 in
theorem kmessage_any (A : TypeId → Prop) (hA : ∀ X ∈ tyAll, A X) (s0 : ByteArray) (a1 : Option Addr) (n1 k1 : Nat) (m1 : List Md) (a2 : Option Addr) (n2 k2 : Nat) (a3 : Option Addr) (n3 k3 : Nat) (m3 : List Md) (a4 : Option Addr) (n4 k4 : Nat) (m4 : List Md) (a5 : Option Addr) (n5 k5 : Nat) (m5 : List Md) (a6 : Option Addr) (n6 k6 : Nat) (m6 : List Md) (a7 : Option Addr) (n7 k7 : Nat) (m7 : List Md) (a8 : Option Addr) (n8 k8 : Nat) (m8 : List Md) (a9 : Option Addr) (n9 k9 : Nat) (m9 : List Md) (a10 : Option Addr) (n10 k10 : Nat) (m10 : List Md) (w : World) (h1 : Hid (Src w 33 (.ls a1 n1 k1 m1))) (h3 : Hid (Src w 35 (.ls a3 n3 k3 m3))) (h4 : Hid (Src w 36 (.ls a4 n4 k4 m4))) (h5 : Hid (Src w 33 (.ls a5 n5 k5 m5))) (h6 : Hid (Src w 37 (.ls a6 n6 k6 m6))) (h7 : Hid (Src w 36 (.ls a7 n7 k7 m7))) (h8 : Hid (Src w 30 (.ls a8 n8 k8 m8))) (h9 : Hid (Src w 38 (.ls a9 n9 k9 m9))) (h10 : Hid (Src w 38 (.ls a10 n10 k10 m10))) (h0 : Hid (s0.size ≤ 140737488355328)) :
    Calls Tryz.prog 42 #[.agg #[.int .i64 1, .bool false], .agg #[.string s0, .slice a1 n1 k1, .slice a2 n2 k2, .slice a3 n3 k3, .slice a4 n4 k4, .slice a5 n5 k5, .slice a6 n6 k6, .slice a7 n7 k7, .slice a8 n8 k8, .slice a9 n9 k9, .slice a10 n10 k10]] w fun e w' => ∃ p1 r1 p3 r3 p4 r4 p5 r5 p6 r6 p7 r7 p8 r8 p9 r9 p10 r10, e = .returned (.agg #[.string s0, .slice p1 n1 r1, .slice none 0 0, .slice p3 n3 r3, .slice p4 n4 r4, .slice p5 n5 r5, .slice p6 n6 r6, .slice p7 n7 r7, .slice p8 n8 r8, .slice p9 n9 r9, .slice p10 n10 r10]) ∧ CpyL w' w.heap.size A [9, 33, 34, 35, 36, 33, 37, 36, 30, 38, 38] [.str s0, .ls a1 n1 k1 m1, .ls none 0 0 [], .ls a3 n3 k3 m3, .ls a4 n4 k4 m4, .ls a5 n5 k5 m5, .ls a6 n6 k6 m6, .ls a7 n7 k7 m7, .ls a8 n8 k8 m8, .ls a9 n9 k9 m9, .ls a10 n10 k10 m10] [.string s0, .slice p1 n1 r1, .slice none 0 0, .slice p3 n3 r3, .slice p4 n4 r4, .slice p5 n5 r5, .slice p6 n6 r6, .slice p7 n7 r7, .slice p8 n8 r8, .slice p9 n9 r9, .slice p10 n10 r10] ∧ Below w.heap.size w w' := by
  obtain ⟨W, hW⟩ : ∃ W, (((w.alloc (.cells #[.int .i64 1, .bool false] 100)).alloc (.cells #[.string s0, .slice a1 n1 k1, .slice a2 n2 k2, .slice a3 n3 k3, .slice a4 n4 k4, .slice a5 n5 k5, .slice a6 n6 k6, .slice a7 n7 k7, .slice a8 n8 k8, .slice a9 n9 k9, .slice a10 n10 k10] 40)).alloc (.cells #[.string ⟨#[]⟩, .slice none 0 0, .slice none 0 0, .slice none 0 0, .slice none 0 0, .slice none 0 0, .slice none 0 0, .slice none 0 0, .slice none 0 0, .slice none 0 0, .slice none 0 0] 40)).alloc (.cells #[.int .i64 0, .bool false] 100) = W := ⟨_, rfl⟩
  have o0 : Ob W w.heap.size #[.int .i64 1, .bool false] 100 := by rw [← hW]; exact (((Ob.new w _ _).alloc _).alloc _).alloc _
  have o1 : Ob W (w.heap.size + 1) #[.string s0, .slice a1 n1 k1, .slice a2 n2 k2, .slice a3 n3 k3, .slice a4 n4 k4, .slice a5 n5 k5, .slice a6 n6 k6, .slice a7 n7 k7, .slice a8 n8 k8, .slice a9 n9 k9, .slice a10 n10 k10] 40 := by rw [← hW]; have := Ob.new (w.alloc (.cells #[.int .i64 1, .bool false] 100)) #[.string s0, .slice a1 n1 k1, .slice a2 n2 k2, .slice a3 n3 k3, .slice a4 n4 k4, .slice a5 n5 k5, .slice a6 n6 k6, .slice a7 n7 k7, .slice a8 n8 k8, .slice a9 n9 k9, .slice a10 n10 k10] 40; rw [World.size_alloc] at this; exact (this.alloc _).alloc _
  have o2 : Ob W (w.heap.size + 1 + 1) #[.string ⟨#[]⟩, .slice none 0 0, .slice none 0 0, .slice none 0 0, .slice none 0 0, .slice none 0 0, .slice none 0 0, .slice none 0 0, .slice none 0 0, .slice none 0 0, .slice none 0 0] 40 := by rw [← hW]; have := Ob.new ((w.alloc (.cells #[.int .i64 1, .bool false] 100)).alloc (.cells #[.string s0, .slice a1 n1 k1, .slice a2 n2 k2, .slice a3 n3 k3, .slice a4 n4 k4, .slice a5 n5 k5, .slice a6 n6 k6, .slice a7 n7 k7, .slice a8 n8 k8, .slice a9 n9 k9, .slice a10 n10 k10] 40)) #[.string ⟨#[]⟩, .slice none 0 0, .slice none 0 0, .slice none 0 0, .slice none 0 0, .slice none 0 0, .slice none 0 0, .slice none 0 0, .slice none 0 0, .slice none 0 0, .slice none 0 0] 40; simp only [World.size_alloc] at this; exact this.alloc _
  have o3 : Ob W (w.heap.size + 1 + 1 + 1) #[.int .i64 0, .bool false] 100 := by rw [← hW]; have := Ob.new (((w.alloc (.cells #[.int .i64 1, .bool false] 100)).alloc (.cells #[.string s0, .slice a1 n1 k1, .slice a2 n2 k2, .slice a3 n3 k3, .slice a4 n4 k4, .slice a5 n5 k5, .slice a6 n6 k6, .slice a7 n7 k7, .slice a8 n8 k8, .slice a9 n9 k9, .slice a10 n10 k10] 40)).alloc (.cells #[.string ⟨#[]⟩, .slice none 0 0, .slice none 0 0, .slice none 0 0, .slice none 0 0, .slice none 0 0, .slice none 0 0, .slice none 0 0, .slice none 0 0, .slice none 0 0, .slice none 0 0] 40)) #[.int .i64 0, .bool false] 100; simp only [World.size_alloc] at this; exact this
  have hb : Below w.heap.size w W := by rw [← hW]; exact ((((Below.refl _ _).alloc (Nat.le_refl _) _).alloc (by simp) _).alloc (by simp; omega) _).alloc (by simp; omega) _
  have HW : Hid _ := hW
  have O0 : Hid _ := o0
  have O1 : Hid _ := o1
  have O2 : Hid _ := o2
  have HB : Hid _ := hb
  have l0 := o0.lt
  have l1 := o1.lt
  have l2 := o2.lt
  have O3 : Hid _ := o3
  have l3 := o3.lt
  clear hW o0 o1 o2 hb o3
  go_enter Tryz.func42, Tryz.ntmps42
  go_upto_region 2 with fail
  rw [HW.out]
  clear HW
  have HD : Hid (Below W.heap.size W W.drew) := (Below.refl _ _).drew
  refine wp_region_heldG 44 (S := fun V => Below W.heap.size W V) rfl ?_
  refine wpAnyG_take (i := 0) (v := ?_) rfl (by kernel_rfl) (by kernel_rfl) (by kernel_rfl) (by kernel_rfl) (fun _ _ _ h => h) (Or.inl ⟨by rfl, ?_⟩) HD.out ?_
  rotate_left
  · intro V HV
    go_simp
    try with_reducible rfl
  refine wpAnyG_take (i := 1) (v := ?_) rfl (by kernel_rfl) (by kernel_rfl) (by kernel_rfl) (by kernel_rfl) (fun _ _ _ h => h) (Or.inl ⟨by rfl, ?_⟩) HD.out ?_
  rotate_left
  · intro V HV
    have z0 := (HV.cell (p := ⟨w.heap.size + 1, 0, none⟩) l1).trans (O1.out.cell 0 rfl)
    go_simp
    try with_reducible rfl
  refine wpAnyG_take (i := 3) (v := ?_) rfl (by kernel_rfl) (by kernel_rfl) (by kernel_rfl) (by kernel_rfl) (fun _ _ _ h => h) (Or.inl ⟨by rfl, ?_⟩) HD.out ?_
  rotate_left
  · intro V HV
    go_simp
    try with_reducible rfl
  refine wpAnyG_take (i := 4) (v := ?_) rfl (by kernel_rfl) (by kernel_rfl) (by kernel_rfl) (by kernel_rfl) (fun _ _ _ h => h) (Or.inl ⟨by rfl, ?_⟩) HD.out ?_
  rotate_left
  · intro V HV
    have z0 := (HV.cell (p := ⟨w.heap.size + 1, 1, none⟩) l1).trans (O1.out.cell 1 rfl)
    go_simp
    try with_reducible rfl
  refine wpAnyG_take (i := 5) (v := ?_) rfl (by kernel_rfl) (by kernel_rfl) (by kernel_rfl) (by kernel_rfl) (fun _ _ _ h => h) (Or.inl ⟨by rfl, ?_⟩) HD.out ?_
  rotate_left
  · intro V HV
    have z0 := (HV.cell (p := ⟨w.heap.size, 0, none⟩) l0).trans (O0.out.cell 0 rfl)
    have z1 := (HV.cell (p := ⟨w.heap.size, 1, none⟩) l0).trans (O0.out.cell 1 rfl)
    go_simp
    try with_reducible rfl
  refine wpAnyG_take (i := 6) (v := ?_) rfl (by kernel_rfl) (by kernel_rfl) (by kernel_rfl) (by kernel_rfl) (fun _ _ _ h => h) (Or.inl ⟨by rfl, ?_⟩) HD.out ?_
  rotate_left
  · intro V HV
    go_simp
    try with_reducible rfl
  refine wpAnyG_take (i := 8) (v := ?_) rfl (by kernel_rfl) (by kernel_rfl) (by kernel_rfl) (by kernel_rfl) (fun _ _ _ h => h) (Or.inl ⟨by rfl, ?_⟩) HD.out ?_
  rotate_left
  · intro V HV
    have z0 := (HV.cell (p := ⟨w.heap.size + 1 + 1 + 1, 0, none⟩) l3).trans (O3.out.cell 0 rfl)
    have z1 := (HV.cell (p := ⟨w.heap.size + 1 + 1 + 1, 1, none⟩) l3).trans (O3.out.cell 1 rfl)
    go_simp
    try with_reducible rfl
  refine wpAnyG_take (i := 9) (v := ?_) rfl (by kernel_rfl) (by kernel_rfl) (by kernel_rfl) (by kernel_rfl) (fun _ _ _ h => h) (Or.inl ⟨by rfl, ?_⟩) HD.out ?_
  rotate_left
  · intro V HV
    go_simp
    try with_reducible rfl
  refine wpAnyG_take (i := 10) (v := ?_) rfl (by kernel_rfl) (by kernel_rfl) (by kernel_rfl) (by kernel_rfl) (fun _ _ _ h => h) (Or.inl ⟨by rfl, ?_⟩) HD.out ?_
  rotate_left
  · intro V HV
    have z0 := (HV.cell (p := ⟨w.heap.size + 1, 2, none⟩) l1).trans (O1.out.cell 2 rfl)
    go_simp
    try with_reducible rfl
  refine wpAnyG_take (i := 12) (v := ?_) rfl (by kernel_rfl) (by kernel_rfl) (by kernel_rfl) (by kernel_rfl) (fun _ _ _ h => h) (Or.inl ⟨by rfl, ?_⟩) HD.out ?_
  rotate_left
  · intro V HV
    go_simp
    try with_reducible rfl
  refine wpAnyG_take (i := 13) (v := ?_) rfl (by kernel_rfl) (by kernel_rfl) (by kernel_rfl) (by kernel_rfl) (fun _ _ _ h => h) (Or.inl ⟨by rfl, ?_⟩) HD.out ?_
  rotate_left
  · intro V HV
    have z0 := (HV.cell (p := ⟨w.heap.size + 1, 3, none⟩) l1).trans (O1.out.cell 3 rfl)
    go_simp
    try with_reducible rfl
  refine wpAnyG_take (i := 14) (v := ?_) rfl (by kernel_rfl) (by kernel_rfl) (by kernel_rfl) (by kernel_rfl) (fun _ _ _ h => h) (Or.inl ⟨by rfl, ?_⟩) HD.out ?_
  rotate_left
  · intro V HV
    have z0 := (HV.cell (p := ⟨w.heap.size, 0, none⟩) l0).trans (O0.out.cell 0 rfl)
    have z1 := (HV.cell (p := ⟨w.heap.size, 1, none⟩) l0).trans (O0.out.cell 1 rfl)
    go_simp
    try with_reducible rfl
  refine wpAnyG_take (i := 15) (v := ?_) rfl (by kernel_rfl) (by kernel_rfl) (by kernel_rfl) (by kernel_rfl) (fun _ _ _ h => h) (Or.inl ⟨by rfl, ?_⟩) HD.out ?_
  rotate_left
  · intro V HV
    go_simp
    try with_reducible rfl
  refine wpAnyG_take (i := 17) (v := ?_) rfl (by kernel_rfl) (by kernel_rfl) (by kernel_rfl) (by kernel_rfl) (fun _ _ _ h => h) (Or.inl ⟨by rfl, ?_⟩) HD.out ?_
  rotate_left
  · intro V HV
    go_simp
    try with_reducible rfl
  refine wpAnyG_take (i := 18) (v := ?_) rfl (by kernel_rfl) (by kernel_rfl) (by kernel_rfl) (by kernel_rfl) (fun _ _ _ h => h) (Or.inl ⟨by rfl, ?_⟩) HD.out ?_
  rotate_left
  · intro V HV
    have z0 := (HV.cell (p := ⟨w.heap.size + 1, 4, none⟩) l1).trans (O1.out.cell 4 rfl)
    go_simp
    try with_reducible rfl
  refine wpAnyG_take (i := 20) (v := ?_) rfl (by kernel_rfl) (by kernel_rfl) (by kernel_rfl) (by kernel_rfl) (fun _ _ _ h => h) (Or.inl ⟨by rfl, ?_⟩) HD.out ?_
  rotate_left
  · intro V HV
    go_simp
    try with_reducible rfl
  refine wpAnyG_take (i := 21) (v := ?_) rfl (by kernel_rfl) (by kernel_rfl) (by kernel_rfl) (by kernel_rfl) (fun _ _ _ h => h) (Or.inl ⟨by rfl, ?_⟩) HD.out ?_
  rotate_left
  · intro V HV
    have z0 := (HV.cell (p := ⟨w.heap.size + 1, 5, none⟩) l1).trans (O1.out.cell 5 rfl)
    go_simp
    try with_reducible rfl
  refine wpAnyG_take (i := 22) (v := ?_) rfl (by kernel_rfl) (by kernel_rfl) (by kernel_rfl) (by kernel_rfl) (fun _ _ _ h => h) (Or.inl ⟨by rfl, ?_⟩) HD.out ?_
  rotate_left
  · intro V HV
    have z0 := (HV.cell (p := ⟨w.heap.size, 0, none⟩) l0).trans (O0.out.cell 0 rfl)
    have z1 := (HV.cell (p := ⟨w.heap.size, 1, none⟩) l0).trans (O0.out.cell 1 rfl)
    go_simp
    try with_reducible rfl
  refine wpAnyG_take (i := 23) (v := ?_) rfl (by kernel_rfl) (by kernel_rfl) (by kernel_rfl) (by kernel_rfl) (fun _ _ _ h => h) (Or.inl ⟨by rfl, ?_⟩) HD.out ?_
  rotate_left
  · intro V HV
    go_simp
    try with_reducible rfl
  refine wpAnyG_take (i := 25) (v := ?_) rfl (by kernel_rfl) (by kernel_rfl) (by kernel_rfl) (by kernel_rfl) (fun _ _ _ h => h) (Or.inl ⟨by rfl, ?_⟩) HD.out ?_
  rotate_left
  · intro V HV
    go_simp
    try with_reducible rfl
  refine wpAnyG_take (i := 26) (v := ?_) rfl (by kernel_rfl) (by kernel_rfl) (by kernel_rfl) (by kernel_rfl) (fun _ _ _ h => h) (Or.inl ⟨by rfl, ?_⟩) HD.out ?_
  rotate_left
  · intro V HV
    have z0 := (HV.cell (p := ⟨w.heap.size + 1, 6, none⟩) l1).trans (O1.out.cell 6 rfl)
    go_simp
    try with_reducible rfl
  refine wpAnyG_take (i := 27) (v := ?_) rfl (by kernel_rfl) (by kernel_rfl) (by kernel_rfl) (by kernel_rfl) (fun _ _ _ h => h) (Or.inl ⟨by rfl, ?_⟩) HD.out ?_
  rotate_left
  · intro V HV
    have z0 := (HV.cell (p := ⟨w.heap.size, 0, none⟩) l0).trans (O0.out.cell 0 rfl)
    have z1 := (HV.cell (p := ⟨w.heap.size, 1, none⟩) l0).trans (O0.out.cell 1 rfl)
    go_simp
    try with_reducible rfl
  refine wpAnyG_take (i := 28) (v := ?_) rfl (by kernel_rfl) (by kernel_rfl) (by kernel_rfl) (by kernel_rfl) (fun _ _ _ h => h) (Or.inl ⟨by rfl, ?_⟩) HD.out ?_
  rotate_left
  · intro V HV
    go_simp
    try with_reducible rfl
  refine wpAnyG_take (i := 30) (v := ?_) rfl (by kernel_rfl) (by kernel_rfl) (by kernel_rfl) (by kernel_rfl) (fun _ _ _ h => h) (Or.inl ⟨by rfl, ?_⟩) HD.out ?_
  rotate_left
  · intro V HV
    go_simp
    try with_reducible rfl
  refine wpAnyG_take (i := 31) (v := ?_) rfl (by kernel_rfl) (by kernel_rfl) (by kernel_rfl) (by kernel_rfl) (fun _ _ _ h => h) (Or.inl ⟨by rfl, ?_⟩) HD.out ?_
  rotate_left
  · intro V HV
    have z0 := (HV.cell (p := ⟨w.heap.size + 1, 7, none⟩) l1).trans (O1.out.cell 7 rfl)
    go_simp
    try with_reducible rfl
  refine wpAnyG_take (i := 33) (v := ?_) rfl (by kernel_rfl) (by kernel_rfl) (by kernel_rfl) (by kernel_rfl) (fun _ _ _ h => h) (Or.inl ⟨by rfl, ?_⟩) HD.out ?_
  rotate_left
  · intro V HV
    go_simp
    try with_reducible rfl
  refine wpAnyG_take (i := 34) (v := ?_) rfl (by kernel_rfl) (by kernel_rfl) (by kernel_rfl) (by kernel_rfl) (fun _ _ _ h => h) (Or.inl ⟨by rfl, ?_⟩) HD.out ?_
  rotate_left
  · intro V HV
    have z0 := (HV.cell (p := ⟨w.heap.size + 1, 8, none⟩) l1).trans (O1.out.cell 8 rfl)
    go_simp
    try with_reducible rfl
  refine wpAnyG_take (i := 36) (v := ?_) rfl (by kernel_rfl) (by kernel_rfl) (by kernel_rfl) (by kernel_rfl) (fun _ _ _ h => h) (Or.inl ⟨by rfl, ?_⟩) HD.out ?_
  rotate_left
  · intro V HV
    go_simp
    try with_reducible rfl
  refine wpAnyG_take (i := 37) (v := ?_) rfl (by kernel_rfl) (by kernel_rfl) (by kernel_rfl) (by kernel_rfl) (fun _ _ _ h => h) (Or.inl ⟨by rfl, ?_⟩) HD.out ?_
  rotate_left
  · intro V HV
    have z0 := (HV.cell (p := ⟨w.heap.size + 1, 9, none⟩) l1).trans (O1.out.cell 9 rfl)
    go_simp
    try with_reducible rfl
  refine wpAnyG_take (i := 39) (v := ?_) rfl (by kernel_rfl) (by kernel_rfl) (by kernel_rfl) (by kernel_rfl) (fun _ _ _ h => h) (Or.inl ⟨by rfl, ?_⟩) HD.out ?_
  rotate_left
  · intro V HV
    have z0 := (HV.cell (p := ⟨w.heap.size, 0, none⟩) l0).trans (O0.out.cell 0 rfl)
    have z1 := (HV.cell (p := ⟨w.heap.size, 1, none⟩) l0).trans (O0.out.cell 1 rfl)
    go_simp
    try with_reducible rfl
  refine wpAnyG_take (i := 40) (v := ?_) rfl (by kernel_rfl) (by kernel_rfl) (by kernel_rfl) (by kernel_rfl) (fun _ _ _ h => h) (Or.inl ⟨by rfl, ?_⟩) HD.out ?_
  rotate_left
  · intro V HV
    go_simp
    try with_reducible rfl
  refine wpAnyG_take (i := 41) (v := ?_) rfl (by kernel_rfl) (by kernel_rfl) (by kernel_rfl) (by kernel_rfl) (fun _ _ _ h => h) (Or.inl ⟨by rfl, ?_⟩) HD.out ?_
  rotate_left
  · intro V HV
    have z0 := (HV.cell (p := ⟨w.heap.size + 1, 10, none⟩) l1).trans (O1.out.cell 10 rfl)
    go_simp
    try with_reducible rfl
  refine wpAnyG_all (rs := [2]) (by kernel_rfl) (by simp) ?_
  intro i hi
  obtain rfl : i = 2 := by simpa using hi
  clear hi
  refine wpOp_listV rfl ?_
  intro Q' hQ'
  have HQ : Hid _ := hQ'
  clear hQ'
  go_wp2_with fail
  refine Calls.mono (kclone_any s0 _ h0) ?_
  rintro e w4 ⟨rfl, hbl⟩
  have HB4 : Hid (Below W.heap.size W w4) := HD.out.trans (hbl.mono HD.out.size)
  clear hbl
  go_wp2
  refine HQ.out _ _ ⟨.inr HB4.out, ?_⟩
  clear HQ
  refine wpAnyG_all (rs := [7]) (by kernel_rfl) (by simp) ?_
  intro i hi
  obtain rfl : i = 7 := by simpa using hi
  clear hi
  refine wpOp_listV rfl ?_
  intro Q' hQ'
  have HQ : Hid _ := hQ'
  clear hQ'
  go_wp2_with fail
  refine Calls.mono (kfields_any A ⟨hA _ (by decide), hA _ (by decide)⟩ 1 a1 n1 k1 m1 _ (show Hid _ from Src.under (Src.under h1.out HB.out) HB4.out)) ?_
  rintro e w5 ⟨v, rfl, hcp, hbl⟩
  have HB5 : Hid (Below W.heap.size W w5) := HB4.out.trans (hbl.mono HB4.out.size)
  obtain ⟨p1, r1, rfl⟩ := cpy_ls hcp
  have C1_5 : Hid (Cpy w5 W.heap.size A 33 (.ls a1 n1 k1 m1) (.slice p1 n1 r1)) := hcp.from HB4.out.size
  clear hcp
  clear hbl
  go_wp2
  refine HQ.out _ _ ⟨.inr HB5.out, ?_⟩
  clear HQ
  refine wpAnyG_all (rs := [11]) (by kernel_rfl) (by simp) ?_
  intro i hi
  obtain rfl : i = 11 := by simpa using hi
  clear hi
  refine wpOp_listV rfl ?_
  intro Q' hQ'
  have HQ : Hid _ := hQ'
  clear hQ'
  go_wp2_with fail
  refine Calls.mono (kmsgs0 _ _) ?_
  rintro e w6 ⟨rfl, hbl⟩
  have HB6 : Hid (Below W.heap.size W w6) := HB5.out.trans (hbl.mono HB5.out.size)
  have C1_6 : Hid (Cpy w6 W.heap.size A 33 (.ls a1 n1 k1 m1) (.slice p1 n1 r1)) := Cpy.under C1_5.out hbl
  clear C1_5
  clear hbl
  go_wp2
  refine HQ.out _ _ ⟨.inr HB6.out, ?_⟩
  clear HQ
  refine wpAnyG_all (rs := [16]) (by kernel_rfl) (by simp) ?_
  intro i hi
  obtain rfl : i = 16 := by simpa using hi
  clear hi
  refine wpOp_listV rfl ?_
  intro Q' hQ'
  have HQ : Hid _ := hQ'
  clear hQ'
  go_wp2_with fail
  refine Calls.mono (kenums_any A ⟨hA _ (by decide), hA _ (by decide), hA _ (by decide)⟩ 1 a3 n3 k3 m3 _ (show Hid _ from Src.under (Src.under h3.out HB.out) HB6.out)) ?_
  rintro e w7 ⟨v, rfl, hcp, hbl⟩
  have HB7 : Hid (Below W.heap.size W w7) := HB6.out.trans (hbl.mono HB6.out.size)
  have C1_7 : Hid (Cpy w7 W.heap.size A 33 (.ls a1 n1 k1 m1) (.slice p1 n1 r1)) := Cpy.under C1_6.out hbl
  clear C1_6
  obtain ⟨p3, r3, rfl⟩ := cpy_ls hcp
  have C3_7 : Hid (Cpy w7 W.heap.size A 35 (.ls a3 n3 k3 m3) (.slice p3 n3 r3)) := hcp.from HB6.out.size
  clear hcp
  clear hbl
  go_wp2
  refine HQ.out _ _ ⟨.inr HB7.out, ?_⟩
  clear HQ
  refine wpAnyG_all (rs := [19]) (by kernel_rfl) (by simp) ?_
  intro i hi
  obtain rfl : i = 19 := by simpa using hi
  clear hi
  refine wpOp_listV rfl ?_
  intro Q' hQ'
  have HQ : Hid _ := hQ'
  clear hQ'
  go_wp2_with fail
  refine Calls.mono (kranges_any A (hA _ (by decide)) a4 n4 k4 m4 _ (show Hid _ from Src.under (Src.under h4.out HB.out) HB7.out)) ?_
  rintro e w8 ⟨v, rfl, hcp, hbl⟩
  have HB8 : Hid (Below W.heap.size W w8) := HB7.out.trans (hbl.mono HB7.out.size)
  have C1_8 : Hid (Cpy w8 W.heap.size A 33 (.ls a1 n1 k1 m1) (.slice p1 n1 r1)) := Cpy.under C1_7.out hbl
  have C3_8 : Hid (Cpy w8 W.heap.size A 35 (.ls a3 n3 k3 m3) (.slice p3 n3 r3)) := Cpy.under C3_7.out hbl
  clear C1_7 C3_7
  obtain ⟨p4, r4, rfl⟩ := cpy_ls hcp
  have C4_8 : Hid (Cpy w8 W.heap.size A 36 (.ls a4 n4 k4 m4) (.slice p4 n4 r4)) := hcp.from HB7.out.size
  clear hcp
  clear hbl
  go_wp2
  refine HQ.out _ _ ⟨.inr HB8.out, ?_⟩
  clear HQ
  refine wpAnyG_all (rs := [24]) (by kernel_rfl) (by simp) ?_
  intro i hi
  obtain rfl : i = 24 := by simpa using hi
  clear hi
  refine wpOp_listV rfl ?_
  intro Q' hQ'
  have HQ : Hid _ := hQ'
  clear hQ'
  go_wp2_with fail
  refine Calls.mono (kfields_any A ⟨hA _ (by decide), hA _ (by decide)⟩ 1 a5 n5 k5 m5 _ (show Hid _ from Src.under (Src.under h5.out HB.out) HB8.out)) ?_
  rintro e w9 ⟨v, rfl, hcp, hbl⟩
  have HB9 : Hid (Below W.heap.size W w9) := HB8.out.trans (hbl.mono HB8.out.size)
  have C1_9 : Hid (Cpy w9 W.heap.size A 33 (.ls a1 n1 k1 m1) (.slice p1 n1 r1)) := Cpy.under C1_8.out hbl
  have C3_9 : Hid (Cpy w9 W.heap.size A 35 (.ls a3 n3 k3 m3) (.slice p3 n3 r3)) := Cpy.under C3_8.out hbl
  have C4_9 : Hid (Cpy w9 W.heap.size A 36 (.ls a4 n4 k4 m4) (.slice p4 n4 r4)) := Cpy.under C4_8.out hbl
  clear C1_8 C3_8 C4_8
  obtain ⟨p5, r5, rfl⟩ := cpy_ls hcp
  have C5_9 : Hid (Cpy w9 W.heap.size A 33 (.ls a5 n5 k5 m5) (.slice p5 n5 r5)) := hcp.from HB8.out.size
  clear hcp
  clear hbl
  go_wp2
  refine HQ.out _ _ ⟨.inr HB9.out, ?_⟩
  clear HQ
  refine wpAnyG_all (rs := [29]) (by kernel_rfl) (by simp) ?_
  intro i hi
  obtain rfl : i = 29 := by simpa using hi
  clear hi
  refine wpOp_listV rfl ?_
  intro Q' hQ'
  have HQ : Hid _ := hQ'
  clear hQ'
  go_wp2_with fail
  refine Calls.mono (koneofs_any A ⟨hA _ (by decide), hA _ (by decide)⟩ 1 a6 n6 k6 m6 _ (show Hid _ from Src.under (Src.under h6.out HB.out) HB9.out)) ?_
  rintro e w10 ⟨v, rfl, hcp, hbl⟩
  have HB10 : Hid (Below W.heap.size W w10) := HB9.out.trans (hbl.mono HB9.out.size)
  have C1_10 : Hid (Cpy w10 W.heap.size A 33 (.ls a1 n1 k1 m1) (.slice p1 n1 r1)) := Cpy.under C1_9.out hbl
  have C3_10 : Hid (Cpy w10 W.heap.size A 35 (.ls a3 n3 k3 m3) (.slice p3 n3 r3)) := Cpy.under C3_9.out hbl
  have C4_10 : Hid (Cpy w10 W.heap.size A 36 (.ls a4 n4 k4 m4) (.slice p4 n4 r4)) := Cpy.under C4_9.out hbl
  have C5_10 : Hid (Cpy w10 W.heap.size A 33 (.ls a5 n5 k5 m5) (.slice p5 n5 r5)) := Cpy.under C5_9.out hbl
  clear C1_9 C3_9 C4_9 C5_9
  obtain ⟨p6, r6, rfl⟩ := cpy_ls hcp
  have C6_10 : Hid (Cpy w10 W.heap.size A 37 (.ls a6 n6 k6 m6) (.slice p6 n6 r6)) := hcp.from HB9.out.size
  clear hcp
  clear hbl
  go_wp2
  refine HQ.out _ _ ⟨.inr HB10.out, ?_⟩
  clear HQ
  refine wpAnyG_all (rs := [32]) (by kernel_rfl) (by simp) ?_
  intro i hi
  obtain rfl : i = 32 := by simpa using hi
  clear hi
  refine wpOp_listV rfl ?_
  intro Q' hQ'
  have HQ : Hid _ := hQ'
  clear hQ'
  go_wp2_with fail
  refine Calls.mono (kranges_any A (hA _ (by decide)) a7 n7 k7 m7 _ (show Hid _ from Src.under (Src.under h7.out HB.out) HB10.out)) ?_
  rintro e w11 ⟨v, rfl, hcp, hbl⟩
  have HB11 : Hid (Below W.heap.size W w11) := HB10.out.trans (hbl.mono HB10.out.size)
  have C1_11 : Hid (Cpy w11 W.heap.size A 33 (.ls a1 n1 k1 m1) (.slice p1 n1 r1)) := Cpy.under C1_10.out hbl
  have C3_11 : Hid (Cpy w11 W.heap.size A 35 (.ls a3 n3 k3 m3) (.slice p3 n3 r3)) := Cpy.under C3_10.out hbl
  have C4_11 : Hid (Cpy w11 W.heap.size A 36 (.ls a4 n4 k4 m4) (.slice p4 n4 r4)) := Cpy.under C4_10.out hbl
  have C5_11 : Hid (Cpy w11 W.heap.size A 33 (.ls a5 n5 k5 m5) (.slice p5 n5 r5)) := Cpy.under C5_10.out hbl
  have C6_11 : Hid (Cpy w11 W.heap.size A 37 (.ls a6 n6 k6 m6) (.slice p6 n6 r6)) := Cpy.under C6_10.out hbl
  clear C1_10 C3_10 C4_10 C5_10 C6_10
  obtain ⟨p7, r7, rfl⟩ := cpy_ls hcp
  have C7_11 : Hid (Cpy w11 W.heap.size A 36 (.ls a7 n7 k7 m7) (.slice p7 n7 r7)) := hcp.from HB10.out.size
  clear hcp
  clear hbl
  go_wp2
  refine HQ.out _ _ ⟨.inr HB11.out, ?_⟩
  clear HQ
  refine wpAnyG_all (rs := [35]) (by kernel_rfl) (by simp) ?_
  intro i hi
  obtain rfl : i = 35 := by simpa using hi
  clear hi
  refine wpOp_listV rfl ?_
  intro Q' hQ'
  have HQ : Hid _ := hQ'
  clear hQ'
  go_wp2_with fail
  refine Calls.mono (ktexts_any A (hA _ (by decide)) a8 n8 k8 m8 _ (show Hid _ from Src.under (Src.under h8.out HB.out) HB11.out)) ?_
  rintro e w12 ⟨v, rfl, hcp, hbl⟩
  have HB12 : Hid (Below W.heap.size W w12) := HB11.out.trans (hbl.mono HB11.out.size)
  have C1_12 : Hid (Cpy w12 W.heap.size A 33 (.ls a1 n1 k1 m1) (.slice p1 n1 r1)) := Cpy.under C1_11.out hbl
  have C3_12 : Hid (Cpy w12 W.heap.size A 35 (.ls a3 n3 k3 m3) (.slice p3 n3 r3)) := Cpy.under C3_11.out hbl
  have C4_12 : Hid (Cpy w12 W.heap.size A 36 (.ls a4 n4 k4 m4) (.slice p4 n4 r4)) := Cpy.under C4_11.out hbl
  have C5_12 : Hid (Cpy w12 W.heap.size A 33 (.ls a5 n5 k5 m5) (.slice p5 n5 r5)) := Cpy.under C5_11.out hbl
  have C6_12 : Hid (Cpy w12 W.heap.size A 37 (.ls a6 n6 k6 m6) (.slice p6 n6 r6)) := Cpy.under C6_11.out hbl
  have C7_12 : Hid (Cpy w12 W.heap.size A 36 (.ls a7 n7 k7 m7) (.slice p7 n7 r7)) := Cpy.under C7_11.out hbl
  clear C1_11 C3_11 C4_11 C5_11 C6_11 C7_11
  obtain ⟨p8, r8, rfl⟩ := cpy_ls hcp
  have C8_12 : Hid (Cpy w12 W.heap.size A 30 (.ls a8 n8 k8 m8) (.slice p8 n8 r8)) := hcp.from HB11.out.size
  clear hcp
  clear hbl
  go_wp2
  refine HQ.out _ _ ⟨.inr HB12.out, ?_⟩
  clear HQ
  refine wpAnyG_all (rs := [38]) (by kernel_rfl) (by simp) ?_
  intro i hi
  obtain rfl : i = 38 := by simpa using hi
  clear hi
  refine wpOp_listV rfl ?_
  intro Q' hQ'
  have HQ : Hid _ := hQ'
  clear hQ'
  go_wp2_with fail
  refine Calls.mono (kbytes_any A (hA _ (by decide)) a9 n9 k9 m9 _ (show Hid _ from ((h9.out.under HB.out).under HB12.out).1) (show Hid _ from h9.out.2)) ?_
  rintro e w13 ⟨v, rfl, hcp, hbl⟩
  have HB13 : Hid (Below W.heap.size W w13) := HB12.out.trans (hbl.mono HB12.out.size)
  have C1_13 : Hid (Cpy w13 W.heap.size A 33 (.ls a1 n1 k1 m1) (.slice p1 n1 r1)) := Cpy.under C1_12.out hbl
  have C3_13 : Hid (Cpy w13 W.heap.size A 35 (.ls a3 n3 k3 m3) (.slice p3 n3 r3)) := Cpy.under C3_12.out hbl
  have C4_13 : Hid (Cpy w13 W.heap.size A 36 (.ls a4 n4 k4 m4) (.slice p4 n4 r4)) := Cpy.under C4_12.out hbl
  have C5_13 : Hid (Cpy w13 W.heap.size A 33 (.ls a5 n5 k5 m5) (.slice p5 n5 r5)) := Cpy.under C5_12.out hbl
  have C6_13 : Hid (Cpy w13 W.heap.size A 37 (.ls a6 n6 k6 m6) (.slice p6 n6 r6)) := Cpy.under C6_12.out hbl
  have C7_13 : Hid (Cpy w13 W.heap.size A 36 (.ls a7 n7 k7 m7) (.slice p7 n7 r7)) := Cpy.under C7_12.out hbl
  have C8_13 : Hid (Cpy w13 W.heap.size A 30 (.ls a8 n8 k8 m8) (.slice p8 n8 r8)) := Cpy.under C8_12.out hbl
  clear C1_12 C3_12 C4_12 C5_12 C6_12 C7_12 C8_12
  obtain ⟨p9, r9, rfl⟩ := cpy_ls hcp
  have C9_13 : Hid (Cpy w13 W.heap.size A 38 (.ls a9 n9 k9 m9) (.slice p9 n9 r9)) := hcp.from HB12.out.size
  clear hcp
  clear hbl
  go_wp2
  refine HQ.out _ _ ⟨.inr HB13.out, ?_⟩
  clear HQ
  refine wpAnyG_all (rs := [42]) (by kernel_rfl) (by simp) ?_
  intro i hi
  obtain rfl : i = 42 := by simpa using hi
  clear hi
  refine wpOp_listV rfl ?_
  intro Q' hQ'
  have HQ : Hid _ := hQ'
  clear hQ'
  go_wp2_with fail
  refine Calls.mono (kunk_any A (hA _ (by decide)) (.int .i64 1) a10 n10 k10 m10 _ (show Hid _ from ((h10.out.under HB.out).under HB13.out).1) (show Hid _ from h10.out.2)) ?_
  rintro e w14 ⟨v, rfl, hcp, hbl⟩
  have HB14 : Hid (Below W.heap.size W w14) := HB13.out.trans (hbl.mono HB13.out.size)
  have C1_14 : Hid (Cpy w14 W.heap.size A 33 (.ls a1 n1 k1 m1) (.slice p1 n1 r1)) := Cpy.under C1_13.out hbl
  have C3_14 : Hid (Cpy w14 W.heap.size A 35 (.ls a3 n3 k3 m3) (.slice p3 n3 r3)) := Cpy.under C3_13.out hbl
  have C4_14 : Hid (Cpy w14 W.heap.size A 36 (.ls a4 n4 k4 m4) (.slice p4 n4 r4)) := Cpy.under C4_13.out hbl
  have C5_14 : Hid (Cpy w14 W.heap.size A 33 (.ls a5 n5 k5 m5) (.slice p5 n5 r5)) := Cpy.under C5_13.out hbl
  have C6_14 : Hid (Cpy w14 W.heap.size A 37 (.ls a6 n6 k6 m6) (.slice p6 n6 r6)) := Cpy.under C6_13.out hbl
  have C7_14 : Hid (Cpy w14 W.heap.size A 36 (.ls a7 n7 k7 m7) (.slice p7 n7 r7)) := Cpy.under C7_13.out hbl
  have C8_14 : Hid (Cpy w14 W.heap.size A 30 (.ls a8 n8 k8 m8) (.slice p8 n8 r8)) := Cpy.under C8_13.out hbl
  have C9_14 : Hid (Cpy w14 W.heap.size A 38 (.ls a9 n9 k9 m9) (.slice p9 n9 r9)) := Cpy.under C9_13.out hbl
  clear C1_13 C3_13 C4_13 C5_13 C6_13 C7_13 C8_13 C9_13
  obtain ⟨p10, r10, rfl⟩ := cpy_ls hcp
  have C10_14 : Hid (Cpy w14 W.heap.size A 38 (.ls a10 n10 k10 m10) (.slice p10 n10 r10)) := hcp.from HB13.out.size
  clear hcp
  clear hbl
  go_wp2
  refine HQ.out _ _ ⟨.inr HB14.out, ?_⟩
  clear HQ
  refine wpAnyG_take (i := 43) (v := ?_) rfl (by kernel_rfl) (by kernel_rfl) (by kernel_rfl) (by kernel_rfl) (fun _ _ _ h => h) (Or.inl ⟨by rfl, ?_⟩) HB14.out ?_
  rotate_left
  · intro V HV
    go_simp
    try with_reducible rfl
  refine wpAnyG_all (rs := [44]) (by kernel_rfl) (by simp) ?_
  intro i hi
  obtain rfl : i = 44 := by simpa using hi
  clear hi
  refine wpOp_listV rfl ?_
  intro Q' hQ'
  have HQ : Hid _ := hQ'
  clear hQ'
  have O2' : Hid _ := O2.out.below HB14.out l2
  obtain ⟨⟨y0, y1, y2, y3, y4, y5, y6, y7, y8, y9, y10⟩, ⟨g0, g1, g2, g3, g4, g5, g6, g7, g8, g9, g10⟩, l2'⟩ := ob11 (show Ob w14 (w.heap.size + 1 + 1) #[.string ⟨#[]⟩, .slice none 0 0, .slice none 0 0, .slice none 0 0, .slice none 0 0, .slice none 0 0, .slice none 0 0, .slice none 0 0, .slice none 0 0, .slice none 0 0, .slice none 0 0] 40 from O2'.out)
  go_wp2
  refine HQ.out _ _ ⟨.inl trivial, ?_⟩
  clear HQ
  refine wpAnyG_done (by kernel_rfl) ?_ _
  go_wp2
  refine bodyPost_ret (v := .agg #[.string s0, .slice p1 n1 r1, .slice none 0 0, .slice p3 n3 r3, .slice p4 n4 r4, .slice p5 n5 r5, .slice p6 n6 r6, .slice p7 n7 r7, .slice p8 n8 r8, .slice p9 n9 r9, .slice p10 n10 r10]) (by simp [results, Tryz.results42, go_sem, y0, y1, y2, y3, y4, y5, y6, y7, y8, y9, y10]) rfl ⟨_, _, _, _, _, _, _, _, _, _, _, _, _, _, _, _, _, _, rfl, ?_, ?_⟩
  · exact CpyL.cons (Cpy.str s0) (CpyL.cons (Cpy.from (Cpy.set (Cpy.set (Cpy.set (Cpy.set (Cpy.set (Cpy.set (Cpy.set (Cpy.set (Cpy.set (Cpy.set (Cpy.set (C1_14.out) (b := w.heap.size + 1 + 1) l2 0 _) (b := w.heap.size + 1 + 1) l2 1 _) (b := w.heap.size + 1 + 1) l2 2 _) (b := w.heap.size + 1 + 1) l2 3 _) (b := w.heap.size + 1 + 1) l2 4 _) (b := w.heap.size + 1 + 1) l2 5 _) (b := w.heap.size + 1 + 1) l2 6 _) (b := w.heap.size + 1 + 1) l2 7 _) (b := w.heap.size + 1 + 1) l2 8 _) (b := w.heap.size + 1 + 1) l2 9 _) (b := w.heap.size + 1 + 1) l2 10 _) HB.out.size) (CpyL.cons (Cpy.void Tryz.underlying34 (hA _ (by decide))) (CpyL.cons (Cpy.from (Cpy.set (Cpy.set (Cpy.set (Cpy.set (Cpy.set (Cpy.set (Cpy.set (Cpy.set (Cpy.set (Cpy.set (Cpy.set (C3_14.out) (b := w.heap.size + 1 + 1) l2 0 _) (b := w.heap.size + 1 + 1) l2 1 _) (b := w.heap.size + 1 + 1) l2 2 _) (b := w.heap.size + 1 + 1) l2 3 _) (b := w.heap.size + 1 + 1) l2 4 _) (b := w.heap.size + 1 + 1) l2 5 _) (b := w.heap.size + 1 + 1) l2 6 _) (b := w.heap.size + 1 + 1) l2 7 _) (b := w.heap.size + 1 + 1) l2 8 _) (b := w.heap.size + 1 + 1) l2 9 _) (b := w.heap.size + 1 + 1) l2 10 _) HB.out.size) (CpyL.cons (Cpy.from (Cpy.set (Cpy.set (Cpy.set (Cpy.set (Cpy.set (Cpy.set (Cpy.set (Cpy.set (Cpy.set (Cpy.set (Cpy.set (C4_14.out) (b := w.heap.size + 1 + 1) l2 0 _) (b := w.heap.size + 1 + 1) l2 1 _) (b := w.heap.size + 1 + 1) l2 2 _) (b := w.heap.size + 1 + 1) l2 3 _) (b := w.heap.size + 1 + 1) l2 4 _) (b := w.heap.size + 1 + 1) l2 5 _) (b := w.heap.size + 1 + 1) l2 6 _) (b := w.heap.size + 1 + 1) l2 7 _) (b := w.heap.size + 1 + 1) l2 8 _) (b := w.heap.size + 1 + 1) l2 9 _) (b := w.heap.size + 1 + 1) l2 10 _) HB.out.size) (CpyL.cons (Cpy.from (Cpy.set (Cpy.set (Cpy.set (Cpy.set (Cpy.set (Cpy.set (Cpy.set (Cpy.set (Cpy.set (Cpy.set (Cpy.set (C5_14.out) (b := w.heap.size + 1 + 1) l2 0 _) (b := w.heap.size + 1 + 1) l2 1 _) (b := w.heap.size + 1 + 1) l2 2 _) (b := w.heap.size + 1 + 1) l2 3 _) (b := w.heap.size + 1 + 1) l2 4 _) (b := w.heap.size + 1 + 1) l2 5 _) (b := w.heap.size + 1 + 1) l2 6 _) (b := w.heap.size + 1 + 1) l2 7 _) (b := w.heap.size + 1 + 1) l2 8 _) (b := w.heap.size + 1 + 1) l2 9 _) (b := w.heap.size + 1 + 1) l2 10 _) HB.out.size) (CpyL.cons (Cpy.from (Cpy.set (Cpy.set (Cpy.set (Cpy.set (Cpy.set (Cpy.set (Cpy.set (Cpy.set (Cpy.set (Cpy.set (Cpy.set (C6_14.out) (b := w.heap.size + 1 + 1) l2 0 _) (b := w.heap.size + 1 + 1) l2 1 _) (b := w.heap.size + 1 + 1) l2 2 _) (b := w.heap.size + 1 + 1) l2 3 _) (b := w.heap.size + 1 + 1) l2 4 _) (b := w.heap.size + 1 + 1) l2 5 _) (b := w.heap.size + 1 + 1) l2 6 _) (b := w.heap.size + 1 + 1) l2 7 _) (b := w.heap.size + 1 + 1) l2 8 _) (b := w.heap.size + 1 + 1) l2 9 _) (b := w.heap.size + 1 + 1) l2 10 _) HB.out.size) (CpyL.cons (Cpy.from (Cpy.set (Cpy.set (Cpy.set (Cpy.set (Cpy.set (Cpy.set (Cpy.set (Cpy.set (Cpy.set (Cpy.set (Cpy.set (C7_14.out) (b := w.heap.size + 1 + 1) l2 0 _) (b := w.heap.size + 1 + 1) l2 1 _) (b := w.heap.size + 1 + 1) l2 2 _) (b := w.heap.size + 1 + 1) l2 3 _) (b := w.heap.size + 1 + 1) l2 4 _) (b := w.heap.size + 1 + 1) l2 5 _) (b := w.heap.size + 1 + 1) l2 6 _) (b := w.heap.size + 1 + 1) l2 7 _) (b := w.heap.size + 1 + 1) l2 8 _) (b := w.heap.size + 1 + 1) l2 9 _) (b := w.heap.size + 1 + 1) l2 10 _) HB.out.size) (CpyL.cons (Cpy.from (Cpy.set (Cpy.set (Cpy.set (Cpy.set (Cpy.set (Cpy.set (Cpy.set (Cpy.set (Cpy.set (Cpy.set (Cpy.set (C8_14.out) (b := w.heap.size + 1 + 1) l2 0 _) (b := w.heap.size + 1 + 1) l2 1 _) (b := w.heap.size + 1 + 1) l2 2 _) (b := w.heap.size + 1 + 1) l2 3 _) (b := w.heap.size + 1 + 1) l2 4 _) (b := w.heap.size + 1 + 1) l2 5 _) (b := w.heap.size + 1 + 1) l2 6 _) (b := w.heap.size + 1 + 1) l2 7 _) (b := w.heap.size + 1 + 1) l2 8 _) (b := w.heap.size + 1 + 1) l2 9 _) (b := w.heap.size + 1 + 1) l2 10 _) HB.out.size) (CpyL.cons (Cpy.from (Cpy.set (Cpy.set (Cpy.set (Cpy.set (Cpy.set (Cpy.set (Cpy.set (Cpy.set (Cpy.set (Cpy.set (Cpy.set (C9_14.out) (b := w.heap.size + 1 + 1) l2 0 _) (b := w.heap.size + 1 + 1) l2 1 _) (b := w.heap.size + 1 + 1) l2 2 _) (b := w.heap.size + 1 + 1) l2 3 _) (b := w.heap.size + 1 + 1) l2 4 _) (b := w.heap.size + 1 + 1) l2 5 _) (b := w.heap.size + 1 + 1) l2 6 _) (b := w.heap.size + 1 + 1) l2 7 _) (b := w.heap.size + 1 + 1) l2 8 _) (b := w.heap.size + 1 + 1) l2 9 _) (b := w.heap.size + 1 + 1) l2 10 _) HB.out.size) (CpyL.cons (Cpy.from (Cpy.set (Cpy.set (Cpy.set (Cpy.set (Cpy.set (Cpy.set (Cpy.set (Cpy.set (Cpy.set (Cpy.set (Cpy.set (C10_14.out) (b := w.heap.size + 1 + 1) l2 0 _) (b := w.heap.size + 1 + 1) l2 1 _) (b := w.heap.size + 1 + 1) l2 2 _) (b := w.heap.size + 1 + 1) l2 3 _) (b := w.heap.size + 1 + 1) l2 4 _) (b := w.heap.size + 1 + 1) l2 5 _) (b := w.heap.size + 1 + 1) l2 6 _) (b := w.heap.size + 1 + 1) l2 7 _) (b := w.heap.size + 1 + 1) l2 8 _) (b := w.heap.size + 1 + 1) l2 9 _) (b := w.heap.size + 1 + 1) l2 10 _) HB.out.size) (CpyL.nil _ _ _)))))))))))
  · exact (((((((((((HB.out.trans (HB14.out.mono HB.out.size)).setCell (p := ⟨w.heap.size + 1 + 1, 0, none⟩) (by simp; omega) _).setCell (p := ⟨w.heap.size + 1 + 1, 1, none⟩) (by simp; omega) _).setCell (p := ⟨w.heap.size + 1 + 1, 2, none⟩) (by simp; omega) _).setCell (p := ⟨w.heap.size + 1 + 1, 3, none⟩) (by simp; omega) _).setCell (p := ⟨w.heap.size + 1 + 1, 4, none⟩) (by simp; omega) _).setCell (p := ⟨w.heap.size + 1 + 1, 5, none⟩) (by simp; omega) _).setCell (p := ⟨w.heap.size + 1 + 1, 6, none⟩) (by simp; omega) _).setCell (p := ⟨w.heap.size + 1 + 1, 7, none⟩) (by simp; omega) _).setCell (p := ⟨w.heap.size + 1 + 1, 8, none⟩) (by simp; omega) _).setCell (p := ⟨w.heap.size + 1 + 1, 9, none⟩) (by simp; omega) _).setCell (p := ⟨w.heap.size + 1 + 1, 10, none⟩) (by simp; omega) _

end Go.Proofs.YtafmoceinamcdaaGreat
