/- Put together by a program out of these texts of mine: VUn2. -/
import Derived.Test.YtafmoceinamcdaaGreatBunS44

namespace Go.Proofs.YtafmoceinamcdaaGreat
open Go.RowKit
set_option linter.unusedVariables false
set_option linter.unusedSimpArgs false

theorem new_unit (w : World) (x0 x1 x2 : Value) (t : TypeId) : ∀ (j : Nat) (u : Value), [x0, x1, x2][j]? = some u → (w.alloc (.cells #[x0, x1, x2] t)).cell? (({ block := w.heap.size, off := 0 } : Addr).add j) = some u := by
  intro j u hj
  have hl : j < 3 := (List.getElem?_eq_some_iff.1 hj).1
  match j, hl with
  | 0, _ => simp at hj; subst hj; simp [Addr.add]
  | 1, _ => simp at hj; subst hj; simp [Addr.add]
  | 2, _ => simp at hj; subst hj; simp [Addr.add]

set_option maxRecDepth 100000 in
set_option maxHeartbeats 16000000 in
theorem punits {R : Option Addr → Prop} {W : World} {bp bs be : Nat} {vf : Value} {h : Sy} {n : Nat} {ms : List Md} (hP : Hid (Px R W bp bs be vf h)) (hF : Hid (Fws W vf n ms)) {w0 : World} {a : Option Addr} {c : Nat} (HS0 : Hid (Src w0 22 (.ls a n c ms) ∧ Nm (.ls a n c ms))) (hn : n ≤ 900000000) :
    Calls Tryz.prog 30 #[.pointer (some ⟨bp, 0, none⟩)] W fun e W' => ∃ v, e = .returned v ∧ Cpy W' W.heap.size (fun _ => True) 72 (.ls none n n (unitM ms n)) v ∧ Below W.heap.size W W' := by
  obtain ⟨i0, hi, hz0, hz1, hz2⟩ := info_parts Tryz.infUnit
  obtain ⟨xs, lo, D, hx, hc⟩ := hF.out
  obtain ⟨va, vc, rfl⟩ := own_slice hx
  obtain ⟨nq, gq, hq, _⟩ := hP.out
  have QT : Hid _ := pthere bp va n vc (some bs) (some be) W hq.blk
  have hf0 : ∀ w, (Instr.field 96 (.agg #[.slice va n vc, .map (some bs), .map (some be)]) 0).run Tryz.prog w = .ok (.slice va n vc) w := fun w => by kernel_rfl
  have HROW : Hid (W.ownsRow 0 62 11 (.slice va n vc) n xs ∧ Fcs W lo D ms n xs) := ⟨hx, hc⟩
  have HN : Hid (n ≤ 900000000) := hn
  clear hx hc hq hP hF hn
  go_enter Tryz.func30, Tryz.ntmps30
  go_wp2_with fail
  refine Calls.mono QT.out ?_
  rintro e w1 ⟨rfl, hb1⟩
  have HB1 : Hid (Below W.heap.size W w1) := hb1
  clear hb1 QT
  go_wp2
  go_loopw [3, 10] (fun v i wr => ∃ k : Nat, k ≤ n ∧ i = .int .i64 (k : Int) ∧ Hid (Eac wr W.heap.size (fun X => X ≠ 75) 75 (unitM ms n) k v) ∧ Hid (Below W.heap.size W wr)) (fun _ i _ => n - (intOf i).toNat)
  case atStart => exact ⟨0, Nat.zero_le _, rfl, Eac.nil _ _ _ _ _, HB1.out⟩
  case round =>
    obtain ⟨k, hk, rfl, HE, HW⟩ := hrel
    have hwz := HW.out.size
    have hn9 : n ≤ 900000000 := HN.out
    by_cases hlk : k < n
    · obtain ⟨g, off, s1, s8, p2, p3, p4, p5, p6, p7, p9, p10, r2, r3, n4, r4, n5, r5, n6, r6, n7, r7, n9, r9, n10, r10, e2, e3, rfl, hlt, cc0, cc1, cc2, cc3, cc4, cc5, cc6, cc7, cc8, cc9, cc10, hk2, ha2, hk3, ha3⟩ := fw_at HROW.out.1 HROW.out.2 hlk
      obtain ⟨fb, foff, fs0, fs1, fs8, fa2, fn2, fk2, fm2, fa3, fn3, fk3, fm3, fa4, fn4, fk4, fm4, fa5, fn5, fk5, fm5, fa6, fn6, fk6, fm6, fa7, fn7, fk7, fm7, fa9, fn9, fk9, fm9, fa10, fn10, fk10, fm10, _, _, _, _, _, _, _, _, _, _, _, _, _, hsrc, _, hz, ⟨es0, _⟩, _, ⟨e2', f2', e3', f3'⟩⟩ := file_src2 HS0.out.1 HS0.out.2 hlk
      have hh := unitM_at ms hlk
      rw [e2'] at hk2 cc2
      rw [e3'] at hk3 cc3
      rw [f2'] at ha2
      rw [f3'] at ha3
      rw [e2', f2', e3', f3'] at hh
      rw [es0] at cc0 hh
      subst fs0 fn2 fm2 fn3 fm3
      obtain ⟨s0, hs0⟩ : ∃ s0, s0 = strAt ms (k * 11) := ⟨_, rfl⟩
      obtain ⟨n2, hn2⟩ : ∃ n2, n2 = lsN ms (k * 11 + 2) := ⟨_, rfl⟩
      obtain ⟨m2, hm2⟩ : ∃ m2, m2 = lsM ms (k * 11 + 2) := ⟨_, rfl⟩
      obtain ⟨n3, hn3⟩ : ∃ n3, n3 = lsN ms (k * 11 + 3) := ⟨_, rfl⟩
      obtain ⟨m3, hm3⟩ : ∃ m3, m3 = lsM ms (k * 11 + 3) := ⟨_, rfl⟩
      rw [← hs0] at cc0 hh hz
      rw [← hn2] at hk2 cc2 hh hsrc
      rw [← hm2] at ha2 hh hsrc
      rw [← hn3] at hk3 cc3 hh hsrc
      rw [← hm3] at ha3 hh hsrc
      have HH : Hid _ := hh
      have HZ : Hid (s0.size ≤ 140737488355328) := by have := hz.1; show _ ≤ _; omega
      have HA : Hid (Alk (.ls none n2 0 m2) (.ls p2 n2 r2 e2) ∧ Alk (.ls none n3 0 m3) (.ls p3 n3 r3 e3)) := ⟨.ls ha2.1 ha2.2, .ls ha3.1 ha3.2⟩
      have HSR : Hid (Src W 30 (.ls p2 n2 r2 e2) ∧ Src W 59 (.ls p3 n3 r3 e3)) := ⟨own_src hk2.1 (.ls ha2.1 ha2.2) hsrc.1.1 hsrc.1.2, own_src hk3.1 (.ls ha3.1 ha3.2) hsrc.2.1.1 hsrc.2.1.2⟩
      clear hs0 hn2 hm2 hn3 hm3 hh hz hk2 ha2 hk3 ha3 hsrc
      have d0 := (HW.out.cell (p := ⟨g, off + k * 11, none⟩) hlt).trans cc0
      have d1 := (HW.out.cell (p := ⟨g, off + k * 11 + 1, none⟩) hlt).trans cc1
      have d2 := (HW.out.cell (p := ⟨g, off + k * 11 + 2, none⟩) hlt).trans cc2
      have d3 := (HW.out.cell (p := ⟨g, off + k * 11 + 3, none⟩) hlt).trans cc3
      have d4 := (HW.out.cell (p := ⟨g, off + k * 11 + 4, none⟩) hlt).trans cc4
      have d5 := (HW.out.cell (p := ⟨g, off + k * 11 + 5, none⟩) hlt).trans cc5
      have d6 := (HW.out.cell (p := ⟨g, off + k * 11 + 6, none⟩) hlt).trans cc6
      have d7 := (HW.out.cell (p := ⟨g, off + k * 11 + 7, none⟩) hlt).trans cc7
      have d8 := (HW.out.cell (p := ⟨g, off + k * 11 + 8, none⟩) hlt).trans cc8
      have d9 := (HW.out.cell (p := ⟨g, off + k * 11 + 9, none⟩) hlt).trans cc9
      have d10 := (HW.out.cell (p := ⟨g, off + k * 11 + 10, none⟩) hlt).trans cc10
      have hlw := Nat.lt_of_lt_of_le hlt hwz
      obtain ⟨w2, hw2⟩ : ∃ w2, w2 = wr.alloc (.cells #[.string s0, .string s1, .slice p2 n2 r2, .slice p3 n3 r3, .slice p4 n4 r4, .slice p5 n5 r5, .slice p6 n6 r6, .slice p7 n7 r7, .string s8, .slice p9 n9 r9, .slice p10 n10 r10] 62) := ⟨_, rfl⟩
      have hb2 : Below wr.heap.size wr w2 := by rw [hw2]; exact (Below.refl _ _).alloc (Nat.le_refl _) _
      have O2 : Hid (Ob w2 wr.heap.size #[.string s0, .string s1, .slice p2 n2 r2, .slice p3 n3 r3, .slice p4 n4 r4, .slice p5 n5 r5, .slice p6 n6 r6, .slice p7 n7 r7, .string s8, .slice p9 n9 r9, .slice p10 n10 r10] 62) := by rw [hw2]; exact Ob.new _ _ _
      have HB2 : Hid (Below W.heap.size W w2) := HW.out.trans (hb2.mono hwz)
      have HE2 : Hid (Eac w2 W.heap.size (fun X => X ≠ 75) 75 (unitM ms n) k u3) := HE.out.under hb2
      have HW2 : Hid _ := hw2
      clear cc0 cc1 cc2 cc3 cc4 cc5 cc6 cc7 cc8 cc9 cc10 hlt hb2 hw2 HE
      go_upto_region 5 with fail
      rw [← HW2.out]
      clear HW2 d0 d1 d2 d3 d4 d5 d6 d7 d8 d9 d10
      refine wp_region_heldG 13 (S := fun V => Hid (Ob V wr.heap.size #[.string s0, .string s1, .slice p2 n2 r2, .slice p3 n3 r3, .slice p4 n4 r4, .slice p5 n5 r5, .slice p6 n6 r6, .slice p7 n7 r7, .string s8, .slice p9 n9 r9, .slice p10 n10 r10] 62)) (by kernel_rfl) ?_
      obtain ⟨w3, hw3⟩ : ∃ w3, w3 = w2.drew := ⟨_, rfl⟩
      have hb3 : Below w2.heap.size w2 w3 := by rw [hw3]; exact (Below.refl _ _).drew
      rw [← hw3]
      have HS : Hid (Ob w3 wr.heap.size #[.string s0, .string s1, .slice p2 n2 r2, .slice p3 n3 r3, .slice p4 n4 r4, .slice p5 n5 r5, .slice p6 n6 r6, .slice p7 n7 r7, .string s8, .slice p9 n9 r9, .slice p10 n10 r10] 62) := O2.out.below hb3 O2.out.lt
      have HB3 : Hid (Below W.heap.size W w3) := HB2.out.trans (hb3.mono HB2.out.size)
      have HE3 : Hid (Eac w3 W.heap.size (fun X => X ≠ 75) 75 (unitM ms n) k u3) := HE2.out.under hb3
      clear hw3 hb3 O2 HB2 HE2
      refine wpAnyG_take (i := 0) (v := ?_) rfl (by kernel_rfl) (by kernel_rfl) (by kernel_rfl) (by kernel_rfl) (fun _ _ _ h => h) (Or.inl ⟨by rfl, ?_⟩) HS ?_
      rotate_left
      · rintro V HV
        go_simp
        try with_reducible rfl
      refine wpAnyG_take (i := 1) (v := ?_) rfl (by kernel_rfl) (by kernel_rfl) (by kernel_rfl) (by kernel_rfl) (fun _ _ _ h => h) (Or.inl ⟨by rfl, ?_⟩) HS ?_
      rotate_left
      · rintro V HV
        go_simp
        try with_reducible rfl
      refine wpAnyG_take (i := 2) (v := ?_) rfl (by kernel_rfl) (by kernel_rfl) (by kernel_rfl) (by kernel_rfl) (fun _ _ _ h => h) (Or.inl ⟨by rfl, ?_⟩) HS ?_
      rotate_left
      · rintro V HV
        obtain ⟨⟨z0, z1, z2, z3, z4, z5, z6, z7, z8, z9, z10⟩, _, zl⟩ := ob11 HV.out
        go_simp
        try with_reducible rfl
      refine wpAnyG_take (i := 4) (v := ?_) rfl (by kernel_rfl) (by kernel_rfl) (by kernel_rfl) (by kernel_rfl) (fun _ _ _ h => h) (Or.inl ⟨by rfl, ?_⟩) HS ?_
      rotate_left
      · rintro V HV
        go_simp
        try with_reducible rfl
      refine wpAnyG_take (i := 5) (v := ?_) rfl (by kernel_rfl) (by kernel_rfl) (by kernel_rfl) (by kernel_rfl) (fun _ _ _ h => h) (Or.inl ⟨by rfl, ?_⟩) HS ?_
      rotate_left
      · rintro V HV
        obtain ⟨⟨z0, z1, z2, z3, z4, z5, z6, z7, z8, z9, z10⟩, _, zl⟩ := ob11 HV.out
        go_simp
        try with_reducible rfl
      refine wpAnyG_take (i := 7) (v := ?_) rfl (by kernel_rfl) (by kernel_rfl) (by kernel_rfl) (by kernel_rfl) (fun _ _ _ h => h) (Or.inl ⟨by rfl, ?_⟩) HS ?_
      rotate_left
      · rintro V HV
        go_simp
        try with_reducible rfl
      refine wpAnyG_take (i := 8) (v := ?_) rfl (by kernel_rfl) (by kernel_rfl) (by kernel_rfl) (by kernel_rfl) (fun _ _ _ h => h) (Or.inl ⟨by rfl, ?_⟩) HS ?_
      rotate_left
      · rintro V HV
        obtain ⟨⟨z0, z1, z2, z3, z4, z5, z6, z7, z8, z9, z10⟩, _, zl⟩ := ob11 HV.out
        go_simp
        try with_reducible rfl
      refine wpAnyG_all (rs := [3]) (by kernel_rfl) (by simp) ?_
      intro i hi
      obtain rfl : i = 3 := by simpa using hi
      clear hi
      refine wpOp_listV rfl ?_
      intro Q' hQ'
      have HQ : Hid _ := hQ'
      clear hQ'
      go_wp2_with fail
      refine Calls.mono (kclone_any s0 _ HZ) ?_
      rintro e w4 ⟨rfl, hb4⟩
      have HS4 : Hid (Ob w4 wr.heap.size #[.string s0, .string s1, .slice p2 n2 r2, .slice p3 n3 r3, .slice p4 n4 r4, .slice p5 n5 r5, .slice p6 n6 r6, .slice p7 n7 r7, .string s8, .slice p9 n9 r9, .slice p10 n10 r10] 62) := HS.out.below hb4 HS.out.lt
      have HB4 : Hid (Below W.heap.size W w4) := HB3.out.trans (hb4.mono HB3.out.size)
      have HE4 : Hid (Eac w4 W.heap.size (fun X => X ≠ 75) 75 (unitM ms n) k u3) := HE3.out.under hb4
      clear hb4 HS HB3 HE3
      go_wp2
      refine HQ.out _ _ ⟨.inr HS4, ?_⟩
      clear HQ
      refine wpAnyG_all (rs := [6]) (by kernel_rfl) (by simp) ?_
      intro i hi
      obtain rfl : i = 6 := by simpa using hi
      clear hi
      refine wpOp_listV rfl ?_
      intro Q' hQ'
      have HQ : Hid _ := hQ'
      clear hQ'
      go_wp2_with fail
      refine Calls.mono (ktexts_any (fun X => X ≠ 75) (by show (_ : TypeId) ≠ _; decide) p2 n2 r2 e2 _ (show Hid _ from HSR.out.1.under' HB4.out)) ?_
      rintro e w5 ⟨v, rfl, hcp, hb5⟩
      obtain ⟨q2, t2, rfl⟩ := cpy_ls hcp
      have HS5 : Hid (Ob w5 wr.heap.size #[.string s0, .string s1, .slice p2 n2 r2, .slice p3 n3 r3, .slice p4 n4 r4, .slice p5 n5 r5, .slice p6 n6 r6, .slice p7 n7 r7, .string s8, .slice p9 n9 r9, .slice p10 n10 r10] 62) := HS4.out.below hb5 HS4.out.lt
      have HB5 : Hid (Below W.heap.size W w5) := HB4.out.trans (hb5.mono HB4.out.size)
      have HE5 : Hid (Eac w5 W.heap.size (fun X => X ≠ 75) 75 (unitM ms n) k u3) := HE4.out.under hb5
      have HC5 : Hid (Cpy w5 W.heap.size (fun X => X ≠ 75) 30 (.ls none n2 0 m2) (.slice q2 n2 t2)) := (hcp.alk HA.out.1).from HB4.out.size
      clear hcp hb5 HS4 HE4
      go_wp2
      refine HQ.out _ _ ⟨.inr HS5, ?_⟩
      clear HQ
      refine wpAnyG_all (rs := [9]) (by kernel_rfl) (by simp) ?_
      intro i hi
      obtain rfl : i = 9 := by simpa using hi
      clear hi
      refine wpOp_listV rfl ?_
      intro Q' hQ'
      have HQ : Hid _ := hQ'
      clear hQ'
      go_wp2_with fail
      refine Calls.mono (kplaces_any (fun X => X ≠ 75) (by show (_ : TypeId) ≠ _; decide) p3 n3 r3 e3 _ (show Hid _ from HSR.out.2.under' HB5.out)) ?_
      rintro e w6 ⟨v, rfl, hcp, hb6⟩
      obtain ⟨q3, t3, rfl⟩ := cpy_ls hcp
      have HS6 : Hid (Ob w6 wr.heap.size #[.string s0, .string s1, .slice p2 n2 r2, .slice p3 n3 r3, .slice p4 n4 r4, .slice p5 n5 r5, .slice p6 n6 r6, .slice p7 n7 r7, .string s8, .slice p9 n9 r9, .slice p10 n10 r10] 62) := HS5.out.below hb6 HS5.out.lt
      have HB6 : Hid (Below W.heap.size W w6) := HB5.out.trans (hb6.mono HB5.out.size)
      have HE6 : Hid (Eac w6 W.heap.size (fun X => X ≠ 75) 75 (unitM ms n) k u3) := HE5.out.under hb6
      have HC6 : Hid (Cpy w6 W.heap.size (fun X => X ≠ 75) 30 (.ls none n2 0 m2) (.slice q2 n2 t2)) := HC5.out.under hb6
      have HD6 : Hid (Cpy w6 W.heap.size (fun X => X ≠ 75) 59 (.ls none n3 0 m3) (.slice q3 n3 t3)) := (hcp.alk HA.out.2).from HB5.out.size
      clear hcp hb6 HS5 HE5 HC5 HB4 HB5
      go_wp2
      refine HQ.out _ _ ⟨.inr HS6, ?_⟩
      clear HQ
      refine wpAnyG_take (i := 10) (v := ?_) rfl (by kernel_rfl) (by kernel_rfl) (by kernel_rfl) (by kernel_rfl) (fun _ _ _ h => h) (Or.inl ⟨by rfl, ?_⟩) HS6 ?_
      rotate_left
      · rintro V HV
        go_simp
        try with_reducible rfl
      refine wpAnyG_all (rs := [11]) (by kernel_rfl) (by simp) ?_
      intro i hi
      obtain rfl : i = 11 := by simpa using hi
      clear hi
      refine wpOp_listV rfl ?_
      intro Q' hQ'
      have HQ : Hid _ := hQ'
      clear hQ'
      obtain ⟨w7, hw7⟩ : ∃ w7, w7 = w6.alloc (.cells #[.string s0, .slice q2 n2 t2, .slice q3 n3 t3] 75) := ⟨_, rfl⟩
      have hb7 : Below w6.heap.size w6 w7 := by rw [hw7]; exact (Below.refl _ _).alloc (Nat.le_refl _) _
      have hs7 : w7.heap.size = w6.heap.size + 1 := by rw [hw7]; simp
      have HS7 : Hid (Ob w7 wr.heap.size #[.string s0, .string s1, .slice p2 n2 r2, .slice p3 n3 r3, .slice p4 n4 r4, .slice p5 n5 r5, .slice p6 n6 r6, .slice p7 n7 r7, .string s8, .slice p9 n9 r9, .slice p10 n10 r10] 62) := HS6.out.below hb7 HS6.out.lt
      have HB7 : Hid (Below W.heap.size W w7) := HB6.out.trans (hb7.mono HB6.out.size)
      have he7 := HE6.out.under hb7
      have hcp7 : CpyL w7 W.heap.size (fun X => X ≠ 75) (flds Tryz.prog 75) [.str s0, .ls none n2 0 m2, .ls none n3 0 m3] [.string s0, .slice q2 n2 t2, .slice q3 n3 t3] := by rw [flds_unit]; exact CpyL.cons (Cpy.str s0) (CpyL.cons (HC6.out.under hb7) (CpyL.cons (HD6.out.under hb7) (CpyL.nil _ _ _)))
      obtain ⟨es', hown0, hall0⟩ := he7
      have hown1 : w7.ownsRow W.heap.size 75 3 u3 k (es'.map Md.val) := by rw [flds_unit] at hown0; exact hown0
      obtain ⟨v8, w8, hr8, ho8, hg8, _, hl8⟩ := run_append_own_at (P := Tryz.prog) w7 W.heap.size 72 72 75 i0 _ 3 64 Tryz.underlying72 hi hz0 hz1 hz2 rfl (by omega) u3 k _ hown1 ⟨w6.heap.size, 0, none⟩ 1 1 [.string s0, .slice q2 n2 t2, .slice q3 n3 t3] rfl (by rw [hw7]; exact new_unit _ _ _ _ _) (by intro u hu; simp at hu; rcases hu with rfl | rfl | rfl <;> rfl) (by have := HN.out; unfold maxLen; omega) (by have := HN.out; omega) (by have := HB7.out.size; omega)
      obtain ⟨a8, c8, rfl⟩ := own_slice ho8
      have HP8 : Hid (Eac w8 W.heap.size (fun X => X ≠ 75) 75 (unitM ms n) (k + 1) (.slice a8 (k + 1) c8)) := Eac.push (fun X h => h) hown0 hall0 hcp7 (by rw [flds_unit]; rfl) (by rw [flds_unit]; exact HH.out) hg8 (by rw [flds_unit]; exact ho8)
      have HB8 : Hid (Below W.heap.size W w8) := HB7.out.grown hg8 HB7.out.size (fun g hg => (hown1.lt g hg).1)
      have HS8 : Hid (Ob w8 wr.heap.size #[.string s0, .string s1, .slice p2 n2 r2, .slice p3 n3 r3, .slice p4 n4 r4, .slice p5 n5 r5, .slice p6 n6 r6, .slice p7 n7 r7, .string s8, .slice p9 n9 r9, .slice p10 n10 r10] 62) := by
        refine ⟨(hg8.block _ (HS7.out.lt) (fun e => ?_)).trans HS7.out.eq⟩
        rcases hown1.2 with ⟨h0, _⟩ | ⟨g1, cap, cur, h0, _, h2, _⟩
        · rw [h0] at e; cases e
        · rw [h0] at e
          have e9 : g1 = wr.heap.size := (Option.some.inj e).symm
          rw [e9, HS7.out.eq] at h2
          cases h2
      have HR8 : Hid _ := hr8
      have HW7 : Hid _ := hw7
      clear hw7 hb7 hs7 hown0 hall0 hown1 hr8 ho8 hg8 hl8 hcp7 HE6 HC6 HD6 HB6
      go_wp2
      rw [← HW7.out]
      refine HQ.out _ _ ⟨.inr HS7, ?_⟩
      clear HQ HW7
      refine wpAnyG_all (rs := [12]) (by kernel_rfl) (by simp) ?_
      intro i hi
      obtain rfl : i = 12 := by simpa using hi
      clear hi
      refine wpOp_listV rfl ?_
      intro Q' hQ'
      have HQ : Hid _ := hQ'
      clear hQ'
      refine wpList_append_eqX rfl _ _ 72 rfl rfl rfl HR8.out ?_
      refine HQ.out _ _ ⟨.inr HS8, ?_⟩
      clear HQ HR8
      refine wpAnyG_all (rs := [13]) (by kernel_rfl) (by simp) ?_
      intro i hi
      obtain rfl : i = 13 := by simpa using hi
      clear hi
      refine wpOp_listV rfl ?_
      intro Q' hQ'
      have HQ : Hid _ := hQ'
      clear hQ'
      go_wp2
      refine HQ.out _ _ ⟨.inl (by first | trivial | rfl), ?_⟩
      clear HQ
      refine wpAnyG_done (by kernel_rfl) ?_ _
      clear HS6 HS7 HS8 HB7
      go_wp2
      go_roundw
      case rel => exact ⟨k + 1, by omega, by go_num, HP8, HB8⟩
      case measure => simp [intOf]; omega
    · have hkn : k = n := by omega
      subst hkn
      have HF : Hid (Cpy wr W.heap.size (fun _ => True) 72 (.ls none k k (unitM ms k)) u3) := Eac.all Tryz.underlying72 (fun X h => trivial) trivial (by rw [flds_unit, unitM_len]; rfl) HE.out
      go_wp2
      go_ret
      exact ⟨_, rfl, HF.out, HW.out⟩

end Go.Proofs.YtafmoceinamcdaaGreat
