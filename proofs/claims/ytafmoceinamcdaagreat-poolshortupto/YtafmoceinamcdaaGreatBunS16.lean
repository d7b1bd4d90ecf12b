/- Put together by a program out of these texts of mine: VLy3. -/
import Derived.Test.YtafmoceinamcdaaGreatBunS15

namespace Go.Proofs.YtafmoceinamcdaaGreat
open Go.RowKit
set_option linter.unusedVariables false
set_option linter.unusedSimpArgs false

set_option maxRecDepth 100000 in
set_option maxHeartbeats 16000000 in
theorem qlay (w0 : World) (H : ByteArray) (f0 : Nat) (IH : Hid (∀ f, f0 = f + 1 → LayC w0 H f)) : LayC w0 H f0 := by
  intro sc a n c ms W bh ba bq bp bs be vf h D d0 cc hby hsl hsr hnm hok hb0 hl1 hl2 hl3 hd0 oh oa oq hcc hP
  have HBY : Hid _ := hby
  have HSL : Hid _ := hsl
  have HSR : Hid _ := hsr
  have HNM : Hid _ := hnm
  have HOK : Hid _ := hok
  have HB0 : Hid _ := hb0
  have HLO : Hid (w0.heap.size ≤ bs ∧ w0.heap.size ≤ be ∧ w0.heap.size ≤ d0) := ⟨hl1, hl2, hl3⟩
  have HD0 : Hid _ := hd0
  have HCC : Hid _ := hcc
  have HP : Hid (Pw W bp bs be vf h D d0 cc) := hP
  have OH : Hid _ := oh
  have OA : Hid _ := oa
  have OQ : Hid _ := oq
  have HNS : Hid (¬ Sp bs be D bh ∧ ¬ Sp bs be D ba ∧ ¬ Sp bs be D bq) := ⟨hP.other oh.eq (by decide), hP.other oa.eq (by decide), hP.other oq.eq (by decide)⟩
  have hn63 : (n : Int) ≤ 9223372036854775807 := src_n63 Tryz.underlying34 hsr
  have hbz : n * Tryz.prog.bytesOf 40 ≤ 140737488355328 := by
    have := hsr.2
    cases this with
    | ls hT hb hk =>
      rw [Tryz.underlying34] at hT
      cases hT
      exact hb
  obtain ⟨cs0, w1, hmk, hw1, hcs0⟩ := mkN n hbz hn63 W
  have hb1 : Below W.heap.size W w1 := by rw [hw1]; exact (Below.refl _ _).alloc (Nat.le_refl _) _
  have K1 : Hid (Ob w1 W.heap.size cs0 40 ∧ cs0.size = n * 11) := ⟨by rw [hw1]; exact Ob.new _ _ _, hcs0⟩
  have L1 : Hid (Lq W w1 bp bs be vf h D D d0 (cc + (msgL f0 sc ms 0).length)) := by
    rw [msgL_zero]
    exact ⟨Fx.of_below hb1, Dg.refl _ _, hP.below hb1 (Nat.le_refl _)⟩
  clear hby hsl hsr hnm hok hb0 hl1 hl2 hl3 hd0 oh oa oq hcc hP hw1 hb1 hcs0 hbz
  generalize hS : strOfNums sc = S
  have HS : Hid _ := hS
  clear hS
  go_enter Tryz.func146, Tryz.ntmps146
  go_wp2
  go_loopw [21] (fun i wr => ∃ (k : Nat) (hk : Sy) (Dk : Nat → Prop) (cs : Array Value), k ≤ n ∧ i = .int .i64 (k : Int) ∧ Hid (insl H h (msgL f0 sc ms k) = .ok hk) ∧ Hid (Lq W wr bp bs be vf hk D Dk d0 (cc + (msgL f0 sc ms k).length)) ∧ Hid (Ob wr W.heap.size cs 40 ∧ cs.size = n * 11)) (fun i _ => n - (intOf i).toNat)
  case atStart => exact ⟨0, h, D, cs0, Nat.zero_le _, rfl, by rw [msgL_zero]; rfl, L1.out, K1.out⟩
  case round =>
    clear L1 K1 hmk
    obtain ⟨k, hk, Dk, cs, hkn, rfl, HI, HL, HK⟩ := hrel
    have obh : Ob wr bh #[.pointer (some ⟨bp, 0, none⟩), .string H] 204 := HL.out.fx.ob OH.out HNS.out.1
    have hWr : W.heap.size ≤ wr.heap.size := HL.out.fx.size
    by_cases hlk : k < n
    · obtain ⟨f, hf0, hok2⟩ := okd_at HOK.out hlk
      subst hf0
      have HBr : Hid (Below w0.heap.size w0 wr) := HP.out.kept HB0.out HLO.out.1 HLO.out.2.1 HLO.out.2.2 HL.out.fx
      obtain ⟨b, off, s0, a1, n1, k1, m1, a2, n2, k2, m2, a3, n3, k3, m3, a4, n4, k4, m4, a5, n5, k5, m5, a6, n6, k6, m6, a7, n7, k7, m7, a8, n8, k8, m8, a9, n9, k9, m9, a10, n10, k10, m10, rfl, hbl, u0, u1, u2, u3, u4, u5, u6, u7, u8, u9, u10, sr1, sr2, sr3, sr4, sr5, sr6, sr7, sr8, sr9, sr10, t1, ln1, lm1, t2, ln2, lm2, t3, ln3, lm3, t5, ln5, lm5, t6, ln6, lm6, z0, hat⟩ := msg_src HSR.out HNM.out hlk

      replace u0 := (HBr.out.cell (p := ⟨b, off + k * 11, none⟩) hbl).trans u0
      replace u1 := (HBr.out.cell (p := ⟨b, off + k * 11 + 1, none⟩) hbl).trans u1
      replace u2 := (HBr.out.cell (p := ⟨b, off + k * 11 + 2, none⟩) hbl).trans u2
      replace u3 := (HBr.out.cell (p := ⟨b, off + k * 11 + 3, none⟩) hbl).trans u3
      replace u4 := (HBr.out.cell (p := ⟨b, off + k * 11 + 4, none⟩) hbl).trans u4
      replace u5 := (HBr.out.cell (p := ⟨b, off + k * 11 + 5, none⟩) hbl).trans u5
      replace u6 := (HBr.out.cell (p := ⟨b, off + k * 11 + 6, none⟩) hbl).trans u6
      replace u7 := (HBr.out.cell (p := ⟨b, off + k * 11 + 7, none⟩) hbl).trans u7
      replace u8 := (HBr.out.cell (p := ⟨b, off + k * 11 + 8, none⟩) hbl).trans u8
      replace u9 := (HBr.out.cell (p := ⟨b, off + k * 11 + 9, none⟩) hbl).trans u9
      replace u10 := (HBr.out.cell (p := ⟨b, off + k * 11 + 10, none⟩) hbl).trans u10
      have hbl2 : b < wr.heap.size := Nat.lt_of_lt_of_le hbl HBr.out.size
      obtain ⟨w2, hw2⟩ : ∃ w2, wr.alloc (.cells #[.string s0, .slice a1 n1 k1, .slice a2 n2 k2, .slice a3 n3 k3, .slice a4 n4 k4, .slice a5 n5 k5, .slice a6 n6 k6, .slice a7 n7 k7, .slice a8 n8 k8, .slice a9 n9 k9, .slice a10 n10 k10] 40) = w2 := ⟨_, rfl⟩
      have hb2 : Below wr.heap.size wr w2 := by rw [← hw2]; exact (Below.refl _ _).alloc (Nat.le_refl _) _
      have m2' : Ob w2 wr.heap.size #[.string s0, .slice a1 n1 k1, .slice a2 n2 k2, .slice a3 n3 k3, .slice a4 n4 k4, .slice a5 n5 k5, .slice a6 n6 k6, .slice a7 n7 k7, .slice a8 n8 k8, .slice a9 n9 k9, .slice a10 n10 k10] 40 := by rw [← hw2]; exact Ob.new _ _ _
      have hh2 := obh.below hb2 obh.lt
      have f0' := fun x : Ext w2 => x.cell (p := ⟨bh, 0, none⟩) hh2.lt (hh2.cell 0 rfl)
      have f1' := fun x : Ext w2 => x.cell (p := ⟨bh, 1, none⟩) hh2.lt (hh2.cell 1 rfl)
      have g0' := fun x : Ext w2 => x.cell (p := ⟨wr.heap.size, 0, none⟩) m2'.lt (m2'.cell 0 rfl)
      have HW2 : Hid _ := hw2
      have HB2 : Hid _ := hb2
      have M2 : Hid _ := m2'
      have L2 : Hid _ := HL.out.below hb2
      have K2 : Hid (Ob w2 W.heap.size cs 40 ∧ cs.size = n * 11) := ⟨HK.out.1.below hb2 HK.out.1.lt, HK.out.2⟩
      have HSRC : Hid (Src w0 33 (.ls a1 n1 k1 m1) ∧ Src w0 34 (.ls a2 n2 k2 m2) ∧ Src w0 35 (.ls a3 n3 k3 m3) ∧ Src w0 36 (.ls a4 n4 k4 m4) ∧ Src w0 33 (.ls a5 n5 k5 m5) ∧ Src w0 37 (.ls a6 n6 k6 m6) ∧ Src w0 36 (.ls a7 n7 k7 m7) ∧ Src w0 30 (.ls a8 n8 k8 m8) ∧ Src w0 38 (.ls a9 n9 k9 m9) ∧ Src w0 38 (.ls a10 n10 k10 m10)) := ⟨sr1, sr2, sr3, sr4, sr5, sr6, sr7, sr8, sr9, sr10⟩
      have HT : Hid (Nm (.ls a1 n1 k1 m1) ∧ Nm (.ls a2 n2 k2 m2) ∧ Nm (.ls a3 n3 k3 m3) ∧ Nm (.ls a5 n5 k5 m5) ∧ Nm (.ls a6 n6 k6 m6)) := ⟨t1, t2, t3, t5, t6⟩
      have HONE : Hid (oneL f sc ms k = (jn sc s0, 2) :: (valL (njoin sc (numsOf s0)) 5 13 m1 n1 ++ (valL (njoin sc (numsOf s0)) 7 3 m6 n6 ++ (msgL f (njoin sc (numsOf s0)) m2 n2 ++ (enumL (njoin sc (numsOf s0)) m3 n3 ++ valL (njoin sc (numsOf s0)) 6 13 m5 n5))))) := by
        show _ = _
        unfold oneL
        rw [hat, ln1, lm1, ln2, lm2, ln3, lm3, ln5, lm5, ln6, lm6]
      have HOK2 : Hid (okd f n2 m2 = true) := by rw [ln2, lm2] at hok2; exact hok2
      have Z0 : Hid _ := z0
      have HLEN : Hid (cc + ((msgL (f + 1) sc ms k).length + (oneL f sc ms k).length) ≤ 900000000) := by
        have h1 := len_le f sc ms hlk
        have h2 := HCC.out
        show _ ≤ _
        omega
      have HSC : Hid (byts (njoin sc (numsOf s0)) ∧ (njoin sc (numsOf s0)).length + f * 2000001 ≤ 200000000) := by
        refine ⟨njoin_bytsP HBY.out (numsOf_byts s0), ?_⟩
        have h1 := njoin_lenP sc (numsOf s0)
        have h2 := numsOf_len s0
        have h3 := HSL.out
        omega
      clear hw2 hb2 m2' hh2 obh sr1 sr2 sr3 sr4 sr5 sr6 sr7 sr8 sr9 sr10 t1 t2 t3 t5 t6 ln1 lm1 ln2 lm2 ln3 lm3 ln5 lm5 ln6 lm6 hat z0 hok2
      go_upto_region 5 with fail
      rw [HW2.out]
      clear HW2 u0 u1 u2 u3 u4 u5 u6 u7 u8 u9 u10
      refine wp_region_then w2 8 2 rfl (Below.refl _ _) (by kernel_rfl) (by kernel_rfl) (by kernel_rfl) (by kernel_rfl) ?_
      simp only [List.take]
      repeat (go_big_quiet_step (fail))
      refine wpQuiet_nil ?_
      rintro w3 ⟨⟨_, hb3⟩, rfl⟩
      have HB3 : Hid _ := hb3
      have L3 : Hid _ := L2.out.below hb3
      have K3 : Hid (Ob w3 W.heap.size cs 40 ∧ cs.size = n * 11) := ⟨K2.out.1.below hb3 K2.out.1.lt, K2.out.2⟩
      have M3 : Hid _ := M2.out.below hb3 M2.out.lt
      obtain ⟨Z3, hz3⟩ := L3.out.pw
      have Q3 : Hid _ := qput H sc s0 HBY (by have := HSL.out; omega) (by have := Z0.out; omega) 2 (some ⟨W.heap.size, k * 11, none⟩) none none w3 (show Hid _ from hz3.px)
      rw [HS.out] at Q3
      clear hb3 f0' f1' g0' L2 K2 M2
      refine wpAny_force (i := 8) (by kernel_rfl) rfl ?_
      intro Q' hQ' hPn
      have HQ : Hid _ := hQ'
      have HN : Hid _ := hPn
      clear hQ' hPn
      have HZ3 : Hid _ := hz3
      clear hz3
      go_wp2_with fail
      refine Calls.mono Q3.out ?_
      rintro e w4 ⟨hg4, ⟨hn4, rfl, hp4⟩ | ⟨hn4, rfl⟩⟩
      · have HN4 : Hid (hk (jn sc s0) = none) := hn4
        have L4 : Hid _ := L3.out.put HZ3.out hg4 (put_keeps (kd := 2) (H := H) hn4) hp4
        have hf4 : Fx (Sp bs be Dk) w3 w4 := .of_grown hg4 (.inl rfl)
        have K4 : Hid (Ob w4 W.heap.size cs 40 ∧ cs.size = n * 11) := ⟨hf4.ob K3.out.1 (L3.out.pw.other K3.out.1.eq (by decide)), K3.out.2⟩
        have M4 : Hid (Ob w4 wr.heap.size #[.string s0, .slice a1 n1 k1, .slice a2 n2 k2, .slice a3 n3 k3, .slice a4 n4 k4, .slice a5 n5 k5, .slice a6 n6 k6, .slice a7 n7 k7, .slice a8 n8 k8, .slice a9 n9 k9, .slice a10 n10 k10] 40) := hf4.ob M3.out (L3.out.pw.other M3.out.eq (by decide))
        clear hg4 hn4 hp4 hf4 Q3 HZ3 L3 K3 M3 HB2 HB3
        go_wp2
        refine HQ.out _ _ ?_
        clear HQ HN
        refine wpAny_force (i := 9) (by kernel_rfl) rfl ?_
        intro Q' hQ' hPn
        have HQ : Hid _ := hQ'
        clear hQ' hPn
        go_wp2
        refine HQ.out _ _ ?_
        clear HQ
        refine wpAny_end (by kernel_rfl) ?_
        generalize hFn : jn sc s0 = F at *
        have HFN : Hid _ := hFn
        clear hFn
        have HB4 : Hid (Below w0.heap.size w0 w4) := HP.out.kept HB0.out HLO.out.1 HLO.out.2.1 HLO.out.2.2 L4.out.fx
        have oa4 : Ob w4 ba #[.int .i64 1, .bool false] 100 := L4.out.fx.ob OA.out HNS.out.2.1
        obtain ⟨⟨y0, y1⟩, _, yl⟩ := ob2 oa4
        obtain ⟨⟨v0, v1, v2, v3, v4, v5, v6, v7, v8, v9, v10⟩, _, vl⟩ := ob11 M4.out
        have QM : Hid _ := kmessage_any (fun _ => True) (fun _ _ => trivial) s0 a1 n1 k1 m1 a2 n2 k2 a3 n3 k3 m3 a4 n4 k4 m4 a5 n5 k5 m5 a6 n6 k6 m6 a7 n7 k7 m7 a8 n8 k8 m8 a9 n9 k9 m9 a10 n10 k10 m10 w4 (show Hid _ from HSRC.out.1.under' HB4.out) (show Hid _ from HSRC.out.2.2.1.under' HB4.out) (show Hid _ from HSRC.out.2.2.2.1.under' HB4.out) (show Hid _ from HSRC.out.2.2.2.2.1.under' HB4.out) (show Hid _ from HSRC.out.2.2.2.2.2.1.under' HB4.out) (show Hid _ from HSRC.out.2.2.2.2.2.2.1.under' HB4.out) (show Hid _ from HSRC.out.2.2.2.2.2.2.2.1.under' HB4.out) (show Hid _ from HSRC.out.2.2.2.2.2.2.2.2.1.under' HB4.out) (show Hid _ from HSRC.out.2.2.2.2.2.2.2.2.2.under' HB4.out) (show Hid _ from (by have := Z0.out; show _ ≤ _; omega))
        have HY : Hid _ := oa4
        clear oa4
        go_wp2_with fail
        refine Calls.mono QM.out ?_
        rintro e w5 ⟨p1, r1, p3, r3, p4, r4, p5, r5, p6, r6, p7, r7, p8, r8, p9, r9, p10, r10, rfl, hcp, hb5⟩
        obtain ⟨e3, he3, ha3, _⟩ := cpyl_ls hcp (j := 3) rfl rfl rfl
        obtain ⟨x5, hx5, ha5, _⟩ := cpyl_ls hcp (j := 5) rfl rfl rfl
        have E5 : Hid (Own Tryz.prog w5 w4.heap.size A0 35 (.ls p3 n3 r3 e3) ∧ Own Tryz.prog w5 w4.heap.size A0 33 (.ls p5 n5 r5 x5)) := ⟨own_enumsV he3, own_fieldsV hx5⟩
        have HAK : Hid (AlkL m3 e3 ∧ AlkL m5 x5) := ⟨ha3, ha5⟩
        have HNM5 : Hid (Nm (.ls p3 n3 r3 e3) ∧ Nm (.ls p5 n5 r5 x5)) := ⟨Alk.nm (.ls ha3.1 ha3.2) HT.out.2.2.1, Alk.nm (.ls ha5.1 ha5.2) HT.out.2.2.2.1⟩
        have L5 : Hid _ := L4.out.below hb5
        have M5 : Hid _ := M4.out.below hb5 M4.out.lt
        have K5 : Hid (Ob w5 W.heap.size cs 40 ∧ cs.size = n * 11) := ⟨K4.out.1.below hb5 K4.out.1.lt, K4.out.2⟩
        clear hcp he3 ha3 hx5 ha5 hb5 QM HY y0 y1 yl v0 v1 v2 v3 v4 v5 v6 v7 v8 v9 v10 vl L4 M4 K4 HB4
        have c0 : w5.cell? ⟨W.heap.size, k * 11, none⟩ = some (cs[k * 11]'(by have := K5.out.2; omega)) := K5.out.1.cells_in (by have := K5.out.2; omega)
        have d0 : w5.frozen? ⟨W.heap.size, k * 11, none⟩ = false := K5.out.1.frozen _
        have c1 : w5.cell? ⟨W.heap.size, k * 11 + 1, none⟩ = some (cs[k * 11 + 1]'(by have := K5.out.2; omega)) := K5.out.1.cells_in (by have := K5.out.2; omega)
        have d1 : w5.frozen? ⟨W.heap.size, k * 11 + 1, none⟩ = false := K5.out.1.frozen _
        have c2 : w5.cell? ⟨W.heap.size, k * 11 + 2, none⟩ = some (cs[k * 11 + 2]'(by have := K5.out.2; omega)) := K5.out.1.cells_in (by have := K5.out.2; omega)
        have d2 : w5.frozen? ⟨W.heap.size, k * 11 + 2, none⟩ = false := K5.out.1.frozen _
        have c3 : w5.cell? ⟨W.heap.size, k * 11 + 3, none⟩ = some (cs[k * 11 + 3]'(by have := K5.out.2; omega)) := K5.out.1.cells_in (by have := K5.out.2; omega)
        have d3 : w5.frozen? ⟨W.heap.size, k * 11 + 3, none⟩ = false := K5.out.1.frozen _
        have c4 : w5.cell? ⟨W.heap.size, k * 11 + 4, none⟩ = some (cs[k * 11 + 4]'(by have := K5.out.2; omega)) := K5.out.1.cells_in (by have := K5.out.2; omega)
        have d4 : w5.frozen? ⟨W.heap.size, k * 11 + 4, none⟩ = false := K5.out.1.frozen _
        have c5 : w5.cell? ⟨W.heap.size, k * 11 + 5, none⟩ = some (cs[k * 11 + 5]'(by have := K5.out.2; omega)) := K5.out.1.cells_in (by have := K5.out.2; omega)
        have d5 : w5.frozen? ⟨W.heap.size, k * 11 + 5, none⟩ = false := K5.out.1.frozen _
        have c6 : w5.cell? ⟨W.heap.size, k * 11 + 6, none⟩ = some (cs[k * 11 + 6]'(by have := K5.out.2; omega)) := K5.out.1.cells_in (by have := K5.out.2; omega)
        have d6 : w5.frozen? ⟨W.heap.size, k * 11 + 6, none⟩ = false := K5.out.1.frozen _
        have c7 : w5.cell? ⟨W.heap.size, k * 11 + 7, none⟩ = some (cs[k * 11 + 7]'(by have := K5.out.2; omega)) := K5.out.1.cells_in (by have := K5.out.2; omega)
        have d7 : w5.frozen? ⟨W.heap.size, k * 11 + 7, none⟩ = false := K5.out.1.frozen _
        have c8 : w5.cell? ⟨W.heap.size, k * 11 + 8, none⟩ = some (cs[k * 11 + 8]'(by have := K5.out.2; omega)) := K5.out.1.cells_in (by have := K5.out.2; omega)
        have d8 : w5.frozen? ⟨W.heap.size, k * 11 + 8, none⟩ = false := K5.out.1.frozen _
        have c9 : w5.cell? ⟨W.heap.size, k * 11 + 9, none⟩ = some (cs[k * 11 + 9]'(by have := K5.out.2; omega)) := K5.out.1.cells_in (by have := K5.out.2; omega)
        have d9 : w5.frozen? ⟨W.heap.size, k * 11 + 9, none⟩ = false := K5.out.1.frozen _
        have c10 : w5.cell? ⟨W.heap.size, k * 11 + 10, none⟩ = some (cs[k * 11 + 10]'(by have := K5.out.2; omega)) := K5.out.1.cells_in (by have := K5.out.2; omega)
        have d10 : w5.frozen? ⟨W.heap.size, k * 11 + 10, none⟩ = false := K5.out.1.frozen _
        have kl : W.heap.size < w5.heap.size := K5.out.1.lt
        go_upto_region 7 with fail
        obtain ⟨cs6, obk6, szk6, g3, g5⟩ := set11at K5.out.1 K5.out.2 hlk (.string s0) (.slice p1 n1 r1) (.slice none 0 0) (.slice p3 n3 r3) (.slice p4 n4 r4) (.slice p5 n5 r5) (.slice p6 n6 r6) (.slice p7 n7 r7) (.slice p8 n8 r8) (.slice p9 n9 r9) (.slice p10 n10 r10)
        have fx6 := fx11 w5 W.heap.size k (.string s0) (.slice p1 n1 r1) (.slice none 0 0) (.slice p3 n3 r3) (.slice p4 n4 r4) (.slice p5 n5 r5) (.slice p6 n6 r6) (.slice p7 n7 r7) (.slice p8 n8 r8) (.slice p9 n9 r9) (.slice p10 n10 r10)
        generalize ((((((((((w5.setCell ⟨W.heap.size, k * 11, none⟩ (.string s0)).setCell ⟨W.heap.size, k * 11 + 1, none⟩ (.slice p1 n1 r1)).setCell ⟨W.heap.size, k * 11 + 2, none⟩ (.slice none 0 0)).setCell ⟨W.heap.size, k * 11 + 3, none⟩ (.slice p3 n3 r3)).setCell ⟨W.heap.size, k * 11 + 4, none⟩ (.slice p4 n4 r4)).setCell ⟨W.heap.size, k * 11 + 5, none⟩ (.slice p5 n5 r5)).setCell ⟨W.heap.size, k * 11 + 6, none⟩ (.slice p6 n6 r6)).setCell ⟨W.heap.size, k * 11 + 7, none⟩ (.slice p7 n7 r7)).setCell ⟨W.heap.size, k * 11 + 8, none⟩ (.slice p8 n8 r8)).setCell ⟨W.heap.size, k * 11 + 9, none⟩ (.slice p9 n9 r9)).setCell ⟨W.heap.size, k * 11 + 10, none⟩ (.slice p10 n10 r10) = w6 at obk6 fx6 ⊢
        clear c0 d0 c1 d1 c2 d2 c3 d3 c4 d4 c5 d5 c6 d6 c7 d7 c8 d8 c9 d9 c10 d10 kl
        have hWr2 : W.heap.size < wr.heap.size := HK.out.1.lt
        have L6 : Hid _ := L5.out.set (Nat.le_refl _) fx6 K5.out.1 (by decide) (by decide) (by decide)
        have M6 : Hid (Ob w6 wr.heap.size #[.string s0, .slice a1 n1 k1, .slice a2 n2 k2, .slice a3 n3 k3, .slice a4 n4 k4, .slice a5 n5 k5, .slice a6 n6 k6, .slice a7 n7 k7, .slice a8 n8 k8, .slice a9 n9 k9, .slice a10 n10 k10] 40) := fx6.ob M5.out (by omega)
        have hA6 : ∀ b cs E, b = W.heap.size → w5.heap[b]? = some (.cells cs E (0, 0)) → ¬ A0 E := fun b cs' E e1 e2 e3 => by
          subst e1
          rw [K5.out.1.eq] at e2
          cases e2
          exact e3.2 rfl
        have E6 : Hid (Own Tryz.prog w6 w4.heap.size A0 35 (.ls p3 n3 r3 e3) ∧ Own Tryz.prog w6 w4.heap.size A0 33 (.ls p5 n5 r5 x5)) := ⟨E5.out.1.fxT fx6 hA6, E5.out.2.fxT fx6 hA6⟩
        have K6 : Hid (Ob w6 W.heap.size cs6 40 ∧ cs6.size = n * 11 ∧ cs6[k * 11 + 3]? = some (.slice p3 n3 r3) ∧ cs6[k * 11 + 5]? = some (.slice p5 n5 r5)) := ⟨obk6, szk6, g3, g5⟩
        clear obk6 szk6 g3 g5 fx6 hA6 L5 M5 K5 E5
        have y1 : w6.cell? ⟨wr.heap.size, 1, none⟩ = some (.slice a1 n1 k1) := M6.out.cell 1 rfl
        have yl := M6.out.lt
        have hn163 : (n1 : Int) ≤ 9223372036854775807 := src_n63 Tryz.underlying33 HSRC.out.1
        go_wp2
        clear y1
        obtain ⟨we, hwe⟩ : ∃ we, we = wr := ⟨_, rfl⟩
        subst hwe
        go_loopw [44] (fun i wx => ∃ (j : Nat) (hj : Sy), j ≤ n1 ∧ i = .int .i64 (j : Int) ∧ Hid (insl H (syPut hk F (2, H)) (valL (njoin sc (numsOf s0)) 5 13 m1 j) = .ok hj) ∧ Hid (Lq W wx bp bs be vf hj D Dk d0 (cc + (msgL (f + 1) sc ms k).length)) ∧ Hid (Fx (Sp bs be Dk) w6 wx)) (fun i _ => n1 - (intOf i).toNat)
        case atStart => exact ⟨0, _, Nat.zero_le _, rfl, rfl, L6.out, Fx.refl _ _⟩
        case round =>
          obtain ⟨j, hj, hjn, rfl, HJ, LJ, FJ⟩ := hrel
          by_cases hlj : j < n1
          · skip
            obtain ⟨fb, foff, fs0, fx1, fx2, fx3, fs4, fs5, fs6, fy7, fx8, fs9, fy10, fa11, fn11, fk11, fa12, fn12, fk12, rfl, fbl, fu0, fu1, fu2, fu3, fu4, fu5, fu6, fu7, fu8, fu9, fu10, fu11, fu12, fz0, fat⟩ := fld_src HSRC.out.1 HT.out.1 hlj
            have HBx : Hid (Below w0.heap.size w0 wr) := HP.out.kept HB0.out HLO.out.1 HLO.out.2.1 HLO.out.2.2 LJ.out.fx
            replace fu0 := (HBx.out.cell (p := ⟨fb, foff + j * 13, none⟩) fbl).trans fu0
            replace fu1 := (HBx.out.cell (p := ⟨fb, foff + j * 13 + 1, none⟩) fbl).trans fu1
            replace fu2 := (HBx.out.cell (p := ⟨fb, foff + j * 13 + 2, none⟩) fbl).trans fu2
            replace fu3 := (HBx.out.cell (p := ⟨fb, foff + j * 13 + 3, none⟩) fbl).trans fu3
            replace fu4 := (HBx.out.cell (p := ⟨fb, foff + j * 13 + 4, none⟩) fbl).trans fu4
            replace fu5 := (HBx.out.cell (p := ⟨fb, foff + j * 13 + 5, none⟩) fbl).trans fu5
            replace fu6 := (HBx.out.cell (p := ⟨fb, foff + j * 13 + 6, none⟩) fbl).trans fu6
            replace fu7 := (HBx.out.cell (p := ⟨fb, foff + j * 13 + 7, none⟩) fbl).trans fu7
            replace fu8 := (HBx.out.cell (p := ⟨fb, foff + j * 13 + 8, none⟩) fbl).trans fu8
            replace fu9 := (HBx.out.cell (p := ⟨fb, foff + j * 13 + 9, none⟩) fbl).trans fu9
            replace fu10 := (HBx.out.cell (p := ⟨fb, foff + j * 13 + 10, none⟩) fbl).trans fu10
            replace fu11 := (HBx.out.cell (p := ⟨fb, foff + j * 13 + 11, none⟩) fbl).trans fu11
            replace fu12 := (HBx.out.cell (p := ⟨fb, foff + j * 13 + 12, none⟩) fbl).trans fu12
            have fbl2 : fb < wr.heap.size := Nat.lt_of_lt_of_le fbl HBx.out.size
            obtain ⟨wz, hwz⟩ : ∃ wz, wr.alloc (.cells #[.string fs0, .int .i64 fx1, .int .i64 fx2, .int .i64 fx3, .string fs4, .string fs5, .string fs6, .bool fy7, .int .i64 fx8, .string fs9, .bool fy10, .slice fa11 fn11 fk11, .slice fa12 fn12 fk12] 45) = wz := ⟨_, rfl⟩
            have hbz : Below wr.heap.size wr wz := by rw [← hwz]; exact (Below.refl _ _).alloc (Nat.le_refl _) _
            have oz : Ob wz wr.heap.size #[.string fs0, .int .i64 fx1, .int .i64 fx2, .int .i64 fx3, .string fs4, .string fs5, .string fs6, .bool fy7, .int .i64 fx8, .string fs9, .bool fy10, .slice fa11 fn11 fk11, .slice fa12 fn12 fk12] 45 := by rw [← hwz]; exact Ob.new _ _ _
            have Lz : Hid _ := LJ.out.below hbz
            have Fz : Hid (Fx (Sp bs be Dk) w6 wz) := FJ.out.trans (Fx.of_below (S := Sp bs be Dk) hbz) (fun _ e => .inl e)
            have ohz : Ob wz bh #[.pointer (some ⟨bp, 0, none⟩), .string H] 204 := Lz.out.fx.ob OH.out HNS.out.1
            obtain ⟨⟨i0, i1⟩, _, il⟩ := ob2 ohz
            have j0 : wz.cell? ⟨wr.heap.size, 0, none⟩ = some (.string fs0) := oz.cell 0 rfl
            have jl := oz.lt
            obtain ⟨Zz, hzz⟩ := Lz.out.pw
            have HZZ : Hid _ := hzz
            have Qz : Hid _ := qput H (njoin sc (numsOf s0)) fs0 (show Hid _ from HSC.out.1) (by have := HSC.out.2; omega) (by omega) 5 none none none wz (show Hid _ from hzz.px)
            rw [show strOfNums (njoin sc (numsOf s0)) = F from HFN.out] at Qz
            have ZX : Hid _ := fz0
            have ATX : Hid _ := fat
            have HWZ : Hid _ := hwz
            clear hzz hwz hbz oz ohz fz0 fat
            go_upto_region 10 with fail
            rw [HWZ.out]
            clear HWZ fu0 fu1 fu2 fu3 fu4 fu5 fu6 fu7 fu8 fu9 fu10 fu11 fu12
            go_wp2_with fail
            refine Calls.mono Qz.out ?_
            rintro e wy ⟨hgy, ⟨hny, rfl, hpy⟩ | ⟨hny, rfl⟩⟩
            · have HJy : Hid _ := val_next HJ.out ATX.out hny
              have Ly : Hid _ := Lz.out.put HZZ.out hgy (put_keeps (kd := 5) (H := H) hny) hpy
              have Fy : Hid (Fx (Sp bs be Dk) w6 wy) := Fz.out.trans (Fx.of_grown (S := Sp bs be Dk) hgy (.inl rfl)) (fun _ e => .inl e)
              clear hgy hny hpy Qz i0 i1 il j0 jl HZZ Lz Fz
              go_wp2
              go_roundw
              case rel => exact ⟨j + 1, _, by omega, by go_num, HJy.out, Ly.out, Fy.out⟩
              case measure => simp [intOf]; omega
            · have HEy : Hid (insl H h (msgL (f + 1) sc ms n) = .error (jn (njoin sc (numsOf s0)) fs0)) := lay_put hlk HI.out (by rw [HONE.out, insl_one H hk _ 2 _ HN4.out]; exact insl_err_left (val_err hlj HJ.out ATX.out hny))
              have HFy : Hid (Fx (Sp bs be D) W wy) := Lz.out.fx.trans (.of_grown (S := Sp bs be Dk) hgy (.inl rfl)) Lz.out.dg.sp
              exact ⟨rfl, xend_err HFy.out HEy.out⟩
          · have hjj : n1 = j := by omega
            subst hjj
            have HJ1 : Hid _ := HJ.out
            have M7 : Hid (Ob wr we.heap.size #[.string s0, .slice a1 n1 k1, .slice a2 n2 k2, .slice a3 n3 k3, .slice a4 n4 k4, .slice a5 n5 k5, .slice a6 n6 k6, .slice a7 n7 k7, .slice a8 n8 k8, .slice a9 n9 k9, .slice a10 n10 k10] 40) := FJ.out.ob M6.out (L6.out.pw.other M6.out.eq (by decide))
            have y6 : wr.cell? ⟨we.heap.size, 6, none⟩ = some (.slice a6 n6 k6) := M7.out.cell 6 rfl
            have yl7 := M7.out.lt
            have hn663 : (n6 : Int) ≤ 9223372036854775807 := src_n63 Tryz.underlying37 HSRC.out.2.2.2.2.2.1
            clear HJ
            go_wp2
            clear y6
            obtain ⟨wo, hwo⟩ : ∃ wo, wo = wr := ⟨_, rfl⟩
            subst hwo
            go_loopw [58] (fun i wx => ∃ (q : Nat) (hq : Sy), q ≤ n6 ∧ i = .int .i64 (q : Int) ∧ Hid (insl H hj (valL (njoin sc (numsOf s0)) 7 3 m6 q) = .ok hq) ∧ Hid (Lq W wx bp bs be vf hq D Dk d0 (cc + (msgL (f + 1) sc ms k).length)) ∧ Hid (Fx (Sp bs be Dk) w6 wx)) (fun i _ => n6 - (intOf i).toNat)
            case atStart => exact ⟨0, _, Nat.zero_le _, rfl, rfl, LJ.out, FJ.out⟩
            case round =>
              clear LJ FJ
              obtain ⟨j, hq, hjn, rfl, HJ, LJ, FJ⟩ := hrel
              by_cases hlj : j < n6
              · skip
                obtain ⟨ob, ooff, os0, oa1, on1, ok1, oa2, on2, ok2, rfl, obl, ou0, ou1, ou2, oz0, oat⟩ := one_src HSRC.out.2.2.2.2.2.1 HT.out.2.2.2.2 hlj
                have HBx : Hid (Below w0.heap.size w0 wr) := HP.out.kept HB0.out HLO.out.1 HLO.out.2.1 HLO.out.2.2 LJ.out.fx
                replace ou0 := (HBx.out.cell (p := ⟨ob, ooff + j * 3, none⟩) obl).trans ou0
                replace ou1 := (HBx.out.cell (p := ⟨ob, ooff + j * 3 + 1, none⟩) obl).trans ou1
                replace ou2 := (HBx.out.cell (p := ⟨ob, ooff + j * 3 + 2, none⟩) obl).trans ou2
                have obl2 : ob < wr.heap.size := Nat.lt_of_lt_of_le obl HBx.out.size
                obtain ⟨wz, hwz⟩ : ∃ wz, wr.alloc (.cells #[.string os0, .slice oa1 on1 ok1, .slice oa2 on2 ok2] 141) = wz := ⟨_, rfl⟩
                have hbz : Below wr.heap.size wr wz := by rw [← hwz]; exact (Below.refl _ _).alloc (Nat.le_refl _) _
                have oz : Ob wz wr.heap.size #[.string os0, .slice oa1 on1 ok1, .slice oa2 on2 ok2] 141 := by rw [← hwz]; exact Ob.new _ _ _
                have Lz : Hid _ := LJ.out.below hbz
                have Fz : Hid (Fx (Sp bs be Dk) w6 wz) := FJ.out.trans (Fx.of_below (S := Sp bs be Dk) hbz) (fun _ e => .inl e)
                have ohz : Ob wz bh #[.pointer (some ⟨bp, 0, none⟩), .string H] 204 := Lz.out.fx.ob OH.out HNS.out.1
                obtain ⟨⟨i0, i1⟩, _, il⟩ := ob2 ohz
                have j0 : wz.cell? ⟨wr.heap.size, 0, none⟩ = some (.string os0) := oz.cell 0 rfl
                have jl := oz.lt
                obtain ⟨Zz, hzz⟩ := Lz.out.pw
                have HZZ : Hid _ := hzz
                have Qz : Hid _ := qput H (njoin sc (numsOf s0)) os0 (show Hid _ from HSC.out.1) (by have := HSC.out.2; omega) (by omega) 7 none none none wz (show Hid _ from hzz.px)
                rw [show strOfNums (njoin sc (numsOf s0)) = F from HFN.out] at Qz
                have ZX : Hid _ := oz0
                have ATX : Hid _ := oat
                have HWZ : Hid _ := hwz
                clear hzz hwz hbz oz ohz oz0 oat
                go_upto_region 15 with fail
                rw [HWZ.out]
                clear HWZ ou0 ou1 ou2
                go_wp2_with fail
                refine Calls.mono Qz.out ?_
                rintro e wy ⟨hgy, ⟨hny, rfl, hpy⟩ | ⟨hny, rfl⟩⟩
                · have HJy : Hid _ := val_next HJ.out ATX.out hny
                  have Ly : Hid _ := Lz.out.put HZZ.out hgy (put_keeps (kd := 7) (H := H) hny) hpy
                  have Fy : Hid (Fx (Sp bs be Dk) w6 wy) := Fz.out.trans (Fx.of_grown (S := Sp bs be Dk) hgy (.inl rfl)) (fun _ e => .inl e)
                  clear hgy hny hpy Qz i0 i1 il j0 jl HZZ Lz Fz
                  go_wp2
                  go_roundw
                  case rel => exact ⟨j + 1, _, by omega, by go_num, HJy.out, Ly.out, Fy.out⟩
                  case measure => simp [intOf]; omega
                · have HEy : Hid (insl H h (msgL (f + 1) sc ms n) = .error (jn (njoin sc (numsOf s0)) os0)) := lay_put hlk HI.out (by rw [HONE.out, insl_one H hk _ 2 _ HN4.out]; rw [insl_ok_left HJ1.out]; exact insl_err_left (val_err hlj HJ.out ATX.out hny))
                  have HFy : Hid (Fx (Sp bs be D) W wy) := Lz.out.fx.trans (.of_grown (S := Sp bs be Dk) hgy (.inl rfl)) Lz.out.dg.sp
                  exact ⟨rfl, xend_err HFy.out HEy.out⟩
              · have hjj : n6 = j := by omega
                subst hjj
                have HJ2 : Hid _ := HJ.out
                have hpw6 := L6.out.pw
                have M8 : Hid (Ob wr we.heap.size #[.string s0, .slice a1 n1 k1, .slice a2 n2 k2, .slice a3 n3 k3, .slice a4 n4 k4, .slice a5 n5 k5, .slice a6 n6 k6, .slice a7 n7 k7, .slice a8 n8 k8, .slice a9 n9 k9, .slice a10 n10 k10] 40) := FJ.out.ob M6.out (hpw6.other M6.out.eq (by decide))
                have K8 : Hid (Ob wr W.heap.size cs6 40 ∧ cs6.size = n * 11 ∧ cs6[k * 11 + 3]? = some (.slice p3 n3 r3) ∧ cs6[k * 11 + 5]? = some (.slice p5 n5 r5)) := ⟨FJ.out.ob K6.out.1 (hpw6.other K6.out.1.eq (by decide)), K6.out.2⟩
                have E8 : Hid (Own Tryz.prog wr w4.heap.size A0 35 (.ls p3 n3 r3 e3) ∧ Own Tryz.prog wr w4.heap.size A0 33 (.ls p5 n5 r5 x5)) := ⟨FJ.out.own hpw6 (fun _ e => e) (fun _ e => e.1) E6.out.1, FJ.out.own hpw6 (fun _ e => e) (fun _ e => e.1) E6.out.2⟩
                have L8 : Hid _ := LJ.out
                have HB8 : Hid (Below w0.heap.size w0 wr) := HP.out.kept HB0.out HLO.out.1 HLO.out.2.1 HLO.out.2.2 LJ.out.fx
                have oh8 : Ob wr bh #[.pointer (some ⟨bp, 0, none⟩), .string H] 204 := LJ.out.fx.ob OH.out HNS.out.1
                have oa8 : Ob wr ba #[.int .i64 1, .bool false] 100 := LJ.out.fx.ob OA.out HNS.out.2.1
                have oq8 : Ob wr bq #[layQ bh ba bq] 206 := LJ.out.fx.ob OQ.out HNS.out.2.2
                have hol : (oneL f sc ms k).length = 1 + ((valL (njoin sc (numsOf s0)) 5 13 m1 n1).length + ((valL (njoin sc (numsOf s0)) 7 3 m6 n6).length + ((msgL f (njoin sc (numsOf s0)) m2 n2).length + ((enumL (njoin sc (numsOf s0)) m3 n3).length + (valL (njoin sc (numsOf s0)) 6 13 m5 n5).length)))) := by
                  rw [HONE.out]
                  simp only [List.length_cons, List.length_append]
                  omega
                have HOL : Hid _ := hol
                have QI : Hid _ := IH.out f rfl (njoin sc (numsOf s0)) a2 n2 k2 m2 wr bh ba bq bp bs be vf hq Dk d0 (cc + (msgL (f + 1) sc ms k).length) HSC.out.1 HSC.out.2 HSRC.out.2.1 HT.out.2.1 HOK2.out HB8.out HLO.out.1 HLO.out.2.1 HLO.out.2.2 (Nat.le_trans HD0.out LJ.out.fx.size) oh8 oa8 oq8 (by have := HLEN.out; omega) LJ.out.pw
                rw [show strOfNums (njoin sc (numsOf s0)) = F from HFN.out] at QI
                have y2 : wr.cell? ⟨we.heap.size, 2, none⟩ = some (.slice a2 n2 k2) := M8.out.cell 2 rfl
                have yl8 := M8.out.lt
                obtain ⟨y3, _, y3l⟩ := ob1 oq8
                unfold layQ at y3
                clear hol oh8 oa8 oq8 hpw6 LJ FJ HJ M6 K6 E6 L6 M7 yl7 yl
                go_wp2_with fail
                refine Calls.mono QI.out ?_
                rintro e w8 hx8
                obtain ⟨hf8, ⟨h3', hr8, rfl, D', hd8, hp8⟩ | ⟨F', hr8, rfl⟩⟩ := xend_cases hx8
                · have HR8 : Hid _ := hr8
                  have L9 : Hid _ := L8.out.step hf8 hd8 hp8
                  have K9 : Hid (Ob w8 W.heap.size cs6 40 ∧ cs6.size = n * 11 ∧ cs6[k * 11 + 3]? = some (.slice p3 n3 r3) ∧ cs6[k * 11 + 5]? = some (.slice p5 n5 r5)) := ⟨hf8.ob K8.out.1 (L8.out.pw.other K8.out.1.eq (by decide)), K8.out.2⟩
                  have E9 : Hid (Own Tryz.prog w8 w4.heap.size A0 35 (.ls p3 n3 r3 e3) ∧ Own Tryz.prog w8 w4.heap.size A0 33 (.ls p5 n5 r5 x5)) := ⟨hf8.own L8.out.pw (fun _ e => e) (fun _ e => e.1) E8.out.1, hf8.own L8.out.pw (fun _ e => e) (fun _ e => e.1) E8.out.2⟩
                  have c2 : w8.cell? ⟨W.heap.size, k * 11 + 2, none⟩ = some (cs6[k * 11 + 2]'(by have := K9.out.2.1; omega)) := K9.out.1.cells_in (by have := K9.out.2.1; omega)
                  have d2 : w8.frozen? ⟨W.heap.size, k * 11 + 2, none⟩ = false := K9.out.1.frozen _
                  have kl9 : W.heap.size < w8.heap.size := K9.out.1.lt
                  clear hx8 hf8 hr8 hd8 hp8 QI y2 yl8 y3 y3l K8 E8 M8 HB8
                  go_upto_region 18 with fail
                  have fx9 := fx1 w8 W.heap.size (k * 11 + 2) (.slice (some ⟨wr.heap.size, 0, none⟩) n2 n2)
                  have k10 := K9.out.1.set (k * 11 + 2) (.slice (some ⟨wr.heap.size, 0, none⟩) n2 n2)
                  generalize w8.setCell ⟨W.heap.size, k * 11 + 2, none⟩ (.slice (some ⟨wr.heap.size, 0, none⟩) n2 n2) = w9 at fx9 k10 ⊢
                  have L10 : Hid _ := L9.out.set (Nat.le_refl _) fx9 K9.out.1 (by decide) (by decide) (by decide)
                  have hA9 : ∀ b cs E, b = W.heap.size → w8.heap[b]? = some (.cells cs E (0, 0)) → ¬ A0 E := fun b cs' E e1 e2 e3 => by
                    subst e1
                    rw [K9.out.1.eq] at e2
                    cases e2
                    exact e3.2 rfl
                  have E10 : Hid (Own Tryz.prog w9 w4.heap.size A0 35 (.ls p3 n3 r3 e3) ∧ Own Tryz.prog w9 w4.heap.size A0 33 (.ls p5 n5 r5 x5)) := ⟨E9.out.1.fxT fx9 hA9, E9.out.2.fxT fx9 hA9⟩
                  have K10 : Hid (Ob w9 W.heap.size (cs6.setIfInBounds (k * 11 + 2) (.slice (some ⟨wr.heap.size, 0, none⟩) n2 n2)) 40 ∧ (cs6.setIfInBounds (k * 11 + 2) (.slice (some ⟨wr.heap.size, 0, none⟩) n2 n2)).size = n * 11 ∧ (cs6.setIfInBounds (k * 11 + 2) (.slice (some ⟨wr.heap.size, 0, none⟩) n2 n2))[k * 11 + 3]? = some (.slice p3 n3 r3) ∧ (cs6.setIfInBounds (k * 11 + 2) (.slice (some ⟨wr.heap.size, 0, none⟩) n2 n2))[k * 11 + 5]? = some (.slice p5 n5 r5)) := ⟨k10, by simpa using K9.out.2.1, by rw [Array.getElem?_setIfInBounds, if_neg (by omega)]; exact K9.out.2.2.1, by rw [Array.getElem?_setIfInBounds, if_neg (by omega)]; exact K9.out.2.2.2⟩
                  generalize cs6.setIfInBounds (k * 11 + 2) (.slice (some ⟨wr.heap.size, 0, none⟩) n2 n2) = cs7 at K10
                  clear fx9 k10 hA9 c2 d2 kl9 K9 E9 L9
                  have oh10 : Ob w9 bh #[.pointer (some ⟨bp, 0, none⟩), .string H] 204 := L10.out.fx.ob OH.out HNS.out.1
                  have f0' := fun x : Ext w9 => x.cell (p := ⟨bh, 0, none⟩) oh10.lt (oh10.cell 0 rfl)
                  have f1' := fun x : Ext w9 => x.cell (p := ⟨bh, 1, none⟩) oh10.lt (oh10.cell 1 rfl)
                  have g3' := fun x : Ext w9 => x.cell (p := ⟨W.heap.size, k * 11 + 3, none⟩) K10.out.1.lt (K10.out.1.cell _ K10.out.2.2.1)
                  refine wp_region_then w9 7 1 rfl (Below.refl _ _) (by kernel_rfl) (by kernel_rfl) (by kernel_rfl) (by kernel_rfl) ?_
                  simp only [List.take]
                  repeat (go_big_quiet_step (fail))
                  refine wpQuiet_nil ?_
                  rintro w10 ⟨⟨_, hb10⟩, rfl⟩
                  have L11 : Hid _ := L10.out.below hb10
                  have E11 : Hid (Own Tryz.prog w10 w4.heap.size A0 35 (.ls p3 n3 r3 e3) ∧ Own Tryz.prog w10 w4.heap.size A0 33 (.ls p5 n5 r5 x5)) := ⟨E10.out.1.under hb10, E10.out.2.under hb10⟩
                  have K11 : Hid (Ob w10 W.heap.size cs7 40 ∧ cs7.size = n * 11 ∧ cs7[k * 11 + 3]? = some (.slice p3 n3 r3) ∧ cs7[k * 11 + 5]? = some (.slice p5 n5 r5)) := ⟨K10.out.1.below hb10 K10.out.1.lt, K10.out.2⟩
                  obtain ⟨Ze, hze⟩ := L11.out.pw
                  have HZE : Hid _ := hze
                  have QE : Hid _ := qenums H (njoin sc (numsOf s0)) (show Hid _ from HSC.out.1) (show Hid _ from (by have := HSC.out.2; show _ ≤ _; omega)) p3 n3 r3 e3 w4.heap.size A0 w10 (show Hid _ from E11.out.1) (show Hid _ from HNM5.out.1) (show Hid _ from hze.px)
                  rw [show strOfNums (njoin sc (numsOf s0)) = F from HFN.out, enumL_alk HAK.out.1] at QE
                  clear hb10 f0' f1' g3' oh10 hze L10 E10 K10
                  refine wpAny_force (i := 7) (by kernel_rfl) rfl ?_
                  intro Q' hQ' hPn
                  have HQ : Hid _ := hQ'
                  have HN : Hid _ := hPn
                  clear hQ' hPn
                  go_wp2_with fail
                  refine Calls.mono QE.out ?_
                  rintro e w11 hx11
                  obtain ⟨hg11, ⟨h4', hr11, rfl, hp11⟩ | ⟨F', hr11, rfl⟩⟩ := pend_cases hx11
                  · have HR11 : Hid _ := hr11
                    have L12 : Hid _ := L11.out.put HZE.out hg11 (insl_six H hr11) hp11
                    have hf11 : Fx (Sp bs be D') w10 w11 := .of_grown hg11 (.inl rfl)
                    have E12 : Hid (Own Tryz.prog w11 w4.heap.size A0 33 (.ls p5 n5 r5 x5)) := hf11.own L11.out.pw (fun _ e => e) (fun _ e => e.1) E11.out.2
                    have K12 : Hid (Ob w11 W.heap.size cs7 40 ∧ cs7.size = n * 11 ∧ cs7[k * 11 + 3]? = some (.slice p3 n3 r3) ∧ cs7[k * 11 + 5]? = some (.slice p5 n5 r5)) := ⟨hf11.ob K11.out.1 (L11.out.pw.other K11.out.1.eq (by decide)), K11.out.2⟩
                    clear hx11 hg11 hr11 hp11 hf11 QE HZE L11 E11 K11
                    go_wp2
                    refine HQ.out _ _ ?_
                    clear HQ HN
                    refine wpAny_end (by kernel_rfl) ?_
                    go_upto_region 19 with fail
                    have oh12 : Ob w11 bh #[.pointer (some ⟨bp, 0, none⟩), .string H] 204 := L12.out.fx.ob OH.out HNS.out.1
                    have f0' := fun x : Ext w11 => x.cell (p := ⟨bh, 0, none⟩) oh12.lt (oh12.cell 0 rfl)
                    have f1' := fun x : Ext w11 => x.cell (p := ⟨bh, 1, none⟩) oh12.lt (oh12.cell 1 rfl)
                    have g5' := fun x : Ext w11 => x.cell (p := ⟨W.heap.size, k * 11 + 5, none⟩) K12.out.1.lt (K12.out.1.cell _ K12.out.2.2.2)
                    refine wp_region_then w11 7 1 rfl (Below.refl _ _) (by kernel_rfl) (by kernel_rfl) (by kernel_rfl) (by kernel_rfl) ?_
                    simp only [List.take]
                    repeat (go_big_quiet_step (fail))
                    refine wpQuiet_nil ?_
                    rintro w12 ⟨⟨_, hb12⟩, rfl⟩
                    have L13 : Hid _ := L12.out.below hb12
                    have K13 : Hid (Ob w12 W.heap.size cs7 40 ∧ cs7.size = n * 11) := ⟨K12.out.1.below hb12 K12.out.1.lt, K12.out.2.1⟩
                    have hn5 : n5 = (valL (njoin sc (numsOf s0)) 6 13 m5 n5).length := (valL_len _ _ _ _ _).symm
                    have QX : Hid _ := qextends H (njoin sc (numsOf s0)) (show Hid _ from HSC.out.1) (show Hid _ from (by have := HSC.out.2; show _ ≤ _; omega)) p5 n5 r5 x5 w4.heap.size A0 (show Hid _ from fun _ e => e.1) w12 (show Hid _ from E12.out.under hb12) (show Hid _ from HNM5.out.2) (show Hid _ from (by have h1 := HLEN.out; have h2 := HOL.out; show _ ≤ _; omega)) (show Hid _ from Nat.le_trans HD0.out L13.out.fx.size) (show Hid _ from L13.out.pw)
                    rw [show strOfNums (njoin sc (numsOf s0)) = F from HFN.out, valL_alk HAK.out.2] at QX
                    clear hb12 f0' f1' g5' oh12 hn5 L12 E12 K12
                    refine wpAny_force (i := 7) (by kernel_rfl) rfl ?_
                    intro Q' hQ' hPn
                    have HQ : Hid _ := hQ'
                    have HN : Hid _ := hPn
                    clear hQ' hPn
                    go_wp2_with fail
                    refine Calls.mono QX.out ?_
                    rintro e w13 hx13
                    obtain ⟨hf13, ⟨h5', hr13, rfl, D'', hd13, hp13⟩ | ⟨F', hr13, rfl⟩⟩ := xend_cases hx13
                    · have HI14 : Hid (insl H h (msgL (f + 1) sc ms (k + 1)) = .ok h5') := lay_next HI.out (by rw [HONE.out, insl_one H hk _ 2 _ HN4.out, insl_ok_left HJ1.out, insl_ok_left HJ2.out, insl_ok_left HR8.out, insl_ok_left HR11.out]; exact hr13)
                      have L14 : Hid (Lq W w13 bp bs be vf h5' D D'' d0 (cc + (msgL (f + 1) sc ms (k + 1)).length)) := L13.out.step hf13 hd13 (hp13.more (by
                        have h1 := len_next f sc ms k
                        have h2 := HOL.out
                        have h3 := valL_len (njoin sc (numsOf s0)) 6 13 m5 n5
                        omega))
                      have K14 : Hid (Ob w13 W.heap.size cs7 40 ∧ cs7.size = n * 11) := ⟨hf13.ob K13.out.1 (L13.out.pw.other K13.out.1.eq (by decide)), K13.out.2⟩
                      clear hx13 hf13 hr13 hd13 hp13 QX L13 K13
                      go_wp2
                      refine HQ.out _ _ ?_
                      clear HQ HN
                      refine wpAny_end (by kernel_rfl) ?_
                      go_wp2
                      go_roundw
                      case rel => exact ⟨k + 1, _, _, _, by omega, by go_num, HI14.out, L14.out, K14.out⟩
                      case measure => simp [intOf]; omega
                    · have HE13 : Hid (insl H h (msgL (f + 1) sc ms n) = .error F') := lay_put hlk HI.out (by rw [HONE.out, insl_one H hk _ 2 _ HN4.out, insl_ok_left HJ1.out, insl_ok_left HJ2.out, insl_ok_left HR8.out, insl_ok_left HR11.out]; exact hr13)
                      have HF13 : Hid (Fx (Sp bs be D) W w13) := L13.out.fx.trans hf13 L13.out.dg.sp
                      refine HN.out _ _ _ ?_
                      exact ⟨rfl, xend_err HF13.out HE13.out⟩
                  · have HE11 : Hid (insl H h (msgL (f + 1) sc ms n) = .error F') := lay_put hlk HI.out (by rw [HONE.out, insl_one H hk _ 2 _ HN4.out, insl_ok_left HJ1.out, insl_ok_left HJ2.out, insl_ok_left HR8.out]; exact insl_err_left hr11)
                    have HF11 : Hid (Fx (Sp bs be D) W w11) := L11.out.fx.trans (.of_grown (S := Sp bs be D') hg11 (.inl rfl)) L11.out.dg.sp
                    refine HN.out _ _ _ ?_
                    exact ⟨rfl, xend_err HF11.out HE11.out⟩
                · have HE8 : Hid (insl H h (msgL (f + 1) sc ms n) = .error F') := lay_put hlk HI.out (by rw [HONE.out, insl_one H hk _ 2 _ HN4.out, insl_ok_left HJ1.out, insl_ok_left HJ2.out]; exact insl_err_left hr8)
                  have HF8 : Hid (Fx (Sp bs be D) W w8) := L8.out.fx.trans hf8 L8.out.dg.sp
                  exact ⟨rfl, xend_err HF8.out HE8.out⟩
      · have HE4 : Hid (insl H h (msgL (f + 1) sc ms n) = .error (jn sc s0)) := lay_put hlk HI.out (by rw [HONE.out]; exact insl_dup H hk _ 2 _ hn4)
        have HF4 : Hid (Fx (Sp bs be D) W w4) := L3.out.fx.trans (.of_grown (S := Sp bs be Dk) hg4 (.inl rfl)) L3.out.dg.sp
        refine HN.out _ _ _ ?_
        exact ⟨rfl, xend_err HF4.out HE4.out⟩
    · have hkk : k = n := by omega
      subst hkk
      go_wp2
      go_ret
      exact xend_ok HL.out.fx HI.out HL.out.dg HL.out.pw

end Go.Proofs.YtafmoceinamcdaaGreat
