/- Put together by a program out of these texts of mine: VDt, VFs, VFq, VFi0, VFi. -/
import Derived.Test.YtafmoceinamcdaaGreatBunS7
import Derived.Test.YtafmoceinamcdaaGreatBunS15
import Derived.Test.YtafmoceinamcdaaGreatBunS17
import Derived.Test.YtafmoceinamcdaaGreatBunS23
import Derived.Test.YtafmoceinamcdaaGreatBunS26

namespace Go.Proofs.YtafmoceinamcdaaGreat
open Go.RowKit
set_option linter.unusedVariables false
set_option linter.unusedSimpArgs false

theorem flds_file : flds Tryz.prog 62 = [9, 9, 30, 59, 34, 35, 60, 33, 9, 38, 38] := by kernel_rfl

theorem file_at {w : World} {a : Option Addr} {n c : Nat} {ms : List Md} (h : Ok Tryz.prog w 22 (.ls a n c ms)) (k : Nat) (hk' : k < n) :
    ∃ b off s0 s1 s8 a2 n2 c2 a3 n3 c3 a4 n4 c4 a5 n5 c5 a6 n6 c6 a7 n7 c7 a9 n9 c9 a10 n10 c10, a = some ⟨b, off, none⟩ ∧ b < w.heap.size ∧ w.cell? ⟨b, off + k * 11, none⟩ = some (.string s0) ∧ w.cell? ⟨b, off + k * 11 + 1, none⟩ = some (.string s1) ∧ w.cell? ⟨b, off + k * 11 + 2, none⟩ = some (.slice a2 n2 c2) ∧ w.cell? ⟨b, off + k * 11 + 3, none⟩ = some (.slice a3 n3 c3) ∧ w.cell? ⟨b, off + k * 11 + 4, none⟩ = some (.slice a4 n4 c4) ∧ w.cell? ⟨b, off + k * 11 + 5, none⟩ = some (.slice a5 n5 c5) ∧ w.cell? ⟨b, off + k * 11 + 6, none⟩ = some (.slice a6 n6 c6) ∧ w.cell? ⟨b, off + k * 11 + 7, none⟩ = some (.slice a7 n7 c7) ∧ w.cell? ⟨b, off + k * 11 + 8, none⟩ = some (.string s8) ∧ w.cell? ⟨b, off + k * 11 + 9, none⟩ = some (.slice a9 n9 c9) ∧ w.cell? ⟨b, off + k * 11 + 10, none⟩ = some (.slice a10 n10 c10) ∧ lsN ms (k * 11 + 4) = n4 ∧ Ok Tryz.prog w 34 (.ls a4 n4 c4 (lsM ms (k * 11 + 4))) := by
  cases h with
  | ls hT hnc hm hnil hlen hmem hk =>
    rename_i E
    have hE : E = 62 := by
      have := Tryz.underlying22
      rw [this] at hT
      cases hT
      rfl
    subst hE
    rw [flds_file] at hlen hk
    obtain ⟨b, off, rfl, hb, hc⟩ := hmem (by omega)
    have hg : ∀ j, j < 11 → ∃ m, ms[k * 11 + j]? = some m := fun j hj => ⟨_, List.getElem?_eq_getElem (by simp at hlen; omega)⟩
    have hmod : ∀ j, j < 11 → (k * 11 + j) % 11 = j := fun j hj => by omega
    obtain ⟨x0, hx0⟩ := hg 0 (by omega)
    have ok0 := hk _ _ 9 hx0 (by rw [show ([9, 9, 30, 59, 34, 35, 60, 33, 9, 38, 38] : List TypeId).length = 11 from rfl, hmod 0 (by omega)]; rfl)
    have cl0 := hc _ _ hx0
    obtain ⟨x1, hx1⟩ := hg 1 (by omega)
    have ok1 := hk _ _ 9 hx1 (by rw [show ([9, 9, 30, 59, 34, 35, 60, 33, 9, 38, 38] : List TypeId).length = 11 from rfl, hmod 1 (by omega)]; rfl)
    have cl1 := hc _ _ hx1
    obtain ⟨x2, hx2⟩ := hg 2 (by omega)
    have ok2 := hk _ _ 30 hx2 (by rw [show ([9, 9, 30, 59, 34, 35, 60, 33, 9, 38, 38] : List TypeId).length = 11 from rfl, hmod 2 (by omega)]; rfl)
    have cl2 := hc _ _ hx2
    obtain ⟨x3, hx3⟩ := hg 3 (by omega)
    have ok3 := hk _ _ 59 hx3 (by rw [show ([9, 9, 30, 59, 34, 35, 60, 33, 9, 38, 38] : List TypeId).length = 11 from rfl, hmod 3 (by omega)]; rfl)
    have cl3 := hc _ _ hx3
    obtain ⟨x4, hx4⟩ := hg 4 (by omega)
    have ok4 := hk _ _ 34 hx4 (by rw [show ([9, 9, 30, 59, 34, 35, 60, 33, 9, 38, 38] : List TypeId).length = 11 from rfl, hmod 4 (by omega)]; rfl)
    have cl4 := hc _ _ hx4
    obtain ⟨x5, hx5⟩ := hg 5 (by omega)
    have ok5 := hk _ _ 35 hx5 (by rw [show ([9, 9, 30, 59, 34, 35, 60, 33, 9, 38, 38] : List TypeId).length = 11 from rfl, hmod 5 (by omega)]; rfl)
    have cl5 := hc _ _ hx5
    obtain ⟨x6, hx6⟩ := hg 6 (by omega)
    have ok6 := hk _ _ 60 hx6 (by rw [show ([9, 9, 30, 59, 34, 35, 60, 33, 9, 38, 38] : List TypeId).length = 11 from rfl, hmod 6 (by omega)]; rfl)
    have cl6 := hc _ _ hx6
    obtain ⟨x7, hx7⟩ := hg 7 (by omega)
    have ok7 := hk _ _ 33 hx7 (by rw [show ([9, 9, 30, 59, 34, 35, 60, 33, 9, 38, 38] : List TypeId).length = 11 from rfl, hmod 7 (by omega)]; rfl)
    have cl7 := hc _ _ hx7
    obtain ⟨x8, hx8⟩ := hg 8 (by omega)
    have ok8 := hk _ _ 9 hx8 (by rw [show ([9, 9, 30, 59, 34, 35, 60, 33, 9, 38, 38] : List TypeId).length = 11 from rfl, hmod 8 (by omega)]; rfl)
    have cl8 := hc _ _ hx8
    obtain ⟨x9, hx9⟩ := hg 9 (by omega)
    have ok9 := hk _ _ 38 hx9 (by rw [show ([9, 9, 30, 59, 34, 35, 60, 33, 9, 38, 38] : List TypeId).length = 11 from rfl, hmod 9 (by omega)]; rfl)
    have cl9 := hc _ _ hx9
    obtain ⟨x10, hx10⟩ := hg 10 (by omega)
    have ok10 := hk _ _ 38 hx10 (by rw [show ([9, 9, 30, 59, 34, 35, 60, 33, 9, 38, 38] : List TypeId).length = 11 from rfl, hmod 10 (by omega)]; rfl)
    have cl10 := hc _ _ hx10
    obtain ⟨s0, rfl, _⟩ := ok_str Tryz.underlying9 ok0
    obtain ⟨s1, rfl, _⟩ := ok_str Tryz.underlying9 ok1
    obtain ⟨a2, n2, c2, m2, rfl, l2⟩ := ok_ls Tryz.underlying30 ok2
    obtain ⟨a3, n3, c3, m3, rfl, l3⟩ := ok_ls Tryz.underlying59 ok3
    obtain ⟨a4, n4, c4, m4, rfl, l4⟩ := ok_ls Tryz.underlying34 ok4
    obtain ⟨a5, n5, c5, m5, rfl, l5⟩ := ok_ls Tryz.underlying35 ok5
    obtain ⟨a6, n6, c6, m6, rfl, l6⟩ := ok_ls Tryz.underlying60 ok6
    obtain ⟨a7, n7, c7, m7, rfl, l7⟩ := ok_ls Tryz.underlying33 ok7
    obtain ⟨s8, rfl, _⟩ := ok_str Tryz.underlying9 ok8
    obtain ⟨a9, n9, c9, m9, rfl, l9⟩ := ok_ls Tryz.underlying38 ok9
    obtain ⟨a10, n10, c10, m10, rfl, l10⟩ := ok_ls Tryz.underlying38 ok10
    refine ⟨b, off, s0, s1, s8, a2, n2, c2, a3, n3, c3, a4, n4, c4, a5, n5, c5, a6, n6, c6, a7, n7, c7, a9, n9, c9, a10, n10, c10, rfl, hb, ?_, ?_, ?_, ?_, ?_, ?_, ?_, ?_, ?_, ?_, ?_, by simp [lsN, hx4], by simpa [lsM, hx4] using ok4⟩
    · simpa [Md.val, Nat.add_assoc] using cl0
    · simpa [Md.val, Nat.add_assoc] using cl1
    · simpa [Md.val, Nat.add_assoc] using cl2
    · simpa [Md.val, Nat.add_assoc] using cl3
    · simpa [Md.val, Nat.add_assoc] using cl4
    · simpa [Md.val, Nat.add_assoc] using cl5
    · simpa [Md.val, Nat.add_assoc] using cl6
    · simpa [Md.val, Nat.add_assoc] using cl7
    · simpa [Md.val, Nat.add_assoc] using cl8
    · simpa [Md.val, Nat.add_assoc] using cl9
    · simpa [Md.val, Nat.add_assoc] using cl10

def tooK (k : Nat) (ms : List Md) : Bool := (List.range k).any fun i => !okd 64 (lsN ms (i * 11 + 4)) (lsM ms (i * 11 + 4))

theorem tooK_succ (k : Nat) (ms : List Md) : tooK (k + 1) ms = (tooK k ms || !okd 64 (lsN ms (k * 11 + 4)) (lsM ms (k * 11 + 4))) := by
  simp [tooK, List.range_succ, List.any_append]

theorem tooK_bad {k n : Nat} {ms : List Md} (hk : k < n) (h : okd 64 (lsN ms (k * 11 + 4)) (lsM ms (k * 11 + 4)) = false) : tooK n ms = true := by
  rw [tooK, List.any_eq_true]
  exact ⟨k, List.mem_range.2 hk, by simp [h]⟩

set_option maxRecDepth 100000 in
set_option maxHeartbeats 4000000 in
theorem pidxF (a : Option Addr) (n c : Nat) (ms : List Md) (w : World) (h : Hid (Ok Tryz.prog w 22 (.ls a n c ms))) (hn : (n : Int) ≤ 9223372036854775807) :
    Calls Tryz.prog 117 #[.slice a n c, .func (.func 69) #[] #[]] w fun e w' => (∃ z : Int, e = .returned (.int .i64 z) ∧ (-1 ≤ z ∧ z ≤ 9223372036854775807) ∧ decide (0 ≤ z) = tooK n ms) ∧ Below w.heap.size w w' := by
  go_enter Tryz.func117, Tryz.ntmps117
  go_wp2
  go_loopw [8] (fun v wr => ∃ k : Nat, k ≤ n ∧ v = .int .i64 (k : Int) ∧ Hid (tooK k ms = false) ∧ Hid (Below w.heap.size w wr)) (fun v _ => n - (intOf v).toNat)
  case atStart => exact ⟨0, Nat.zero_le _, rfl, rfl, Below.refl _ _⟩
  case round =>
    obtain ⟨k, hk, rfl, HK, HBW⟩ := hrel
    by_cases hlk : k < n
    · obtain ⟨b, off, s0, s1, s8, a2, n2, c2, a3, n3, c3, a4, n4, c4, a5, n5, c5, a6, n6, c6, a7, n7, c7, a9, n9, c9, a10, n10, c10, rfl, hlt, cc0, cc1, cc2, cc3, cc4, cc5, cc6, cc7, cc8, cc9, cc10, e4, ok4⟩ := file_at h.out k hlk
      have d0 := (HBW.out.cell (p := ⟨b, off + k * 11, none⟩) hlt).trans cc0
      have d1 := (HBW.out.cell (p := ⟨b, off + k * 11 + 1, none⟩) hlt).trans cc1
      have d2 := (HBW.out.cell (p := ⟨b, off + k * 11 + 2, none⟩) hlt).trans cc2
      have d3 := (HBW.out.cell (p := ⟨b, off + k * 11 + 3, none⟩) hlt).trans cc3
      have d4 := (HBW.out.cell (p := ⟨b, off + k * 11 + 4, none⟩) hlt).trans cc4
      have d5 := (HBW.out.cell (p := ⟨b, off + k * 11 + 5, none⟩) hlt).trans cc5
      have d6 := (HBW.out.cell (p := ⟨b, off + k * 11 + 6, none⟩) hlt).trans cc6
      have d7 := (HBW.out.cell (p := ⟨b, off + k * 11 + 7, none⟩) hlt).trans cc7
      have d8 := (HBW.out.cell (p := ⟨b, off + k * 11 + 8, none⟩) hlt).trans cc8
      have d9 := (HBW.out.cell (p := ⟨b, off + k * 11 + 9, none⟩) hlt).trans cc9
      have d10 := (HBW.out.cell (p := ⟨b, off + k * 11 + 10, none⟩) hlt).trans cc10
      have hwz := HBW.out.size
      have Q : Hid _ := ptoo_any s0 s1 s8 a4 n4 c4 (lsM ms (k * 11 + 4)) a2 n2 c2 a3 n3 c3 a5 n5 c5 a6 n6 c6 a7 n7 c7 a9 n9 c9 a10 n10 c10 wr (ok4.under HBW.out (Nat.le_refl _))
      have E4 : Hid _ := e4
      clear cc0 cc1 cc2 cc3 cc4 cc5 cc6 cc7 cc8 cc9 cc10 ok4 e4 h
      go_wp2_with fail
      refine Calls.mono Q.out ?_
      rintro e w1 ⟨rfl, hb1⟩
      have HB1 : Hid (Below w.heap.size w w1) := HBW.out.trans (hb1.mono HBW.out.size)
      clear hb1 Q d0 d1 d2 d3 d4 d5 d6 d7 d8 d9 d10
      rcases hq : okd 64 n4 (lsM ms (k * 11 + 4)) with _ | _
      · have HQ : Hid _ := hq
        clear hq
        go_wp2
        go_ret
        have hbad : tooK n ms = true := tooK_bad hlk (by rw [E4.out]; exact HQ.out)
        exact ⟨⟨_, rfl, ⟨by omega, by omega⟩, by rw [hbad]; simp⟩, HB1.out⟩
      · have HQ : Hid _ := hq
        clear hq
        go_wp2
        go_roundw
        case rel => exact ⟨k + 1, by omega, by go_num, by rw [tooK_succ, HK.out, E4.out, HQ.out]; rfl, HB1.out⟩
        case measure => simp [intOf]; omega
    · have hkn : k = n := by omega
      subst hkn
      go_wp2
      go_ret
      exact ⟨⟨-1, rfl, ⟨by omega, by omega⟩, by rw [HK.out]; simp⟩, HBW.out⟩

set_option maxRecDepth 100000 in
set_option maxHeartbeats 4000000 in
theorem pconF (a : Option Addr) (n c : Nat) (ms : List Md) (w : World) (h : Hid (Ok Tryz.prog w 22 (.ls a n c ms))) (hn : (n : Int) ≤ 9223372036854775807) :
    Calls Tryz.prog 68 #[.slice a n c, .func (.func 69) #[] #[]] w fun e w' => e = .returned (.bool (tooK n ms)) ∧ Below w.heap.size w w' := by
  have Q : Hid _ := pidxF a n c ms w h hn
  clear h
  go_enter Tryz.func68, Tryz.ntmps68
  go_wp2_with fail
  refine Calls.mono Q.out ?_
  rintro e w1 ⟨⟨z, rfl, hz, ez⟩, hr⟩
  have HR : Hid _ := hr
  have EZ : Hid _ := ez
  clear hr ez Q
  go_wp2
  go_ret
  exact ⟨by rw [← EZ.out]; rfl, HR.out⟩

theorem file_src2 {w : World} {a : Option Addr} {n c : Nat} {ms : List Md} (h : Src w 22 (.ls a n c ms)) (hn : Nm (.ls a n c ms)) {k : Nat} (hk : k < n) :
    ∃ b off s0 s1 s8 a2 n2 k2 m2 a3 n3 k3 m3 a4 n4 k4 m4 a5 n5 k5 m5 a6 n6 k6 m6 a7 n7 k7 m7 a9 n9 k9 m9 a10 n10 k10 m10, a = some ⟨b, off, none⟩ ∧ b < w.heap.size ∧ w.cell? ⟨b, off + k * 11, none⟩ = some (.string s0) ∧ w.cell? ⟨b, off + k * 11 + 1, none⟩ = some (.string s1) ∧ w.cell? ⟨b, off + k * 11 + 2, none⟩ = some (.slice a2 n2 k2) ∧ w.cell? ⟨b, off + k * 11 + 3, none⟩ = some (.slice a3 n3 k3) ∧ w.cell? ⟨b, off + k * 11 + 4, none⟩ = some (.slice a4 n4 k4) ∧ w.cell? ⟨b, off + k * 11 + 5, none⟩ = some (.slice a5 n5 k5) ∧ w.cell? ⟨b, off + k * 11 + 6, none⟩ = some (.slice a6 n6 k6) ∧ w.cell? ⟨b, off + k * 11 + 7, none⟩ = some (.slice a7 n7 k7) ∧ w.cell? ⟨b, off + k * 11 + 8, none⟩ = some (.string s8) ∧ w.cell? ⟨b, off + k * 11 + 9, none⟩ = some (.slice a9 n9 k9) ∧ w.cell? ⟨b, off + k * 11 + 10, none⟩ = some (.slice a10 n10 k10) ∧ (Src w 30 (.ls a2 n2 k2 m2) ∧ Src w 59 (.ls a3 n3 k3 m3) ∧ Src w 34 (.ls a4 n4 k4 m4) ∧ Src w 35 (.ls a5 n5 k5 m5) ∧ Src w 60 (.ls a6 n6 k6 m6) ∧ Src w 33 (.ls a7 n7 k7 m7) ∧ Src w 38 (.ls a9 n9 k9 m9) ∧ Src w 38 (.ls a10 n10 k10 m10)) ∧ (Nm (.ls a4 n4 k4 m4) ∧ Nm (.ls a5 n5 k5 m5) ∧ Nm (.ls a6 n6 k6 m6) ∧ Nm (.ls a7 n7 k7 m7)) ∧ (s0.size ≤ 2000000 ∧ s1.size ≤ 2000000 ∧ s8.size ≤ 2000000) ∧ (strAt ms (k * 11) = s0 ∧ strAt ms (k * 11 + 1) = s1) ∧ (lsN ms (k * 11 + 4) = n4 ∧ lsM ms (k * 11 + 4) = m4 ∧ lsN ms (k * 11 + 5) = n5 ∧ lsM ms (k * 11 + 5) = m5 ∧ lsN ms (k * 11 + 6) = n6 ∧ lsM ms (k * 11 + 6) = m6 ∧ lsN ms (k * 11 + 7) = n7 ∧ lsM ms (k * 11 + 7) = m7) ∧ (lsN ms (k * 11 + 2) = n2 ∧ lsM ms (k * 11 + 2) = m2 ∧ lsN ms (k * 11 + 3) = n3 ∧ lsM ms (k * 11 + 3) = m3) := by
  have hfl := flds_file
  obtain ⟨b, off, ha, hb, hat⟩ := src_at Tryz.underlying22 h hn hk (by rw [hfl]; decide)
  rw [hfl] at hat
  have hat : ∀ (j : Nat) (F : TypeId), ([9, 9, 30, 59, 34, 35, 60, 33, 9, 38, 38] : List TypeId)[j]? = some F → ∃ m, ms[k * 11 + j]? = some m ∧ w.cell? ⟨b, off + k * 11 + j, none⟩ = some m.val ∧ Src w F m ∧ Nm m := hat
  obtain ⟨q0, e0, c0, r0, t0⟩ := hat 0 9 rfl
  obtain ⟨s0, rfl, z0⟩ := src_str r0 t0
  obtain ⟨q1, e1, c1, r1, t1⟩ := hat 1 9 rfl
  obtain ⟨s1, rfl, z1⟩ := src_str r1 t1
  obtain ⟨q2, e2, c2, r2, t2⟩ := hat 2 30 rfl
  obtain ⟨a2, n2, k2, m2, rfl⟩ := src_ls Tryz.underlying30 r2
  obtain ⟨q3, e3, c3, r3, t3⟩ := hat 3 59 rfl
  obtain ⟨a3, n3, k3, m3, rfl⟩ := src_ls Tryz.underlying59 r3
  obtain ⟨q4, e4, c4, r4, t4⟩ := hat 4 34 rfl
  obtain ⟨a4, n4, k4, m4, rfl⟩ := src_ls Tryz.underlying34 r4
  obtain ⟨q5, e5, c5, r5, t5⟩ := hat 5 35 rfl
  obtain ⟨a5, n5, k5, m5, rfl⟩ := src_ls Tryz.underlying35 r5
  obtain ⟨q6, e6, c6, r6, t6⟩ := hat 6 60 rfl
  obtain ⟨a6, n6, k6, m6, rfl⟩ := src_ls Tryz.underlying60 r6
  obtain ⟨q7, e7, c7, r7, t7⟩ := hat 7 33 rfl
  obtain ⟨a7, n7, k7, m7, rfl⟩ := src_ls Tryz.underlying33 r7
  obtain ⟨q8, e8, c8, r8, t8⟩ := hat 8 9 rfl
  obtain ⟨s8, rfl, z8⟩ := src_str r8 t8
  obtain ⟨q9, e9, c9, r9, t9⟩ := hat 9 38 rfl
  obtain ⟨a9, n9, k9, m9, rfl⟩ := src_ls Tryz.underlying38 r9
  obtain ⟨q10, e10, c10, r10, t10⟩ := hat 10 38 rfl
  obtain ⟨a10, n10, k10, m10, rfl⟩ := src_ls Tryz.underlying38 r10
  exact ⟨b, off, s0, s1, s8, a2, n2, k2, m2, a3, n3, k3, m3, a4, n4, k4, m4, a5, n5, k5, m5, a6, n6, k6, m6, a7, n7, k7, m7, a9, n9, k9, m9, a10, n10, k10, m10, ha, hb, c0, c1, c2, c3, c4, c5, c6, c7, c8, c9, c10, ⟨r2, r3, r4, r5, r6, r7, r9, r10⟩, ⟨t4, t5, t6, t7⟩, ⟨z0, z1, z8⟩, ⟨by have h := e0; simp only [Nat.add_zero] at h; simp [strAt, h], by simp [strAt, e1]⟩, ⟨by simp [lsN, e4], by simp [lsM, e4], by simp [lsN, e5], by simp [lsM, e5], by simp [lsN, e6], by simp [lsM, e6], by simp [lsN, e7], by simp [lsM, e7]⟩, ⟨by simp [lsN, e2], by simp [lsM, e2], by simp [lsN, e3], by simp [lsM, e3]⟩⟩

theorem file_src {w : World} {a : Option Addr} {n c : Nat} {ms : List Md} (h : Src w 22 (.ls a n c ms)) (hn : Nm (.ls a n c ms)) {k : Nat} (hk : k < n) :
    ∃ b off s0 s1 s8 a2 n2 k2 m2 a3 n3 k3 m3 a4 n4 k4 m4 a5 n5 k5 m5 a6 n6 k6 m6 a7 n7 k7 m7 a9 n9 k9 m9 a10 n10 k10 m10, a = some ⟨b, off, none⟩ ∧ b < w.heap.size ∧ w.cell? ⟨b, off + k * 11, none⟩ = some (.string s0) ∧ w.cell? ⟨b, off + k * 11 + 1, none⟩ = some (.string s1) ∧ w.cell? ⟨b, off + k * 11 + 2, none⟩ = some (.slice a2 n2 k2) ∧ w.cell? ⟨b, off + k * 11 + 3, none⟩ = some (.slice a3 n3 k3) ∧ w.cell? ⟨b, off + k * 11 + 4, none⟩ = some (.slice a4 n4 k4) ∧ w.cell? ⟨b, off + k * 11 + 5, none⟩ = some (.slice a5 n5 k5) ∧ w.cell? ⟨b, off + k * 11 + 6, none⟩ = some (.slice a6 n6 k6) ∧ w.cell? ⟨b, off + k * 11 + 7, none⟩ = some (.slice a7 n7 k7) ∧ w.cell? ⟨b, off + k * 11 + 8, none⟩ = some (.string s8) ∧ w.cell? ⟨b, off + k * 11 + 9, none⟩ = some (.slice a9 n9 k9) ∧ w.cell? ⟨b, off + k * 11 + 10, none⟩ = some (.slice a10 n10 k10) ∧ (Src w 30 (.ls a2 n2 k2 m2) ∧ Src w 59 (.ls a3 n3 k3 m3) ∧ Src w 34 (.ls a4 n4 k4 m4) ∧ Src w 35 (.ls a5 n5 k5 m5) ∧ Src w 60 (.ls a6 n6 k6 m6) ∧ Src w 33 (.ls a7 n7 k7 m7) ∧ Src w 38 (.ls a9 n9 k9 m9) ∧ Src w 38 (.ls a10 n10 k10 m10)) ∧ (Nm (.ls a4 n4 k4 m4) ∧ Nm (.ls a5 n5 k5 m5) ∧ Nm (.ls a6 n6 k6 m6) ∧ Nm (.ls a7 n7 k7 m7)) ∧ (s0.size ≤ 2000000 ∧ s1.size ≤ 2000000 ∧ s8.size ≤ 2000000) ∧ (strAt ms (k * 11) = s0 ∧ strAt ms (k * 11 + 1) = s1) ∧ (lsN ms (k * 11 + 4) = n4 ∧ lsM ms (k * 11 + 4) = m4 ∧ lsN ms (k * 11 + 5) = n5 ∧ lsM ms (k * 11 + 5) = m5 ∧ lsN ms (k * 11 + 6) = n6 ∧ lsM ms (k * 11 + 6) = m6 ∧ lsN ms (k * 11 + 7) = n7 ∧ lsM ms (k * 11 + 7) = m7) := by
  obtain ⟨b, off, s0, s1, s8, a2, n2, k2, m2, a3, n3, k3, m3, a4, n4, k4, m4, a5, n5, k5, m5, a6, n6, k6, m6, a7, n7, k7, m7, a9, n9, k9, m9, a10, n10, k10, m10, ha, hb, c0, c1, c2, c3, c4, c5, c6, c7, c8, c9, c10, r, t, z, u, v, _⟩ := file_src2 h hn hk
  exact ⟨b, off, s0, s1, s8, a2, n2, k2, m2, a3, n3, k3, m3, a4, n4, k4, m4, a5, n5, k5, m5, a6, n6, k6, m6, a7, n7, k7, m7, a9, n9, k9, m9, a10, n10, k10, m10, ha, hb, c0, c1, c2, c3, c4, c5, c6, c7, c8, c9, c10, r, t, z, u, v⟩

noncomputable def fileL (ms : List Md) (k : Nat) : List (ByteArray × Int) :=
  partL (numsOf (strAt ms (k * 11 + 1))) (lsM ms (k * 11 + 4)) (lsN ms (k * 11 + 4)) (lsM ms (k * 11 + 5)) (lsN ms (k * 11 + 5)) (lsM ms (k * 11 + 6)) (lsN ms (k * 11 + 6)) (lsM ms (k * 11 + 7)) (lsN ms (k * 11 + 7))

noncomputable def filesR (ms : List Md) : Nat → Except ByteArray Sy
  | 0 => .ok (fun _ => none)
  | k + 1 => match filesR ms k with
    | .ok h => fileR (strAt ms (k * 11)) h (numsOf (strAt ms (k * 11 + 1))) (fileL ms k)
    | .error F => .error F

noncomputable def cntF (ms : List Md) : Nat → Nat
  | 0 => 0
  | k + 1 => cntF ms k + (fileL ms k).length

theorem filesR_err {ms : List Md} {F : ByteArray} {k : Nat} (h : filesR ms k = .error F) : ∀ d, filesR ms (k + d) = .error F
  | 0 => h
  | d + 1 => by
    have ih := filesR_err h d
    show (match filesR ms (k + d) with | .ok h => _ | .error F => _) = _
    rw [ih]

theorem cntF_mono (ms : List Md) (k : Nat) : ∀ d, cntF ms k ≤ cntF ms (k + d)
  | 0 => Nat.le_refl _
  | d + 1 => by
    have ih := cntF_mono ms k d
    show _ ≤ cntF ms (k + d) + _
    omega

theorem tooK_ok {k n : Nat} {ms : List Md} (hk : k < n) (h : tooK n ms = false) : okd 64 (lsN ms (k * 11 + 4)) (lsM ms (k * 11 + 4)) = true := by
  cases hq : okd 64 (lsN ms (k * 11 + 4)) (lsM ms (k * 11 + 4)) with
  | true => rfl
  | false => rw [tooK_bad hk hq] at h; cases h

def Fcs (w : World) (lo : Nat) (D : Nat → Prop) (ms : List Md) (k : Nat) (xs : List Value) : Prop :=
  ∀ i, i < k → Cfl w lo D (strAt ms (i * 11)) (lsN ms (i * 11 + 2)) (lsM ms (i * 11 + 2)) (lsN ms (i * 11 + 3)) (lsM ms (i * 11 + 3)) ((xs.drop (i * 11)).take 11)

theorem Fcs.imp {w w' : World} {lo lo' : Nat} {D D' : Nat → Prop} {ms : List Md} {k : Nat} {xs : List Value} (h : Fcs w lo D ms k xs) (hk : ∀ T m, Kpd w lo D T m → Kpd w' lo' D' T m) : Fcs w' lo' D' ms k xs := fun i hi => (h i hi).imp hk

theorem Fcs.push {w : World} {lo : Nat} {D : Nat → Prop} {ms : List Md} {k : Nat} {xs us : List Value} (h : Fcs w lo D ms k xs) (hl : xs.length = k * 11) (hc : Cfl w lo D (strAt ms (k * 11)) (lsN ms (k * 11 + 2)) (lsM ms (k * 11 + 2)) (lsN ms (k * 11 + 3)) (lsM ms (k * 11 + 3)) us) : Fcs w lo D ms (k + 1) (xs ++ us) := by
  intro i hi
  by_cases hik : i < k
  · have h1 := h i hik
    rw [List.drop_append_of_le_length (by omega), List.take_append_of_le_length (by rw [List.length_drop]; omega)]
    exact h1
  · obtain rfl : i = k := by omega
    rw [show (xs ++ us).drop (i * 11) = us from by rw [← hl]; exact List.drop_left, List.take_of_length_le (by rw [hc.1]; omega)]
    exact hc

def Fws (w : World) (vf : Value) (n : Nat) (ms : List Md) : Prop := ∃ xs lo D, w.ownsRow 0 62 11 vf n xs ∧ Fcs w lo D ms n xs

theorem Fws.under {w w' : World} {vf : Value} {n : Nat} {ms : List Md} (h : Fws w vf n ms) (hb : Below w.heap.size w w') : Fws w' vf n ms := by
  obtain ⟨xs, lo, D, h1, h2⟩ := h
  exact ⟨xs, lo, D, own_below h1 hb, h2.imp (fun _ _ h => h.under hb)⟩

structure Fi (w0 W w : World) (bp bs be : Nat) (ms : List Md) (k : Nat) (vf : Value) (h : Sy) (D : Nat → Prop) : Prop where
  r4 : Ob w W.heap.size #[.string ⟨#[]⟩] 9
  r5 : Ob w (W.heap.size + 1) #[.int .i64 0] 77
  res : filesR ms k = .ok h
  pw : Pw w bp bs be vf h D w0.heap.size (cntF ms k)
  row : ∃ xs, w.ownsRow 0 62 11 vf k xs ∧ Fcs w (W.heap.size + 2) D ms k xs
  low : ∀ b, D b → W.heap.size + 2 ≤ b
  vlow : ∀ b, vf.ownBlock = some b → W.heap.size + 2 ≤ b
  bel : Below w0.heap.size w0 w

theorem Fi.below {w0 W w w' : World} {bp bs be : Nat} {ms : List Md} {k : Nat} {vf : Value} {h : Sy} {D : Nat → Prop} (hi : Fi w0 W w bp bs be ms k vf h D) (hb : Below w.heap.size w w') : Fi w0 W w' bp bs be ms k vf h D := by
  obtain ⟨xs, hx, hc⟩ := hi.row
  exact ⟨hi.r4.below hb hi.r4.lt, hi.r5.below hb hi.r5.lt, hi.res, hi.pw.below hb (Nat.le_refl _), ⟨xs, own_below hx hb, hc.imp (fun _ _ h => h.under hb)⟩, hi.low, hi.vlow, hi.bel.trans (hb.mono hi.bel.size)⟩

theorem Fi.apart {w0 W w : World} {bp bs be : Nat} {ms : List Md} {k : Nat} {vf : Value} {h : Sy} {D : Nat → Prop} (hi : Fi w0 W w bp bs be ms k vf h D) (hl : bp < W.heap.size ∧ bs < W.heap.size ∧ be < W.heap.size) {b : Nat} (hb : b = W.heap.size ∨ b = W.heap.size + 1) : ¬ Sf bp bs be vf D b := by
  rintro (e | e | e | e | e)
  · omega
  · have := hi.vlow b e; omega
  · omega
  · omega
  · have := hi.low b e; omega

theorem Fi.lo {w0 W w : World} {bp bs be : Nat} {ms : List Md} {k : Nat} {vf : Value} {h : Sy} {D : Nat → Prop} (hi : Fi w0 W w bp bs be ms k vf h D) (hW : w0.heap.size ≤ W.heap.size) (hl : w0.heap.size ≤ bp ∧ w0.heap.size ≤ bs ∧ w0.heap.size ≤ be) : ∀ b, Sf bp bs be vf D b → w0.heap.size ≤ b := by
  rintro b (e | e | e | e | e)
  · omega
  · have := hi.vlow b e; omega
  · omega
  · omega
  · have := hi.low b e; omega

theorem Fi.step {w0 W w w' : World} {bp bs be : Nat} {ms : List Md} {k : Nat} {vf vf' : Value} {h h' : Sy} {D D' : Nat → Prop} (hi : Fi w0 W w bp bs be ms k vf h D) (hW : w0.heap.size ≤ W.heap.size) (hl : bp < W.heap.size ∧ bs < W.heap.size ∧ be < W.heap.size) (hlo : w0.heap.size ≤ bp ∧ w0.heap.size ≤ bs ∧ w0.heap.size ≤ be)
    (hf : Fx (Sf bp bs be vf D) w w') (hd : Dg w D D') (hr : filesR ms (k + 1) = .ok h') (hp : Pw w' bp bs be vf' h' D' w0.heap.size (cntF ms (k + 1))) {xs us : List Value} (hx0 : w.ownsRow 0 62 11 vf k xs) (hc0 : Fcs w (W.heap.size + 2) D ms k xs) (hx : w'.ownsRow 0 62 11 vf' (k + 1) (xs ++ us)) (hcl : Cfl w' w.heap.size D' (strAt ms (k * 11)) (lsN ms (k * 11 + 2)) (lsM ms (k * 11 + 2)) (lsN ms (k * 11 + 3)) (lsM ms (k * 11 + 3)) us) (hv : vf'.ownBlock = vf.ownBlock ∨ ∃ b, vf'.ownBlock = some b ∧ w.heap.size ≤ b) : Fi w0 W w' bp bs be ms (k + 1) vf' h' D' := by
  have h5 := hi.r5.lt
  obtain ⟨⟨es, cl, h1⟩, es2, cl2, h2⟩ := hi.pw.maps
  have hc1 : Fcs w' (W.heap.size + 2) D' ms k xs := hc0.imp (fun T m hk => hk.chg hf (fun b e => by
    rcases e with e | e | e | e | e
    · subst e
      exact .inr (.inr (fun cs E hc => by rw [hi.pw.blk.eq] at hc; cases hc; exact .inl rfl))
    · rcases hx0.2 with ⟨h0, _⟩ | ⟨g, cap, cur, h0, _, h3, _⟩
      · rw [h0] at e; cases e
      · rw [h0] at e
        cases e
        exact .inr (.inr (fun cs E hc => by rw [h3] at hc; cases hc; exact .inr rfl))
    · subst e
      exact .inr (.inr (fun cs E h3 => by rw [h1] at h3; cases h3))
    · subst e
      exact .inr (.inr (fun cs E h3 => by rw [h2] at h3; cases h3))
    · exact .inr (.inl e)) hd)
  refine ⟨hf.ob hi.r4 (hi.apart hl (.inl rfl)), hf.ob hi.r5 (hi.apart hl (.inr rfl)), hr, hp, ⟨_, hx, hc1.push hx0.1 (hcl.imp (fun T m hk => hk.from (by omega)))⟩, fun b e => ?_, fun b e => ?_, hi.bel.trans (hf.to_below hi.bel.size (hi.lo hW hlo))⟩
  · rcases hd b e with e | e
    · exact hi.low b e
    · omega
  · rcases hv with e2 | ⟨b', e2, h6⟩
    · exact hi.vlow b (by rw [← e2]; exact e)
    · rw [e2] at e
      cases e
      omega

def Gx (h : Sy) (x : ByteArray) : Prop := ∃ H, h x = some (6, H)

end Go.Proofs.YtafmoceinamcdaaGreat

namespace Go.Proofs.YtafmoceinamcdaaGreat
open Go.RowKit Go.ChangeMaps
set_option linter.unusedVariables false
set_option linter.unusedSimpArgs false

set_option maxRecDepth 10000 in
set_option maxHeartbeats 1000000 in
theorem fill_catch {g : Nat} {x y : Value} (F : ByteArray) (w : World) (h0 : Ob w g #[x] 9) (h1 : Ob w (g + 1) #[y] 77) :
    CallsD Tryz.prog 119 #[.pointer (some ⟨g, 0, none⟩), .pointer (some ⟨g + 1, 0, none⟩)] (.panicking [twi F]) w fun e u' w' => e = .returned (.tuple #[]) ∧ u' = .panicking [{ twi F with recovered := true }] ∧
      Ob w' g #[.string F] 9 ∧ Ob w' (g + 1) #[.int .i64 140] 77 ∧ ∀ B, B ≤ g → Below B w w' := by
  have hta : ∀ W, (Instr.typeAssert (.iface 173 (.agg #[.string F])) 20 173 true).run Tryz.prog W = .ok (.tuple #[.agg #[.string F], .bool true]) W := fun W => by kernel_rfl
  obtain ⟨c1, f1, l1⟩ := ob1 h0
  obtain ⟨c2, f2, l2⟩ := ob1 h1
  have H0 : Hid _ := h0
  have H1 : Hid _ := h1
  clear h0 h1
  refine callsD_of_wpS Tryz.func119 rfl fun c₀ cs hu => ?_
  have hr : recoverD (c₀ :: cs) = some (.iface 173 (.agg #[.string F]), { c₀ with mode := .panicking [{ twi F with recovered := true }] } :: cs) := by simp [recoverD, hu, twi]
  apply wpS_seq
  refine wpS_recover rfl rfl hr ?_ ?_
  · rintro ⟨a, w, h⟩
    simp [Exit.thenS, bodyPostS] at h
  · simp only [Tryz.ntmps119]
    go_wp2
    simp only [Exit.thenS]
    refine wpS_of_wp ?_
    simp only [Array.replicate_succ, Array.replicate_zero, List.push_toArray, List.append_toArray, List.nil_append, List.cons_append, List.setIfInBounds_toArray, List.set_cons_zero, List.set_cons_succ]
    go_wp2
    refine ⟨rfl, _, rfl, .tuple #[], ?_, rfl, rfl, ?_, ?_, ?_⟩
    · simp [results, Tryz.results119]
    · have := (((H0.out.set 0 (.string F)).other (b' := g + 1) (by omega) 0 (.int .i64 140)).alloc (.cells #[.string F] 173))
      simpa using this
    · have := (((H1.out.other (b' := g) (by omega) 0 (.string F)).set 0 (.int .i64 140)).alloc (.cells #[.string F] 173))
      simpa using this
    · intro B hB
      exact (((Below.refl B w).setCell (p := ⟨g, 0, none⟩) hB _).setCell (p := ⟨g + 1, 0, none⟩) (by show B ≤ g + 1; omega) _).alloc (by simp; omega) _

def lf (w : World) (r be : Nat) : Nat := match w.heap[r]?, w.heap[be]? with
  | some (.mapIter _ _ seen _), some (.map es _) => (leftOf es seen).size
  | _, _ => 0

theorem Px.fxK {R : Option Addr → Prop} {S : Nat → Prop} {w w' : World} {bp bs be : Nat} {vf : Value} {h : Sy} (hp : Px R w bp bs be vf h) (hf : Fx S w w') (h1 : ¬ S bp) (h2 : ¬ S bs) : Px R w' bp bs be vf h := by
  obtain ⟨n, g, hq, hg⟩ := hp
  obtain ⟨es, cl, hb, r⟩ := hq.sym
  exact ⟨n, g, ⟨hf.ob hq.blk h1, ⟨es, cl, (hf.block bs hq.sym.lt h2).trans hb, r⟩, hq.ne, hq.sl⟩, hg⟩

structure Ix (w0 W w : World) (bp bs be : Nat) (vf : Value) (n : Nat) (h : Sy) (D : Nat → Prop) (ms : List Md) (c : Nat) (es : Array MapEntry) (cl : Nat) (Z : Nat → Nat → Prop) (r : Nat) : Prop where
  r4 : Ob w W.heap.size #[.string ⟨#[]⟩] 9
  r5 : Ob w (W.heap.size + 1) #[.int .i64 0] 77
  px : Px (Rz Z) w bp bs be vf h
  zw : Zw w Z
  mb : w.heap[be]? = some (.map es cl)
  rows : ∀ e ∈ es.toList, e.val = .slice none 0 0 ∨ ∃ B m cap, e.val = .slice (some ⟨B, 0, none⟩) m cap ∧ m ≤ c ∧ D B ∧ Rg w B m (Gx h)
  inj : ∀ e ∈ es.toList, ∀ e' ∈ es.toList, ∀ b, e.val.ownBlock = some b → e'.val.ownBlock = some b → e.val = e'.val
  row : ∃ xs, w.ownsRow 0 62 11 vf n xs ∧ Fcs w (W.heap.size + 2) D ms n xs
  low : ∀ b, D b → W.heap.size + 2 ≤ b
  bel : Below w0.heap.size w0 w
  it : ∃ seen c0, w.heap[r]? = some (.mapIter (some be) cl seen c0) ∧ cl ≤ c0

theorem cells_ne {w : World} {b b' : Nat} {o o' : Obj} (h : w.heap[b]? = some o) (h' : w.heap[b']? = some o') (hn : o ≠ o') : b ≠ b' := by
  rintro rfl
  rw [h] at h'
  cases h'
  exact hn rfl

theorem Ix.goes {w0 W w w' : World} {bp bs be : Nat} {vf : Value} {n : Nat} {h : Sy} {D : Nat → Prop} {ms : List Md} {c : Nat} {es : Array MapEntry} {cl : Nat} {Z : Nat → Nat → Prop} {r : Nat} (hi : Ix w0 W w bp bs be vf n h D ms c es cl Z r) (hr0 : w0.heap.size ≤ r) (hf : Fx (fun b => b = r) w w') {seen : Array Nat} {c0 : Nat} (hr : w'.heap[r]? = some (.mapIter (some be) cl seen c0)) (hc : cl ≤ c0) : Ix w0 W w' bp bs be vf n h D ms c es cl Z r := by
  obtain ⟨seen0, c1, hr1, _⟩ := hi.it
  have nc : ∀ {b : Nat} {cs : Array Value} {T : TypeId}, w.heap[b]? = some (.cells cs T (0, 0)) → ¬ b = r := fun hb => cells_ne hb hr1 (by simp)
  have nm : ∀ {b : Nat} {es : Array MapEntry} {cl : Nat}, w.heap[b]? = some (.map es cl) → ¬ b = r := fun hb => cells_ne hb hr1 (by simp)
  obtain ⟨n0, g, hq, hg⟩ := hi.px
  obtain ⟨es0, cl0, hb0, _⟩ := hq.sym
  refine ⟨hf.ob hi.r4 (nc hi.r4.eq), hf.ob hi.r5 (nc hi.r5.eq), hi.px.fxK hf (nc hq.blk.eq) (nm hb0), hi.zw.fx hf (fun b cs e => nc e), (hf.block be (Array.getElem?_eq_some_iff.1 hi.mb).1 (nm hi.mb)).trans hi.mb, fun e he => ?_, hi.inj, ?_, hi.low, hi.bel.trans (hf.to_below hi.bel.size (fun b e => by omega)), ⟨seen, c0, hr, hc⟩⟩
  · rcases hi.rows e he with h1 | ⟨B, m, cap, h1, h2, h3, h4⟩
    · exact .inl h1
    · refine .inr ⟨B, m, cap, h1, h2, h3, h4.fx hf ?_⟩
      obtain ⟨cs, h5, _⟩ := h4
      exact nc h5
  · obtain ⟨xs, hx, hc9⟩ := hi.row
    refine ⟨xs, owns_fx hf hx (fun b e => ?_), hc9.imp (fun T m hk => hk.chg hf (fun b e => .inr (.inr (fun cs E h3 => (nc h3 e).elim))) (fun b e => .inl e))⟩
    rcases hx.2 with ⟨h0, _⟩ | ⟨g1, cap, cur, h0, _, h2, _⟩
    · rw [h0] at e; cases e
    · rw [h0] at e; cases e; exact nc h2

theorem Ix.sorted {w0 W w w' : World} {bp bs be : Nat} {vf : Value} {n : Nat} {h : Sy} {D : Nat → Prop} {ms : List Md} {c : Nat} {es : Array MapEntry} {cl : Nat} {Z : Nat → Nat → Prop} {r : Nat} (hi : Ix w0 W w bp bs be vf n h D ms c es cl Z r) (hW : w0.heap.size ≤ W.heap.size) {e0 : MapEntry} (he0 : e0 ∈ es.toList) {B m cap : Nat} (hv : e0.val = .slice (some ⟨B, 0, none⟩) m cap) (hB : D B) (hr0 : Rg w B m (Gx h)) (hf : Fx (fun b => b = B) w w') (hr : Rg w' B m (Gx h)) : Ix w0 W w' bp bs be vf n h D ms c es cl Z r := by
  obtain ⟨csB, hcB, _⟩ := hr0
  obtain ⟨seen0, c1, hr1, hc1⟩ := hi.it
  have nt : ∀ {b : Nat} {cs : Array Value} {T : TypeId}, w.heap[b]? = some (.cells cs T (0, 0)) → T ≠ 9 → ¬ b = B := fun hb hT => cells_ne hb hcB (by rintro e; cases e; exact hT rfl)
  have nm : ∀ {b : Nat} {es : Array MapEntry} {cl : Nat}, w.heap[b]? = some (.map es cl) → ¬ b = B := fun hb => cells_ne hb hcB (by simp)
  have hlB := hi.low B hB
  obtain ⟨n0, g, hq, hg⟩ := hi.px
  obtain ⟨es0, cl0, hb0, _⟩ := hq.sym
  refine ⟨hf.ob hi.r4 (by show ¬ _ = _; omega), hf.ob hi.r5 (by show ¬ _ = _; omega), hi.px.fxK hf (nt hq.blk.eq (by decide)) (nm hb0), hi.zw.fx hf (fun b cs e => nt e (by decide)), (hf.block be (Array.getElem?_eq_some_iff.1 hi.mb).1 (nm hi.mb)).trans hi.mb, fun e he => ?_, hi.inj, ?_, hi.low, hi.bel.trans (hf.to_below hi.bel.size (fun b e => by omega)), ⟨seen0, c1, (hf.block r (Array.getElem?_eq_some_iff.1 hr1).1 (cells_ne hr1 hcB (by simp))).trans hr1, hc1⟩⟩
  · rcases hi.rows e he with h1 | ⟨B', m', cap', h1, h2, h3, h4⟩
    · exact .inl h1
    · by_cases hBB : B' = B
      · subst hBB
        have h5 := hi.inj e he e0 he0 B' (by rw [h1]; rfl) (by rw [hv]; rfl)
        rw [h1, hv] at h5
        simp only [Value.slice.injEq, Option.some.injEq, true_and] at h5
        obtain ⟨h6, h7⟩ := h5
        subst h6
        exact .inr ⟨B', m', cap', h1, h2, h3, hr⟩
      · exact .inr ⟨B', m', cap', h1, h2, h3, h4.fx hf hBB⟩
  · obtain ⟨xs, hx, hc9⟩ := hi.row
    refine ⟨xs, owns_fx hf hx (fun b e => ?_), hc9.imp (fun T m hk => hk.chg hf (fun b e => .inr (.inl (by have e9 : b = B := e; rw [e9]; exact hB))) (fun b e => .inl e))⟩
    rcases hx.2 with ⟨h0, _⟩ | ⟨g1, cap1, cur, h0, _, h2, _⟩
    · rw [h0] at e; cases e
    · rw [h0] at e; cases e; exact nt h2 (by decide)

theorem Fi.range {w0 W w : World} {bp bs be : Nat} {ms : List Md} {k : Nat} {vf : Value} {h : Sy} {D : Nat → Prop} (hi : Fi w0 W w bp bs be ms k vf h D) :
    ∃ es cl Z, MapKept.Stamped es cl ∧ w.heap[be]? = some (.map es cl) ∧ ∀ w' r, Below w.heap.size w w' → w'.heap[r]? = some (.mapIter (some be) cl #[] cl) → Ix w0 W w' bp bs be vf k h D ms (cntF ms k) es cl Z r := by
  obtain ⟨Z, hz⟩ := hi.pw
  obtain ⟨n, ge, hmg, hrows, hinj⟩ := hz.ex.map
  have hml := hmg.lt
  obtain ⟨es, cl, hb, hst, hkeys, hn, hg⟩ := hmg
  refine ⟨es, cl, Z, hst, hb, fun w' r hbl hr => ?_⟩
  have hj := hi.below hbl
  obtain ⟨xs, hx, hc9⟩ := hj.row
  have hval : ∀ e ∈ es.toList, ∃ k, ge k = some e.val ∧ e.key = .string k := fun e he => by
    obtain ⟨k, hk, _⟩ := hkeys e he
    exact ⟨k, (hg k e.val).2 ⟨e, he, hk, rfl⟩, hk⟩
  refine ⟨hj.r4, hj.r5, hz.px.below hbl (Nat.le_refl _), hz.zw.fx (S := fun _ => False) (.of_below hbl) (fun _ _ _ e => e), (hbl.block be hml).trans hb, fun e he => ?_, fun e he e' he' b h1 h2 => ?_, ⟨xs, hx, hc9⟩, hi.low, hj.bel, ⟨#[], cl, hr, Nat.le_refl _⟩⟩
  · obtain ⟨k', hk', _⟩ := hval e he
    obtain ⟨m, ys, a1, a2, a3, a4⟩ := hrows k' _ hk'
    rcases a1.2 with ⟨h0, _⟩ | ⟨g1, cap, cur, h0, _, h2, h3, _, h5, h6⟩
    · exact .inl h0
    · refine .inr ⟨g1, m, cap, h0, a2, a4 g1 (by rw [h0]; rfl), cur, ?_, by omega, fun j hj => ?_⟩
      · exact (hbl.block g1 (Array.getElem?_eq_some_iff.1 h2).1).trans h2
      · have hyl : j < ys.length := by have := a1.1; simp at this; omega
        refine ⟨ys[j], ?_, a3 _ (List.getElem_mem hyl)⟩
        have h7 : (cur.toList.take (m * 1))[j]? = some (.string ys[j]) := by rw [h6, List.getElem?_map, List.getElem?_eq_getElem hyl]; rfl
        rw [List.getElem?_take_of_lt (by omega)] at h7
        simpa using h7
  · obtain ⟨k1, hk1, e1⟩ := hval e he
    obtain ⟨k2, hk2, e2⟩ := hval e' he'
    obtain rfl := hinj k1 k2 _ _ b hk1 hk2 h1 h2
    rw [hk1] at hk2
    exact Option.some.inj hk2

theorem Ix.cmp {w0 W w : World} {bp bs be : Nat} {vf : Value} {n : Nat} {h : Sy} {D : Nat → Prop} {ms : List Md} {c : Nat} {es : Array MapEntry} {cl : Nat} {Z : Nat → Nat → Prop} {r : Nat} (hi : Ix w0 W w bp bs be vf n h D ms c es cl Z r) {B m : Nat} (hr : Rg w B m (Gx h)) : ∃ cf, CmpC w B bp cf (Gx h) := by
  obtain ⟨csB, hcB, _⟩ := hr
  have nt : ∀ {b : Nat} {cs : Array Value} {T : TypeId}, w.heap[b]? = some (.cells cs T (0, 0)) → T ≠ 9 → ¬ b = B := fun hb hT => cells_ne hb hcB (by rintro e; cases e; exact hT rfl)
  have nm : ∀ {b : Nat} {es : Array MapEntry} {cl : Nat}, w.heap[b]? = some (.map es cl) → ¬ b = B := fun hb => cells_ne hb hcB (by simp)
  obtain ⟨n0, g, hq, hg⟩ := hi.px
  obtain ⟨es0, cl0, hb0, hst0, hkey0, hn0, hg0⟩ := hq.sym
  have hat : ∀ x, ∃ z : Int, Gx h x → x.size ≤ maxLen ∧ ∃ H p1 p2 b o, g x = some (.agg #[.int .i64 6, .string H, .pointer p1, .pointer p2, .pointer (some ⟨b, o, none⟩)]) ∧ (∃ cs, w.heap[b]? = some (.cells cs 45 (0, 0))) ∧ w.cell? ⟨b, o + 1, none⟩ = some (.int .i64 z) := by
    intro x
    by_cases hx : Gx h x
    · obtain ⟨H, hH⟩ := hx
      obtain ⟨p1, p2, p3, h1, h2⟩ := (hg x).2 6 H hH
      obtain ⟨b, o, rfl, hZ⟩ := h2 rfl
      obtain ⟨hcs, z, hz⟩ := hi.zw b o hZ
      refine ⟨z, fun _ => ⟨?_, H, p1, p2, b, o, h1, hcs, hz⟩⟩
      obtain ⟨e, he, h3, _⟩ := (hg0 x _).1 h1
      obtain ⟨k, hk, hs⟩ := hkey0 e he
      rw [h3] at hk
      cases hk
      exact hs
    · exact ⟨0, fun h => absurd h hx⟩
  obtain ⟨num, hnum⟩ := Classical.axiomOfChoice hat
  refine ⟨fun x y => orI (cmpI (num x) (num y)) (cmpS x y), fun w1 x y hf hx hy => ?_⟩
  obtain ⟨sx, H1, p1, p2, b1, o1, gx, ⟨cs1, hb1⟩, c1⟩ := hnum x hx
  obtain ⟨sy, H2, p3, p4, b2, o2, gy, ⟨cs2, hb2⟩, c2⟩ := hnum y hy
  have k1 := hf.block b1 (Array.getElem?_eq_some_iff.1 hb1).1 (nt hb1 (by decide))
  have k2 := hf.block b2 (Array.getElem?_eq_some_iff.1 hb2).1 (nt hb2 (by decide))
  have hq1 : Pq w1 bp bs be vf n0 g := ⟨hf.ob hq.blk (nt hq.blk.eq (by decide)), ⟨es0, cl0, (hf.block bs hq.sym.lt (nm hb0)).trans hb0, hst0, hkey0, hn0, hg0⟩, hq.ne, hq.sl⟩
  exact by_any w1 (show Hid _ from hq1) x y sx sy 6 H1 p1 p2 b1 o1 gx 6 H2 p3 p4 b2 o2 gy (num x) (num y) (Nat.lt_of_lt_of_le (Array.getElem?_eq_some_iff.1 hb1).1 hf.size) (Nat.lt_of_lt_of_le (Array.getElem?_eq_some_iff.1 hb2).1 hf.size) ((World.cell?_of_block (a := ⟨b1, o1 + 1, none⟩) k1).trans c1) ((World.cell?_of_block (a := ⟨b2, o2 + 1, none⟩) k2).trans c2)

end Go.Proofs.YtafmoceinamcdaaGreat

namespace Go.Proofs.YtafmoceinamcdaaGreat
open Go.RowKit Go.ChangeMaps
set_option linter.unusedVariables false
set_option linter.unusedSimpArgs false

def Gend (w0 : World) (bp bs be : Nat) (n : Nat) (ms : List Md) (r : Except ByteArray Sy) (e : Ending) (W' : World) : Prop :=
  Below w0.heap.size w0 W' ∧ match r with
  | .ok h => e = .returned (.tuple #[.string ⟨#[]⟩, .int .i64 0]) ∧ ∃ vf Z, Px (Rz Z) W' bp bs be vf h ∧ Zw W' Z ∧ Fws W' vf n ms
  | .error F => e = .returned (.tuple #[.string F, .int .i64 140])

theorem gend_ok {w0 : World} {bp bs be : Nat} {n : Nat} {ms : List Md} {r : Except ByteArray Sy} {h : Sy} {W' : World} (hr : r = .ok h) (hb : Below w0.heap.size w0 W') {vf : Value} {Z : Nat → Nat → Prop} (hp : Px (Rz Z) W' bp bs be vf h) (hz : Zw W' Z) (hx : Fws W' vf n ms) : Gend w0 bp bs be n ms r (.returned (.tuple #[.string ⟨#[]⟩, .int .i64 0])) W' := by
  subst hr
  exact ⟨hb, rfl, vf, Z, hp, hz, hx⟩

theorem gend_err {w0 : World} {bp bs be : Nat} {n : Nat} {ms : List Md} {r : Except ByteArray Sy} {F : ByteArray} {W' : World} (hr : r = .error F) (hb : Below w0.heap.size w0 W') : Gend w0 bp bs be n ms r (.returned (.tuple #[.string F, .int .i64 140])) W' := by
  subst hr
  exact ⟨hb, rfl⟩

theorem fend_cases {W : World} {bp bs be : Nat} {vf : Value} {nf : Nat} {xs : List Value} {s0 : ByteArray} {n2 : Nat} {m2 : List Md} {n3 : Nat} {m3 : List Md} {D : Nat → Prop} {d0 c : Nat} {r : Except ByteArray Sy} {e : Ending} {W' : World} (h : Fend W bp bs be vf nf xs s0 n2 m2 n3 m3 D d0 c r e W') :
    (∃ h', r = .ok h' ∧ e = .returned (.tuple #[]) ∧ Fx (Sf bp bs be vf D) W W' ∧ ∃ vf' D' us, Dg W D D' ∧ Pw W' bp bs be vf' h' D' d0 c ∧ W'.ownsRow 0 62 11 vf' (nf + 1) (xs ++ us) ∧ Cfl W' W.heap.size D' s0 n2 m2 n3 m3 us ∧ (vf'.ownBlock = vf.ownBlock ∨ ∃ b, vf'.ownBlock = some b ∧ W.heap.size ≤ b)) ∨
    (∃ F, r = .error F ∧ e = .panicked [twi F] ∧ Fx (Sf bp bs be vf D) W W') := by
  cases r with
  | ok h' => exact .inl ⟨h', rfl, h.2.1, h.1, h.2.2⟩
  | error F => exact .inr ⟨F, rfl, h.2, h.1⟩

theorem fx_block {w : World} {b : Nat} (hb : ∃ x, w.heap[b]? = some x) (o : Obj) : Fx (fun k => k = b) w (setBlock w b o) := by
  exact ⟨rfl, rfl, rfl, by simp [setBlock], fun i _ hi => by
    have : ¬ b = i := fun e => hi e.symm
    simp [setBlock, Array.getElem?_setIfInBounds, this]⟩

theorem block_set {w : World} {b : Nat} (hb : ∃ x, w.heap[b]? = some x) (o : Obj) : (setBlock w b o).heap[b]? = some o := by
  obtain ⟨x, hx⟩ := hb
  have := (Array.getElem?_eq_some_iff.1 hx).1
  simp [setBlock, Array.getElem?_setIfInBounds, this]

set_option maxRecDepth 100000 in
set_option maxHeartbeats 16000000 in
theorem qfill (w0 : World) (a : Option Addr) (n c : Nat) (ms : List Md) (HSRC : Hid (Src w0 22 (.ls a n c ms))) (HNM : Hid (Nm (.ls a n c ms))) (HOK : Hid (tooK n ms = false)) (HCN : Hid (cntF ms n ≤ 900000000)) (hn : n ≤ 900000000)
    (W : World) (bp bs be : Nat) (HB0 : Hid (Below w0.heap.size w0 W)) (HLO : Hid (w0.heap.size ≤ bp ∧ w0.heap.size ≤ bs ∧ w0.heap.size ≤ be)) (hP : Hid (Pw W bp bs be (.slice none 0 0) (fun _ => none) (fun _ => False) w0.heap.size 0)) :
    Calls Tryz.prog 70 #[.pointer (some ⟨bp, 0, none⟩), .slice a n c] W fun e W' => Gend w0 bp bs be n ms (filesR ms n) e W' := by
  have hmf : ∀ (fn : Fn) (first cap : Array Value) (w : World), (Instr.makeFunc fn first cap).run Tryz.prog w = .ok (.func fn first cap) w := fun _ _ _ _ => rfl
  have HL : Hid (bp < W.heap.size ∧ bs < W.heap.size ∧ be < W.heap.size) := hP.out.lt
  have HW : Hid (w0.heap.size ≤ W.heap.size) := HB0.out.size
  obtain ⟨w1, hw1⟩ : ∃ w1, w1 = (W.alloc (.cells #[.string ⟨#[]⟩] 9)).alloc (.cells #[.int .i64 0] 77) := ⟨_, rfl⟩
  have hb1 : Below W.heap.size W w1 := by rw [hw1]; exact ((Below.refl _ _).alloc (Nat.le_refl _) _).alloc (by simp) _
  have r4 : Ob w1 W.heap.size #[.string ⟨#[]⟩] 9 := by rw [hw1]; exact (Ob.new _ _ _).alloc _
  have r5 : Ob w1 (W.heap.size + 1) #[.int .i64 0] 77 := by rw [hw1]; have := Ob.new (W.alloc (.cells #[.string ⟨#[]⟩] 9)) #[.int .i64 0] 77; simpa using this
  have I1 : Hid (Fi w0 W w1 bp bs be ms 0 (.slice none 0 0) (fun _ => none) (fun _ => False)) := ⟨r4, r5, rfl, hP.out.below hb1 (Nat.le_refl _), ⟨[], ⟨by simp, .inl ⟨rfl, rfl⟩⟩, fun i hi => absurd hi (by omega)⟩, fun _ e => e.elim, fun b e => (by cases e), HB0.out.trans (hb1.mono HB0.out.size)⟩
  have HW1 : Hid _ := hw1
  clear hb1 r4 r5 hw1 hP HB0
  go_enter_defers Tryz.func70, Tryz.ntmps70
  go_upto_region 2 with fail
  rw [← HW1.out]
  clear HW1
  go_wp2
  go_loopw [13] (fun v wr => ∃ (k : Nat) (vf : Value) (h : Sy) (D : Nat → Prop), v = .int .i64 (k : Int) ∧ k ≤ n ∧ Hid (Fi w0 W wr bp bs be ms k vf h D)) (fun v _ => n - (intOf v).toNat)
  case atStart => exact ⟨0, _, _, _, rfl, Nat.zero_le _, I1⟩
  case round =>
    clear I1
    obtain ⟨k, vf, h, D, rfl, hk, HI⟩ := hrel
    by_cases hlk : k < n
    · obtain ⟨b, off, s0, s1, s8, a2, n2, k2, m2, a3, n3, k3, m3, a4, n4, k4, m4, a5, n5, k5, m5, a6, n6, k6, m6, a7, n7, k7, m7, a9, n9, k9, m9, a10, n10, k10, m10, rfl, hlt, cc0, cc1, cc2, cc3, cc4, cc5, cc6, cc7, cc8, cc9, cc10, hsrc, hnm, hz, ⟨es0, es1⟩, ⟨e4, f4, e5, f5, e6, f6, e7, f7⟩, ⟨e2', f2', e3', f3'⟩⟩ := file_src2 HSRC.out HNM.out hlk
      have HBW := HI.out.bel
      have d0 := (HBW.cell (p := ⟨b, off + k * 11, none⟩) hlt).trans cc0
      have d1 := (HBW.cell (p := ⟨b, off + k * 11 + 1, none⟩) hlt).trans cc1
      have d2 := (HBW.cell (p := ⟨b, off + k * 11 + 2, none⟩) hlt).trans cc2
      have d3 := (HBW.cell (p := ⟨b, off + k * 11 + 3, none⟩) hlt).trans cc3
      have d4 := (HBW.cell (p := ⟨b, off + k * 11 + 4, none⟩) hlt).trans cc4
      have d5 := (HBW.cell (p := ⟨b, off + k * 11 + 5, none⟩) hlt).trans cc5
      have d6 := (HBW.cell (p := ⟨b, off + k * 11 + 6, none⟩) hlt).trans cc6
      have d7 := (HBW.cell (p := ⟨b, off + k * 11 + 7, none⟩) hlt).trans cc7
      have d8 := (HBW.cell (p := ⟨b, off + k * 11 + 8, none⟩) hlt).trans cc8
      have d9 := (HBW.cell (p := ⟨b, off + k * 11 + 9, none⟩) hlt).trans cc9
      have d10 := (HBW.cell (p := ⟨b, off + k * 11 + 10, none⟩) hlt).trans cc10
      have hwz := HBW.size
      obtain ⟨w2, hw2⟩ : ∃ w2, w2 = wr.alloc (.cells #[.string s0, .string s1, .slice a2 n2 k2, .slice a3 n3 k3, .slice a4 n4 k4, .slice a5 n5 k5, .slice a6 n6 k6, .slice a7 n7 k7, .string s8, .slice a9 n9 k9, .slice a10 n10 k10] 62) := ⟨_, rfl⟩
      have hb2 : Below wr.heap.size wr w2 := by rw [hw2]; exact (Below.refl _ _).alloc (Nat.le_refl _) _
      have o2 : Ob w2 wr.heap.size #[.string s0, .string s1, .slice a2 n2 k2, .slice a3 n3 k3, .slice a4 n4 k4, .slice a5 n5 k5, .slice a6 n6 k6, .slice a7 n7 k7, .string s8, .slice a9 n9 k9, .slice a10 n10 k10] 62 := by rw [hw2]; exact Ob.new _ _ _
      have I2 : Hid _ := HI.out.below hb2
      have hR : filesR ms (k + 1) = fileR s0 h (numsOf s1) (partL (numsOf s1) m4 n4 m5 n5 m6 n6 m7 n7) := by
        show (match filesR ms k with | .ok h => _ | .error F => _) = _
        rw [HI.out.res]
        simp only [fileL, es0, es1, e4, f4, e5, f5, e6, f6, e7, f7]
      have hC : cntF ms (k + 1) = cntF ms k + (partL (numsOf s1) m4 n4 m5 n5 m6 n6 m7 n7).length := by
        show _ + (fileL ms k).length = _
        simp only [fileL, es0, es1, e4, f4, e5, f5, e6, f6, e7, f7]
      have hC2 : cntF ms (k + 1) ≤ cntF ms n := by
        have := cntF_mono ms (k + 1) (n - (k + 1))
        rwa [show k + 1 + (n - (k + 1)) = n by omega] at this
      obtain ⟨xs, hxs, hcs⟩ := I2.out.row
      have HROW : Hid (w2.ownsRow 0 62 11 vf k xs ∧ Fcs w2 (W.heap.size + 2) D ms k xs) := ⟨hxs, hcs⟩
      have HFI : Hid (s0 = strAt ms (k * 11) ∧ n2 = lsN ms (k * 11 + 2) ∧ m2 = lsM ms (k * 11 + 2) ∧ n3 = lsN ms (k * 11 + 3) ∧ m3 = lsM ms (k * 11 + 3)) := ⟨es0.symm, e2'.symm, f2'.symm, e3'.symm, f3'.symm⟩
      have QL : Hid _ := qlayF w0 s0 s1 s8 a2 n2 k2 m2 a3 n3 k3 m3 a4 n4 k4 m4 a5 n5 k5 m5 a6 n6 k6 m6 a7 n7 k7 m7 a9 n9 k9 m9 a10 n10 k10 m10 (show Hid _ from hsrc) (show Hid _ from hnm) (show Hid _ from hz) (show Hid _ from (by have := tooK_ok hlk HOK.out; rw [e4, f4] at this; exact this)) w2 bp bs be vf k xs h D w0.heap.size (cntF ms k) (show Hid _ from I2.out.bel) (show Hid _ from ⟨HLO.out.2.1, HLO.out.2.2, Nat.le_refl _, I2.out.bel.size⟩) (show Hid _ from (by have := HCN.out; show _ ≤ _; omega)) (show Hid _ from (by show k ≤ _; omega)) (show Hid _ from I2.out.pw) (show Hid _ from hxs)
      rw [← hR, ← hC] at QL
      obtain ⟨⟨x0, x1, x2, x3, x4, x5, x6, x7, x8, x9, x10⟩, _, xl⟩ := ob11 o2
      have HW2 : Hid _ := hw2
      clear cc0 cc1 cc2 cc3 cc4 cc5 cc6 cc7 cc8 cc9 cc10 hsrc hnm hz es0 es1 e4 f4 e5 f5 e6 f6 e7 f7 HBW hb2 o2 hR hC hC2 hw2 hxs hcs e2' f2' e3' f3'
      go_upto_region 5 with fail
      rw [← HW2.out]
      clear HW2
      go_wp2_with fail
      refine Calls.mono QL.out ?_
      rintro e w3 hx3
      rcases fend_cases hx3 with ⟨h', hr', rfl, hf3, vf', D', us, hd3, hp3, hrow3, hcl3, hv3⟩ | ⟨F, hr', rfl, hf3⟩
      · have I3 : Hid _ := I2.out.step HW.out HL.out HLO.out hf3 hd3 hr' hp3 HROW.out.1 HROW.out.2 hrow3 (by obtain ⟨g0, g1, g2, g3, g4⟩ := HFI.out; rw [← g0, ← g1, ← g2, ← g3, ← g4]; exact hcl3) hv3
        clear hx3 hf3 hd3 hr' hp3 hrow3 hcl3 hv3 HROW HFI QL d0 d1 d2 d3 d4 d5 d6 d7 d8 d9 d10 x0 x1 x2 x3 x4 x5 x6 x7 x8 x9 x10 xl I2 HI hwz
        go_wp2
        go_roundw
        case rel => first | exact ⟨k + 1, _, _, _, by go_num, by omega, I3⟩ | ((repeat apply Exists.intro); exact ⟨⟨k + 1, _, _, _, by go_num, by omega, I3⟩, rfl⟩)
        case measure => simp [intOf]; omega
      · have hq4 : Ob w3 W.heap.size #[.string ⟨#[]⟩] 9 := hf3.ob I2.out.r4 (I2.out.apart HL.out (.inl rfl))
        have hq5 : Ob w3 (W.heap.size + 1) #[.int .i64 0] 77 := hf3.ob I2.out.r5 (I2.out.apart HL.out (.inr rfl))
        have HB3 : Hid (Below w0.heap.size w0 w3) := I2.out.bel.trans (hf3.to_below I2.out.bel.size (I2.out.lo HW.out HLO.out))
        have HRF : Hid (filesR ms n = .error F) := by
          have := filesR_err hr' (n - (k + 1))
          rwa [show k + 1 + (n - (k + 1)) = n by omega] at this
        have Q4 : Hid _ := hq4
        have Q5 : Hid _ := hq5
        clear hx3 hf3 hr' QL d0 d1 d2 d3 d4 d5 d6 d7 d8 d9 d10 x0 x1 x2 x3 x4 x5 x6 x7 x8 x9 x10 xl I2 HI hwz hq4 hq5
        go_wp2
        refine leaves_cons (f := 119) (args := #[.pointer (some ⟨W.heap.size, 0, none⟩), .pointer (some ⟨W.heap.size + 1, 0, none⟩)]) (by simp) (by simp [go_sem]) ?_
        refine (fill_catch F w3 Q4.out Q5.out).mono ?_
        rintro e u' w'' ⟨rfl, rfl, s4, s5, hbb⟩
        exact ⟨.tuple #[.string F, .int .i64 140], fill_res rfl rfl s4 s5, gend_err HRF.out (HB3.out.trans (hbb _ HW.out))⟩
    · obtain rfl : k = n := by omega
      obtain ⟨es, cl, Z, hst, hbe, hix⟩ := HI.out.range
      have HIX : Hid _ := hix
      have hml : be < wr.heap.size := (Array.getElem?_eq_some_iff.1 hbe).1
      obtain ⟨w5, hw5⟩ : ∃ w5, w5 = wr.alloc (.mapIter (some be) cl #[] cl) := ⟨_, rfl⟩
      have hrg : (Instr.range 94 (.map (some be))).run Tryz.prog wr = .ok (.pointer (some ⟨wr.heap.size, 0, none⟩)) w5 := by
        have hu : Tryz.prog.underlying 94 = some (.map 9 30) := by kernel_rfl
        rw [hw5]
        simp [Instr.range, run_underlying hu, MapKept.run_getObj_map hbe, Result.andThen]
      have hpw := HI.out.pw
      have x2 : wr.cell? ⟨bp, 2, none⟩ = some (.map (some be)) := hpw.blk.cell 2 rfl
      have xl := hpw.blk.lt
      have hbl5 : Below wr.heap.size wr w5 := by rw [hw5]; exact (Below.refl _ _).alloc (Nat.le_refl _) _
      have J5 : Hid (Ix w0 W w5 bp bs be vf k h D ms (cntF ms k) es cl Z wr.heap.size) := hix w5 wr.heap.size hbl5 (by rw [hw5]; exact heap_alloc_new _ _)
      obtain ⟨R, hR⟩ : ∃ R, R = wr.heap.size := ⟨_, rfl⟩
      have HR0 : Hid (w0.heap.size ≤ R) := by rw [hR]; exact HI.out.bel.size
      have HST : Hid _ := hst
      have HRES : Hid _ := HI.out.res
      rw [← hR] at hrg J5
      clear hpw hbl5 hw5 hR hix hst HI hbe HIX
      go_wp2
      go_loopw [26] (fun _ wx => Hid (Ix w0 W wx bp bs be vf k h D ms (cntF ms k) es cl Z R)) (fun _ wx => lf wx R be)
      case atStart => exact J5
      case round =>
        clear J5 hrg x2 xl hml
        have HJ : Hid (Ix w0 W wr bp bs be vf k h D ms (cntF ms k) es cl Z R) := hrel
        clear hrel
        obtain ⟨seen, c0, hit, hc0⟩ := HJ.out.it
        have hold : ∀ x ∈ es.toList, x.born < cl := HST.out.1
        rcases run_next_at (P := Tryz.prog) wr 0 R be cl c0 seen es cl hit HJ.out.mb hold hc0 with ⟨h0, hnx⟩ | ⟨e0, he0, w6, hal, hnx⟩
        · obtain ⟨y1, y2, y3⟩ := ob1 HJ.out.r4
          obtain ⟨z1, z2, z3⟩ := ob1 HJ.out.r5
          clear hit hc0 hold h0
          go_wp2
          refine leaves_cons (f := 119) (args := #[.pointer (some ⟨W.heap.size, 0, none⟩), .pointer (some ⟨W.heap.size + 1, 0, none⟩)]) (by simp) (by simp [go_sem]) ?_
          refine (fill_idle _ _ _).mono ?_
          rintro e u' w'' ⟨rfl, rfl, rfl⟩
          have hfx : Fx (fun b => b = W.heap.size ∨ b = W.heap.size + 1) wr (((wr.setCell ⟨W.heap.size, 0, none⟩ (.string ⟨#[]⟩)).setCell ⟨W.heap.size + 1, 0, none⟩ (.int .i64 0)).alloc (.cells #[.string ⟨#[]⟩] 173)) :=
            (((fx1 wr W.heap.size 0 _).mono (fun b e => .inl e)).also ((fx1 _ (W.heap.size + 1) 0 _).mono (fun b e => .inr e))).also (Fx.of_below ((Below.refl _ _).alloc (Nat.le_refl _) _))
          have s4 := (((HJ.out.r4.set 0 (.string ⟨#[]⟩)).other (b' := W.heap.size + 1) (by omega) 0 (.int .i64 0)).alloc (.cells #[.string ⟨#[]⟩] 173))
          have s5 := (((HJ.out.r5.other (b' := W.heap.size) (by omega) 0 (.string ⟨#[]⟩)).set 0 (.int .i64 0)).alloc (.cells #[.string ⟨#[]⟩] 173))
          have nt : ∀ {b : Nat} {cs : Array Value} {T : TypeId}, wr.heap[b]? = some (.cells cs T (0, 0)) → T ≠ 9 → T ≠ 77 → ¬ (b = W.heap.size ∨ b = W.heap.size + 1) := by
            intro b cs T hb h1 h2 e
            rcases e with rfl | rfl
            · rw [HJ.out.r4.eq] at hb; cases hb; exact h1 rfl
            · rw [HJ.out.r5.eq] at hb; cases hb; exact h2 rfl
          refine ⟨.tuple #[.string ⟨#[]⟩, .int .i64 0], fill_res rfl rfl (by simpa using s4) (by simpa using s5), gend_ok HRES.out (HJ.out.bel.trans (hfx.to_below HJ.out.bel.size (fun b e => by have := HW.out; omega))) (HJ.out.px.fxK hfx (by have := HL.out; omega) (by have := HL.out; omega)) (HJ.out.zw.fx hfx (fun b cs e => nt e (by decide) (by decide))) ?_⟩
          obtain ⟨ys, hy, hc9⟩ := HJ.out.row
          refine ⟨ys, W.heap.size + 2, D, owns_fx hfx hy (fun b e => ?_), hc9.imp (fun T m hk => hk.chg hfx (fun b e => .inl (by rcases e with e | e <;> omega)) (fun b e => .inl e))⟩
          rcases hy.2 with ⟨h0, _⟩ | ⟨g1, cap, cur, h0, _, h2, _⟩
          · rw [h0] at e; cases e
          · rw [h0] at e; cases e; exact nt h2 (by decide) (by decide)
        · obtain ⟨hes0, _⟩ := mem_left he0
          have h6it : ∃ x, w6.heap[R]? = some x := by rcases hal with rfl | rfl <;> exact ⟨_, hit⟩
          have hf6 : Fx (fun b => b = R) wr w6 := by
            rcases hal with rfl | rfl
            · exact Fx.refl _ _
            · exact Fx.of_below (Below.refl _ _).drew
          obtain ⟨w7, hw7⟩ : ∃ w7, w7 = setBlock w6 R (.mapIter (some be) cl (seen.push e0.born) cl) := ⟨_, rfl⟩
          have hf7 : Fx (fun b => b = R) wr w7 := by rw [hw7]; exact hf6.also (fx_block h6it _)
          have hit7 : w7.heap[R]? = some (.mapIter (some be) cl (seen.push e0.born) cl) := by rw [hw7]; exact block_set h6it _
          have J7 : Hid _ := HJ.out.goes HR0.out hf7 hit7 (Nat.le_refl _)
          have hen := run_entry_at (P := Tryz.prog) w7 R be cl seen es cl e0 hit7 J7.out.mb hes0 HST.out.2.1
          have HLF : Hid (lf w7 R be < lf wr R be) := by
            have h1 : lf w7 R be = (leftOf es (seen.push e0.born)).size := by simp [lf, hit7, J7.out.mb]
            have h2 : lf wr R be = (leftOf es seen).size := by simp [lf, hit, HJ.out.mb]
            show _ < _
            rw [h1, h2]
            exact left_shrinks es seen e0 he0
          rw [← hw7] at hnx
          have HES : Hid (e0 ∈ es.toList) := hes0
          clear hw7 hf6 hf7 h6it hal he0 hit hold hc0 HJ
          rcases J7.out.rows e0 HES.out with hv | ⟨B, m, cap, hv, hm, hD, hRg⟩
          · rw [hv] at hnx hen
            have QN : Hid _ := so_none bp w7
            unfold cmpV at QN
            clear hv hit7
            go_wp2_with fail
            refine Calls.mono QN.out ?_
            rintro e w8 ⟨rfl, rfl⟩
            clear hnx hen QN
            go_wp2
            go_roundw
            case rel => first | exact J7 | ((repeat apply Exists.intro); exact ⟨J7, rfl⟩)
            case measure => exact HLF.out
          · obtain ⟨cf, hcf⟩ := J7.out.cmp hRg
            have QS : Hid _ := so_sort (show Hid _ from hcf) m cap (by have := HCN.out; omega) w7 (show Hid _ from Fx.refl _ _) (show Hid _ from hRg)
            unfold cmpV at QS
            have HIT7 : Hid _ := hit7
            have HV : Hid _ := hv
            have HRG : Hid _ := hRg
            have HD : Hid _ := hD
            rw [hv] at hnx hen
            clear hv hcf hRg hit7 hm hD
            go_wp2_with fail
            refine Calls.mono QS.out ?_
            rintro e w8 ⟨rfl, hf8, hr8⟩
            have J8 : Hid _ := J7.out.sorted HW.out HES.out HV.out HD.out HRG.out hf8 hr8
            have HL8 : Hid (lf w8 R be < lf wr R be) := by
              have hcB : ∃ cs, w7.heap[B]? = some (.cells cs 9 (0, 0)) := by obtain ⟨cs, h1, _⟩ := HRG.out; exact ⟨cs, h1⟩
              obtain ⟨csB, hcB⟩ := hcB
              have e1 := hf8.block R (Array.getElem?_eq_some_iff.1 HIT7.out).1 (cells_ne HIT7.out hcB (by simp))
              have e2 := hf8.block be (Array.getElem?_eq_some_iff.1 J7.out.mb).1 (cells_ne J7.out.mb hcB (by simp))
              have : lf w8 R be = lf w7 R be := by simp only [lf, e1, e2]
              show _ < _
              rw [this]
              exact HLF.out
            clear hf8 hr8 hnx hen QS J7
            go_wp2
            go_roundw
            case rel => first | exact J8 | ((repeat apply Exists.intro); exact ⟨J8, rfl⟩)
            case measure => exact HL8.out

end Go.Proofs.YtafmoceinamcdaaGreat
