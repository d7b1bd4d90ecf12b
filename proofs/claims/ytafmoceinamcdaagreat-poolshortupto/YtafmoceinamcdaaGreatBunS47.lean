/- Put together by a program out of these texts of mine: VSh. -/
import Derived.Test.YtafmoceinamcdaaGreatBunS40
import Derived.Test.YtafmoceinamcdaaGreatBunS41
import Derived.Test.YtafmoceinamcdaaGreatBunS42
import Derived.Test.YtafmoceinamcdaaGreatBunS43
import Derived.Test.YtafmoceinamcdaaGreatBunS46

namespace Go.Proofs.YtafmoceinamcdaaGreat
open Go.RowKit
set_option linter.unusedVariables false
set_option linter.unusedSimpArgs false

theorem alkl_strM {ms es : List Md} (h : AlkL ms es) : ms.map strM = es.map strM := by
  refine List.ext_getElem? (fun i => ?_)
  rw [List.getElem?_map, List.getElem?_map]
  rcases at_both h.1 i with ⟨h1, h2⟩ | ⟨m, m', h1, h2⟩
  · rw [h1, h2]
  · rw [h1, h2]
    have := h.2 i m m' h1 h2
    cases this <;> rfl

theorem units_at {w : World} {lo : Nat} {A : TypeId → Prop} {n : Nat} {ms : List Md} {ua : Option Addr} {uc : Nat} (h : Cpy w lo A 72 (.ls none n n (unitM ms n)) (.slice ua n uc)) : ∀ k, k < n →
    ∃ ug uoff q2 t2 q3 t3 ee, ua = some ⟨ug, uoff, none⟩ ∧ ug < w.heap.size ∧ w.cell? ⟨ug, uoff + k * 3, none⟩ = some (.string (strAt ms (k * 11))) ∧ w.cell? ⟨ug, uoff + k * 3 + 1, none⟩ = some (.slice q2 (lsN ms (k * 11 + 2)) t2) ∧ w.cell? ⟨ug, uoff + k * 3 + 2, none⟩ = some (.slice q3 (lsN ms (k * 11 + 3)) t3) ∧
      Own Tryz.prog w lo A 30 (.ls q2 (lsN ms (k * 11 + 2)) t2 ee) ∧ AlkL (lsM ms (k * 11 + 2)) ee := by
  intro k hk
  obtain ⟨m', hv, ho, ha⟩ := h
  cases ha with
  | ls hl hal =>
    rename_i a' c' es
    simp only [Md.val, Value.slice.injEq] at hv
    obtain ⟨rfl, _, rfl⟩ := hv
    obtain ⟨_, hlen, hmem, hkid⟩ := ho.at Tryz.underlying72 (by rw [flds_unit]; decide)
    obtain ⟨g, rfl, hg, _, hc⟩ := hmem (by omega)
    rw [flds_unit] at hlen hkid
    have hlen : es.length = n * 3 := hlen
    have hat : ∀ j, j < 3 → ∃ m m', [Md.str (strAt ms (k * 11)), .ls none (lsN ms (k * 11 + 2)) 0 (lsM ms (k * 11 + 2)), .ls none (lsN ms (k * 11 + 3)) 0 (lsM ms (k * 11 + 3))][j]? = some m ∧ es[k * 3 + j]? = some m' ∧ Alk m m' ∧ w.cell? ⟨g, 0 + k * 3 + j, none⟩ = some m'.val := fun j hj => by
      have h1 := unitM_at ms hk j hj
      have h2 : es[k * 3 + j]? = some es[k * 3 + j] := List.getElem?_eq_getElem (by omega)
      have h3 : (unitM ms n)[k * 3 + j]? = some (unitM ms n)[k * 3 + j] := List.getElem?_eq_getElem (by omega)
      exact ⟨_, _, h1.symm.trans h3, h2, hal _ _ _ h3 h2, by rw [Nat.zero_add]; exact hc _ _ h2⟩
    obtain ⟨m0, x0, i0, j0, k0, c0⟩ := hat 0 (by omega)
    obtain ⟨m1, x1, i1, j1, k1, c1⟩ := hat 1 (by omega)
    obtain ⟨m2, x2, i2, j2, k2, c2⟩ := hat 2 (by omega)
    simp only [List.getElem?_cons_zero, List.getElem?_cons_succ, Option.some.injEq] at i0 i1 i2
    subst i0 i1 i2
    cases k0
    have ho1 := hkid _ _ 30 j1 (by rw [show ([9, 30, 59] : List TypeId).length = 3 from rfl, show (k * 3 + 1) % 3 = 1 by omega]; rfl)
    cases k1 with
    | ls hl1 hal1 =>
      cases k2 with
      | ls hl2 hal2 => exact ⟨g, 0, _, _, _, _, _, rfl, hg, c0, c1, c2, ho1, hl1, hal1⟩

set_option maxRecDepth 100000 in
set_option maxHeartbeats 16000000 in
theorem pshort_walk (w0 : World) (a : Option Addr) (n c : Nat) (ms : List Md) (HS : Hid (Src w0 22 (.ls a n c ms) ∧ Nm (.ls a n c ms))) (HT : Hid (totL ms ≤ 1048576)) (S0 S1 : ByteArray) {sa : Option Addr} {sn sc : Nat} {seen : List ByteArray} (hs : Hid (Sb w0 sa sn sc seen)) {ka : Option Addr} {kn kc : Nat} {kinds : List Int} (hk : Hid (Ns w0 ka kn kc kinds)) :
    Calls Tryz.prog 7 #[.slice a n c, .string S0, .string S1, .slice sa sn sc, .slice ka kn kc] w0 fun e W' => e = .returned (.bool true) ∧ Below w0.heap.size w0 W' := by
  have hn9 : n ≤ 900000000 := by
    have := src_n Tryz.underlying22 (by rw [flds_file]; decide) HS.out.1
    have := HT.out
    omega
  have HN9 : Hid _ := hn9
  clear hn9
  have QW : Hid _ := vawake_any w0
  have QFU : Hid _ := fun V => rfullS S1 V
  go_enter Tryz.func7, Tryz.ntmps7
  go_wp2_with fail
  refine Calls.mono QW.out ?_
  rintro e w1 ⟨rfl, hb1⟩
  have HB1 : Hid _ := hb1
  have QA : Hid _ := allF w0 w1 (show Hid _ from hb1) a n c ms HS
  clear hb1 QW
  go_wp2_with fail
  refine Calls.mono QA.out ?_
  rintro e w2 ⟨bb, rfl, hb2⟩
  have HB2 : Hid (Below w0.heap.size w0 w2) := HB1.out.trans (hb2.mono HB1.out.size)
  clear hb2 QA
  rcases bb with _ | _
  · go_wp2
    go_ret
    exact ⟨rfl, HB2.out⟩
  · by_cases hg0 : (300 : Int) < (S0.size : Int)
    · go_wp2
      go_ret
      exact ⟨rfl, HB2.out⟩
    · go_wp2_with fail
      refine Calls.mono (QFU.out _) ?_
      rintro e w2f ⟨bf, rfl, hbf, hb2f⟩
      have HBF : Hid (Below w0.heap.size w0 w2f) := HB2.out.trans (hb2f.mono HB2.out.size)
      have HZF : Hid (bf = true → S1.size ≤ 1000) := hbf
      clear hb2f hbf QFU
      rcases bf with _ | _
      · go_wp2
        go_ret
        exact ⟨rfl, HBF.out⟩
      · by_cases hg2 : (20 : Int) < (sn : Int)
        · go_wp2
          go_ret
          exact ⟨rfl, HBF.out⟩
        · by_cases hg3 : (20 : Int) < (kn : Int)
          · go_wp2
            go_ret
            exact ⟨rfl, HBF.out⟩
          · have HS2 : Hid (Src w2f 22 (.ls a n c ms) ∧ Nm (.ls a n c ms)) := ⟨HS.out.1.under' HBF.out, HS.out.2⟩
            have QB : Hid _ := bothF w2f a n c ms HS2 HT
            have HZ : Hid (S0.size ≤ 300 ∧ S1.size ≤ 1000) := ⟨by omega, HZF.out rfl⟩
            go_wp2_with fail
            refine Calls.mono QB.out ?_
            rintro e w3 ⟨hb3, hc3⟩
            have HB3 : Hid (Below w0.heap.size w0 w3) := HBF.out.trans (hb3.mono HBF.out.size)
            clear hb3 QB hg0 hg2 hg3
            rcases hc3 with rfl | ⟨bp, bs, be, vf, Z, h, B0, gp, hm, L, rfl, hbp, hpx, hzw, hB0, hrp, hsl, hlen, hsz, hfw⟩
            · go_wp2
              go_ret
              exact ⟨rfl, HB3.out⟩
            · have QU : Hid _ := punits (show Hid _ from hpx) (show Hid _ from hfw) HS HN9.out
              have HPX : Hid (Px (Rz Z) w3 bp bs be vf h) := hpx
              have HRP : Hid (Rp w3 B0 gp (.slice a n c) hm (L, none)) := hrp
              have HSL : Hid (slook L = h ∧ L.length ≤ 1048576) := ⟨hsl, hlen⟩
              clear hbp hpx hzw hB0 hrp hsl hlen hsz hfw
              go_wp2_with fail
              refine Calls.mono QU.out ?_
              rintro e w4 ⟨v, rfl, hcu, hb4⟩
              obtain ⟨ua, uc, rfl⟩ := cpy_ls hcu
              have HCU : Hid _ := units_at hcu
              have HB34 : Hid (Below w3.heap.size w3 w4) := hb4
              have HB4 : Hid (Below w0.heap.size w0 w4) := HB3.out.trans (hb4.mono HB3.out.size)
              clear hcu hb4 QU
              go_wp2
              go_loopw [59] (fun v wr => ∃ k : Nat, v = .int .i64 (k : Int) ∧ k ≤ n ∧ Hid (Below w4.heap.size w4 wr)) (fun v _ => n - (intOf v).toNat)
              case atStart => exact ⟨0, rfl, Nat.zero_le _, Below.refl _ _⟩
              case round =>
                obtain ⟨k, rfl, hkk, HB⟩ := hrel
                have hn9 : n ≤ 900000000 := HN9.out
                by_cases hlk : k < n
                · obtain ⟨b, off, s0, s1, s8, a2, n2, k2, m2, a3, n3, k3, m3, a4, n4, k4, m4, a5, n5, k5, m5, a6, n6, k6, m6, a7, n7, k7, m7, a9, n9, k9, m9, a10, n10, k10, m10, rfl, hlt, cc0, cc1, cc2, cc3, cc4, cc5, cc6, cc7, cc8, cc9, cc10, hsrc, hnm, hz, ⟨es0, es1⟩, hx4, ⟨e2, f2, e3, f3⟩⟩ := file_src2 HS.out.1 HS.out.2 hlk
                  obtain ⟨ug, uoff, q2, t2, q3, t3, ee, rfl, hul, uc0, uc1, uc2, hso, hal⟩ := HCU.out k hlk
                  rw [es0] at uc0
                  rw [e2] at uc1 hso
                  rw [f2] at hal
                  rw [e3] at uc2
                  have hok := (own_src hso (.ls hal.1 hal.2 : Alk (.ls a2 n2 k2 m2) (.ls q2 n2 t2 ee)) hsrc.1.1 hsrc.1.2).1
                  have hsb1 := sb_of_ok hok
                  have hsb2 := sb_of_ok hsrc.1.1
                  rw [alkl_strM hal] at hsb2
                  obtain ⟨XS, hXS⟩ : ∃ XS, XS = ee.map strM := ⟨_, rfl⟩
                  rw [← hXS] at hsb1 hsb2
                  have HBW := HB4.out.trans (HB.out.mono HB4.out.size)
                  have hult := Nat.lt_of_lt_of_le hul HB.out.size
                  have d0 := (HBW.cell (p := ⟨b, off + k * 11, none⟩) hlt).trans cc0
                  have d1 := (HBW.cell (p := ⟨b, off + k * 11 + 1, none⟩) hlt).trans cc1
                  have d2 := (HBW.cell (p := ⟨b, off + k * 11 + 2, none⟩) hlt).trans cc2
                  have d3 := (HBW.cell (p := ⟨b, off + k * 11 + 3, none⟩) hlt).trans cc3
                  have d4 := (HBW.cell (p := ⟨b, off + k * 11 + 4, none⟩) hlt).trans cc4
                  have d5 := (HBW.cell (p := ⟨b, off + k * 11 + 5, none⟩) hlt).trans cc5
                  have d6 := (HBW.cell (p := ⟨b, off + k * 11 + 6, none⟩) hlt).trans cc6
                  have d7 := (HBW.cell (p := ⟨b, off + k * 11 + 7, none⟩) hlt).trans cc7
                  have d8 := (HBW.cell (p := ⟨b, off + k * 11 + 8, none⟩) hlt).trans cc8
                  have d9 := (HBW.cell (p := ⟨b, off + k * 11 + 9, none⟩) hlt).trans cc9
                  have d10 := (HBW.cell (p := ⟨b, off + k * 11 + 10, none⟩) hlt).trans cc10
                  have hlw := Nat.lt_of_lt_of_le hlt HBW.size
                  obtain ⟨w5, hw5⟩ : ∃ V, V = wr.alloc (.cells #[.string s0, .string s1, .slice a2 n2 k2, .slice a3 n3 k3, .slice a4 n4 k4, .slice a5 n5 k5, .slice a6 n6 k6, .slice a7 n7 k7, .string s8, .slice a9 n9 k9, .slice a10 n10 k10] 62) := ⟨_, rfl⟩
                  have hb5 : Below wr.heap.size wr w5 := by rw [hw5]; exact (Below.refl _ _).alloc (Nat.le_refl _) _
                  have o5 : Ob w5 wr.heap.size #[.string s0, .string s1, .slice a2 n2 k2, .slice a3 n3 k3, .slice a4 n4 k4, .slice a5 n5 k5, .slice a6 n6 k6, .slice a7 n7 k7, .string s8, .slice a9 n9 k9, .slice a10 n10 k10] 62 := by rw [hw5]; exact Ob.new _ _ _
                  have HW5 : Hid _ := hw5
                  have HB5 : Hid (Below w4.heap.size w4 w5) := HB.out.trans (hb5.mono HB.out.size)
                  have FL : Hid (wr.heap.size < w5.heap.size ∧ w5.cell? ⟨wr.heap.size, 0, none⟩ = some (.string s0) ∧ w5.cell? ⟨wr.heap.size, 2, none⟩ = some (.slice a2 n2 k2) ∧ w5.cell? ⟨wr.heap.size, 3, none⟩ = some (.slice a3 n3 k3)) := ⟨o5.lt, o5.cell 0 rfl, o5.cell 2 rfl, o5.cell 3 rfl⟩
                  have UL : Hid (ug < w5.heap.size ∧ w5.cell? ⟨ug, uoff + k * 3, none⟩ = some (.string s0) ∧ w5.cell? ⟨ug, uoff + k * 3 + 1, none⟩ = some (.slice q2 n2 t2) ∧ w5.cell? ⟨ug, uoff + k * 3 + 2, none⟩ = some (.slice q3 n3 t3)) := ⟨Nat.lt_of_lt_of_le hul HB5.out.size, (HB5.out.cell (p := ⟨ug, uoff + k * 3, none⟩) hul).trans uc0, (HB5.out.cell (p := ⟨ug, uoff + k * 3 + 1, none⟩) hul).trans uc1, (HB5.out.cell (p := ⟨ug, uoff + k * 3 + 2, none⟩) hul).trans uc2⟩
                  have HSB : Hid (Sb w5 q2 n2 t2 XS ∧ Sb w5 a2 n2 k2 XS) := ⟨hsb1.below HB5.out, hsb2.below (HB4.out.trans (HB5.out.mono HB4.out.size))⟩
                  have hik : (k : Int) < (n : Int) := by omega
                  have hff : (s0.toList == s0.toList) = true := by simp
                  clear cc0 cc1 cc2 cc3 cc4 cc5 cc6 cc7 cc8 cc9 cc10 hlt hb5 o5 hw5 hsrc hnm hz es0 es1 hx4 e2 f2 e3 f3 hso hal hok hsb1 hsb2 hXS HBW uc0 uc1 uc2 hul hult HB
                  go_upto_region 12 with fail
                  rw [← HW5.out]
                  clear HW5 d0 d1 d2 d3 d4 d5 d6 d7 d8 d9 d10 hlw
                  refine wp_region_held (S := fun V => Below w5.heap.size w5 V) (by kernel_rfl) ?_
                  have HD : Hid (Below w5.heap.size w5 w5.drew) := (Below.refl _ _).drew
                  refine wpAnyH_takeD (i := 0) 64 (v := (.int .i64 (k : Int))) rfl rfl (by kernel_rfl) (by kernel_rfl) (by kernel_rfl) (fun _ _ _ h => h) (Or.inl ⟨by kernel_rfl, fun V HV => ex_move rfl rfl⟩) HD.out ?_
                  simp only [List.setIfInBounds_toArray, List.set_cons_zero, List.set_cons_succ]
                  refine wpAnyH_takeD (i := 1) 65 (v := (.slice (some ⟨ug, uoff, none⟩) n uc)) rfl rfl (by kernel_rfl) (by kernel_rfl) (by kernel_rfl) (fun _ _ _ h => h) (Or.inl ⟨by kernel_rfl, fun V HV => ex_move rfl rfl⟩) HD.out ?_
                  simp only [List.setIfInBounds_toArray, List.set_cons_zero, List.set_cons_succ]
                  refine wpAnyH_takeD (i := 2) 66 (v := (.int .i64 (n : Int))) rfl rfl (by kernel_rfl) (by kernel_rfl) (by kernel_rfl) (fun _ _ _ h => h) (Or.inl ⟨by kernel_rfl, fun V HV => ex_lenU rfl rfl⟩) HD.out ?_
                  simp only [List.setIfInBounds_toArray, List.set_cons_zero, List.set_cons_succ]
                  refine wpAnyH_takeD (i := 3) 67 (v := (.bool false)) rfl rfl (by kernel_rfl) (by kernel_rfl) (by kernel_rfl) (fun _ _ _ h => h) (Or.inl ⟨by kernel_rfl, fun V HV => ex_geq rfl rfl rfl hlk⟩) HD.out ?_
                  simp only [List.setIfInBounds_toArray, List.set_cons_zero, List.set_cons_succ]
                  refine wpAnyH_takeD (i := 4) 68 (v := (.bool false)) rfl rfl (by kernel_rfl) (by kernel_rfl) (by kernel_rfl) (fun _ _ _ h => h) (Or.inl ⟨by kernel_rfl, fun V HV => ex_move rfl rfl⟩) HD.out ?_
                  simp only [List.setIfInBounds_toArray, List.set_cons_zero, List.set_cons_succ]
                  refine wpAnyH_takeD (i := 5) 69 (v := (.slice (some ⟨ug, uoff, none⟩) n uc)) rfl rfl (by kernel_rfl) (by kernel_rfl) (by kernel_rfl) (fun _ _ _ h => h) (Or.inl ⟨by kernel_rfl, fun V HV => ex_move rfl rfl⟩) HD.out ?_
                  simp only [List.setIfInBounds_toArray, List.set_cons_zero, List.set_cons_succ]
                  refine wpAnyH_takeD (i := 6) 70 (v := (.int .i64 (k : Int))) rfl rfl (by kernel_rfl) (by kernel_rfl) (by kernel_rfl) (fun _ _ _ h => h) (Or.inl ⟨by kernel_rfl, fun V HV => ex_move rfl rfl⟩) HD.out ?_
                  simp only [List.setIfInBounds_toArray, List.set_cons_zero, List.set_cons_succ]
                  refine wpAnyH_takeD (i := 7) 71 (v := (.pointer (some ⟨ug, uoff + k * 3, none⟩))) rfl rfl (by kernel_rfl) (by kernel_rfl) (by kernel_rfl) (fun _ _ _ h => h) (Or.inl ⟨by kernel_rfl, fun V HV => ex_unit rfl rfl rfl hlk⟩) HD.out ?_
                  simp only [List.setIfInBounds_toArray, List.set_cons_zero, List.set_cons_succ]
                  refine wpAnyH_takeD (i := 8) 72 (v := (.pointer (some ⟨ug, uoff + k * 3, none⟩))) rfl rfl (by kernel_rfl) (by kernel_rfl) (by kernel_rfl) (fun _ _ _ h => h) (Or.inl ⟨by kernel_rfl, fun V HV => ex_u0 rfl rfl⟩) HD.out ?_
                  simp only [List.setIfInBounds_toArray, List.set_cons_zero, List.set_cons_succ]
                  refine wpAnyH_takeD (i := 9) 73 (v := (.string s0)) rfl rfl (by kernel_rfl) (by kernel_rfl) (by kernel_rfl) (fun _ _ _ h => h) (Or.inl ⟨by kernel_rfl, fun V HV => ex_loads rfl rfl ((HV.cell (p := ⟨ug, uoff + k * 3, none⟩) UL.out.1).trans (UL.out.2.1))⟩) HD.out ?_
                  simp only [List.setIfInBounds_toArray, List.set_cons_zero, List.set_cons_succ]
                  refine wpAnyH_takeD (i := 10) 74 (v := (.pointer (some ⟨wr.heap.size, 0, none⟩))) rfl rfl (by kernel_rfl) (by kernel_rfl) (by kernel_rfl) (fun _ _ _ h => h) (Or.inl ⟨by kernel_rfl, fun V HV => ex_f0 rfl rfl⟩) HD.out ?_
                  simp only [List.setIfInBounds_toArray, List.set_cons_zero, List.set_cons_succ]
                  refine wpAnyH_takeD (i := 11) 75 (v := (.string s0)) rfl rfl (by kernel_rfl) (by kernel_rfl) (by kernel_rfl) (fun _ _ _ h => h) (Or.inl ⟨by kernel_rfl, fun V HV => ex_loads rfl rfl ((HV.cell (p := ⟨wr.heap.size, 0, none⟩) FL.out.1).trans (FL.out.2.1))⟩) HD.out ?_
                  simp only [List.setIfInBounds_toArray, List.set_cons_zero, List.set_cons_succ]
                  refine wpAnyH_takeD (i := 12) 76 (v := (.bool false)) rfl rfl (by kernel_rfl) (by kernel_rfl) (by kernel_rfl) (fun _ _ _ h => h) (Or.inl ⟨by kernel_rfl, fun V HV => ex_neqs rfl rfl rfl⟩) HD.out ?_
                  simp only [List.setIfInBounds_toArray, List.set_cons_zero, List.set_cons_succ]
                  refine wpAnyH_takeD (i := 13) 77 (v := (.bool false)) rfl rfl (by kernel_rfl) (by kernel_rfl) (by kernel_rfl) (fun _ _ _ h => h) (Or.inl ⟨by kernel_rfl, fun V HV => ex_pick rfl rfl rfl⟩) HD.out ?_
                  simp only [List.setIfInBounds_toArray, List.set_cons_zero, List.set_cons_succ]
                  refine wpAnyH_takeD (i := 14) 78 (v := (.bool false)) rfl rfl (by kernel_rfl) (by kernel_rfl) (by kernel_rfl) (fun _ _ _ h => h) (Or.inl ⟨by kernel_rfl, fun V HV => ex_move rfl rfl⟩) HD.out ?_
                  simp only [List.setIfInBounds_toArray, List.set_cons_zero, List.set_cons_succ]
                  refine wpAnyH_takeD (i := 15) 79 (v := (.slice (some ⟨ug, uoff, none⟩) n uc)) rfl rfl (by kernel_rfl) (by kernel_rfl) (by kernel_rfl) (fun _ _ _ h => h) (Or.inl ⟨by kernel_rfl, fun V HV => ex_move rfl rfl⟩) HD.out ?_
                  simp only [List.setIfInBounds_toArray, List.set_cons_zero, List.set_cons_succ]
                  refine wpAnyH_takeD (i := 16) 80 (v := (.int .i64 (k : Int))) rfl rfl (by kernel_rfl) (by kernel_rfl) (by kernel_rfl) (fun _ _ _ h => h) (Or.inl ⟨by kernel_rfl, fun V HV => ex_move rfl rfl⟩) HD.out ?_
                  simp only [List.setIfInBounds_toArray, List.set_cons_zero, List.set_cons_succ]
                  refine wpAnyH_takeD (i := 17) 81 (v := (.pointer (some ⟨ug, uoff + k * 3, none⟩))) rfl rfl (by kernel_rfl) (by kernel_rfl) (by kernel_rfl) (fun _ _ _ h => h) (Or.inl ⟨by kernel_rfl, fun V HV => ex_unit rfl rfl rfl hlk⟩) HD.out ?_
                  simp only [List.setIfInBounds_toArray, List.set_cons_zero, List.set_cons_succ]
                  refine wpAnyH_takeD (i := 18) 82 (v := (.pointer (some ⟨ug, uoff + k * 3 + 1, none⟩))) rfl rfl (by kernel_rfl) (by kernel_rfl) (by kernel_rfl) (fun _ _ _ h => h) (Or.inl ⟨by kernel_rfl, fun V HV => ex_u1 rfl rfl⟩) HD.out ?_
                  simp only [List.setIfInBounds_toArray, List.set_cons_zero, List.set_cons_succ]
                  refine wpAnyH_takeD (i := 19) 83 (v := (.slice q2 n2 t2)) rfl rfl (by kernel_rfl) (by kernel_rfl) (by kernel_rfl) (fun _ _ _ h => h) (Or.inl ⟨by kernel_rfl, fun V HV => ex_loadt rfl rfl ((HV.cell (p := ⟨ug, uoff + k * 3 + 1, none⟩) UL.out.1).trans (UL.out.2.2.1))⟩) HD.out ?_
                  simp only [List.setIfInBounds_toArray, List.set_cons_zero, List.set_cons_succ]
                  refine wpAnyH_takeD (i := 20) 84 (v := (.pointer (some ⟨wr.heap.size, 0 + 2, none⟩))) rfl rfl (by kernel_rfl) (by kernel_rfl) (by kernel_rfl) (fun _ _ _ h => h) (Or.inl ⟨by kernel_rfl, fun V HV => ex_f2 rfl rfl⟩) HD.out ?_
                  simp only [List.setIfInBounds_toArray, List.set_cons_zero, List.set_cons_succ]
                  refine wpAnyH_takeD (i := 21) 85 (v := (.slice a2 n2 k2)) rfl rfl (by kernel_rfl) (by kernel_rfl) (by kernel_rfl) (fun _ _ _ h => h) (Or.inl ⟨by kernel_rfl, fun V HV => ex_loadt rfl rfl ((HV.cell (p := ⟨wr.heap.size, 2, none⟩) FL.out.1).trans (FL.out.2.2.1))⟩) HD.out ?_
                  simp only [List.setIfInBounds_toArray, List.set_cons_zero, List.set_cons_succ]
                  refine wpAnyH_all (rs := [22]) (by kernel_rfl) (by simp) ?_
                  intro i hi
                  obtain rfl : i = 22 := by simpa using hi
                  clear hi
                  refine wpOp_listV rfl ?_
                  intro Q' hQ'
                  have HQ : Hid _ := hQ'
                  clear hQ'
                  go_wp2_with fail
                  refine Calls.mono (rhsame_any (show Hid _ from HSB.out.1.below HD.out) (show Hid _ from HSB.out.2.below HD.out)) ?_
                  rintro e w7 ⟨rfl, hb7⟩
                  have HD7 : Hid (Below w5.heap.size w5 w7) := HD.out.trans (hb7.mono HD.out.size)
                  rw [show decide (XS = XS) = true from decide_eq_true rfl]
                  clear hb7
                  go_wp2
                  refine HQ.out _ _ ⟨HD7.out, ?_⟩
                  clear HQ
                  refine wpAnyH_takeD (i := 23) 87 (v := (.bool false)) rfl rfl (by kernel_rfl) (by kernel_rfl) (by kernel_rfl) (fun _ _ _ h => h) (Or.inl ⟨by kernel_rfl, fun V HV => ex_not rfl rfl⟩) HD7.out ?_
                  simp only [List.setIfInBounds_toArray, List.set_cons_zero, List.set_cons_succ]
                  refine wpAnyH_takeD (i := 24) 88 (v := (.bool false)) rfl rfl (by kernel_rfl) (by kernel_rfl) (by kernel_rfl) (fun _ _ _ h => h) (Or.inl ⟨by kernel_rfl, fun V HV => ex_pick rfl rfl rfl⟩) HD7.out ?_
                  simp only [List.setIfInBounds_toArray, List.set_cons_zero, List.set_cons_succ]
                  refine wpAnyH_takeD (i := 25) 89 (v := (.bool false)) rfl rfl (by kernel_rfl) (by kernel_rfl) (by kernel_rfl) (fun _ _ _ h => h) (Or.inl ⟨by kernel_rfl, fun V HV => ex_move rfl rfl⟩) HD7.out ?_
                  simp only [List.setIfInBounds_toArray, List.set_cons_zero, List.set_cons_succ]
                  refine wpAnyH_takeD (i := 26) 90 (v := (.slice (some ⟨ug, uoff, none⟩) n uc)) rfl rfl (by kernel_rfl) (by kernel_rfl) (by kernel_rfl) (fun _ _ _ h => h) (Or.inl ⟨by kernel_rfl, fun V HV => ex_move rfl rfl⟩) HD7.out ?_
                  simp only [List.setIfInBounds_toArray, List.set_cons_zero, List.set_cons_succ]
                  refine wpAnyH_takeD (i := 27) 91 (v := (.int .i64 (k : Int))) rfl rfl (by kernel_rfl) (by kernel_rfl) (by kernel_rfl) (fun _ _ _ h => h) (Or.inl ⟨by kernel_rfl, fun V HV => ex_move rfl rfl⟩) HD7.out ?_
                  simp only [List.setIfInBounds_toArray, List.set_cons_zero, List.set_cons_succ]
                  refine wpAnyH_takeD (i := 28) 92 (v := (.pointer (some ⟨ug, uoff + k * 3, none⟩))) rfl rfl (by kernel_rfl) (by kernel_rfl) (by kernel_rfl) (fun _ _ _ h => h) (Or.inl ⟨by kernel_rfl, fun V HV => ex_unit rfl rfl rfl hlk⟩) HD7.out ?_
                  simp only [List.setIfInBounds_toArray, List.set_cons_zero, List.set_cons_succ]
                  refine wpAnyH_takeD (i := 29) 93 (v := (.pointer (some ⟨ug, uoff + k * 3 + 2, none⟩))) rfl rfl (by kernel_rfl) (by kernel_rfl) (by kernel_rfl) (fun _ _ _ h => h) (Or.inl ⟨by kernel_rfl, fun V HV => ex_u2 rfl rfl⟩) HD7.out ?_
                  simp only [List.setIfInBounds_toArray, List.set_cons_zero, List.set_cons_succ]
                  refine wpAnyH_takeD (i := 30) 94 (v := (.slice q3 n3 t3)) rfl rfl (by kernel_rfl) (by kernel_rfl) (by kernel_rfl) (fun _ _ _ h => h) (Or.inl ⟨by kernel_rfl, fun V HV => ex_loadi rfl rfl ((HV.cell (p := ⟨ug, uoff + k * 3 + 2, none⟩) UL.out.1).trans (UL.out.2.2.2))⟩) HD7.out ?_
                  simp only [List.setIfInBounds_toArray, List.set_cons_zero, List.set_cons_succ]
                  refine wpAnyH_takeD (i := 31) 95 (v := (.int .i64 (n3 : Int))) rfl rfl (by kernel_rfl) (by kernel_rfl) (by kernel_rfl) (fun _ _ _ h => h) (Or.inl ⟨by kernel_rfl, fun V HV => ex_lenI rfl rfl⟩) HD7.out ?_
                  simp only [List.setIfInBounds_toArray, List.set_cons_zero, List.set_cons_succ]
                  refine wpAnyH_takeD (i := 32) 96 (v := (.pointer (some ⟨wr.heap.size, 0 + 3, none⟩))) rfl rfl (by kernel_rfl) (by kernel_rfl) (by kernel_rfl) (fun _ _ _ h => h) (Or.inl ⟨by kernel_rfl, fun V HV => ex_f3 rfl rfl⟩) HD7.out ?_
                  simp only [List.setIfInBounds_toArray, List.set_cons_zero, List.set_cons_succ]
                  refine wpAnyH_takeD (i := 33) 97 (v := (.slice a3 n3 k3)) rfl rfl (by kernel_rfl) (by kernel_rfl) (by kernel_rfl) (fun _ _ _ h => h) (Or.inl ⟨by kernel_rfl, fun V HV => ex_loadi rfl rfl ((HV.cell (p := ⟨wr.heap.size, 3, none⟩) FL.out.1).trans (FL.out.2.2.2))⟩) HD7.out ?_
                  simp only [List.setIfInBounds_toArray, List.set_cons_zero, List.set_cons_succ]
                  refine wpAnyH_takeD (i := 34) 98 (v := (.int .i64 (n3 : Int))) rfl rfl (by kernel_rfl) (by kernel_rfl) (by kernel_rfl) (fun _ _ _ h => h) (Or.inl ⟨by kernel_rfl, fun V HV => ex_lenI rfl rfl⟩) HD7.out ?_
                  simp only [List.setIfInBounds_toArray, List.set_cons_zero, List.set_cons_succ]
                  refine wpAnyH_takeD (i := 35) 99 (v := (.bool false)) rfl rfl (by kernel_rfl) (by kernel_rfl) (by kernel_rfl) (fun _ _ _ h => h) (Or.inl ⟨by kernel_rfl, fun V HV => ex_neqn rfl rfl rfl⟩) HD7.out ?_
                  simp only [List.setIfInBounds_toArray, List.set_cons_zero, List.set_cons_succ]
                  refine wpAnyH_takeD (i := 36) 100 (v := (.bool false)) rfl rfl (by kernel_rfl) (by kernel_rfl) (by kernel_rfl) (fun _ _ _ h => h) (Or.inl ⟨by kernel_rfl, fun V HV => ex_pick rfl rfl rfl⟩) HD7.out ?_
                  simp only [List.setIfInBounds_toArray, List.set_cons_zero, List.set_cons_succ]
                  refine wpAnyH_done (by kernel_rfl) ?_ _
                  have HB7 : Hid (Below w4.heap.size w4 w7) := HB5.out.trans (HD7.out.mono HB5.out.size)
                  clear HD HD7
                  go_wp2
                  go_roundw
                  case rel => first | exact ⟨k + 1, by go_num, by omega, HB7⟩ | ((repeat apply Exists.intro); exact ⟨⟨k + 1, by go_num, by omega, HB7⟩, rfl⟩)
                  case measure => simp [intOf]; omega
                · have hkn : n = k := by omega
                  subst hkn
                  have hbr : Below w3.heap.size w3 wr := HB34.out.trans (HB.out.mono HB34.out.size)
                  have HBR : Hid (Below w0.heap.size w0 wr) := HB3.out.trans (hbr.mono HB3.out.size)
                  have HRP2 : Hid (Rp wr B0 gp (.slice a n c) hm (L, none)) := HRP.out.below hbr
                  have QS : Hid _ := pshortX (show Hid _ from HPX.out.below hbr (Nat.le_refl _)) (show Hid _ from hk.out.below HBR.out) (show Hid _ from hs.out.below HBR.out) (numsOf S0) (numsOf S1) (show Hid _ from numsOf_byts S0) (show Hid _ from numsOf_byts S1) (show Hid _ from by show _ ≤ _; rw [numsOf_len]; have := HZ.out.1; omega) (show Hid _ from by show _ ≤ _; rw [numsOf_len]; have := HZ.out.2; omega)
                  rw [numsOf_str, numsOf_str] at QS
                  obtain ⟨RS, hRS⟩ : ∃ RS, RS = strOfNums (shortF (finds h seen kinds (numsOf S0) (numsOf S1)) (numsOf S1) (numsOf S1).length) := ⟨_, rfl⟩
                  rw [← hRS] at QS
                  have QR0 : Hid (∀ V, Below wr.heap.size wr V → Calls Tryz.prog 32 #[.pointer (some ⟨gp, 0, none⟩), .string S0, .string S1, .slice sa sn sc, .slice ka kn kc] V fun e W' => e = .returned (.string RS) ∧ Below V.heap.size V W') := fun V hV => by
                    have hb := HBR.out.trans (hV.mono HBR.out.size)
                    have q := rshort (show Hid _ from HRP2.out.below hV) HSL.out.2 (show Hid _ from hk.out.below hb) (show Hid _ from hs.out.below hb) (numsOf S0) (numsOf S1) (show Hid _ from numsOf_byts S0) (show Hid _ from numsOf_byts S1) (show Hid _ from by show _ ≤ _; rw [numsOf_len]; have := HZ.out.1; omega) (show Hid _ from by show _ ≤ _; rw [numsOf_len]; have := HZ.out.2; omega)
                    rw [numsOf_str, numsOf_str, short_same, HSL.out.1, ← hRS] at q
                    exact q
                  have hff : (RS.toList == RS.toList) = true := by simp
                  clear hRS hbr hs hk HZ
                  go_wp2_with fail
                  refine Calls.mono QS.out ?_
                  rintro e w5 ⟨rfl, hb5⟩
                  have HB5 : Hid (Below w0.heap.size w0 w5) := HBR.out.trans (hb5.mono HBR.out.size)
                  have QR : Hid _ := QR0.out w5 hb5
                  clear hb5 QS QR0
                  go_wp2_with fail
                  refine Calls.mono QR.out ?_
                  rintro e w6 ⟨rfl, hb6⟩
                  have HB6 : Hid (Below w0.heap.size w0 w6) := HB5.out.trans (hb6.mono HB5.out.size)
                  clear hb6 QR
                  go_wp2
                  go_ret
                  exact ⟨rfl, HB6.out⟩

end Go.Proofs.YtafmoceinamcdaaGreat
