/- Put together by a program out of these texts of mine: VLw. -/
import Derived.Test.YtafmoceinamcdaaGreatBunS4
import Derived.Test.YtafmoceinamcdaaGreatBunS28
import Derived.Test.YtafmoceinamcdaaGreatBunS34
import Derived.Test.YtafmoceinamcdaaGreatBunS35

namespace Go.Proofs.YtafmoceinamcdaaGreat
open Go.RowKit
set_option linter.unusedVariables false
set_option linter.unusedSimpArgs false

def Anyb (W : World) (e : Ending) (W' : World) : Prop := ∃ b, e = .returned (.bool b) ∧ Below W.heap.size W W'

set_option maxRecDepth 100000 in
set_option maxHeartbeats 16000000 in
theorem fewF (W : World) (s0 s1 s8 : ByteArray) (a2 : Option Addr) (n2 k2 : Nat) (a3 : Option Addr) (n3 k3 : Nat) (a4 : Option Addr) (n4 k4 : Nat) (m4 : List Md) (a5 : Option Addr) (n5 k5 : Nat) (a6 : Option Addr) (n6 k6 : Nat) (a7 : Option Addr) (n7 k7 : Nat) (a9 : Option Addr) (n9 k9 : Nat) (a10 : Option Addr) (n10 k10 : Nat) (HS : Hid (Ok Tryz.prog W 34 (.ls a4 n4 k4 m4))) :
    Calls Tryz.prog 34 #[.agg #[.string s0, .string s1, .slice a2 n2 k2, .slice a3 n3 k3, .slice a4 n4 k4, .slice a5 n5 k5, .slice a6 n6 k6, .slice a7 n7 k7, .string s8, .slice a9 n9 k9, .slice a10 n10 k10]] W fun e W' => Anyb W e W' := by
  obtain ⟨w1, hw1⟩ : ∃ V, V = W.alloc (.cells #[.string s0, .string s1, .slice a2 n2 k2, .slice a3 n3 k3, .slice a4 n4 k4, .slice a5 n5 k5, .slice a6 n6 k6, .slice a7 n7 k7, .string s8, .slice a9 n9 k9, .slice a10 n10 k10] 62) := ⟨_, rfl⟩
  have HB1 : Hid (Below W.heap.size W w1) := by rw [hw1]; exact (Below.refl _ _).alloc (Nat.le_refl _) _
  have on : Ob w1 W.heap.size #[.string s0, .string s1, .slice a2 n2 k2, .slice a3 n3 k3, .slice a4 n4 k4, .slice a5 n5 k5, .slice a6 n6 k6, .slice a7 n7 k7, .string s8, .slice a9 n9 k9, .slice a10 n10 k10] 62 := by rw [hw1]; exact Ob.new _ _ _
  have HWN : Hid _ := hw1
  obtain ⟨c0, c1, c2, c3, c4, c5, c6, c7, c8, c9, c10⟩ := (ob11 on).1
  have cl := on.lt
  have QC : Hid _ := fcount_any 71 0 (by omega) a4 n4 k4 m4 0 (by omega) (by omega) w1 (show Hid _ from HS.out.under HB1.out (Nat.le_refl _)) (by omega)
  clear on hw1
  go_enter Tryz.func34, Tryz.ntmps34
  go_upto_region 1 with fail
  rw [← HWN.out]
  clear HWN
  by_cases h2 : (n2 : Int) ≤ 20
  · have d2 : decide ((n2 : Int) ≤ 20) = true := decide_eq_true h2
    by_cases h3 : (n3 : Int) ≤ 20
    · have d3 : decide ((n3 : Int) ≤ 20) = true := decide_eq_true h3
      by_cases h5 : (n5 : Int) ≤ 20
      · have d5 : decide ((n5 : Int) ≤ 20) = true := decide_eq_true h5
        by_cases h6 : (n6 : Int) ≤ 20
        · have d6 : decide ((n6 : Int) ≤ 20) = true := decide_eq_true h6
          by_cases h7 : (n7 : Int) ≤ 40
          · have d7 : decide ((n7 : Int) ≤ 40) = true := decide_eq_true h7
            go_wp2_with fail
            refine Calls.mono QC.out ?_
            rintro e w3 ⟨y, rfl, y0, y1, hb3⟩
            have HB3 : Hid (Below W.heap.size W w3) := HB1.out.trans (hb3.mono HB1.out.size)
            clear hb3 QC c0 c1 c2 c3 c4 c5 c6 c7 c8 c9 c10 cl
            by_cases hy : y ≤ 100
            · have dy : decide (y ≤ 100) = true := decide_eq_true hy
              go_wp2
              go_ret
              first | exact ⟨_, rfl, HB3.out⟩ | exact HB3.out
            · have dy : decide (y ≤ 100) = false := decide_eq_false hy
              go_wp2
              go_ret
              first | exact ⟨_, rfl, HB3.out⟩ | exact HB3.out
          · have d7 : decide ((n7 : Int) ≤ 40) = false := decide_eq_false h7
            go_wp2
            go_ret
            first | exact ⟨_, rfl, HB1.out⟩ | exact HB1.out
        · have d6 : decide ((n6 : Int) ≤ 20) = false := decide_eq_false h6
          go_wp2
          go_ret
          first | exact ⟨_, rfl, HB1.out⟩ | exact HB1.out
      · have d5 : decide ((n5 : Int) ≤ 20) = false := decide_eq_false h5
        go_wp2
        go_ret
        first | exact ⟨_, rfl, HB1.out⟩ | exact HB1.out
    · have d3 : decide ((n3 : Int) ≤ 20) = false := decide_eq_false h3
      go_wp2
      go_ret
      first | exact ⟨_, rfl, HB1.out⟩ | exact HB1.out
  · have d2 : decide ((n2 : Int) ≤ 20) = false := decide_eq_false h2
    go_wp2
    go_ret
    first | exact ⟨_, rfl, HB1.out⟩ | exact HB1.out

set_option maxRecDepth 100000 in
set_option maxHeartbeats 16000000 in
theorem allF (w0 W : World) (HB00 : Hid (Below w0.heap.size w0 W)) (a : Option Addr) (n c : Nat) (ms : List Md) (HS : Hid (Src w0 22 (.ls a n c ms) ∧ Nm (.ls a n c ms))) :
    Calls Tryz.prog 10 #[.slice a n c] W fun e W' => Anyb W e W' := by
  by_cases hn10 : (n : Int) > 10
  · go_enter Tryz.func10, Tryz.ntmps10
    go_wp2
    go_ret
    first | exact ⟨_, rfl, Below.refl _ _⟩ | exact Below.refl _ _
  · have hn9 : n ≤ 10 := by omega
    go_enter Tryz.func10, Tryz.ntmps10
    go_wp2
    go_loopw [10] (fun v wr => ∃ k : Nat, v = .int .i64 (k : Int) ∧ k ≤ n ∧ Hid (Below W.heap.size W wr)) (fun v _ => n - (intOf v).toNat)
    case atStart => exact ⟨0, rfl, Nat.zero_le _, Below.refl _ _⟩
    case round =>
      obtain ⟨k, rfl, hk, HB⟩ := hrel
      by_cases hlk : k < n
      · skip
        obtain ⟨b, off, s0, s1, s8, a2, n2, k2, m2, a3, n3, k3, m3, a4, n4, k4, m4, a5, n5, k5, m5, a6, n6, k6, m6, a7, n7, k7, m7, a9, n9, k9, m9, a10, n10, k10, m10, ha, hlt, cc0, cc1, cc2, cc3, cc4, cc5, cc6, cc7, cc8, cc9, cc10, hsrc, hnm, hz, ⟨es0, es1⟩, ⟨e4, f4, e5, f5, e6, f6, e7, f7⟩⟩ := file_src HS.out.1 HS.out.2 hlk
        subst ha
        have HBW := HB00.out.trans (HB.out.mono HB00.out.size)
        have d0 := (HBW.cell (p := ⟨b, off + k * 11, none⟩) hlt).trans cc0
        have d1 := (HBW.cell (p := ⟨b, off + k * 11 + 1, none⟩) hlt).trans cc1
        have d2 := (HBW.cell (p := ⟨b, off + k * 11 + 2, none⟩) hlt).trans cc2
        have d3 := (HBW.cell (p := ⟨b, off + k * 11 + 3, none⟩) hlt).trans cc3
        have d4 := (HBW.cell (p := ⟨b, off + k * 11 + 4, none⟩) hlt).trans cc4
        have d5 := (HBW.cell (p := ⟨b, off + k * 11 + 5, none⟩) hlt).trans cc5
        have d6 := (HBW.cell (p := ⟨b, off + k * 11 + 6, none⟩) hlt).trans cc6
        have d7 := (HBW.cell (p := ⟨b, off + k * 11 + 7, none⟩) hlt).trans cc7
        have d8 := (HBW.cell (p := ⟨b, off + k * 11 + 8, none⟩) hlt).trans cc8
        have d9 := (HBW.cell (p := ⟨b, off + k * 11 + 9, none⟩) hlt).trans cc9
        have d10 := (HBW.cell (p := ⟨b, off + k * 11 + 10, none⟩) hlt).trans cc10
        have hlw := Nat.lt_of_lt_of_le hlt HBW.size
        clear cc0 cc1 cc2 cc3 cc4 cc5 cc6 cc7 cc8 cc9 cc10 hlt
        obtain ⟨w4, hwn⟩ : ∃ V, V = wr.alloc (.cells #[.string s0, .string s1, .slice a2 n2 k2, .slice a3 n3 k3, .slice a4 n4 k4, .slice a5 n5 k5, .slice a6 n6 k6, .slice a7 n7 k7, .string s8, .slice a9 n9 k9, .slice a10 n10 k10] 62) := ⟨_, rfl⟩
        have hbn : Below wr.heap.size wr w4 := by rw [hwn]; exact (Below.refl _ _).alloc (Nat.le_refl _) _
        have on : Ob w4 wr.heap.size #[.string s0, .string s1, .slice a2 n2 k2, .slice a3 n3 k3, .slice a4 n4 k4, .slice a5 n5 k5, .slice a6 n6 k6, .slice a7 n7 k7, .string s8, .slice a9 n9 k9, .slice a10 n10 k10] 62 := by rw [hwn]; exact Ob.new _ _ _
        have HWN : Hid _ := hwn
        have QF : Hid _ := fewF w4 s0 s1 s8 a2 n2 k2 a3 n3 k3 a4 n4 k4 m4 a5 n5 k5 a6 n6 k6 a7 n7 k7 a9 n9 k9 a10 n10 k10 (show Hid _ from (hsrc.2.2.1.under' (HBW.trans (hbn.mono HBW.size))).1)
        have HB4 : Hid (Below W.heap.size W w4) := HB.out.trans (hbn.mono HB.out.size)
        obtain ⟨b0, b1, b2, b3, b4, b5, b6, b7, b8, b9, b10⟩ := (ob11 on).1
        have hlw2 := on.lt
        clear on hbn hsrc hnm hz es0 es1 e4 f4 e5 f5 e6 f6 e7 f7
        go_upto_region 6 with fail
        rw [← HWN.out]
        clear HWN hwn
        go_wp2_with fail
        refine Calls.mono QF.out ?_
        rintro e w5 ⟨bb, rfl, hb5⟩
        have HB5 : Hid (Below W.heap.size W w5) := HB4.out.trans (hb5.mono HB4.out.size)
        clear hb5 QF b0 d0 b1 d1 b2 d2 b3 d3 b4 d4 b5 d5 b6 d6 b7 d7 b8 d8 b9 d9 b10 d10
        rcases bb with _ | _
        · go_wp2
          go_ret
          first | exact ⟨_, rfl, HB5.out⟩ | exact HB5.out
        · go_wp2
          go_roundw
          case rel => first | exact ⟨k + 1, by go_num, by omega, HB5⟩ | ((repeat apply Exists.intro); exact ⟨⟨k + 1, by go_num, by omega, HB5⟩, rfl⟩)
          case measure => simp [intOf]; omega
      · have hkn : n = k := by omega
        subst hkn
        go_wp2
        go_ret
        first | exact ⟨_, rfl, HB.out⟩ | exact HB.out

def Both (w0 : World) (fv : Value) (n : Nat) (ms : List Md) (e : Ending) (W' : World) : Prop :=
  Below w0.heap.size w0 W' ∧ (e = .returned (.tuple #[.pointer none, .pointer none, .bool true]) ∨
    ∃ bp bs be vf Z h B0 gp hm L, e = .returned (.tuple #[.pointer (some ⟨bp, 0, none⟩), .pointer (some ⟨gp, 0, none⟩), .bool true]) ∧ w0.heap.size ≤ bp ∧ Px (Rz Z) W' bp bs be vf h ∧ Zw W' Z ∧ w0.heap.size ≤ B0 ∧ Rp W' B0 gp fv hm (L, none) ∧ slook L = h ∧ L.length ≤ 1048576 ∧ (∀ y ∈ L, y.1.size ≤ 140000000) ∧ Fws W' vf n ms)

theorem nend_cases {w0 : World} {n : Nat} {ms : List Md} {e : Ending} {W' : World} (h : Nend w0 n ms e W') :
    Below w0.heap.size w0 W' ∧ ((tooK n ms = true ∧ e = .returned (.tuple #[.pointer none, .string ⟨#[]⟩, .int .i64 2])) ∨
      (tooK n ms = false ∧ ∃ h, filesR ms n = .ok h ∧ ∃ bp bs be vf Z, e = .returned (.tuple #[.pointer (some ⟨bp, 0, none⟩), .string ⟨#[]⟩, .int .i64 0]) ∧ w0.heap.size ≤ bp ∧ Px (Rz Z) W' bp bs be vf h ∧ Zw W' Z ∧ Fws W' vf n ms) ∨
      (tooK n ms = false ∧ ∃ F, filesR ms n = .error F ∧ e = .returned (.tuple #[.pointer none, .string F, .int .i64 140]))) := by
  obtain ⟨h1, h2⟩ := h
  refine ⟨h1, ?_⟩
  cases hk : tooK n ms with
  | true => rw [hk] at h2; exact .inl ⟨rfl, h2⟩
  | false =>
    rw [hk] at h2
    simp only at h2
    cases hr : filesR ms n with
    | ok h =>
      rw [hr] at h2
      obtain ⟨bp, bs, be, vf, Z, q1, q2, q3, q4, q5⟩ := h2
      exact .inr (.inl ⟨rfl, h, rfl, bp, bs, be, vf, Z, q1, q2, q3, q4, q5⟩)
    | error F =>
      rw [hr] at h2
      exact .inr (.inr ⟨rfl, F, rfl, h2⟩)

theorem rend_cases {W : World} {fv : Value} {n : Nat} {ms : List Md} {e : Ending} {W' : World} (h : Rend W fv n ms e W') :
    Below W.heap.size W W' ∧ (tooK n ms = true → e = .returned (.tuple #[.pointer none, .string ⟨#[]⟩, .int .i64 2])) ∧
      (tooK n ms = false → (rfilesS ms n).2 = none → ∃ B0 gp hm, e = .returned (.tuple #[.pointer (some ⟨gp, 0, none⟩), .string ⟨#[]⟩, .int .i64 0]) ∧ W.heap.size ≤ B0 ∧ Rp W' B0 gp fv hm (rfilesS ms n)) ∧
      (∀ F, tooK n ms = false → (rfilesS ms n).2 = some F → e = .returned (.tuple #[.pointer none, .string F, .int .i64 140])) := by
  obtain ⟨h1, h2⟩ := h
  refine ⟨h1, fun hk => ?_, fun hk hr => ?_, fun F hk hr => ?_⟩
  · rw [hk] at h2; exact h2
  · rw [hk] at h2
    simp only at h2
    rw [hr] at h2
    exact h2
  · rw [hk] at h2
    simp only at h2
    rw [hr] at h2
    exact h2

set_option maxRecDepth 100000 in
set_option maxHeartbeats 16000000 in
theorem bothF (w0 : World) (a : Option Addr) (n c : Nat) (ms : List Md) (HS : Hid (Src w0 22 (.ls a n c ms) ∧ Nm (.ls a n c ms))) (HT : Hid (totL ms ≤ 1048576)) :
    Calls Tryz.prog 11 #[.slice a n c] w0 fun e W' => Both w0 (.slice a n c) n ms e W' := by
  have hcg : cntG ms n ≤ 1048576 := Nat.le_trans (cntG_tot HS.out.1 HS.out.2) HT.out
  have hn9 : n ≤ 900000000 := by
    have := src_n Tryz.underlying22 (by rw [flds_file]; decide) HS.out.1
    have := HT.out
    omega
  have QN : Hid _ := qnew w0 a n c ms (show Hid _ from HS.out.1) (show Hid _ from HS.out.2) (show Hid _ from (by have := cntF_le ms n; show _ ≤ _; omega)) hn9
  have HCG : Hid (cntG ms n ≤ 1048576) := hcg
  have FS := files_same ms n
  have HFS : Hid _ := FS
  clear hcg FS hn9
  go_enter Tryz.func11, Tryz.ntmps11
  go_wp2_with fail
  refine Calls.mono QN.out ?_
  rintro e w1 hend1
  obtain ⟨hb1, hc1⟩ := nend_cases hend1
  have HB1 : Hid _ := hb1
  have QR : Hid _ := rnew_any w0 w1 (show Hid _ from hb1) a n c ms HS (show Hid _ from (by have := HCG.out; show _ ≤ _; omega))
  clear hend1 hb1 QN
  rcases hc1 with ⟨hk, rfl⟩ | ⟨hk, h, hr, bp, bs, be, vf, Z, rfl, hbp, hpx, hzw, hfw⟩ | ⟨hk, F, hr, rfl⟩
  · have HK : Hid _ := hk
    clear hk
    go_wp2_with fail
    refine Calls.mono QR.out ?_
    rintro e w2 hend2
    obtain ⟨hb2, hc2, _, _⟩ := rend_cases hend2
    obtain rfl := hc2 HK.out
    have HB2 : Hid (Below w0.heap.size w0 w2) := HB1.out.trans (hb2.mono HB1.out.size)
    clear hend2 hb2 hc2 QR
    go_wp2
    go_ret3
    exact ⟨HB2.out, .inl rfl⟩
  · have HF := HFS.out
    rw [hr] at HF
    obtain ⟨hf1, hf2, _⟩ := HF
    have HF2 : Hid (slook (rfilesS ms n).1 = h) := hf2
    have HK : Hid _ := hk
    have HF1 : Hid _ := hf1
    have HPX : Hid (Px (Rz Z) w1 bp bs be vf h) := hpx
    have HZW : Hid _ := hzw
    have HFW : Hid _ := hfw
    have HBP : Hid _ := hbp
    clear hk hf1 hf2 hpx hzw hr hbp hfw
    go_wp2_with fail
    refine Calls.mono QR.out ?_
    rintro e w2 hend2
    obtain ⟨hb2, _, hc2, _⟩ := rend_cases hend2
    obtain ⟨B0, gp, hm, rfl, hB0, hrp⟩ := hc2 HK.out HF1.out
    have HB2 : Hid (Below w0.heap.size w0 w2) := HB1.out.trans (hb2.mono HB1.out.size)
    have HPX2 : Hid (Px (Rz Z) w2 bp bs be vf h) := HPX.out.below hb2 (Nat.le_refl _)
    have HZW2 : Hid (Zw w2 Z) := Zw.fx (S := fun _ => False) (.of_below hb2) HZW.out (fun _ _ _ e => e)
    have HRP : Hid (Rp w2 B0 gp (.slice a n c) hm ((rfilesS ms n).1, none)) := by
      have : rfilesS ms n = ((rfilesS ms n).1, none) := Prod.ext rfl HF1.out
      rw [this] at hrp
      exact hrp
    have HB0 : Hid (w0.heap.size ≤ B0) := Nat.le_trans HB1.out.size hB0
    have HFW2 : Hid (Fws w2 vf n ms) := Fws.under HFW.out hb2
    have HLN : Hid ((rfilesS ms n).1.length ≤ 1048576) := Nat.le_trans (rfilesS_len ms n) HCG.out
    clear hend2 hb2 hc2 QR hB0 hrp
    go_wp2
    go_ret3
    exact ⟨HB2.out, .inr ⟨bp, bs, be, vf, Z, h, B0, gp, hm, _, rfl, HBP.out, HPX2.out, HZW2.out, HB0.out, HRP.out, HF2.out, HLN.out, rfilesS_size (NmL.of HS.out.2) n, HFW2.out⟩⟩
  · have HF := HFS.out
    rw [hr] at HF
    have HF1 : Hid ((rfilesS ms n).2 = some F) := HF
    have HK : Hid _ := hk
    clear hk hr HF
    go_wp2_with fail
    refine Calls.mono QR.out ?_
    rintro e w2 hend2
    obtain ⟨hb2, _, _, hc2⟩ := rend_cases hend2
    obtain rfl := hc2 F HK.out HF1.out
    have HB2 : Hid (Below w0.heap.size w0 w2) := HB1.out.trans (hb2.mono HB1.out.size)
    clear hend2 hb2 hc2 QR
    have hff : (F.toList == F.toList) = true := by simp
    go_wp2
    go_ret3
    exact ⟨HB2.out, .inl rfl⟩

end Go.Proofs.YtafmoceinamcdaaGreat
