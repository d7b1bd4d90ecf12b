/- Put together by a program out of these texts of mine: VRi. -/
import Derived.Test.YtafmoceinamcdaaGreatBunS27
import Derived.Test.YtafmoceinamcdaaGreatBunS31
import Derived.Test.YtafmoceinamcdaaGreatBunS32

namespace Go.Proofs.YtafmoceinamcdaaGreat
open Go.RowKit
set_option linter.unusedVariables false
set_option linter.unusedSimpArgs false

noncomputable def rfilesS (ms : List Md) : Nat → Sl × Option ByteArray
  | 0 => ([], none)
  | k + 1 => (pkL (numsOf (strAt ms (k * 11 + 1))) ++ fileL ms k).foldl (radd (strAt ms (k * 11))) (rfilesS ms k)

noncomputable def cntG (ms : List Md) : Nat → Nat
  | 0 => 0
  | k + 1 => cntG ms k + ((pkL (numsOf (strAt ms (k * 11 + 1)))).length + (fileL ms k).length)

theorem cntG_mono (ms : List Md) (k : Nat) : ∀ d, cntG ms k ≤ cntG ms (k + d)
  | 0 => Nat.le_refl _
  | d + 1 => by
    have ih := cntG_mono ms k d
    show _ ≤ cntG ms (k + d) + _
    omega

theorem cntF_le (ms : List Md) : ∀ k, cntF ms k ≤ cntG ms k
  | 0 => Nat.le_refl _
  | k + 1 => by
    have ih := cntF_le ms k
    show cntF ms k + _ ≤ cntG ms k + (_ + _)
    omega

theorem rfilesS_len (ms : List Md) : ∀ k, (rfilesS ms k).1.length ≤ cntG ms k
  | 0 => by simp [rfilesS]
  | k + 1 => by
    have ih := rfilesS_len ms k
    have h := radds_len (strAt ms (k * 11)) (pkL (numsOf (strAt ms (k * 11 + 1))) ++ fileL ms k) (rfilesS ms k)
    rw [List.length_append] at h
    show ((pkL (numsOf (strAt ms (k * 11 + 1))) ++ fileL ms k).foldl (radd (strAt ms (k * 11))) (rfilesS ms k)).1.length ≤ cntG ms k + _
    omega

def Rend (W : World) (fv : Value) (n : Nat) (ms : List Md) (e : Ending) (W' : World) : Prop :=
  Below W.heap.size W W' ∧ match tooK n ms with
  | true => e = .returned (.tuple #[.pointer none, .string ⟨#[]⟩, .int .i64 2])
  | false => match (rfilesS ms n).2 with
    | none => ∃ B0 gp hm, e = .returned (.tuple #[.pointer (some ⟨gp, 0, none⟩), .string ⟨#[]⟩, .int .i64 0]) ∧ W.heap.size ≤ B0 ∧ Rp W' B0 gp fv hm (rfilesS ms n)
    | some F => e = .returned (.tuple #[.pointer none, .string F, .int .i64 140])

theorem rend_deep {W W' : World} {fv : Value} {n : Nat} {ms : List Md} (hk : tooK n ms = true) (hb : Below W.heap.size W W') : Rend W fv n ms (.returned (.tuple #[.pointer none, .string ⟨#[]⟩, .int .i64 2])) W' := by
  unfold Rend
  rw [hk]
  exact ⟨hb, rfl⟩

theorem rend_ok {W W' : World} {fv : Value} {n : Nat} {ms : List Md} (hk : tooK n ms = false) (hr : (rfilesS ms n).2 = none) (hb : Below W.heap.size W W') {B0 gp : Nat} {hm : ByteArray} (hl : W.heap.size ≤ B0) (hp : Rp W' B0 gp fv hm (rfilesS ms n)) : Rend W fv n ms (.returned (.tuple #[.pointer (some ⟨gp, 0, none⟩), .string ⟨#[]⟩, .int .i64 0])) W' := by
  unfold Rend
  rw [hk]
  simp only
  rw [hr]
  exact ⟨hb, B0, gp, hm, rfl, hl, hp⟩

theorem rend_err {W W' : World} {fv : Value} {n : Nat} {ms : List Md} {F : ByteArray} (hk : tooK n ms = false) (hr : (rfilesS ms n).2 = some F) (hb : Below W.heap.size W W') : Rend W fv n ms (.returned (.tuple #[.pointer none, .string F, .int .i64 140])) W' := by
  unfold Rend
  rw [hk]
  simp only
  rw [hr]
  exact ⟨hb, rfl⟩

set_option maxRecDepth 100000 in
set_option maxHeartbeats 16000000 in
theorem rnew_any (w0 W : World) (HB00 : Hid (Below w0.heap.size w0 W)) (a : Option Addr) (n c : Nat) (ms : List Md) (HS : Hid (Src w0 22 (.ls a n c ms) ∧ Nm (.ls a n c ms))) (HCN : Hid (cntG ms n ≤ 900000000)) :
    Calls Tryz.prog 35 #[.slice a n c] W fun e W' => Rend W (.slice a n c) n ms e W' := by
  have hnm9 : n ≤ 9223372036854775807 := by obtain ⟨⟨h, _⟩, _⟩ := HS.out; cases h with | ls hT hnc hm hnil hlen hmem hk => unfold maxLen at hm; omega
  go_enter Tryz.func35, Tryz.ntmps35
  go_wp2
  go_loopw [12] (fun v wr => ∃ k : Nat, v = .int .i64 (k : Int) ∧ k ≤ n ∧ Hid (tooK k ms = false) ∧ Hid (Below W.heap.size W wr)) (fun v _ => n - (intOf v).toNat)
  case atStart => exact ⟨0, rfl, Nat.zero_le _, rfl, Below.refl _ _⟩
  case round =>
    obtain ⟨k, rfl, hk, HK, HB⟩ := hrel
    by_cases hlk : k < n
    · skip
      obtain ⟨b, off, s0, s1, s8, a2, n2, k2, m2, a3, n3, k3, m3, a4, n4, k4, m4, a5, n5, k5, m5, a6, n6, k6, m6, a7, n7, k7, m7, a9, n9, k9, m9, a10, n10, k10, m10, ha, hlt, cc0, cc1, cc2, cc3, cc4, cc5, cc6, cc7, cc8, cc9, cc10, hsrc, hnm, hz, ⟨es0, es1⟩, ⟨e4, f4, e5, f5, e6, f6, e7, f7⟩⟩ := file_src HS.out.1 HS.out.2 hlk
      subst ha
      have HBW := HB00.out.trans (HB.out.mono HB00.out.size)
      have d0 := (HBW.cell (p := ⟨b, off + k * 11, none⟩) hlt).trans cc0
      have d1 := (HBW.cell (p := ⟨b, off + k * 11 + 1, none⟩) hlt).trans cc1
      have d2 := (HBW.cell (p := ⟨b, off + k * 11 + 2, none⟩) hlt).trans cc2
      have d3 := (HBW.cell (p := ⟨b, off + k * 11 + 3, none⟩) hlt).trans cc3
      have d4 := (HBW.cell (p := ⟨b, off + k * 11 + 4, none⟩) hlt).trans cc4
      have d5 := (HBW.cell (p := ⟨b, off + k * 11 + 5, none⟩) hlt).trans cc5
      have d6 := (HBW.cell (p := ⟨b, off + k * 11 + 6, none⟩) hlt).trans cc6
      have d7 := (HBW.cell (p := ⟨b, off + k * 11 + 7, none⟩) hlt).trans cc7
      have d8 := (HBW.cell (p := ⟨b, off + k * 11 + 8, none⟩) hlt).trans cc8
      have d9 := (HBW.cell (p := ⟨b, off + k * 11 + 9, none⟩) hlt).trans cc9
      have d10 := (HBW.cell (p := ⟨b, off + k * 11 + 10, none⟩) hlt).trans cc10
      have hlw := Nat.lt_of_lt_of_le hlt HBW.size
      clear cc0 cc1 cc2 cc3 cc4 cc5 cc6 cc7 cc8 cc9 cc10 hlt
      obtain ⟨w4, hwn⟩ : ∃ V, V = wr.alloc (.cells #[.string s0, .string s1, .slice a2 n2 k2, .slice a3 n3 k3, .slice a4 n4 k4, .slice a5 n5 k5, .slice a6 n6 k6, .slice a7 n7 k7, .string s8, .slice a9 n9 k9, .slice a10 n10 k10] 62) := ⟨_, rfl⟩
      have hbn : Below wr.heap.size wr w4 := by rw [hwn]; exact (Below.refl _ _).alloc (Nat.le_refl _) _
      have on : Ob w4 wr.heap.size #[.string s0, .string s1, .slice a2 n2 k2, .slice a3 n3 k3, .slice a4 n4 k4, .slice a5 n5 k5, .slice a6 n6 k6, .slice a7 n7 k7, .string s8, .slice a9 n9 k9, .slice a10 n10 k10] 62 := by rw [hwn]; exact Ob.new _ _ _
      have HWN : Hid _ := hwn
      have QD : Hid _ := rdeepF w0 w4 (show Hid _ from HBW.trans (hbn.mono HBW.size)) s0 s1 s8 a2 n2 k2 a3 n3 k3 a4 n4 k4 m4 a5 n5 k5 a6 n6 k6 a7 n7 k7 a9 n9 k9 a10 n10 k10 (show Hid _ from ⟨hsrc.2.2.1, hnm.1⟩)
      have HE4 : Hid (lsN ms (k * 11 + 4) = n4 ∧ lsM ms (k * 11 + 4) = m4) := ⟨e4, f4⟩
      have HB4 : Hid (Below W.heap.size W w4) := HB.out.trans (hbn.mono HB.out.size)
      obtain ⟨b0, b1, b2, b3, b4, b5, b6, b7, b8, b9, b10⟩ := (ob11 on).1
      have hlw2 := on.lt
      clear on hbn hsrc hnm hz es0 es1 e4 f4 e5 f5 e6 f6 e7 f7
      go_upto_region 4 with fail
      rw [← HWN.out]
      clear HWN hwn
      go_wp2_with fail
      refine Calls.mono QD.out ?_
      rintro e w5 ⟨z, rfl, hz, hd, hb5⟩
      have HB5 : Hid (Below W.heap.size W w5) := HB4.out.trans (hb5.mono HB4.out.size)
      have HD : Hid _ := hd
      clear hb5 QD hd b0 d0 b1 d1 b2 d2 b3 d3 b4 d4 b5 d5 b6 d6 b7 d7 b8 d8 b9 d9 b10 d10
      obtain ⟨hl1, hl2⟩ := HE4.out
      by_cases hz3 : z > 64
      · have hbad : okd 64 n4 m4 = false := by
          have h := HD.out
          rw [decide_eq_true hz3] at h
          cases hq : okd 64 n4 m4 with
          | false => rfl
          | true => rw [hq] at h; cases h
        have HT : Hid (tooK n ms = true) := tooK_bad hlk (by rw [hl1, hl2]; exact hbad)
        clear hl1 hl2 hbad
        go_wp2
        go_ret3
        exact rend_deep HT.out HB5.out
      · have hgood : okd 64 n4 m4 = true := by
          have h := HD.out
          rw [decide_eq_false hz3] at h
          cases hq : okd 64 n4 m4 with
          | true => rfl
          | false => rw [hq] at h; cases h
        have HK' : Hid (tooK (k + 1) ms = false) := by
          show _ = _
          rw [tooK_succ, HK.out, hl1, hl2, hgood]
          rfl
        clear hl1 hl2 hgood
        go_wp2
        go_roundw
        case rel => first | exact ⟨k + 1, by go_num, by omega, HK', HB5⟩ | ((repeat apply Exists.intro); exact ⟨⟨k + 1, by go_num, by omega, HK', HB5⟩, rfl⟩)
        case measure => simp [intOf]; omega
    · have hkn : n = k := by omega
      subst hkn
      obtain ⟨w2, hw2⟩ : ∃ V, V = wr.alloc (.cells #[.slice none 0 0, .slice a n c, .string ⟨#[]⟩, .int .i64 0, .string ⟨#[]⟩] 50) := ⟨_, rfl⟩
      obtain ⟨B0, hB0⟩ : ∃ B0, B0 = wr.heap.size := ⟨_, rfl⟩
      have hb2 : Below wr.heap.size wr w2 := by rw [hw2]; exact (Below.refl _ _).alloc (Nat.le_refl _) _
      have o2 : Ob w2 B0 #[.slice none 0 0, .slice a n c, .string ⟨#[]⟩, .int .i64 0, .string ⟨#[]⟩] 50 := by rw [hw2, hB0]; exact Ob.new _ _ _
      have HP2 : Hid (Rp w2 B0 B0 (.slice a n c) ⟨#[]⟩ (rfilesS ms 0)) := ⟨Nat.le_refl _, .slice none 0 0, ⟨#[]⟩, 0, [], o2, fun _ => rfl, fun F h => (by cases h), ⟨by simp [rfilesS], .inl ⟨rfl, by simp [rfilesS]⟩⟩, fun u hu => (by simp at hu), fun i x h => (by simp [rfilesS] at h)⟩
      have HB1 : Hid (Below W.heap.size W w2) := HB.out.trans (hb2.mono HB.out.size)
      have HB1S : Hid (B0 ≤ w2.heap.size) := Nat.le_of_lt o2.lt
      have HBWS : Hid (W.heap.size ≤ B0) := by rw [hB0]; exact HB.out.size
      have HB0S : Hid (w0.heap.size ≤ B0) := Nat.le_trans HB00.out.size HBWS.out
      have hbld : ∀ V, (Instr.build 50 #[(1, .slice a n c)]).run Tryz.prog V = .ok (.agg #[.slice none 0 0, .slice a n c, .string ⟨#[]⟩, .int .i64 0, .string ⟨#[]⟩]) V := fun V => by kernel_rfl
      have HW2 : Hid _ := hw2
      have HBE : Hid _ := hB0
      clear hb2 o2 hw2 hB0
      go_upto_region 8 with fail
      rw [← HW2.out, ← HBE.out]
      clear HW2 HBE hbld HB
      obtain ⟨gp, hgp⟩ : ∃ gp, gp = B0 := ⟨_, rfl⟩
      have HGP : Hid (Rp w2 B0 gp (.slice a n c) ⟨#[]⟩ (rfilesS ms 0)) := by rw [hgp]; exact HP2
      rw [← hgp]
      clear HP2 hgp
      go_wp2
      go_loopw [25] (fun v wr => ∃ (k : Nat) (hm : ByteArray), v = .int .i64 (k : Int) ∧ k ≤ n ∧ Hid (Fr B0 w2 wr) ∧ Hid (Rp wr B0 gp (.slice a n c) hm (rfilesS ms k))) (fun v _ => n - (intOf v).toNat)
      case atStart => exact ⟨0, _, rfl, Nat.zero_le _, Fr.refl _ _, HGP⟩
      case round =>
        clear HGP
        obtain ⟨k, hm, rfl, hk, HF, HR⟩ := hrel
        by_cases hlk : k < n
        · skip
          obtain ⟨b, off, s0, s1, s8, a2, n2, k2, m2, a3, n3, k3, m3, a4, n4, k4, m4, a5, n5, k5, m5, a6, n6, k6, m6, a7, n7, k7, m7, a9, n9, k9, m9, a10, n10, k10, m10, ha, hlt, cc0, cc1, cc2, cc3, cc4, cc5, cc6, cc7, cc8, cc9, cc10, hsrc, hnm, hz, ⟨es0, es1⟩, ⟨e4, f4, e5, f5, e6, f6, e7, f7⟩⟩ := file_src HS.out.1 HS.out.2 hlk
          subst ha
          have HBW := HB00.out.trans ((HB1.out.trans (HF.out.to_below HB1S.out |>.mono HBWS.out)).mono HB00.out.size)
          have d0 := (HBW.cell (p := ⟨b, off + k * 11, none⟩) hlt).trans cc0
          have d1 := (HBW.cell (p := ⟨b, off + k * 11 + 1, none⟩) hlt).trans cc1
          have d2 := (HBW.cell (p := ⟨b, off + k * 11 + 2, none⟩) hlt).trans cc2
          have d3 := (HBW.cell (p := ⟨b, off + k * 11 + 3, none⟩) hlt).trans cc3
          have d4 := (HBW.cell (p := ⟨b, off + k * 11 + 4, none⟩) hlt).trans cc4
          have d5 := (HBW.cell (p := ⟨b, off + k * 11 + 5, none⟩) hlt).trans cc5
          have d6 := (HBW.cell (p := ⟨b, off + k * 11 + 6, none⟩) hlt).trans cc6
          have d7 := (HBW.cell (p := ⟨b, off + k * 11 + 7, none⟩) hlt).trans cc7
          have d8 := (HBW.cell (p := ⟨b, off + k * 11 + 8, none⟩) hlt).trans cc8
          have d9 := (HBW.cell (p := ⟨b, off + k * 11 + 9, none⟩) hlt).trans cc9
          have d10 := (HBW.cell (p := ⟨b, off + k * 11 + 10, none⟩) hlt).trans cc10
          have hlw := Nat.lt_of_lt_of_le hlt HBW.size
          clear cc0 cc1 cc2 cc3 cc4 cc5 cc6 cc7 cc8 cc9 cc10 hlt
          obtain ⟨w4, hwn⟩ : ∃ V, V = wr.alloc (.cells #[.string s0, .string s1, .slice a2 n2 k2, .slice a3 n3 k3, .slice a4 n4 k4, .slice a5 n5 k5, .slice a6 n6 k6, .slice a7 n7 k7, .string s8, .slice a9 n9 k9, .slice a10 n10 k10] 62) := ⟨_, rfl⟩
          have hbn : Below wr.heap.size wr w4 := by rw [hwn]; exact (Below.refl _ _).alloc (Nat.le_refl _) _
          have on : Ob w4 wr.heap.size #[.string s0, .string s1, .slice a2 n2 k2, .slice a3 n3 k3, .slice a4 n4 k4, .slice a5 n5 k5, .slice a6 n6 k6, .slice a7 n7 k7, .string s8, .slice a9 n9 k9, .slice a10 n10 k10] 62 := by rw [hwn]; exact Ob.new _ _ _
          have HWN : Hid _ := hwn
          have HRPN : Hid _ := HR.out.below hbn
          have HFRN : Hid (Fr B0 w2 w4) := HF.out.trans (Fr.of_below hbn)
          have hok4 := tooK_ok hlk HK.out
          rw [e4, f4] at hok4
          have hfl : fileL ms k = partL (numsOf s1) m4 n4 m5 n5 m6 n6 m7 n7 := by simp only [fileL, es1, e4, f4, e5, f5, e6, f6, e7, f7]
          have HS1 : Hid (rfilesS ms (k + 1) = (pkL (numsOf s1) ++ partL (numsOf s1) m4 n4 m5 n5 m6 n6 m7 n7).foldl (radd s0) (rfilesS ms k)) := by
            show (pkL (numsOf (strAt ms (k * 11 + 1))) ++ fileL ms k).foldl (radd (strAt ms (k * 11))) (rfilesS ms k) = _
            rw [hfl, es0, es1]
          have hcn : (rfilesS ms k).1.length + ((pkL (numsOf s1)).length + (partL (numsOf s1) m4 n4 m5 n5 m6 n6 m7 n7).length) ≤ 900000000 := by
            have h1 := rfilesS_len ms k
            have h2 : cntG ms (k + 1) = cntG ms k + ((pkL (numsOf (strAt ms (k * 11 + 1)))).length + (fileL ms k).length) := rfl
            rw [hfl, es1] at h2
            have h3 := cntG_mono ms (k + 1) (n - (k + 1))
            rw [show k + 1 + (n - (k + 1)) = n by omega] at h3
            have h4 := HCN.out
            omega
          have QM : Hid _ := rfile_any w4 w0 B0 gp (show Hid _ from (by have h1 := HB1S.out; have h3 := HFRN.out.size; show _ ≤ _; omega)) HB0S (show Hid _ from HBW.trans (hbn.mono HBW.size)) (.slice (some ⟨b, off, none⟩) n c) hm (rfilesS ms k) HRPN (numsOf s1) (show Hid _ from ⟨numsOf_byts s1, by rw [numsOf_len]; exact hz.2.1⟩) s0 s8 a2 n2 k2 a3 n3 k3 a4 n4 k4 m4 a5 n5 k5 m5 a6 n6 k6 m6 a7 n7 k7 m7 a9 n9 k9 a10 n10 k10 (show Hid _ from ⟨⟨hsrc.2.2.1, hnm.1⟩, ⟨hsrc.2.2.2.1, hnm.2.1⟩, ⟨hsrc.2.2.2.2.1, hnm.2.2.1⟩, ⟨hsrc.2.2.2.2.2.1, hnm.2.2.2⟩⟩) (show Hid _ from hok4) (show Hid _ from hcn)
          rw [numsOf_str, ← HS1.out] at QM
          obtain ⟨b0, b1, b2, b3, b4, b5, b6, b7, b8, b9, b10⟩ := (ob11 on).1
          have hlw2 := on.lt
          clear on hbn hsrc hnm hz es0 es1 e4 f4 e5 f5 e6 f6 e7 f7 hok4 hfl hcn
          go_upto_region 11 with fail
          rw [← HWN.out]
          clear HWN hwn
          go_wp2_with fail
          refine Calls.mono QM.out ?_
          rintro e w8 ⟨rfl, hf8, hp8⟩
          have HF8 : Hid (Fr B0 w2 w8) := HFRN.out.trans hf8
          have HP8 : Hid _ := hp8
          clear hf8 hp8 QM b0 d0 b1 d1 b2 d2 b3 d3 b4 d4 b5 d5 b6 d6 b7 d7 b8 d8 b9 d9 b10 d10
          go_wp2
          go_roundw
          case rel => first | exact ⟨k + 1, s0, by go_num, by omega, HF8, HP8⟩ | ((repeat apply Exists.intro); exact ⟨⟨k + 1, s0, by go_num, by omega, HF8, HP8⟩, rfl⟩)
          case measure => simp [intOf]; omega
        · have hkn : n = k := by omega
          subst hkn
          have HBE : Hid (Below W.heap.size W wr) := HB1.out.trans (HF.out.to_below HB1S.out |>.mono HBWS.out)
          obtain ⟨sv, nm, ee, xs, q1, q2, q3, _⟩ := HR.out.blk
          have x2 := fun V : Ext wr => V.cell (p := ⟨gp, 2, none⟩) q1.lt (q1.cell 2 rfl)
          have x3 := fun V : Ext wr => V.cell (p := ⟨gp, 3, none⟩) q1.lt (q1.cell 3 rfl)
          have y3 : wr.cell? ⟨gp, 3, none⟩ = some (.int .i64 ee) := q1.cell 3 rfl
          have yl := q1.lt
          cases hst : (rfilesS ms n).2 with
          | none =>
            obtain rfl := q2 hst
            have HST : Hid _ := hst
            clear q1 q2 q3 hst x2 x3
            go_wp2
            go_ret3
            exact rend_ok HK.out HST.out HBE.out HBWS.out HR.out
          | some F =>
            obtain ⟨rfl, rfl⟩ := q3 F hst
            have HST : Hid _ := hst
            clear q1 q2 q3 hst
            go_upto_region 14 with fail
            refine wp_region_ext wr (Below.refl _ _) (by kernel_rfl) (by kernel_rfl) ?_
            repeat (go_big_quiet_step (fail))
            refine wpQuiet_nil ?_
            rintro w9 ⟨⟨_, hb9⟩, rfl⟩
            have HB9 : Hid (Below W.heap.size W w9) := HBE.out.trans (hb9.mono HBE.out.size)
            clear hb9 x2 x3 y3 yl
            go_wp2
            go_ret3
            exact rend_err HK.out HST.out HB9.out

end Go.Proofs.YtafmoceinamcdaaGreat
