/- Put together by a program out of these texts of mine: VLd. -/
import Derived.Test.YtmhbjkoabbmfpaaGreatBunL25
import Derived.Test.YtmhbjkoabbmfpaaGreatBunL37

namespace Go.Proofs.YtmhbjkoabbmfpaaGreat
open Go.RowKit
set_option linter.unusedVariables false
set_option linter.unusedSimpArgs false

def strM : Md → ByteArray
  | .str s => s
  | _ => ⟨#[]⟩

def numM : Md → Int
  | .num _ n => n
  | _ => 0

theorem sb_of_ok {w : World} {a : Option Addr} {n c : Nat} {ms : List Md} (h : Ok Tryz.prog w 30 (.ls a n c ms)) : Sb w a n c (ms.map strM) := by
  have hfl : flds Tryz.prog 9 = [9] := flds_ktexts0_any
  cases h with
  | ls hT hnc hm hnil hlen hmem hk =>
    rename_i E
    have hE : E = 9 := by
      have := Tryz.underlying30
      rw [this] at hT
      cases hT
      rfl
    subst hE
    rw [hfl] at hlen hk
    have hstr : ∀ (i : Nat) (m : Md), ms[i]? = some m → ∃ s, m = .str s := fun i m hi => by
      have h1 := hk i m 9 hi (by simp [Nat.mod_one])
      have hu := Tryz.underlying9
      cases h1 with
      | str _ _ => exact ⟨_, rfl⟩
      | num hT _ => rw [hu] at hT; cases hT
      | tru hT => rw [hu] at hT; cases hT
      | ls hT => rw [hu] at hT; cases hT
    refine ⟨by rw [List.length_map, hlen]; simp, by have : c ≤ maxLen := hm; unfold maxLen at this; omega, hnc, hnil, fun hp => ?_⟩
    obtain ⟨b, off, e, hlt, hc⟩ := hmem hp
    refine ⟨b, off, e, hlt, fun i z hi => ?_⟩
    rw [List.getElem?_map] at hi
    cases hq : ms[i]? with
    | none => rw [hq] at hi; cases hi
    | some m =>
      rw [hq] at hi
      obtain ⟨s, rfl⟩ := hstr i m hq
      cases hi
      exact hc i _ hq

theorem flds_int9 : flds Tryz.prog 3 = [3] := by kernel_rfl

theorem ns_of_ok {w : World} {a : Option Addr} {n c : Nat} {ms : List Md} (h : Ok Tryz.prog w 59 (.ls a n c ms)) : Ns w a n c (ms.map numM) := by
  have hfl := flds_int9
  cases h with
  | ls hT hnc hm hnil hlen hmem hk =>
    rename_i E
    have hE : E = 3 := by
      have := Tryz.underlying59
      rw [this] at hT
      cases hT
      rfl
    subst hE
    rw [hfl] at hlen hk
    have hnum : ∀ (i : Nat) (m : Md), ms[i]? = some m → ∃ x, m = .num .i64 x := fun i m hi => by
      have h1 := hk i m 3 hi (by simp [Nat.mod_one])
      exact ok_num2 Tryz.underlying3 h1
    refine ⟨by rw [List.length_map, hlen]; simp, by have : c ≤ maxLen := hm; unfold maxLen at this; omega, fun hp => ?_⟩
    obtain ⟨b, off, e, hlt, hc⟩ := hmem hp
    refine ⟨b, off, e, hlt, fun i z hi => ?_⟩
    rw [List.getElem?_map] at hi
    cases hq : ms[i]? with
    | none => rw [hq] at hi; cases hi
    | some m =>
      rw [hq] at hi
      obtain ⟨x, rfl⟩ := hnum i m hq
      cases hi
      exact hc i _ hq

set_option maxRecDepth 100000 in
set_option maxHeartbeats 16000000 in
theorem plooks_walk (w0 : World) (a : Option Addr) (n c : Nat) (ms : List Md) (HS : Hid (Src w0 22 (.ls a n c ms) ∧ Nm (.ls a n c ms))) (HT : Hid (totL ms ≤ 1048576)) (S0 S1 : ByteArray) {sa : Option Addr} {sn sc : Nat} {seen : List ByteArray} (hs : Hid (Sb w0 sa sn sc seen)) {ka : Option Addr} {kn kc : Nat} {kinds : List Int} (hk : Hid (Ns w0 ka kn kc kinds)) :
    Calls Tryz.prog 6 #[.slice a n c, .string S0, .string S1, .slice sa sn sc, .slice ka kn kc] w0 fun e W' => e = .returned (.bool true) ∧ Below w0.heap.size w0 W' := by
  have QW : Hid _ := vawake_any w0
  go_enter Tryz.func6, Tryz.ntmps6
  go_wp2_with fail
  refine Calls.mono QW.out ?_
  rintro e w1 ⟨rfl, hb1⟩
  have HB1 : Hid _ := hb1
  have QA : Hid _ := allF w0 w1 (show Hid _ from hb1) a n c ms HS
  clear hb1 QW
  go_wp2_with fail
  refine Calls.mono QA.out ?_
  rintro e w2 ⟨bb, rfl, hb2⟩
  have HB2 : Hid (Below w0.heap.size w0 w2) := HB1.out.trans (hb2.mono HB1.out.size)
  clear hb2 QA
  rcases bb with _ | _
  · go_wp2
    go_ret
    exact ⟨rfl, HB2.out⟩
  · by_cases hg0 : (300 : Int) < (S0.size : Int)
    · go_wp2
      go_ret
      exact ⟨rfl, HB2.out⟩
    · by_cases hg1 : (300 : Int) < (S1.size : Int)
      · go_wp2
        go_ret
        exact ⟨rfl, HB2.out⟩
      · by_cases hg2 : (20 : Int) < (sn : Int)
        · go_wp2
          go_ret
          exact ⟨rfl, HB2.out⟩
        · by_cases hg3 : (20 : Int) < (kn : Int)
          · go_wp2
            go_ret
            exact ⟨rfl, HB2.out⟩
          · have HS2 : Hid (Src w2 22 (.ls a n c ms) ∧ Nm (.ls a n c ms)) := ⟨HS.out.1.under' HB2.out, HS.out.2⟩
            have QB : Hid _ := bothF w2 a n c ms HS2 HT
            have HZ : Hid (S0.size ≤ 300 ∧ S1.size ≤ 300) := ⟨by omega, by omega⟩
            go_wp2_with fail
            refine Calls.mono QB.out ?_
            rintro e w3 ⟨hb3, hc3⟩
            have HB3 : Hid (Below w0.heap.size w0 w3) := HB2.out.trans (hb3.mono HB2.out.size)
            clear hb3 QB hg0 hg1 hg2 hg3
            rcases hc3 with rfl | ⟨bp, bs, be, vf, Z, h, B0, gp, hm, L, rfl, hbp, hpx, hzw, hB0, hrp, hsl, hlen, hsz⟩
            · go_wp2
              go_ret
              exact ⟨rfl, HB3.out⟩
            · have QL := plook (show Hid _ from hpx) (show Hid _ from hk.out.below HB3.out) (show Hid _ from hs.out.below HB3.out) (numsOf S0) (numsOf S1) (show Hid _ from numsOf_byts S0) (show Hid _ from numsOf_byts S1) (by rw [numsOf_len]; have := HZ.out.1; omega) (by rw [numsOf_len]; have := HZ.out.2; omega)
              rw [numsOf_str, numsOf_str] at QL
              have QR0 : Hid (∀ V, Below w3.heap.size w3 V → Calls Tryz.prog 28 #[.pointer (some ⟨gp, 0, none⟩), .string S0, .string S1, .slice sa sn sc, .slice ka kn kc] V fun e W' => e = lookE ((nplaces (numsOf S0) (numsOf S1)).find? (fz h seen kinds)) ∧ Below V.heap.size V W') := fun V hV => by
                have hb := HB3.out.trans (hV.mono HB3.out.size)
                have q := rlook (show Hid _ from hrp.below hV) hlen (show Hid _ from hk.out.below hb) (show Hid _ from hs.out.below hb) (numsOf S0) (numsOf S1) (show Hid _ from numsOf_byts S0) (show Hid _ from numsOf_byts S1) (by rw [numsOf_len]; have := HZ.out.1; omega) (by rw [numsOf_len]; have := HZ.out.2; omega)
                rw [numsOf_str, numsOf_str, hsl] at q
                exact q
              generalize (nplaces (numsOf S0) (numsOf S1)).find? (fz h seen kinds) = RES at QL QR0
              clear hbp hpx hzw hB0 hrp hsl hlen hsz hs hk HZ
              cases RES with
              | none =>
                simp only [lookE] at QL QR0
                have QL : Hid _ := QL
                go_wp2_with fail
                refine Calls.mono QL.out ?_
                rintro e w4 ⟨rfl, hb4⟩
                have HB4 : Hid (Below w0.heap.size w0 w4) := HB3.out.trans (hb4.mono HB3.out.size)
                have QR : Hid _ := QR0.out w4 hb4
                clear hb4 QL QR0
                go_wp2_with fail
                refine Calls.mono QR.out ?_
                rintro e w5 ⟨rfl, hb5⟩
                have HB5 : Hid (Below w0.heap.size w0 w5) := HB4.out.trans (hb5.mono HB4.out.size)
                clear hb5 QR
                go_wp2
                go_ret
                exact ⟨rfl, HB5.out⟩
              | some z =>
                simp only [lookE] at QL QR0
                have QL : Hid _ := QL
                generalize strOfNums z = X at QL QR0
                go_wp2_with fail
                refine Calls.mono QL.out ?_
                rintro e w4 ⟨rfl, hb4⟩
                have HB4 : Hid (Below w0.heap.size w0 w4) := HB3.out.trans (hb4.mono HB3.out.size)
                have QR : Hid _ := QR0.out w4 hb4
                clear hb4 QL QR0
                go_wp2_with fail
                refine Calls.mono QR.out ?_
                rintro e w5 ⟨rfl, hb5⟩
                have HB5 : Hid (Below w0.heap.size w0 w5) := HB4.out.trans (hb5.mono HB4.out.size)
                have hxx : (X.toList == X.toList) = true := by simp
                clear hb5 QR
                go_wp2
                go_ret
                exact ⟨rfl, HB5.out⟩

end Go.Proofs.YtmhbjkoabbmfpaaGreat
