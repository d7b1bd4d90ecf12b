/- Put together by a program out of these texts of mine: VRh. -/
import Derived.Test.YtafmoceinamcdaaGreatBunS17
import Derived.Test.YtafmoceinamcdaaGreatBunS27

namespace Go.Proofs.YtafmoceinamcdaaGreat
open Go.RowKit
set_option linter.unusedVariables false
set_option linter.unusedSimpArgs false

theorem okd_zero (f : Nat) (ms : List Md) : okd f 0 ms = true := by cases f <;> simp [okd]

theorem okd_bad {f n : Nat} {ms : List Md} {i : Nat} (hi : i < n) (h : okd f (lsN ms (i * 11 + 2)) (lsM ms (i * 11 + 2)) = false) : okd (f + 1) n ms = false := by
  cases hq : okd (f + 1) n ms with
  | false => rfl
  | true =>
    unfold okd at hq
    have := List.all_eq_true.1 hq i (List.mem_range.2 hi)
    rw [h] at this
    cases this

theorem okd_good {f n : Nat} {ms : List Md} (h : ∀ i, i < n → okd f (lsN ms (i * 11 + 2)) (lsM ms (i * 11 + 2)) = true) : okd (f + 1) n ms = true := by
  unfold okd
  exact List.all_eq_true.2 (fun i hi => h i (List.mem_range.1 hi))

def RdC (w0 : World) (f : Nat) : Prop :=
  ∀ (W : World) (a : Option Addr) (n c : Nat) (ms : List Md), Hid (Below w0.heap.size w0 W) → Hid (Src w0 34 (.ls a n c ms) ∧ Nm (.ls a n c ms)) →
    Calls Tryz.prog 123 #[.slice a n c, .int .i64 (64 - (f : Int))] W fun e W' => ∃ z : Int, e = .returned (.int .i64 z) ∧ (0 ≤ z ∧ z ≤ 1000) ∧ decide (z ≤ 64) = okd f n ms ∧ Below W.heap.size W W'

set_option maxRecDepth 100000 in
set_option maxHeartbeats 8000000 in
theorem rdeep_walk (w0 : World) (f : Nat) (hf : f ≤ 64) (IH : ∀ f', f = f' + 1 → RdC w0 f') : RdC w0 f := by
  intro W a n c ms HB00 HS
  have HF : Hid (f ≤ 64) := hf
  have hnm : n ≤ 9223372036854775807 := by obtain ⟨⟨h, _⟩, _⟩ := HS.out; cases h with | ls hT hnc hm hnil hlen hmem hk => unfold maxLen at hm; omega
  have hfz : (f : Int) ≤ 64 := by omega
  by_cases hn0 : n = 0
  · subst hn0
    have hle : ¬ (64 - (f : Int) > 64) := by omega
    go_enter Tryz.func123, Tryz.ntmps123
    go_wp2
    go_loopw [5, 19] (fun v5 v wr => v5 = .int .i64 (64 - (f : Int)) ∧ v = .int .i64 0 ∧ Hid (Below W.heap.size W wr)) (fun _ _ _ => 0)
    case atStart => exact ⟨rfl, rfl, Below.refl _ _⟩
    case round =>
      obtain ⟨rfl, rfl, HB⟩ := hrel
      go_wp2
      go_ret
      refine ⟨64 - (f : Int), rfl, ⟨by omega, by omega⟩, ?_, HB.out⟩
      rw [okd_zero]
      exact decide_eq_true (by omega)
  · have hnp : (0 : Int) < (n : Int) := by omega
    cases f with
    | zero =>
      have hE : Hid (okd 0 n ms = false) := by show _ = _; simp [okd, hn0]
      go_enter Tryz.func123, Tryz.ntmps123
      go_wp2
      go_ret
      exact ⟨65, by simp, ⟨by omega, by omega⟩, by rw [hE.out]; rfl, Below.refl _ _⟩
    | succ f' =>
      have HIH : Hid _ := IH f' rfl
      have hcast : ((f' + 1 : Nat) : Int) = (f' : Int) + 1 := by omega
      have hf1 : (f' : Int) + 1 ≤ 64 := by omega
      have hz1 : (64 : Int) - ((f' : Int) + 1) + 1 = 64 - (f' : Int) := by omega
      have hle : ¬ (64 - (f' : Int) > 64) := by omega
      rw [hcast]
      go_enter Tryz.func123, Tryz.ntmps123
      go_wp2
      go_loopw [5, 19] (fun v5 v wr => ∃ (z : Int) (k : Nat), v5 = .int .i64 z ∧ v = .int .i64 (k : Int) ∧ (0 ≤ z ∧ z ≤ 64) ∧ k ≤ n ∧ Hid (∀ i, i < k → okd f' (lsN ms (i * 11 + 2)) (lsM ms (i * 11 + 2)) = true) ∧ Hid (Below W.heap.size W wr)) (fun _ v _ => n - (intOf v).toNat)
      case atStart => exact ⟨64 - (f' : Int), 0, by first | rfl | (congr 1; omega), rfl, ⟨by omega, by omega⟩, Nat.zero_le _, fun i hi => absurd hi (by omega), Below.refl _ _⟩
      case round =>
        obtain ⟨z, k, rfl, rfl, hz, hk, HJ, HB⟩ := hrel
        by_cases hlk : k < n
        · have HBW := HB00.out.trans (HB.out.mono HB00.out.size)
          obtain ⟨b, off, es0, ea1, en1, ek1, em1, ea2, en2, ek2, em2, ea3, en3, ek3, em3, ea4, en4, ek4, em4, ea5, en5, ek5, em5, ea6, en6, ek6, em6, ea7, en7, ek7, em7, ea8, en8, ek8, em8, ea9, en9, ek9, em9, ea10, en10, ek10, em10, ha, hlt, cc0, cc1, cc2, cc3, cc4, cc5, cc6, cc7, cc8, cc9, cc10, r1, r2, r3, r4, r5, r6, r7, r8, r9, r10, t1, ln1, lm1, t2, ln2, lm2, t3, ln3, lm3, t5, ln5, lm5, t6, ln6, lm6, hz0, hst⟩ := msg_src HS.out.1 HS.out.2 hlk
          subst ha
          have d0 := (HBW.cell (p := ⟨b, off + k * 11, none⟩) hlt).trans cc0
          have d1 := (HBW.cell (p := ⟨b, off + k * 11 + 1, none⟩) hlt).trans cc1
          have d2 := (HBW.cell (p := ⟨b, off + k * 11 + 2, none⟩) hlt).trans cc2
          have d3 := (HBW.cell (p := ⟨b, off + k * 11 + 3, none⟩) hlt).trans cc3
          have d4 := (HBW.cell (p := ⟨b, off + k * 11 + 4, none⟩) hlt).trans cc4
          have d5 := (HBW.cell (p := ⟨b, off + k * 11 + 5, none⟩) hlt).trans cc5
          have d6 := (HBW.cell (p := ⟨b, off + k * 11 + 6, none⟩) hlt).trans cc6
          have d7 := (HBW.cell (p := ⟨b, off + k * 11 + 7, none⟩) hlt).trans cc7
          have d8 := (HBW.cell (p := ⟨b, off + k * 11 + 8, none⟩) hlt).trans cc8
          have d9 := (HBW.cell (p := ⟨b, off + k * 11 + 9, none⟩) hlt).trans cc9
          have d10 := (HBW.cell (p := ⟨b, off + k * 11 + 10, none⟩) hlt).trans cc10
          have hlw := Nat.lt_of_lt_of_le hlt HBW.size
          clear cc0 cc1 cc2 cc3 cc4 cc5 cc6 cc7 cc8 cc9 cc10 hlt
          obtain ⟨w4, hwn⟩ : ∃ V, V = wr.alloc (.cells #[.string es0, .slice ea1 en1 ek1, .slice ea2 en2 ek2, .slice ea3 en3 ek3, .slice ea4 en4 ek4, .slice ea5 en5 ek5, .slice ea6 en6 ek6, .slice ea7 en7 ek7, .slice ea8 en8 ek8, .slice ea9 en9 ek9, .slice ea10 en10 ek10] 40) := ⟨_, rfl⟩
          have hbn : Below wr.heap.size wr w4 := by rw [hwn]; exact (Below.refl _ _).alloc (Nat.le_refl _) _
          have on : Ob w4 wr.heap.size #[.string es0, .slice ea1 en1 ek1, .slice ea2 en2 ek2, .slice ea3 en3 ek3, .slice ea4 en4 ek4, .slice ea5 en5 ek5, .slice ea6 en6 ek6, .slice ea7 en7 ek7, .slice ea8 en8 ek8, .slice ea9 en9 ek9, .slice ea10 en10 ek10] 40 := by rw [hwn]; exact Ob.new _ _ _
          have HWN : Hid _ := hwn
          have QD : Hid _ := HIH.out w4 ea2 en2 ek2 em2 (show Hid _ from HBW.trans (hbn.mono HBW.size)) (show Hid _ from ⟨r2, t2⟩)
          have HLN : Hid (lsN ms (k * 11 + 2) = en2 ∧ lsM ms (k * 11 + 2) = em2) := ⟨ln2, lm2⟩
          have HB4 : Hid (Below W.heap.size W w4) := HB.out.trans (hbn.mono HB.out.size)
          obtain ⟨b0, b1, b2, b3, b4, b5, b6, b7, b8, b9, b10⟩ := (ob11 on).1
          have hlw2 := on.lt
          clear on hbn r1 r2 r3 r4 r5 r6 r7 r8 r9 r10 t1 t2 t3 t5 t6 ln1 lm1 ln2 lm2 ln3 lm3 ln5 lm5 ln6 lm6 hst hz0
          have hcz : (64 : Int) - ((f' : Int) + 1) + 1 = 64 - (f' : Int) := by omega
          go_upto_region 9 with fail
          rw [← HWN.out]
          clear HWN hwn
          go_wp2_with fail
          refine Calls.mono QD.out ?_
          rintro e w5 ⟨z2, rfl, hz2, hd2, hb5⟩
          have HB5 : Hid (Below W.heap.size W w5) := HB4.out.trans (hb5.mono HB4.out.size)
          have HD2 : Hid _ := hd2
          clear hb5 QD hd2 b0 d0 b1 d1 b2 d2 b3 d3 b4 d4 b5 d5 b6 d6 b7 d7 b8 d8 b9 d9 b10 d10
          obtain ⟨hl1, hl2⟩ := HLN.out
          by_cases hz3 : z2 ≤ 64
          · have hmx : ¬ (max z z2 > 64) := by omega
            have HJ' : Hid (∀ i, i < k + 1 → okd f' (lsN ms (i * 11 + 2)) (lsM ms (i * 11 + 2)) = true) := fun i hi => by
              by_cases hik : i = k
              · subst hik
                rw [hl1, hl2, ← HD2.out]
                exact decide_eq_true hz3
              · exact HJ.out i (by omega)
            clear hl1 hl2
            go_wp2
            go_roundw
            case rel => exact ⟨max z z2, k + 1, rfl, by go_num, ⟨by omega, by omega⟩, by omega, HJ', HB5⟩
            case measure => simp [intOf]; omega
          · have hmx : max z z2 > 64 := by omega
            have hE : Hid (okd (f' + 1) n ms = false) := okd_bad hlk (by rw [hl1, hl2, ← HD2.out]; exact decide_eq_false hz3)
            clear hl1 hl2
            go_wp2
            go_ret
            exact ⟨max z z2, rfl, ⟨by omega, by omega⟩, by rw [hE.out]; exact decide_eq_false (by omega), HB5.out⟩
        · have hkn : n = k := by omega
          subst hkn
          have hE : Hid (okd (f' + 1) n ms = true) := okd_good HJ.out
          go_wp2
          go_ret
          exact ⟨z, rfl, ⟨by omega, by omega⟩, by rw [hE.out]; exact decide_eq_true hz.2, HB.out⟩

theorem rdeep_all (w0 : World) : ∀ f, f ≤ 64 → RdC w0 f
  | 0, h => rdeep_walk w0 0 h (fun f e => by cases e)
  | f + 1, h => rdeep_walk w0 (f + 1) h (fun f' e => by cases e; exact rdeep_all w0 f (by omega))

set_option maxRecDepth 100000 in
set_option maxHeartbeats 4000000 in
theorem rdeepF (w0 W : World) (HB00 : Hid (Below w0.heap.size w0 W)) (s0 s1 s8 : ByteArray) (a2 : Option Addr) (n2 k2 : Nat) (a3 : Option Addr) (n3 k3 : Nat) (a4 : Option Addr) (n4 k4 : Nat) (m4 : List Md) (a5 : Option Addr) (n5 k5 : Nat) (a6 : Option Addr) (n6 k6 : Nat) (a7 : Option Addr) (n7 k7 : Nat) (a9 : Option Addr) (n9 k9 : Nat) (a10 : Option Addr) (n10 k10 : Nat) (HS : Hid (Src w0 34 (.ls a4 n4 k4 m4) ∧ Nm (.ls a4 n4 k4 m4))) :
    Calls Tryz.prog 72 #[.agg #[.string s0, .string s1, .slice a2 n2 k2, .slice a3 n3 k3, .slice a4 n4 k4, .slice a5 n5 k5, .slice a6 n6 k6, .slice a7 n7 k7, .string s8, .slice a9 n9 k9, .slice a10 n10 k10]] W fun e W' => ∃ z : Int, e = .returned (.int .i64 z) ∧ (0 ≤ z ∧ z ≤ 1000) ∧ decide (z > 64) = !okd 64 n4 m4 ∧ Below W.heap.size W W' := by
  obtain ⟨w1, hw1⟩ : ∃ V, V = W.alloc (.cells #[.string s0, .string s1, .slice a2 n2 k2, .slice a3 n3 k3, .slice a4 n4 k4, .slice a5 n5 k5, .slice a6 n6 k6, .slice a7 n7 k7, .string s8, .slice a9 n9 k9, .slice a10 n10 k10] 62) := ⟨_, rfl⟩
  have HB1 : Hid (Below W.heap.size W w1) := by rw [hw1]; exact (Below.refl _ _).alloc (Nat.le_refl _) _
  have on : Ob w1 W.heap.size #[.string s0, .string s1, .slice a2 n2 k2, .slice a3 n3 k3, .slice a4 n4 k4, .slice a5 n5 k5, .slice a6 n6 k6, .slice a7 n7 k7, .string s8, .slice a9 n9 k9, .slice a10 n10 k10] 62 := by rw [hw1]; exact Ob.new _ _ _
  have HWN : Hid _ := hw1
  obtain ⟨c0, c1, c2, c3, c4, c5, c6, c7, c8, c9, c10⟩ := (ob11 on).1
  have cl := on.lt
  have QD : Hid _ := rdeep_all w0 64 (Nat.le_refl _) w1 a4 n4 k4 m4 (show Hid _ from HB00.out.trans (HB1.out.mono HB00.out.size)) HS
  have h64 : (64 : Int) - ((64 : Nat) : Int) = 0 := by omega
  rw [h64] at QD
  clear on hw1
  go_enter Tryz.func72, Tryz.ntmps72
  go_upto_region 1 with fail
  rw [← HWN.out]
  clear HWN
  go_wp2_with fail
  refine Calls.mono QD.out ?_
  rintro e w5 ⟨z, rfl, hz, hd, hb5⟩
  have HB5 : Hid (Below W.heap.size W w5) := HB1.out.trans (hb5.mono HB1.out.size)
  have HD : Hid _ := hd
  clear hb5 QD hd c0 c1 c2 c3 c4 c5 c6 c7 c8 c9 c10 cl
  by_cases hz3 : z ≤ 64
  · go_wp2
    go_ret
    exact ⟨z, rfl, hz, by rw [← HD.out, decide_eq_true hz3, decide_eq_false (show ¬ z > 64 by omega)]; rfl, HB5.out⟩
  · go_wp2
    go_ret
    exact ⟨100, rfl, ⟨by omega, by omega⟩, by rw [← HD.out, decide_eq_false (show ¬ z ≤ 64 by omega)]; rfl, HB5.out⟩

end Go.Proofs.YtafmoceinamcdaaGreat
