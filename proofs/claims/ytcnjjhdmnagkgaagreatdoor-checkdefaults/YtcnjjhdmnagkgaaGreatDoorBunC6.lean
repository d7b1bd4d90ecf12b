/- Put together by a program out of these texts of mine: YDef. -/
import Derived.Test.YtcnjjhdmnagkgaaGreatDoorBunC1
import Derived.Test.YtcnjjhdmnagkgaaGreatDoorBunC4
import Derived.Test.YtcnjjhdmnagkgaaGreatDoorBunC5

namespace Go.Proofs.YtcnjjhdmnagkgaaGreatDoor
open Go.RowKit
set_option linter.unusedVariables false
set_option linter.unusedSimpArgs false

theorem ob8 {w : World} {b : Nat} {T : TypeId} {x0 x1 x2 x3 x4 x5 x6 x7 : Value} (h : Ob w b #[x0, x1, x2, x3, x4, x5, x6, x7] T) :
    (w.cell? ⟨b, 0, none⟩ = some x0 ∧ w.cell? ⟨b, 1, none⟩ = some x1 ∧ w.cell? ⟨b, 2, none⟩ = some x2 ∧ w.cell? ⟨b, 3, none⟩ = some x3 ∧ w.cell? ⟨b, 4, none⟩ = some x4 ∧ w.cell? ⟨b, 5, none⟩ = some x5 ∧ w.cell? ⟨b, 6, none⟩ = some x6 ∧ w.cell? ⟨b, 7, none⟩ = some x7) ∧ (w.frozen? ⟨b, 0, none⟩ = false ∧ w.frozen? ⟨b, 1, none⟩ = false ∧ w.frozen? ⟨b, 2, none⟩ = false ∧ w.frozen? ⟨b, 3, none⟩ = false ∧ w.frozen? ⟨b, 4, none⟩ = false ∧ w.frozen? ⟨b, 5, none⟩ = false ∧ w.frozen? ⟨b, 6, none⟩ = false ∧ w.frozen? ⟨b, 7, none⟩ = false) ∧ b < w.heap.size :=
  ⟨⟨h.cell 0 rfl, h.cell 1 rfl, h.cell 2 rfl, h.cell 3 rfl, h.cell 4 rfl, h.cell 5 rfl, h.cell 6 rfl, h.cell 7 rfl⟩, ⟨h.frozen 0, h.frozen 1, h.frozen 2, h.frozen 3, h.frozen 4, h.frozen 5, h.frozen 6, h.frozen 7⟩, h.lt⟩

def pwith (kind : Int) (r : Int × Bool × Bool) (below above : Int) : Bool := decide (kind = 20) && (r.2.2 && decide (r.1 ≤ if r.2.1 = true then below else above))

set_option maxRecDepth 10000 in
set_option maxHeartbeats 4000000 in
theorem xwithin_any {kind n m a pos : Int} {text : List Int} {D : ByteArray} {ad : Option Addr} {kl cap : Nat} (hz : Hid (∀ i, 0 ≤ text.getD i 0 ∧ text.getD i 0 ≤ 255)) (hlen : (text.length : Int) ≤ 1000000) (below above : Int) (W : World) (hT : Hid (LoTab W)) :
    Calls Tryz.prog 99 #[.agg #[.int .i64 kind, .string (strOfNums text), .int .i64 n, .int .i64 m, .int .i64 a, .int .i64 pos, .string D, .slice ad kl cap], .int .u64 below, .int .u64 above] W fun e W' => e = .returned (.bool (pwith kind (tint text) below above)) ∧ Below W.heap.size W W' := by
  obtain ⟨w1, hw1⟩ : ∃ w1, w1 = W.alloc (.cells #[.int .i64 kind, .string (strOfNums text), .int .i64 n, .int .i64 m, .int .i64 a, .int .i64 pos, .string D, .slice ad kl cap] 74) := ⟨_, rfl⟩
  have hb1 : Below W.heap.size W w1 := by rw [hw1]; exact (Below.refl _ _).alloc (Nat.le_refl _) _
  have QI : Hid _ := pint_any text w1 (show Hid _ from (hT.out.below hb1 (Nat.le_refl _)).1) hz hlen
  have o0 : Hid (Ob w1 W.heap.size #[.int .i64 kind, .string (strOfNums text), .int .i64 n, .int .i64 m, .int .i64 a, .int .i64 pos, .string D, .slice ad kl cap] 74) := by rw [hw1]; exact Ob.new _ _ _
  have HB1 : Hid _ := hb1
  have HW1 : Hid _ := hw1
  generalize tint text = R at QI
  obtain ⟨r1, r2, r3⟩ := R
  dsimp only at QI
  obtain ⟨T, HT⟩ : ∃ T, Hid (T = strOfNums text) := ⟨_, rfl⟩
  rw [← HT.out] at QI o0 HW1 ⊢
  clear hw1 hb1
  have a1 := o0.out.cell 1 rfl
  have al := o0.out.lt
  unfold pwith
  by_cases hk : kind = 20
  · subst hk
    rw [decide_eq_true rfl, Bool.true_and]
    cases r3 with
    | false =>
      rw [Bool.false_and]
      cases r2 with
      | true =>
        go_enter Tryz.func99, Tryz.ntmps99
        go_upto_region 1 with fail
        rw [← HW1.out]
        clear HW1
        go_wp2_with fail
        refine Calls.mono QI.out ?_
        rintro e w2 ⟨rfl, hb2⟩
        have a0 := (o0.out.below hb2 o0.out.lt).cell 0 rfl
        have bl : W.heap.size < w2.heap.size := Nat.lt_of_lt_of_le o0.out.lt hb2.size
        have HB2 : Hid (Below W.heap.size W w2) := HB1.out.trans (hb2.mono HB1.out.size)
        clear hb2 QI o0 a1 al
        go_wp2
        go_ret
        exact ⟨rfl, HB2.out⟩
      | false =>
        go_enter Tryz.func99, Tryz.ntmps99
        go_upto_region 1 with fail
        rw [← HW1.out]
        clear HW1
        go_wp2_with fail
        refine Calls.mono QI.out ?_
        rintro e w2 ⟨rfl, hb2⟩
        have a0 := (o0.out.below hb2 o0.out.lt).cell 0 rfl
        have bl : W.heap.size < w2.heap.size := Nat.lt_of_lt_of_le o0.out.lt hb2.size
        have HB2 : Hid (Below W.heap.size W w2) := HB1.out.trans (hb2.mono HB1.out.size)
        clear hb2 QI o0 a1 al
        go_wp2
        go_ret
        exact ⟨rfl, HB2.out⟩
    | true =>
      rw [Bool.true_and]
      cases r2 with
      | true =>
        rw [if_pos rfl]
        obtain ⟨B, hB⟩ : ∃ B, B = decide (r1 ≤ below) := ⟨_, rfl⟩
        rw [← hB]
        cases B with
        | true =>
          have hle := hB.symm
          clear hB
          go_enter Tryz.func99, Tryz.ntmps99
          go_upto_region 1 with fail
          rw [← HW1.out]
          clear HW1
          go_wp2_with fail
          refine Calls.mono QI.out ?_
          rintro e w2 ⟨rfl, hb2⟩
          have a0 := (o0.out.below hb2 o0.out.lt).cell 0 rfl
          have bl : W.heap.size < w2.heap.size := Nat.lt_of_lt_of_le o0.out.lt hb2.size
          have HB2 : Hid (Below W.heap.size W w2) := HB1.out.trans (hb2.mono HB1.out.size)
          clear hb2 QI o0 a1 al
          go_wp2
          go_ret
          exact ⟨rfl, HB2.out⟩
        | false =>
          have hle := hB.symm
          clear hB
          go_enter Tryz.func99, Tryz.ntmps99
          go_upto_region 1 with fail
          rw [← HW1.out]
          clear HW1
          go_wp2_with fail
          refine Calls.mono QI.out ?_
          rintro e w2 ⟨rfl, hb2⟩
          have a0 := (o0.out.below hb2 o0.out.lt).cell 0 rfl
          have bl : W.heap.size < w2.heap.size := Nat.lt_of_lt_of_le o0.out.lt hb2.size
          have HB2 : Hid (Below W.heap.size W w2) := HB1.out.trans (hb2.mono HB1.out.size)
          clear hb2 QI o0 a1 al
          go_wp2
          go_ret
          exact ⟨rfl, HB2.out⟩
      | false =>
        rw [if_neg (by simp)]
        obtain ⟨B, hB⟩ : ∃ B, B = decide (r1 ≤ above) := ⟨_, rfl⟩
        rw [← hB]
        cases B with
        | true =>
          have hle := hB.symm
          clear hB
          go_enter Tryz.func99, Tryz.ntmps99
          go_upto_region 1 with fail
          rw [← HW1.out]
          clear HW1
          go_wp2_with fail
          refine Calls.mono QI.out ?_
          rintro e w2 ⟨rfl, hb2⟩
          have a0 := (o0.out.below hb2 o0.out.lt).cell 0 rfl
          have bl : W.heap.size < w2.heap.size := Nat.lt_of_lt_of_le o0.out.lt hb2.size
          have HB2 : Hid (Below W.heap.size W w2) := HB1.out.trans (hb2.mono HB1.out.size)
          clear hb2 QI o0 a1 al
          go_wp2
          go_ret
          exact ⟨rfl, HB2.out⟩
        | false =>
          have hle := hB.symm
          clear hB
          go_enter Tryz.func99, Tryz.ntmps99
          go_upto_region 1 with fail
          rw [← HW1.out]
          clear HW1
          go_wp2_with fail
          refine Calls.mono QI.out ?_
          rintro e w2 ⟨rfl, hb2⟩
          have a0 := (o0.out.below hb2 o0.out.lt).cell 0 rfl
          have bl : W.heap.size < w2.heap.size := Nat.lt_of_lt_of_le o0.out.lt hb2.size
          have HB2 : Hid (Below W.heap.size W w2) := HB1.out.trans (hb2.mono HB1.out.size)
          clear hb2 QI o0 a1 al
          go_wp2
          go_ret
          exact ⟨rfl, HB2.out⟩
  · have hkk : (kind == 20) = false := by simpa using hk
    rw [decide_eq_false hk, Bool.false_and]
    clear hk
    cases r2 with
    | true =>
      go_enter Tryz.func99, Tryz.ntmps99
      go_upto_region 1 with fail
      rw [← HW1.out]
      clear HW1
      go_wp2_with fail
      refine Calls.mono QI.out ?_
      rintro e w2 ⟨rfl, hb2⟩
      have a0 := (o0.out.below hb2 o0.out.lt).cell 0 rfl
      have bl : W.heap.size < w2.heap.size := Nat.lt_of_lt_of_le o0.out.lt hb2.size
      have HB2 : Hid (Below W.heap.size W w2) := HB1.out.trans (hb2.mono HB1.out.size)
      clear hb2 QI o0 a1 al
      go_wp2
      go_ret
      exact ⟨rfl, HB2.out⟩
    | false =>
      go_enter Tryz.func99, Tryz.ntmps99
      go_upto_region 1 with fail
      rw [← HW1.out]
      clear HW1
      go_wp2_with fail
      refine Calls.mono QI.out ?_
      rintro e w2 ⟨rfl, hb2⟩
      have a0 := (o0.out.below hb2 o0.out.lt).cell 0 rfl
      have bl : W.heap.size < w2.heap.size := Nat.lt_of_lt_of_le o0.out.lt hb2.size
      have HB2 : Hid (Below W.heap.size W w2) := HB1.out.trans (hb2.mono HB1.out.size)
      clear hb2 QI o0 a1 al
      go_wp2
      go_ret
      exact ⟨rfl, HB2.out⟩

def pfit (t kind : Int) (text : List Int) : Bool :=
  if t = 5 then pwith kind (tint text) 2147483648 2147483647
  else if t = 17 then pwith kind (tint text) 2147483648 2147483647
  else if t = 15 then pwith kind (tint text) 2147483648 2147483647
  else if t = 13 then pwith kind (tint text) 0 4294967295
  else if t = 7 then pwith kind (tint text) 0 4294967295
  else if t = 3 then pwith kind (tint text) 9223372036854775808 9223372036854775807
  else if t = 18 then pwith kind (tint text) 9223372036854775808 9223372036854775807
  else if t = 16 then pwith kind (tint text) 9223372036854775808 9223372036854775807
  else if t = 4 then pwith kind (tint text) 0 18446744073709551615
  else if t = 6 then pwith kind (tint text) 0 18446744073709551615
  else if t = 8 then decide (kind = 21) && (decide (text = wTrue) || decide (text = wFalse))
  else if t = 9 then decide (kind = 22)
  else if t = 12 then decide (kind = 22)
  else if t = 0 then decide (kind = 21)
  else false

set_option maxRecDepth 10000 in
set_option maxHeartbeats 8000000 in
theorem pfits_any {kind n m a pos : Int} {text : List Int} {D : ByteArray} {ad : Option Addr} {kl cap : Nat} (hz : Hid (∀ i, 0 ≤ text.getD i 0 ∧ text.getD i 0 ≤ 255)) (hlen : (text.length : Int) ≤ 1000000) (t : Int) (W : World) (hT : Hid (LoTab W)) :
    Calls Tryz.prog 59 #[.int .i64 t, .agg #[.int .i64 kind, .string (strOfNums text), .int .i64 n, .int .i64 m, .int .i64 a, .int .i64 pos, .string D, .slice ad kl cap]] W fun e W' => e = .returned (.bool (pfit t kind text)) ∧ Below W.heap.size W W' := by
  obtain ⟨w1, hw1⟩ : ∃ w1, w1 = W.alloc (.cells #[.int .i64 kind, .string (strOfNums text), .int .i64 n, .int .i64 m, .int .i64 a, .int .i64 pos, .string D, .slice ad kl cap] 74) := ⟨_, rfl⟩
  have hb1 : Below W.heap.size W w1 := by rw [hw1]; exact (Below.refl _ _).alloc (Nat.le_refl _) _
  have QW : Hid (∀ below above, Calls Tryz.prog 99 #[.agg #[.int .i64 kind, .string (strOfNums text), .int .i64 n, .int .i64 m, .int .i64 a, .int .i64 pos, .string D, .slice ad kl cap], .int .u64 below, .int .u64 above] w1 fun e W' => e = .returned (.bool (pwith kind (tint text) below above)) ∧ Below w1.heap.size w1 W') := fun below above => xwithin_any hz hlen below above w1 (show Hid _ from hT.out.below hb1 (Nat.le_refl _))
  have o0 : Hid (Ob w1 W.heap.size #[.int .i64 kind, .string (strOfNums text), .int .i64 n, .int .i64 m, .int .i64 a, .int .i64 pos, .string D, .slice ad kl cap] 74) := by rw [hw1]; exact Ob.new _ _ _
  have HB1 : Hid _ := hb1
  have HW1 : Hid _ := hw1
  have hs : byts text := mem_bd hz.out
  have q1 : ((strOfNums text).toList == [116, 114, 117, 101]) = decide (text = wTrue) := by
    have := str_eq (z1 := text) (z2 := wTrue) hs (by decide)
    rw [show (strOfNums wTrue).toList = [116, 114, 117, 101] from by kernel_rfl] at this
    rw [this, Bool.eq_iff_iff]
    simp
  have q2 : ((strOfNums text).toList == [102, 97, 108, 115, 101]) = decide (text = wFalse) := by
    have := str_eq (z1 := text) (z2 := wFalse) hs (by decide)
    rw [show (strOfNums wFalse).toList = [102, 97, 108, 115, 101] from by kernel_rfl] at this
    rw [this, Bool.eq_iff_iff]
    simp
  obtain ⟨PF, HPF⟩ : ∃ PF, Hid (PF = pfit t kind text) := ⟨_, rfl⟩
  rw [← HPF.out]
  obtain ⟨T, HT⟩ : ∃ T, Hid (T = strOfNums text) := ⟨_, rfl⟩
  obtain ⟨R, HR⟩ : ∃ R, Hid (R = tint text) := ⟨_, rfl⟩
  rw [← HT.out] at QW o0 HW1 q1 q2 ⊢
  rw [← HR.out] at QW
  clear hw1 hb1 hs hlen
  obtain ⟨⟨a0, a1, a2, a3, a4, a5, a6, a7⟩, _, al⟩ := ob8 o0.out
  by_cases t5 : t = 5
  · subst t5
    have HP : Hid (PF = pwith kind R 2147483648 2147483647) := by show _ = _; rw [HPF.out, HR.out]; rfl
    have Q1 : Hid _ := QW.out 2147483648 2147483647
    rw [← HP.out] at Q1
    clear QW q1 q2 HP HPF
    go_enter Tryz.func59, Tryz.ntmps59
    go_upto_region 1 with fail
    rw [← HW1.out]
    clear HW1
    go_wp2_with fail
    refine Calls.mono Q1.out ?_
    rintro e w2 ⟨rfl, hb2⟩
    have HB2 : Hid (Below W.heap.size W w2) := HB1.out.trans (hb2.mono HB1.out.size)
    clear hb2 Q1 o0 a0 a1 a2 a3 a4 a5 a6 a7 al
    go_wp2
    go_ret
    exact ⟨rfl, HB2.out⟩
  by_cases t17 : t = 17
  · subst t17
    have HP : Hid (PF = pwith kind R 2147483648 2147483647) := by show _ = _; rw [HPF.out, HR.out]; rfl
    have Q1 : Hid _ := QW.out 2147483648 2147483647
    rw [← HP.out] at Q1
    clear QW q1 q2 HP HPF
    go_enter Tryz.func59, Tryz.ntmps59
    go_upto_region 1 with fail
    rw [← HW1.out]
    clear HW1
    go_wp2_with fail
    refine Calls.mono Q1.out ?_
    rintro e w2 ⟨rfl, hb2⟩
    have HB2 : Hid (Below W.heap.size W w2) := HB1.out.trans (hb2.mono HB1.out.size)
    clear hb2 Q1 o0 a0 a1 a2 a3 a4 a5 a6 a7 al
    go_wp2
    go_ret
    exact ⟨rfl, HB2.out⟩
  by_cases t15 : t = 15
  · subst t15
    have HP : Hid (PF = pwith kind R 2147483648 2147483647) := by show _ = _; rw [HPF.out, HR.out]; rfl
    have Q1 : Hid _ := QW.out 2147483648 2147483647
    rw [← HP.out] at Q1
    clear QW q1 q2 HP HPF
    go_enter Tryz.func59, Tryz.ntmps59
    go_upto_region 1 with fail
    rw [← HW1.out]
    clear HW1
    go_wp2_with fail
    refine Calls.mono Q1.out ?_
    rintro e w2 ⟨rfl, hb2⟩
    have HB2 : Hid (Below W.heap.size W w2) := HB1.out.trans (hb2.mono HB1.out.size)
    clear hb2 Q1 o0 a0 a1 a2 a3 a4 a5 a6 a7 al
    go_wp2
    go_ret
    exact ⟨rfl, HB2.out⟩
  by_cases t13 : t = 13
  · subst t13
    have HP : Hid (PF = pwith kind R 0 4294967295) := by show _ = _; rw [HPF.out, HR.out]; rfl
    have Q1 : Hid _ := QW.out 0 4294967295
    rw [← HP.out] at Q1
    clear QW q1 q2 HP HPF
    go_enter Tryz.func59, Tryz.ntmps59
    go_upto_region 1 with fail
    rw [← HW1.out]
    clear HW1
    go_wp2_with fail
    refine Calls.mono Q1.out ?_
    rintro e w2 ⟨rfl, hb2⟩
    have HB2 : Hid (Below W.heap.size W w2) := HB1.out.trans (hb2.mono HB1.out.size)
    clear hb2 Q1 o0 a0 a1 a2 a3 a4 a5 a6 a7 al
    go_wp2
    go_ret
    exact ⟨rfl, HB2.out⟩
  by_cases t7 : t = 7
  · subst t7
    have HP : Hid (PF = pwith kind R 0 4294967295) := by show _ = _; rw [HPF.out, HR.out]; rfl
    have Q1 : Hid _ := QW.out 0 4294967295
    rw [← HP.out] at Q1
    clear QW q1 q2 HP HPF
    go_enter Tryz.func59, Tryz.ntmps59
    go_upto_region 1 with fail
    rw [← HW1.out]
    clear HW1
    go_wp2_with fail
    refine Calls.mono Q1.out ?_
    rintro e w2 ⟨rfl, hb2⟩
    have HB2 : Hid (Below W.heap.size W w2) := HB1.out.trans (hb2.mono HB1.out.size)
    clear hb2 Q1 o0 a0 a1 a2 a3 a4 a5 a6 a7 al
    go_wp2
    go_ret
    exact ⟨rfl, HB2.out⟩
  by_cases t3 : t = 3
  · subst t3
    have HP : Hid (PF = pwith kind R 9223372036854775808 9223372036854775807) := by show _ = _; rw [HPF.out, HR.out]; rfl
    have Q1 : Hid _ := QW.out 9223372036854775808 9223372036854775807
    rw [← HP.out] at Q1
    clear QW q1 q2 HP HPF
    go_enter Tryz.func59, Tryz.ntmps59
    go_upto_region 1 with fail
    rw [← HW1.out]
    clear HW1
    go_wp2_with fail
    refine Calls.mono Q1.out ?_
    rintro e w2 ⟨rfl, hb2⟩
    have HB2 : Hid (Below W.heap.size W w2) := HB1.out.trans (hb2.mono HB1.out.size)
    clear hb2 Q1 o0 a0 a1 a2 a3 a4 a5 a6 a7 al
    go_wp2
    go_ret
    exact ⟨rfl, HB2.out⟩
  by_cases t18 : t = 18
  · subst t18
    have HP : Hid (PF = pwith kind R 9223372036854775808 9223372036854775807) := by show _ = _; rw [HPF.out, HR.out]; rfl
    have Q1 : Hid _ := QW.out 9223372036854775808 9223372036854775807
    rw [← HP.out] at Q1
    clear QW q1 q2 HP HPF
    go_enter Tryz.func59, Tryz.ntmps59
    go_upto_region 1 with fail
    rw [← HW1.out]
    clear HW1
    go_wp2_with fail
    refine Calls.mono Q1.out ?_
    rintro e w2 ⟨rfl, hb2⟩
    have HB2 : Hid (Below W.heap.size W w2) := HB1.out.trans (hb2.mono HB1.out.size)
    clear hb2 Q1 o0 a0 a1 a2 a3 a4 a5 a6 a7 al
    go_wp2
    go_ret
    exact ⟨rfl, HB2.out⟩
  by_cases t16 : t = 16
  · subst t16
    have HP : Hid (PF = pwith kind R 9223372036854775808 9223372036854775807) := by show _ = _; rw [HPF.out, HR.out]; rfl
    have Q1 : Hid _ := QW.out 9223372036854775808 9223372036854775807
    rw [← HP.out] at Q1
    clear QW q1 q2 HP HPF
    go_enter Tryz.func59, Tryz.ntmps59
    go_upto_region 1 with fail
    rw [← HW1.out]
    clear HW1
    go_wp2_with fail
    refine Calls.mono Q1.out ?_
    rintro e w2 ⟨rfl, hb2⟩
    have HB2 : Hid (Below W.heap.size W w2) := HB1.out.trans (hb2.mono HB1.out.size)
    clear hb2 Q1 o0 a0 a1 a2 a3 a4 a5 a6 a7 al
    go_wp2
    go_ret
    exact ⟨rfl, HB2.out⟩
  by_cases t4 : t = 4
  · subst t4
    have HP : Hid (PF = pwith kind R 0 18446744073709551615) := by show _ = _; rw [HPF.out, HR.out]; rfl
    have Q1 : Hid _ := QW.out 0 18446744073709551615
    rw [← HP.out] at Q1
    clear QW q1 q2 HP HPF
    go_enter Tryz.func59, Tryz.ntmps59
    go_upto_region 1 with fail
    rw [← HW1.out]
    clear HW1
    go_wp2_with fail
    refine Calls.mono Q1.out ?_
    rintro e w2 ⟨rfl, hb2⟩
    have HB2 : Hid (Below W.heap.size W w2) := HB1.out.trans (hb2.mono HB1.out.size)
    clear hb2 Q1 o0 a0 a1 a2 a3 a4 a5 a6 a7 al
    go_wp2
    go_ret
    exact ⟨rfl, HB2.out⟩
  by_cases t6 : t = 6
  · subst t6
    have HP : Hid (PF = pwith kind R 0 18446744073709551615) := by show _ = _; rw [HPF.out, HR.out]; rfl
    have Q1 : Hid _ := QW.out 0 18446744073709551615
    rw [← HP.out] at Q1
    clear QW q1 q2 HP HPF
    go_enter Tryz.func59, Tryz.ntmps59
    go_upto_region 1 with fail
    rw [← HW1.out]
    clear HW1
    go_wp2_with fail
    refine Calls.mono Q1.out ?_
    rintro e w2 ⟨rfl, hb2⟩
    have HB2 : Hid (Below W.heap.size W w2) := HB1.out.trans (hb2.mono HB1.out.size)
    clear hb2 Q1 o0 a0 a1 a2 a3 a4 a5 a6 a7 al
    go_wp2
    go_ret
    exact ⟨rfl, HB2.out⟩
  by_cases t8 : t = 8
  · subst t8
    have HP0 : Hid (PF = (decide (kind = 21) && (decide (text = wTrue) || decide (text = wFalse)))) := by show _ = _; rw [HPF.out]; rfl
    by_cases hk : kind = 21
    · subst hk
      by_cases h1 : text = wTrue
      · rw [decide_eq_true h1] at q1
        have HP : Hid (PF = true) := by show _ = _; rw [HP0.out, decide_eq_true rfl, decide_eq_true h1]; rfl
        clear h1 q2 HP0 HPF
        clear QW
        go_enter Tryz.func59, Tryz.ntmps59
        go_upto_region 1 with fail
        rw [← HW1.out]
        clear HW1
        go_wp2
        go_ret
        exact ⟨by rw [HP.out]; rfl, HB1.out⟩
      · rw [decide_eq_false h1] at q1
        by_cases h2 : text = wFalse
        · rw [decide_eq_true h2] at q2
          have HP : Hid (PF = true) := by show _ = _; rw [HP0.out, decide_eq_true rfl, decide_eq_true h2]; simp
          clear h1 h2 HP0 HPF
          clear QW
          go_enter Tryz.func59, Tryz.ntmps59
          go_upto_region 1 with fail
          rw [← HW1.out]
          clear HW1
          go_wp2
          go_ret
          exact ⟨by rw [HP.out]; rfl, HB1.out⟩
        · rw [decide_eq_false h2] at q2
          have HP : Hid (PF = false) := by show _ = _; rw [HP0.out, decide_eq_false h1, decide_eq_false h2]; rfl
          clear h1 h2 HP0 HPF
          clear QW
          go_enter Tryz.func59, Tryz.ntmps59
          go_upto_region 1 with fail
          rw [← HW1.out]
          clear HW1
          go_wp2
          go_ret
          exact ⟨by rw [HP.out]; rfl, HB1.out⟩
    · have hkk : (kind == 21) = false := by simpa using hk
      have HP : Hid (PF = false) := by show _ = _; rw [HP0.out, decide_eq_false hk]; rfl
      clear hk q1 q2 HP0 HPF
      clear QW
      go_enter Tryz.func59, Tryz.ntmps59
      go_upto_region 1 with fail
      rw [← HW1.out]
      clear HW1
      go_wp2
      go_ret
      exact ⟨by rw [HP.out]; rfl, HB1.out⟩
  by_cases t9 : t = 9
  · subst t9
    have HP0 : Hid (PF = decide (kind = 22)) := by show _ = _; rw [HPF.out]; rfl
    clear q1 q2 HPF
    by_cases hk : kind = 22
    · subst hk
      have HP : Hid (PF = true) := by show _ = _; rw [HP0.out, decide_eq_true rfl]
      clear HP0
      clear QW
      go_enter Tryz.func59, Tryz.ntmps59
      go_upto_region 1 with fail
      rw [← HW1.out]
      clear HW1
      go_wp2
      go_ret
      exact ⟨by rw [HP.out]; rfl, HB1.out⟩
    · have hkk : (kind == 22) = false := by simpa using hk
      have HP : Hid (PF = false) := by show _ = _; rw [HP0.out, decide_eq_false hk]
      clear hk HP0
      clear QW
      go_enter Tryz.func59, Tryz.ntmps59
      go_upto_region 1 with fail
      rw [← HW1.out]
      clear HW1
      go_wp2
      go_ret
      exact ⟨by rw [HP.out]; rfl, HB1.out⟩
  by_cases t12 : t = 12
  · subst t12
    have HP0 : Hid (PF = decide (kind = 22)) := by show _ = _; rw [HPF.out]; rfl
    clear q1 q2 HPF
    by_cases hk : kind = 22
    · subst hk
      have HP : Hid (PF = true) := by show _ = _; rw [HP0.out, decide_eq_true rfl]
      clear HP0
      clear QW
      go_enter Tryz.func59, Tryz.ntmps59
      go_upto_region 1 with fail
      rw [← HW1.out]
      clear HW1
      go_wp2
      go_ret
      exact ⟨by rw [HP.out]; rfl, HB1.out⟩
    · have hkk : (kind == 22) = false := by simpa using hk
      have HP : Hid (PF = false) := by show _ = _; rw [HP0.out, decide_eq_false hk]
      clear hk HP0
      clear QW
      go_enter Tryz.func59, Tryz.ntmps59
      go_upto_region 1 with fail
      rw [← HW1.out]
      clear HW1
      go_wp2
      go_ret
      exact ⟨by rw [HP.out]; rfl, HB1.out⟩
  by_cases t0 : t = 0
  · subst t0
    have HP0 : Hid (PF = decide (kind = 21)) := by show _ = _; rw [HPF.out]; rfl
    clear q1 q2 HPF
    by_cases hk : kind = 21
    · subst hk
      have HP : Hid (PF = true) := by show _ = _; rw [HP0.out, decide_eq_true rfl]
      clear HP0
      clear QW
      go_enter Tryz.func59, Tryz.ntmps59
      go_upto_region 1 with fail
      rw [← HW1.out]
      clear HW1
      go_wp2
      go_ret
      exact ⟨by rw [HP.out]; rfl, HB1.out⟩
    · have hkk : (kind == 21) = false := by simpa using hk
      have HP : Hid (PF = false) := by show _ = _; rw [HP0.out, decide_eq_false hk]
      clear hk HP0
      clear QW
      go_enter Tryz.func59, Tryz.ntmps59
      go_upto_region 1 with fail
      rw [← HW1.out]
      clear HW1
      go_wp2
      go_ret
      exact ⟨by rw [HP.out]; rfl, HB1.out⟩
  have HP : Hid (PF = false) := by
    show _ = _
    rw [HPF.out]
    unfold pfit
    rw [if_neg t5, if_neg t17, if_neg t15, if_neg t13, if_neg t7, if_neg t3, if_neg t18, if_neg t16, if_neg t4, if_neg t6, if_neg t8, if_neg t9, if_neg t12, if_neg t0]
  have n5 : (t == 5) = false := by simpa using t5
  have n17 : (t == 17) = false := by simpa using t17
  have n15 : (t == 15) = false := by simpa using t15
  have n13 : (t == 13) = false := by simpa using t13
  have n7 : (t == 7) = false := by simpa using t7
  have n3 : (t == 3) = false := by simpa using t3
  have n18 : (t == 18) = false := by simpa using t18
  have n16 : (t == 16) = false := by simpa using t16
  have n4 : (t == 4) = false := by simpa using t4
  have n6 : (t == 6) = false := by simpa using t6
  have n8 : (t == 8) = false := by simpa using t8
  have n9 : (t == 9) = false := by simpa using t9
  have n12 : (t == 12) = false := by simpa using t12
  have n0 : (t == 0) = false := by simpa using t0
  clear t5 t17 t15 t13 t7 t3 t18 t16 t4 t6 t8 t9 t12 t0 q1 q2 HPF
  clear QW
  go_enter Tryz.func59, Tryz.ntmps59
  go_upto_region 1 with fail
  rw [← HW1.out]
  clear HW1
  go_wp2
  go_ret
  exact ⟨by rw [HP.out]; rfl, HB1.out⟩

set_option maxRecDepth 10000 in
set_option maxHeartbeats 4000000 in
theorem pdefault_any {kind n m a pos : Int} {text : List Int} {D : ByteArray} {ad : Option Addr} {kl cap : Nat} (hz : Hid (∀ i, 0 ≤ text.getD i 0 ∧ text.getD i 0 ≤ 255)) (hlen : (text.length : Int) ≤ 1000000) (t : Int) (W : World) (hT : Hid (LoTab W)) :
    Calls Tryz.prog 27 #[.int .i64 t, .agg #[.int .i64 kind, .string (strOfNums text), .int .i64 n, .int .i64 m, .int .i64 a, .int .i64 pos, .string D, .slice ad kl cap]] W fun e W' => e = .returned (dret (if pfit t kind text = true then some text else none)) ∧ Below W.heap.size W W' := by
  obtain ⟨w1, hw1⟩ : ∃ w1, w1 = W.alloc (.cells #[.int .i64 kind, .string (strOfNums text), .int .i64 n, .int .i64 m, .int .i64 a, .int .i64 pos, .string D, .slice ad kl cap] 74) := ⟨_, rfl⟩
  have hb1 : Below W.heap.size W w1 := by rw [hw1]; exact (Below.refl _ _).alloc (Nat.le_refl _) _
  have QF : Hid _ := pfits_any (kind := kind) (n := n) (m := m) (a := a) (pos := pos) (D := D) (ad := ad) (kl := kl) (cap := cap) hz hlen t w1 (show Hid _ from hT.out.below hb1 (Nat.le_refl _))
  have QC : Hid (∀ V, Calls Tryz.prog 16 #[.string (strOfNums text)] V fun e W' => e = .returned (.string (strOfNums text)) ∧ Below V.heap.size V W') := fun V => pnclone_any _ V (by rw [strOfNums_size]; omega)
  have o0 : Hid (Ob w1 W.heap.size #[.int .i64 kind, .string (strOfNums text), .int .i64 n, .int .i64 m, .int .i64 a, .int .i64 pos, .string D, .slice ad kl cap] 74) := by rw [hw1]; exact Ob.new _ _ _
  have HB1 : Hid _ := hb1
  have HW1 : Hid _ := hw1
  obtain ⟨PF, HPF⟩ : ∃ PF, Hid (PF = pfit t kind text) := ⟨_, rfl⟩
  rw [← HPF.out] at QF ⊢
  have ds := dret_some text
  obtain ⟨T, HT⟩ : ∃ T, Hid (T = strOfNums text) := ⟨_, rfl⟩
  rw [← HT.out] at QF QC o0 HW1 ds ⊢
  clear hw1 hb1
  obtain ⟨⟨a0, a1, a2, a3, a4, a5, a6, a7⟩, _, al⟩ := ob8 o0.out
  cases PF with
  | true =>
    rw [if_pos rfl, ds]
    go_enter Tryz.func27, Tryz.ntmps27
    go_upto_region 1 with fail
    rw [← HW1.out]
    clear HW1
    go_wp2_with fail
    refine Calls.mono QF.out ?_
    rintro e w2 ⟨rfl, hb2⟩
    have b1 := (o0.out.below hb2 o0.out.lt).cell 1 rfl
    have bl : W.heap.size < w2.heap.size := Nat.lt_of_lt_of_le o0.out.lt hb2.size
    have HB2 : Hid (Below W.heap.size W w2) := HB1.out.trans (hb2.mono HB1.out.size)
    clear hb2 QF o0 a0 a1 a2 a3 a4 a5 a6 a7 al
    go_wp2_with fail
    refine Calls.mono (QC.out _) ?_
    rintro e w3 ⟨rfl, hb3⟩
    have HB3 : Hid (Below W.heap.size W w3) := HB2.out.trans (hb3.mono HB2.out.size)
    clear hb3
    go_wp2
    go_ret2
    exact ⟨rfl, HB3.out⟩
  | false =>
    rw [if_neg (by decide), dret_none]
    go_enter Tryz.func27, Tryz.ntmps27
    go_upto_region 1 with fail
    rw [← HW1.out]
    clear HW1
    go_wp2_with fail
    refine Calls.mono QF.out ?_
    rintro e w2 ⟨rfl, hb2⟩
    have HB2 : Hid (Below W.heap.size W w2) := HB1.out.trans (hb2.mono HB1.out.size)
    clear hb2 QF o0 a0 a1 a2 a3 a4 a5 a6 a7 al
    go_wp2
    go_ret2
    exact ⟨rfl, HB2.out⟩

theorem tint_minus (s : List Int) (h : (tint s).2.1 = true) : (tint s).1 ≠ 0 := by
  unfold tint at h ⊢
  split
  · rename_i h9
    rw [if_pos h9] at h
    unfold tintd at h ⊢
    split
    · rename_i h8
      rw [if_pos h8] at h
      cases h
    · rename_i h8
      intro h7
      exact h8 (.inr (.inr ⟨rfl, .inl h7⟩))
  · rename_i h9
    rw [if_neg h9] at h
    unfold tintd at h
    split at h <;> cases h

theorem tintd_pos (b : Bool) (d : List Int) : 0 ≤ (tintd b d).1 := by
  unfold tintd
  split
  · exact Int.le_refl _
  · exact (qnum_bd d).1

theorem tint_pos (s : List Int) : 0 ≤ (tint s).1 := by
  unfold tint
  split
  · exact tintd_pos _ _
  · exact tintd_pos _ _

theorem tintd_tb (b : Bool) (d : List Int) : Tb (tintd b d) := by
  unfold tintd
  split
  · exact ⟨Int.le_refl _, by decide⟩
  · exact qnum_bd d

theorem tint_tb (s : List Int) : Tb (tint s) := by
  unfold tint
  split
  · exact tintd_tb _ _
  · exact tintd_tb _ _

theorem with_eq (t below above : Int) (b : Int × Bool) (hb : lbits t = b) (h0 : b.1 ≠ 0) (hab : above = lmost b) (hbe : below = if b.2 = true then lmost b + 1 else 0) (text : List Int) : pwith 20 (tint text) below above = lwithin t text := by
  have h1 := tint_minus text
  have h2 := tint_pos text
  unfold pwith lwithin
  rw [hb]
  generalize tint text = r at h1 h2
  obtain ⟨r1, r2, r3⟩ := r
  obtain ⟨b1, b2⟩ := b
  simp only at h0 h1 h2 hab hbe ⊢
  subst hab
  cases r3 with
  | false => simp
  | true =>
    cases r2 with
    | false => simp [h0]
    | true =>
      have h3 := h1 rfl
      cases b2 with
      | true => simp [h0, hbe]
      | false =>
        simp [h0, hbe]
        omega

theorem pfit_eq (t : Int) (u : Tn) : (if pfit t u.kind u.text = true then some u.text else none) = ldefault t u := by
  obtain ⟨kind, text, n, m, a, pos, doc, ad, cap, kids⟩ := u
  simp only [Tn.kind, Tn.text]
  by_cases k20 : kind = 20
  · subst k20
    by_cases t5 : t = 5
    · subst t5
      have := with_eq 5 2147483648 2147483647 _ rfl (by decide) (by decide) (by decide) text
      simp [pfit, ldefault, lbits, Tn.kind, Tn.text, this]
      congr
    by_cases t17 : t = 17
    · subst t17
      have := with_eq 17 2147483648 2147483647 _ rfl (by decide) (by decide) (by decide) text
      simp [pfit, ldefault, lbits, Tn.kind, Tn.text, this]
      congr
    by_cases t15 : t = 15
    · subst t15
      have := with_eq 15 2147483648 2147483647 _ rfl (by decide) (by decide) (by decide) text
      simp [pfit, ldefault, lbits, Tn.kind, Tn.text, this]
      congr
    by_cases t13 : t = 13
    · subst t13
      have := with_eq 13 0 4294967295 _ rfl (by decide) (by decide) (by decide) text
      simp [pfit, ldefault, lbits, Tn.kind, Tn.text, this]
      congr
    by_cases t7 : t = 7
    · subst t7
      have := with_eq 7 0 4294967295 _ rfl (by decide) (by decide) (by decide) text
      simp [pfit, ldefault, lbits, Tn.kind, Tn.text, this]
      congr
    by_cases t3 : t = 3
    · subst t3
      have := with_eq 3 9223372036854775808 9223372036854775807 _ rfl (by decide) (by decide) (by decide) text
      simp [pfit, ldefault, lbits, Tn.kind, Tn.text, this]
      congr
    by_cases t18 : t = 18
    · subst t18
      have := with_eq 18 9223372036854775808 9223372036854775807 _ rfl (by decide) (by decide) (by decide) text
      simp [pfit, ldefault, lbits, Tn.kind, Tn.text, this]
      congr
    by_cases t16 : t = 16
    · subst t16
      have := with_eq 16 9223372036854775808 9223372036854775807 _ rfl (by decide) (by decide) (by decide) text
      simp [pfit, ldefault, lbits, Tn.kind, Tn.text, this]
      congr
    by_cases t4 : t = 4
    · subst t4
      have := with_eq 4 0 18446744073709551615 _ rfl (by decide) (by decide) (by decide) text
      simp [pfit, ldefault, lbits, Tn.kind, Tn.text, this]
      congr
    by_cases t6 : t = 6
    · subst t6
      have := with_eq 6 0 18446744073709551615 _ rfl (by decide) (by decide) (by decide) text
      simp [pfit, ldefault, lbits, Tn.kind, Tn.text, this]
      congr
    simp [pfit, ldefault, lbits, Tn.kind, Tn.text, t5, t17, t15, t13, t7, t3, t18, t16, t4, t6]
  · have hw : ∀ r b a, pwith kind r b a = false := fun r b a => by unfold pwith; rw [decide_eq_false k20]; rfl
    by_cases t5 : t = 5
    · subst t5
      simp [pfit, ldefault, Tn.kind, Tn.text, k20, hw]
    by_cases t17 : t = 17
    · subst t17
      simp [pfit, ldefault, Tn.kind, Tn.text, k20, hw]
    by_cases t15 : t = 15
    · subst t15
      simp [pfit, ldefault, Tn.kind, Tn.text, k20, hw]
    by_cases t13 : t = 13
    · subst t13
      simp [pfit, ldefault, Tn.kind, Tn.text, k20, hw]
    by_cases t7 : t = 7
    · subst t7
      simp [pfit, ldefault, Tn.kind, Tn.text, k20, hw]
    by_cases t3 : t = 3
    · subst t3
      simp [pfit, ldefault, Tn.kind, Tn.text, k20, hw]
    by_cases t18 : t = 18
    · subst t18
      simp [pfit, ldefault, Tn.kind, Tn.text, k20, hw]
    by_cases t16 : t = 16
    · subst t16
      simp [pfit, ldefault, Tn.kind, Tn.text, k20, hw]
    by_cases t4 : t = 4
    · subst t4
      simp [pfit, ldefault, Tn.kind, Tn.text, k20, hw]
    by_cases t6 : t = 6
    · subst t6
      simp [pfit, ldefault, Tn.kind, Tn.text, k20, hw]
    by_cases t8 : t = 8
    · subst t8
      simp [pfit, ldefault, Tn.kind, Tn.text, k20]
    by_cases t9 : t = 9
    · subst t9
      simp [pfit, ldefault, Tn.kind, Tn.text, k20]
    by_cases t12 : t = 12
    · subst t12
      simp [pfit, ldefault, Tn.kind, Tn.text, k20]
    simp [pfit, ldefault, Tn.kind, Tn.text, k20, hw, t8, t9, t12, t5, t17, t15, t13, t7, t3, t18, t16, t4, t6]
    congr

end Go.Proofs.YtcnjjhdmnagkgaaGreatDoor
