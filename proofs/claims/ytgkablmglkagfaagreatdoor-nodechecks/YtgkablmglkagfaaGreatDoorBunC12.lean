/- Put together by a program out of these texts of mine: TOwn4. -/
import Derived.Test.YtgkablmglkagfaaGreatDoorBunC10

/- The reference's own own. -/
namespace Go.Proofs.YtgkablmglkagfaaGreatDoor
open Go.RowKit
set_option linter.unusedVariables false
set_option linter.unusedSimpArgs false


set_option maxRecDepth 10000 in
set_option maxHeartbeats 8000000 in
theorem own_n10 (n m a pos : Int) (T1 T2 : ByteArray) (ad : Option Addr) (len cap : Nat) (W : World) (D TB NB KB : Bool) (dl : Nat) (hk : i64b 10) (ha : i64b a) (hn : i64b n) (hm : i64b m) (hp : i64b pos) (hpos : ¬ pos < 0) (hd : docFit T2 dl D) (h0 : m = 0) (h1 : n ≠ 0)
    (QD : Hid (∀ V, Calls Tryz.prog 68 #[.int .i64 10] V fun e w' => e = .returned (.bool D) ∧ V = w'))
    (QT : Hid (∀ V, Below W.heap.size W V → Calls Tryz.prog 69 #[.agg #[.int .i64 10, .string T1, .int .i64 n, .int .i64 m, .int .i64 a, .int .i64 pos, .string T2, .slice ad len cap]] V fun e w' => e = .returned (.bool TB) ∧ Below V.heap.size V w'))
    (QN : Hid (∀ V, Below W.heap.size W V → Calls Tryz.prog 70 #[.agg #[.int .i64 10, .string T1, .int .i64 n, .int .i64 m, .int .i64 a, .int .i64 pos, .string T2, .slice ad len cap]] V fun e w' => e = .returned (.bool NB) ∧ Below V.heap.size V w'))
    (QK : Hid (∀ V, Below W.heap.size W V → Calls Tryz.prog 71 #[.agg #[.int .i64 10, .string T1, .int .i64 n, .int .i64 m, .int .i64 a, .int .i64 pos, .string T2, .slice ad len cap]] V fun e w' => e = .returned (.bool KB) ∧ Below V.heap.size V w')) :
    Calls Tryz.prog 52 #[.agg #[.int .i64 10, .string T1, .int .i64 n, .int .i64 m, .int .i64 a, .int .i64 pos, .string T2, .slice ad len cap]] W fun e W' => e = .returned (.bool (decide (0 ≤ a ∧ a ≤ 0) && (TB && (NB && KB)))) ∧ Below W.heap.size W W' := by
  have HBA : Hid (Below W.heap.size W (W.alloc (.cells #[.int .i64 10, .string T1, .int .i64 n, .int .i64 m, .int .i64 a, .int .i64 pos, .string T2, .slice ad len cap] 24))) := (Below.refl _ _).alloc (Nat.le_refl _) _
  obtain ⟨hk0, hk1⟩ := hk
  obtain ⟨ha0, ha1⟩ := ha
  obtain ⟨hn0, hn1⟩ := hn
  obtain ⟨hm0, hm1⟩ := hm
  obtain ⟨hp0, hp1⟩ := hp
  subst h0
  rcases hd with s0 | ⟨s0, rfl, hsz, hdl, hd9, hh, hat⟩
  · rcases (show a < 0 ∨ 0 < a ∨ (0 ≤ a ∧ a ≤ 0) by omega) with h | h | ⟨hA0, hA1⟩
    · rw [decide_eq_false (p := 0 ≤ a ∧ a ≤ 0) (by omega), Bool.false_and]
      go_enter Tryz.func52, Tryz.ntmps52
      go_wp2
      go_ret
      exact ⟨by first | rfl | (simp <;> omega), HBA.out⟩
    · rw [decide_eq_false (p := 0 ≤ a ∧ a ≤ 0) (by omega), Bool.false_and]
      go_enter Tryz.func52, Tryz.ntmps52
      go_wp2
      go_ret
      exact ⟨by first | rfl | (simp <;> omega), HBA.out⟩
    · rw [decide_eq_true (p := 0 ≤ a ∧ a ≤ 0) ⟨hA0, hA1⟩, Bool.true_and]
      go_enter Tryz.func52, Tryz.ntmps52
      go_wp2_with fail
      refine Calls.mono (QT.out _ HBA.out) ?_
      rintro e w1 ⟨rfl, hb1⟩
      have p0 := own_cells hb1 0 _ rfl
      have p1 := own_cells hb1 1 _ rfl
      have p2 := own_cells hb1 2 _ rfl
      have p3 := own_cells hb1 3 _ rfl
      have p4 := own_cells hb1 4 _ rfl
      have p5 := own_cells hb1 5 _ rfl
      have p6 := own_cells hb1 6 _ rfl
      have p7 := own_cells hb1 7 _ rfl
      have HB1 : Hid (Below W.heap.size W w1) := HBA.out.trans (hb1.mono HBA.out.size)
      have HC1 : Hid _ := hb1
      clear hb1
      cases TB with
      | false =>
        go_wp2
        go_ret
        exact ⟨rfl, HB1.out⟩
      | true =>
        go_wp2_with fail
        refine Calls.mono (QN.out _ HB1.out) ?_
        rintro e w2 ⟨rfl, hb2⟩
        have hb12 := HC1.out.trans (hb2.mono HC1.out.size)
        have r0 := own_cells hb12 0 _ rfl
        have r1 := own_cells hb12 1 _ rfl
        have r2 := own_cells hb12 2 _ rfl
        have r3 := own_cells hb12 3 _ rfl
        have r4 := own_cells hb12 4 _ rfl
        have r5 := own_cells hb12 5 _ rfl
        have r6 := own_cells hb12 6 _ rfl
        have r7 := own_cells hb12 7 _ rfl
        have HB2 : Hid (Below W.heap.size W w2) := HB1.out.trans (hb2.mono HB1.out.size)
        clear hb2 hb12 p0 p1 p2 p3 p4 p5 p6 p7
        cases NB with
        | false =>
          go_wp2
          go_ret
          exact ⟨rfl, HB2.out⟩
        | true =>
          go_wp2_with fail
          refine Calls.mono (QK.out _ HB2.out) ?_
          rintro e w3 ⟨rfl, hb3⟩
          go_wp2
          go_ret
          exact ⟨rfl, HB2.out.trans (hb3.mono HB2.out.size)⟩
  · have hcast : (dl : Int) - 1 = ((dl - 1 : Nat) : Int) := by omega
    rcases (show a < 0 ∨ 0 < a ∨ (0 ≤ a ∧ a ≤ 0) by omega) with h | h | ⟨hA0, hA1⟩
    · rw [decide_eq_false (p := 0 ≤ a ∧ a ≤ 0) (by omega), Bool.false_and]
      go_enter Tryz.func52, Tryz.ntmps52
      go_wp2_with fail
      refine Calls.mono (QD.out _) ?_
      rintro e w9 ⟨rfl, rfl⟩
      go_wp2
      go_ret
      exact ⟨by first | rfl | (simp <;> omega), HBA.out⟩
    · rw [decide_eq_false (p := 0 ≤ a ∧ a ≤ 0) (by omega), Bool.false_and]
      go_enter Tryz.func52, Tryz.ntmps52
      go_wp2_with fail
      refine Calls.mono (QD.out _) ?_
      rintro e w9 ⟨rfl, rfl⟩
      go_wp2
      go_ret
      exact ⟨by first | rfl | (simp <;> omega), HBA.out⟩
    · rw [decide_eq_true (p := 0 ≤ a ∧ a ≤ 0) ⟨hA0, hA1⟩, Bool.true_and]
      go_enter Tryz.func52, Tryz.ntmps52
      go_wp2_with fail
      refine Calls.mono (QD.out _) ?_
      rintro e w9 ⟨rfl, rfl⟩
      go_wp2_with fail
      refine Calls.mono (QT.out _ HBA.out) ?_
      rintro e w1 ⟨rfl, hb1⟩
      have p0 := own_cells hb1 0 _ rfl
      have p1 := own_cells hb1 1 _ rfl
      have p2 := own_cells hb1 2 _ rfl
      have p3 := own_cells hb1 3 _ rfl
      have p4 := own_cells hb1 4 _ rfl
      have p5 := own_cells hb1 5 _ rfl
      have p6 := own_cells hb1 6 _ rfl
      have p7 := own_cells hb1 7 _ rfl
      have HB1 : Hid (Below W.heap.size W w1) := HBA.out.trans (hb1.mono HBA.out.size)
      have HC1 : Hid _ := hb1
      clear hb1
      cases TB with
      | false =>
        go_wp2
        go_ret
        exact ⟨rfl, HB1.out⟩
      | true =>
        go_wp2_with fail
        refine Calls.mono (QN.out _ HB1.out) ?_
        rintro e w2 ⟨rfl, hb2⟩
        have hb12 := HC1.out.trans (hb2.mono HC1.out.size)
        have r0 := own_cells hb12 0 _ rfl
        have r1 := own_cells hb12 1 _ rfl
        have r2 := own_cells hb12 2 _ rfl
        have r3 := own_cells hb12 3 _ rfl
        have r4 := own_cells hb12 4 _ rfl
        have r5 := own_cells hb12 5 _ rfl
        have r6 := own_cells hb12 6 _ rfl
        have r7 := own_cells hb12 7 _ rfl
        have HB2 : Hid (Below W.heap.size W w2) := HB1.out.trans (hb2.mono HB1.out.size)
        clear hb2 hb12 p0 p1 p2 p3 p4 p5 p6 p7
        cases NB with
        | false =>
          go_wp2
          go_ret
          exact ⟨rfl, HB2.out⟩
        | true =>
          go_wp2_with fail
          refine Calls.mono (QK.out _ HB2.out) ?_
          rintro e w3 ⟨rfl, hb3⟩
          go_wp2
          go_ret
          exact ⟨rfl, HB2.out.trans (hb3.mono HB2.out.size)⟩

set_option maxRecDepth 10000 in
set_option maxHeartbeats 8000000 in
theorem own_n16 (n m a pos : Int) (T1 T2 : ByteArray) (ad : Option Addr) (len cap : Nat) (W : World) (D TB NB KB : Bool) (dl : Nat) (hk : i64b 16) (ha : i64b a) (hn : i64b n) (hm : i64b m) (hp : i64b pos) (hpos : ¬ pos < 0) (hd : docFit T2 dl D) (h0 : m = 0) (h1 : n ≠ 0)
    (QD : Hid (∀ V, Calls Tryz.prog 68 #[.int .i64 16] V fun e w' => e = .returned (.bool D) ∧ V = w'))
    (QT : Hid (∀ V, Below W.heap.size W V → Calls Tryz.prog 69 #[.agg #[.int .i64 16, .string T1, .int .i64 n, .int .i64 m, .int .i64 a, .int .i64 pos, .string T2, .slice ad len cap]] V fun e w' => e = .returned (.bool TB) ∧ Below V.heap.size V w'))
    (QN : Hid (∀ V, Below W.heap.size W V → Calls Tryz.prog 70 #[.agg #[.int .i64 16, .string T1, .int .i64 n, .int .i64 m, .int .i64 a, .int .i64 pos, .string T2, .slice ad len cap]] V fun e w' => e = .returned (.bool NB) ∧ Below V.heap.size V w'))
    (QK : Hid (∀ V, Below W.heap.size W V → Calls Tryz.prog 71 #[.agg #[.int .i64 16, .string T1, .int .i64 n, .int .i64 m, .int .i64 a, .int .i64 pos, .string T2, .slice ad len cap]] V fun e w' => e = .returned (.bool KB) ∧ Below V.heap.size V w')) :
    Calls Tryz.prog 52 #[.agg #[.int .i64 16, .string T1, .int .i64 n, .int .i64 m, .int .i64 a, .int .i64 pos, .string T2, .slice ad len cap]] W fun e W' => e = .returned (.bool (decide (0 ≤ a ∧ a ≤ 0) && (TB && (NB && KB)))) ∧ Below W.heap.size W W' := by
  have HBA : Hid (Below W.heap.size W (W.alloc (.cells #[.int .i64 16, .string T1, .int .i64 n, .int .i64 m, .int .i64 a, .int .i64 pos, .string T2, .slice ad len cap] 24))) := (Below.refl _ _).alloc (Nat.le_refl _) _
  obtain ⟨hk0, hk1⟩ := hk
  obtain ⟨ha0, ha1⟩ := ha
  obtain ⟨hn0, hn1⟩ := hn
  obtain ⟨hm0, hm1⟩ := hm
  obtain ⟨hp0, hp1⟩ := hp
  subst h0
  rcases hd with s0 | ⟨s0, rfl, hsz, hdl, hd9, hh, hat⟩
  · rcases (show a < 0 ∨ 0 < a ∨ (0 ≤ a ∧ a ≤ 0) by omega) with h | h | ⟨hA0, hA1⟩
    · rw [decide_eq_false (p := 0 ≤ a ∧ a ≤ 0) (by omega), Bool.false_and]
      go_enter Tryz.func52, Tryz.ntmps52
      go_wp2
      go_ret
      exact ⟨by first | rfl | (simp <;> omega), HBA.out⟩
    · rw [decide_eq_false (p := 0 ≤ a ∧ a ≤ 0) (by omega), Bool.false_and]
      go_enter Tryz.func52, Tryz.ntmps52
      go_wp2
      go_ret
      exact ⟨by first | rfl | (simp <;> omega), HBA.out⟩
    · rw [decide_eq_true (p := 0 ≤ a ∧ a ≤ 0) ⟨hA0, hA1⟩, Bool.true_and]
      go_enter Tryz.func52, Tryz.ntmps52
      go_wp2_with fail
      refine Calls.mono (QT.out _ HBA.out) ?_
      rintro e w1 ⟨rfl, hb1⟩
      have p0 := own_cells hb1 0 _ rfl
      have p1 := own_cells hb1 1 _ rfl
      have p2 := own_cells hb1 2 _ rfl
      have p3 := own_cells hb1 3 _ rfl
      have p4 := own_cells hb1 4 _ rfl
      have p5 := own_cells hb1 5 _ rfl
      have p6 := own_cells hb1 6 _ rfl
      have p7 := own_cells hb1 7 _ rfl
      have HB1 : Hid (Below W.heap.size W w1) := HBA.out.trans (hb1.mono HBA.out.size)
      have HC1 : Hid _ := hb1
      clear hb1
      cases TB with
      | false =>
        go_wp2
        go_ret
        exact ⟨rfl, HB1.out⟩
      | true =>
        go_wp2_with fail
        refine Calls.mono (QN.out _ HB1.out) ?_
        rintro e w2 ⟨rfl, hb2⟩
        have hb12 := HC1.out.trans (hb2.mono HC1.out.size)
        have r0 := own_cells hb12 0 _ rfl
        have r1 := own_cells hb12 1 _ rfl
        have r2 := own_cells hb12 2 _ rfl
        have r3 := own_cells hb12 3 _ rfl
        have r4 := own_cells hb12 4 _ rfl
        have r5 := own_cells hb12 5 _ rfl
        have r6 := own_cells hb12 6 _ rfl
        have r7 := own_cells hb12 7 _ rfl
        have HB2 : Hid (Below W.heap.size W w2) := HB1.out.trans (hb2.mono HB1.out.size)
        clear hb2 hb12 p0 p1 p2 p3 p4 p5 p6 p7
        cases NB with
        | false =>
          go_wp2
          go_ret
          exact ⟨rfl, HB2.out⟩
        | true =>
          go_wp2_with fail
          refine Calls.mono (QK.out _ HB2.out) ?_
          rintro e w3 ⟨rfl, hb3⟩
          go_wp2
          go_ret
          exact ⟨rfl, HB2.out.trans (hb3.mono HB2.out.size)⟩
  · have hcast : (dl : Int) - 1 = ((dl - 1 : Nat) : Int) := by omega
    rcases (show a < 0 ∨ 0 < a ∨ (0 ≤ a ∧ a ≤ 0) by omega) with h | h | ⟨hA0, hA1⟩
    · rw [decide_eq_false (p := 0 ≤ a ∧ a ≤ 0) (by omega), Bool.false_and]
      go_enter Tryz.func52, Tryz.ntmps52
      go_wp2_with fail
      refine Calls.mono (QD.out _) ?_
      rintro e w9 ⟨rfl, rfl⟩
      go_wp2
      go_ret
      exact ⟨by first | rfl | (simp <;> omega), HBA.out⟩
    · rw [decide_eq_false (p := 0 ≤ a ∧ a ≤ 0) (by omega), Bool.false_and]
      go_enter Tryz.func52, Tryz.ntmps52
      go_wp2_with fail
      refine Calls.mono (QD.out _) ?_
      rintro e w9 ⟨rfl, rfl⟩
      go_wp2
      go_ret
      exact ⟨by first | rfl | (simp <;> omega), HBA.out⟩
    · rw [decide_eq_true (p := 0 ≤ a ∧ a ≤ 0) ⟨hA0, hA1⟩, Bool.true_and]
      go_enter Tryz.func52, Tryz.ntmps52
      go_wp2_with fail
      refine Calls.mono (QD.out _) ?_
      rintro e w9 ⟨rfl, rfl⟩
      go_wp2_with fail
      refine Calls.mono (QT.out _ HBA.out) ?_
      rintro e w1 ⟨rfl, hb1⟩
      have p0 := own_cells hb1 0 _ rfl
      have p1 := own_cells hb1 1 _ rfl
      have p2 := own_cells hb1 2 _ rfl
      have p3 := own_cells hb1 3 _ rfl
      have p4 := own_cells hb1 4 _ rfl
      have p5 := own_cells hb1 5 _ rfl
      have p6 := own_cells hb1 6 _ rfl
      have p7 := own_cells hb1 7 _ rfl
      have HB1 : Hid (Below W.heap.size W w1) := HBA.out.trans (hb1.mono HBA.out.size)
      have HC1 : Hid _ := hb1
      clear hb1
      cases TB with
      | false =>
        go_wp2
        go_ret
        exact ⟨rfl, HB1.out⟩
      | true =>
        go_wp2_with fail
        refine Calls.mono (QN.out _ HB1.out) ?_
        rintro e w2 ⟨rfl, hb2⟩
        have hb12 := HC1.out.trans (hb2.mono HC1.out.size)
        have r0 := own_cells hb12 0 _ rfl
        have r1 := own_cells hb12 1 _ rfl
        have r2 := own_cells hb12 2 _ rfl
        have r3 := own_cells hb12 3 _ rfl
        have r4 := own_cells hb12 4 _ rfl
        have r5 := own_cells hb12 5 _ rfl
        have r6 := own_cells hb12 6 _ rfl
        have r7 := own_cells hb12 7 _ rfl
        have HB2 : Hid (Below W.heap.size W w2) := HB1.out.trans (hb2.mono HB1.out.size)
        clear hb2 hb12 p0 p1 p2 p3 p4 p5 p6 p7
        cases NB with
        | false =>
          go_wp2
          go_ret
          exact ⟨rfl, HB2.out⟩
        | true =>
          go_wp2_with fail
          refine Calls.mono (QK.out _ HB2.out) ?_
          rintro e w3 ⟨rfl, hb3⟩
          go_wp2
          go_ret
          exact ⟨rfl, HB2.out.trans (hb3.mono HB2.out.size)⟩

set_option maxRecDepth 10000 in
set_option maxHeartbeats 8000000 in
theorem own_14m (n m a pos : Int) (T1 T2 : ByteArray) (ad : Option Addr) (len cap : Nat) (W : World) (D TB NB KB : Bool) (dl : Nat) (hk : i64b 14) (ha : i64b a) (hn : i64b n) (hm : i64b m) (hp : i64b pos) (hpos : ¬ pos < 0) (hd : docFit T2 dl D) (h0 : m ≠ 0) (h1 : n = 0)
    (QD : Hid (∀ V, Calls Tryz.prog 68 #[.int .i64 14] V fun e w' => e = .returned (.bool D) ∧ V = w'))
    (QT : Hid (∀ V, Below W.heap.size W V → Calls Tryz.prog 69 #[.agg #[.int .i64 14, .string T1, .int .i64 n, .int .i64 m, .int .i64 a, .int .i64 pos, .string T2, .slice ad len cap]] V fun e w' => e = .returned (.bool TB) ∧ Below V.heap.size V w'))
    (QN : Hid (∀ V, Below W.heap.size W V → Calls Tryz.prog 70 #[.agg #[.int .i64 14, .string T1, .int .i64 n, .int .i64 m, .int .i64 a, .int .i64 pos, .string T2, .slice ad len cap]] V fun e w' => e = .returned (.bool NB) ∧ Below V.heap.size V w'))
    (QK : Hid (∀ V, Below W.heap.size W V → Calls Tryz.prog 71 #[.agg #[.int .i64 14, .string T1, .int .i64 n, .int .i64 m, .int .i64 a, .int .i64 pos, .string T2, .slice ad len cap]] V fun e w' => e = .returned (.bool KB) ∧ Below V.heap.size V w')) :
    Calls Tryz.prog 52 #[.agg #[.int .i64 14, .string T1, .int .i64 n, .int .i64 m, .int .i64 a, .int .i64 pos, .string T2, .slice ad len cap]] W fun e W' => e = .returned (.bool (decide (0 ≤ a ∧ a ≤ 0) && (TB && (NB && KB)))) ∧ Below W.heap.size W W' := by
  have HBA : Hid (Below W.heap.size W (W.alloc (.cells #[.int .i64 14, .string T1, .int .i64 n, .int .i64 m, .int .i64 a, .int .i64 pos, .string T2, .slice ad len cap] 24))) := (Below.refl _ _).alloc (Nat.le_refl _) _
  obtain ⟨hk0, hk1⟩ := hk
  obtain ⟨ha0, ha1⟩ := ha
  obtain ⟨hn0, hn1⟩ := hn
  obtain ⟨hm0, hm1⟩ := hm
  obtain ⟨hp0, hp1⟩ := hp
  subst h1
  rcases hd with s0 | ⟨s0, rfl, hsz, hdl, hd9, hh, hat⟩
  · rcases (show a < 0 ∨ 0 < a ∨ (0 ≤ a ∧ a ≤ 0) by omega) with h | h | ⟨hA0, hA1⟩
    · rw [decide_eq_false (p := 0 ≤ a ∧ a ≤ 0) (by omega), Bool.false_and]
      go_enter Tryz.func52, Tryz.ntmps52
      go_wp2
      go_ret
      exact ⟨by first | rfl | (simp <;> omega), HBA.out⟩
    · rw [decide_eq_false (p := 0 ≤ a ∧ a ≤ 0) (by omega), Bool.false_and]
      go_enter Tryz.func52, Tryz.ntmps52
      go_wp2
      go_ret
      exact ⟨by first | rfl | (simp <;> omega), HBA.out⟩
    · rw [decide_eq_true (p := 0 ≤ a ∧ a ≤ 0) ⟨hA0, hA1⟩, Bool.true_and]
      go_enter Tryz.func52, Tryz.ntmps52
      go_wp2_with fail
      refine Calls.mono (QT.out _ HBA.out) ?_
      rintro e w1 ⟨rfl, hb1⟩
      have p0 := own_cells hb1 0 _ rfl
      have p1 := own_cells hb1 1 _ rfl
      have p2 := own_cells hb1 2 _ rfl
      have p3 := own_cells hb1 3 _ rfl
      have p4 := own_cells hb1 4 _ rfl
      have p5 := own_cells hb1 5 _ rfl
      have p6 := own_cells hb1 6 _ rfl
      have p7 := own_cells hb1 7 _ rfl
      have HB1 : Hid (Below W.heap.size W w1) := HBA.out.trans (hb1.mono HBA.out.size)
      have HC1 : Hid _ := hb1
      clear hb1
      cases TB with
      | false =>
        go_wp2
        go_ret
        exact ⟨rfl, HB1.out⟩
      | true =>
        go_wp2_with fail
        refine Calls.mono (QN.out _ HB1.out) ?_
        rintro e w2 ⟨rfl, hb2⟩
        have hb12 := HC1.out.trans (hb2.mono HC1.out.size)
        have r0 := own_cells hb12 0 _ rfl
        have r1 := own_cells hb12 1 _ rfl
        have r2 := own_cells hb12 2 _ rfl
        have r3 := own_cells hb12 3 _ rfl
        have r4 := own_cells hb12 4 _ rfl
        have r5 := own_cells hb12 5 _ rfl
        have r6 := own_cells hb12 6 _ rfl
        have r7 := own_cells hb12 7 _ rfl
        have HB2 : Hid (Below W.heap.size W w2) := HB1.out.trans (hb2.mono HB1.out.size)
        clear hb2 hb12 p0 p1 p2 p3 p4 p5 p6 p7
        cases NB with
        | false =>
          go_wp2
          go_ret
          exact ⟨rfl, HB2.out⟩
        | true =>
          go_wp2_with fail
          refine Calls.mono (QK.out _ HB2.out) ?_
          rintro e w3 ⟨rfl, hb3⟩
          go_wp2
          go_ret
          exact ⟨rfl, HB2.out.trans (hb3.mono HB2.out.size)⟩
  · have hcast : (dl : Int) - 1 = ((dl - 1 : Nat) : Int) := by omega
    rcases (show a < 0 ∨ 0 < a ∨ (0 ≤ a ∧ a ≤ 0) by omega) with h | h | ⟨hA0, hA1⟩
    · rw [decide_eq_false (p := 0 ≤ a ∧ a ≤ 0) (by omega), Bool.false_and]
      go_enter Tryz.func52, Tryz.ntmps52
      go_wp2_with fail
      refine Calls.mono (QD.out _) ?_
      rintro e w9 ⟨rfl, rfl⟩
      go_wp2
      go_ret
      exact ⟨by first | rfl | (simp <;> omega), HBA.out⟩
    · rw [decide_eq_false (p := 0 ≤ a ∧ a ≤ 0) (by omega), Bool.false_and]
      go_enter Tryz.func52, Tryz.ntmps52
      go_wp2_with fail
      refine Calls.mono (QD.out _) ?_
      rintro e w9 ⟨rfl, rfl⟩
      go_wp2
      go_ret
      exact ⟨by first | rfl | (simp <;> omega), HBA.out⟩
    · rw [decide_eq_true (p := 0 ≤ a ∧ a ≤ 0) ⟨hA0, hA1⟩, Bool.true_and]
      go_enter Tryz.func52, Tryz.ntmps52
      go_wp2_with fail
      refine Calls.mono (QD.out _) ?_
      rintro e w9 ⟨rfl, rfl⟩
      go_wp2_with fail
      refine Calls.mono (QT.out _ HBA.out) ?_
      rintro e w1 ⟨rfl, hb1⟩
      have p0 := own_cells hb1 0 _ rfl
      have p1 := own_cells hb1 1 _ rfl
      have p2 := own_cells hb1 2 _ rfl
      have p3 := own_cells hb1 3 _ rfl
      have p4 := own_cells hb1 4 _ rfl
      have p5 := own_cells hb1 5 _ rfl
      have p6 := own_cells hb1 6 _ rfl
      have p7 := own_cells hb1 7 _ rfl
      have HB1 : Hid (Below W.heap.size W w1) := HBA.out.trans (hb1.mono HBA.out.size)
      have HC1 : Hid _ := hb1
      clear hb1
      cases TB with
      | false =>
        go_wp2
        go_ret
        exact ⟨rfl, HB1.out⟩
      | true =>
        go_wp2_with fail
        refine Calls.mono (QN.out _ HB1.out) ?_
        rintro e w2 ⟨rfl, hb2⟩
        have hb12 := HC1.out.trans (hb2.mono HC1.out.size)
        have r0 := own_cells hb12 0 _ rfl
        have r1 := own_cells hb12 1 _ rfl
        have r2 := own_cells hb12 2 _ rfl
        have r3 := own_cells hb12 3 _ rfl
        have r4 := own_cells hb12 4 _ rfl
        have r5 := own_cells hb12 5 _ rfl
        have r6 := own_cells hb12 6 _ rfl
        have r7 := own_cells hb12 7 _ rfl
        have HB2 : Hid (Below W.heap.size W w2) := HB1.out.trans (hb2.mono HB1.out.size)
        clear hb2 hb12 p0 p1 p2 p3 p4 p5 p6 p7
        cases NB with
        | false =>
          go_wp2
          go_ret
          exact ⟨rfl, HB2.out⟩
        | true =>
          go_wp2_with fail
          refine Calls.mono (QK.out _ HB2.out) ?_
          rintro e w3 ⟨rfl, hb3⟩
          go_wp2
          go_ret
          exact ⟨rfl, HB2.out.trans (hb3.mono HB2.out.size)⟩

set_option maxRecDepth 10000 in
set_option maxHeartbeats 8000000 in
theorem own_14mn (n m a pos : Int) (T1 T2 : ByteArray) (ad : Option Addr) (len cap : Nat) (W : World) (D TB NB KB : Bool) (dl : Nat) (hk : i64b 14) (ha : i64b a) (hn : i64b n) (hm : i64b m) (hp : i64b pos) (hpos : ¬ pos < 0) (hd : docFit T2 dl D) (h0 : m ≠ 0) (h1 : n ≠ 0)
    (QD : Hid (∀ V, Calls Tryz.prog 68 #[.int .i64 14] V fun e w' => e = .returned (.bool D) ∧ V = w'))
    (QT : Hid (∀ V, Below W.heap.size W V → Calls Tryz.prog 69 #[.agg #[.int .i64 14, .string T1, .int .i64 n, .int .i64 m, .int .i64 a, .int .i64 pos, .string T2, .slice ad len cap]] V fun e w' => e = .returned (.bool TB) ∧ Below V.heap.size V w'))
    (QN : Hid (∀ V, Below W.heap.size W V → Calls Tryz.prog 70 #[.agg #[.int .i64 14, .string T1, .int .i64 n, .int .i64 m, .int .i64 a, .int .i64 pos, .string T2, .slice ad len cap]] V fun e w' => e = .returned (.bool NB) ∧ Below V.heap.size V w'))
    (QK : Hid (∀ V, Below W.heap.size W V → Calls Tryz.prog 71 #[.agg #[.int .i64 14, .string T1, .int .i64 n, .int .i64 m, .int .i64 a, .int .i64 pos, .string T2, .slice ad len cap]] V fun e w' => e = .returned (.bool KB) ∧ Below V.heap.size V w')) :
    Calls Tryz.prog 52 #[.agg #[.int .i64 14, .string T1, .int .i64 n, .int .i64 m, .int .i64 a, .int .i64 pos, .string T2, .slice ad len cap]] W fun e W' => e = .returned (.bool (decide (0 ≤ a ∧ a ≤ 0) && (TB && (NB && KB)))) ∧ Below W.heap.size W W' := by
  have HBA : Hid (Below W.heap.size W (W.alloc (.cells #[.int .i64 14, .string T1, .int .i64 n, .int .i64 m, .int .i64 a, .int .i64 pos, .string T2, .slice ad len cap] 24))) := (Below.refl _ _).alloc (Nat.le_refl _) _
  obtain ⟨hk0, hk1⟩ := hk
  obtain ⟨ha0, ha1⟩ := ha
  obtain ⟨hn0, hn1⟩ := hn
  obtain ⟨hm0, hm1⟩ := hm
  obtain ⟨hp0, hp1⟩ := hp
  rcases hd with s0 | ⟨s0, rfl, hsz, hdl, hd9, hh, hat⟩
  · rcases (show a < 0 ∨ 0 < a ∨ (0 ≤ a ∧ a ≤ 0) by omega) with h | h | ⟨hA0, hA1⟩
    · rw [decide_eq_false (p := 0 ≤ a ∧ a ≤ 0) (by omega), Bool.false_and]
      go_enter Tryz.func52, Tryz.ntmps52
      go_wp2
      go_ret
      exact ⟨by first | rfl | (simp <;> omega), HBA.out⟩
    · rw [decide_eq_false (p := 0 ≤ a ∧ a ≤ 0) (by omega), Bool.false_and]
      go_enter Tryz.func52, Tryz.ntmps52
      go_wp2
      go_ret
      exact ⟨by first | rfl | (simp <;> omega), HBA.out⟩
    · rw [decide_eq_true (p := 0 ≤ a ∧ a ≤ 0) ⟨hA0, hA1⟩, Bool.true_and]
      go_enter Tryz.func52, Tryz.ntmps52
      go_wp2_with fail
      refine Calls.mono (QT.out _ HBA.out) ?_
      rintro e w1 ⟨rfl, hb1⟩
      have p0 := own_cells hb1 0 _ rfl
      have p1 := own_cells hb1 1 _ rfl
      have p2 := own_cells hb1 2 _ rfl
      have p3 := own_cells hb1 3 _ rfl
      have p4 := own_cells hb1 4 _ rfl
      have p5 := own_cells hb1 5 _ rfl
      have p6 := own_cells hb1 6 _ rfl
      have p7 := own_cells hb1 7 _ rfl
      have HB1 : Hid (Below W.heap.size W w1) := HBA.out.trans (hb1.mono HBA.out.size)
      have HC1 : Hid _ := hb1
      clear hb1
      cases TB with
      | false =>
        go_wp2
        go_ret
        exact ⟨rfl, HB1.out⟩
      | true =>
        go_wp2_with fail
        refine Calls.mono (QN.out _ HB1.out) ?_
        rintro e w2 ⟨rfl, hb2⟩
        have hb12 := HC1.out.trans (hb2.mono HC1.out.size)
        have r0 := own_cells hb12 0 _ rfl
        have r1 := own_cells hb12 1 _ rfl
        have r2 := own_cells hb12 2 _ rfl
        have r3 := own_cells hb12 3 _ rfl
        have r4 := own_cells hb12 4 _ rfl
        have r5 := own_cells hb12 5 _ rfl
        have r6 := own_cells hb12 6 _ rfl
        have r7 := own_cells hb12 7 _ rfl
        have HB2 : Hid (Below W.heap.size W w2) := HB1.out.trans (hb2.mono HB1.out.size)
        clear hb2 hb12 p0 p1 p2 p3 p4 p5 p6 p7
        cases NB with
        | false =>
          go_wp2
          go_ret
          exact ⟨rfl, HB2.out⟩
        | true =>
          go_wp2_with fail
          refine Calls.mono (QK.out _ HB2.out) ?_
          rintro e w3 ⟨rfl, hb3⟩
          go_wp2
          go_ret
          exact ⟨rfl, HB2.out.trans (hb3.mono HB2.out.size)⟩
  · have hcast : (dl : Int) - 1 = ((dl - 1 : Nat) : Int) := by omega
    rcases (show a < 0 ∨ 0 < a ∨ (0 ≤ a ∧ a ≤ 0) by omega) with h | h | ⟨hA0, hA1⟩
    · rw [decide_eq_false (p := 0 ≤ a ∧ a ≤ 0) (by omega), Bool.false_and]
      go_enter Tryz.func52, Tryz.ntmps52
      go_wp2_with fail
      refine Calls.mono (QD.out _) ?_
      rintro e w9 ⟨rfl, rfl⟩
      go_wp2
      go_ret
      exact ⟨by first | rfl | (simp <;> omega), HBA.out⟩
    · rw [decide_eq_false (p := 0 ≤ a ∧ a ≤ 0) (by omega), Bool.false_and]
      go_enter Tryz.func52, Tryz.ntmps52
      go_wp2_with fail
      refine Calls.mono (QD.out _) ?_
      rintro e w9 ⟨rfl, rfl⟩
      go_wp2
      go_ret
      exact ⟨by first | rfl | (simp <;> omega), HBA.out⟩
    · rw [decide_eq_true (p := 0 ≤ a ∧ a ≤ 0) ⟨hA0, hA1⟩, Bool.true_and]
      go_enter Tryz.func52, Tryz.ntmps52
      go_wp2_with fail
      refine Calls.mono (QD.out _) ?_
      rintro e w9 ⟨rfl, rfl⟩
      go_wp2_with fail
      refine Calls.mono (QT.out _ HBA.out) ?_
      rintro e w1 ⟨rfl, hb1⟩
      have p0 := own_cells hb1 0 _ rfl
      have p1 := own_cells hb1 1 _ rfl
      have p2 := own_cells hb1 2 _ rfl
      have p3 := own_cells hb1 3 _ rfl
      have p4 := own_cells hb1 4 _ rfl
      have p5 := own_cells hb1 5 _ rfl
      have p6 := own_cells hb1 6 _ rfl
      have p7 := own_cells hb1 7 _ rfl
      have HB1 : Hid (Below W.heap.size W w1) := HBA.out.trans (hb1.mono HBA.out.size)
      have HC1 : Hid _ := hb1
      clear hb1
      cases TB with
      | false =>
        go_wp2
        go_ret
        exact ⟨rfl, HB1.out⟩
      | true =>
        go_wp2_with fail
        refine Calls.mono (QN.out _ HB1.out) ?_
        rintro e w2 ⟨rfl, hb2⟩
        have hb12 := HC1.out.trans (hb2.mono HC1.out.size)
        have r0 := own_cells hb12 0 _ rfl
        have r1 := own_cells hb12 1 _ rfl
        have r2 := own_cells hb12 2 _ rfl
        have r3 := own_cells hb12 3 _ rfl
        have r4 := own_cells hb12 4 _ rfl
        have r5 := own_cells hb12 5 _ rfl
        have r6 := own_cells hb12 6 _ rfl
        have r7 := own_cells hb12 7 _ rfl
        have HB2 : Hid (Below W.heap.size W w2) := HB1.out.trans (hb2.mono HB1.out.size)
        clear hb2 hb12 p0 p1 p2 p3 p4 p5 p6 p7
        cases NB with
        | false =>
          go_wp2
          go_ret
          exact ⟨rfl, HB2.out⟩
        | true =>
          go_wp2_with fail
          refine Calls.mono (QK.out _ HB2.out) ?_
          rintro e w3 ⟨rfl, hb3⟩
          go_wp2
          go_ret
          exact ⟨rfl, HB2.out.trans (hb3.mono HB2.out.size)⟩

end Go.Proofs.YtgkablmglkagfaaGreatDoor
