/- The contract of the document's own answer on the character that bytes begin with (the reference's Rune), over the turned text. -/
import Derived.Test.YtkomckalcikkoaaDoorURef
import Derived.Deep.QuietTactic
import Derived.BigQuiet
namespace Go.Proofs.YtkomckalcikkoaaDoor
open Go.RowKit

set_option maxHeartbeats 400000 in
theorem rrune_none (a : Option Addr) (cap : Nat) (w : World) :
    Calls Tryd.prog 11 #[.slice a 0 cap] w fun e w' => e = .returned (.tuple #[.int .i32 (-1), .int .i64 0]) ∧ w = w' := by
  go_enter Tryd.func11, Tryd.ntmps11
  go_wp2
  refine wp_loop_rounds 1 ?_
  rw [rounds_succ]
  go_wp2
  go_ret2
  exact ⟨rfl, rfl⟩

theorem rchar_is {v : Bool} {n : Int} (h : isCh n = v) (w : World) : Calls Tryd.prog 18 #[.int .i64 n] w fun e w' => e = .returned (.bool v) ∧ w' = w :=
  (rchar_any n w).mono fun _ _ ⟨he, hw⟩ => ⟨by rw [he, h], hw.symm⟩

theorem bs_drew {w : World} {a : Option Addr} {len cap : Nat} {zs : List Int} (h : Bs w a len cap zs) (n : Nat) : Bs (w.drewN n) a len cap zs := h


theorem Bs.head {w : World} {a : Option Addr} {len cap : Nat} {zs : List Int} (h : Bs w a len cap zs) (k : Nat) (hk : k ≤ len) : Bs w a k cap (zs.take k) := by
  obtain ⟨h1, h2, h3, h4, h5, h6⟩ := h
  refine ⟨by rw [List.length_take]; omega, by omega, getD_bd (fun c hc => mem_bd h3 c (List.mem_of_mem_take hc)), by omega, h5, fun hp => ?_⟩
  obtain ⟨b, off, e, hlt, hc⟩ := h6 (by omega)
  refine ⟨b, off, e, hlt, fun i hi => ?_⟩
  rw [hc i (by omega)]
  simp [List.getD, hi]

/-- None of fewer bytes. -/
def nof (k : Nat) (len a b c d : Int) : Prop := (1 < k → ¬ fit1 len a) ∧ (2 < k → ¬ fit2 len a b) ∧ (3 < k → ¬ fit3 len a b c) ∧ (4 < k → ¬ fit4 len a b c d)

theorem ur_none {k : Nat} {len a b c d : Int} (h : nof k len a b c d) (hk : 4 < k ∨ len < k) : ur len a b c d = (-1, 0) := by
  obtain ⟨h1, h2, h3, h4⟩ := h
  have n1 : ¬ fit1 len a := fun f => by by_cases e : 1 < k; exact h1 e f; exact absurd f.1 (by omega)
  have n2 : ¬ fit2 len a b := fun f => by by_cases e : 2 < k; exact h2 e f; exact absurd f.1 (by omega)
  have n3 : ¬ fit3 len a b c := fun f => by by_cases e : 3 < k; exact h3 e f; exact absurd f.1 (by omega)
  have n4 : ¬ fit4 len a b c d := fun f => by by_cases e : 4 < k; exact h4 e f; exact absurd f.1 (by omega)
  rw [ur, if_neg n1, if_neg n2, if_neg n3, if_neg n4]

theorem nof_2 {len a b c d : Int} (_h : nof 1 len a b c d) (f : ¬ fit1 len a) : nof 2 len a b c d := ⟨fun _ => f, fun h => absurd h (by omega), fun h => absurd h (by omega), fun h => absurd h (by omega)⟩
theorem nof_3 {len a b c d : Int} (h : nof 2 len a b c d) (f : ¬ fit2 len a b) : nof 3 len a b c d := ⟨fun _ => h.1 (by omega), fun _ => f, fun h => absurd h (by omega), fun h => absurd h (by omega)⟩
theorem nof_4 {len a b c d : Int} (h : nof 3 len a b c d) (f : ¬ fit3 len a b c) : nof 4 len a b c d := ⟨fun _ => h.1 (by omega), fun _ => h.2.1 (by omega), fun _ => f, fun h => absurd h (by omega)⟩
theorem nof_5 {len a b c d : Int} (h : nof 4 len a b c d) (f : ¬ fit4 len a b c d) : nof 5 len a b c d := ⟨fun _ => h.1 (by omega), fun _ => h.2.1 (by omega), fun _ => h.2.2.1 (by omega), fun _ => f⟩
theorem ur_1 {len a b c d : Int} (_h : nof 1 len a b c d) (f : fit1 len a) : ur len a b c d = (a, 1) := by rw [ur, if_pos f]
theorem ur_2 {len a b c d : Int} (h : nof 2 len a b c d) (f : fit2 len a b) : ur len a b c d = (un2 a b, 2) := by rw [ur, if_neg (h.1 (by omega)), if_pos f]
theorem ur_3 {len a b c d : Int} (h : nof 3 len a b c d) (f : fit3 len a b c) : ur len a b c d = (un3 a b c, 3) := by rw [ur, if_neg (h.1 (by omega)), if_neg (h.2.1 (by omega)), if_pos f]
theorem ur_4 {len a b c d : Int} (h : nof 4 len a b c d) (f : fit4 len a b c d) : ur len a b c d = (un4 a b c d, 4) := by rw [ur, if_neg (h.1 (by omega)), if_neg (h.2.1 (by omega)), if_neg (h.2.2.1 (by omega)), if_pos f]

theorem below_drewN {B : Nat} {a w : World} (h : Below B a w) (n : Nat) : Below B a (w.drewN n) := h.trans ⟨rfl, rfl, rfl, Nat.le_refl _, fun _ _ => rfl⟩

set_option maxHeartbeats 1000000 in
theorem rrune_some (b off len cap : Nat) (zs : List Int) (x0 x1 x2 x3 : Int) (w : World) (hlen : (len : Int) ≤ 9223372036854775807) (h1 : 1 ≤ len) (HB : Hid (Bs w (some ⟨b, off, none⟩) len cap zs)) (hlt : b < w.heap.size)
    (b0 : 0 ≤ x0 ∧ x0 ≤ 255) (b1 : 0 ≤ x1 ∧ x1 ≤ 255) (b2 : 0 ≤ x2 ∧ x2 ≤ 255) (b3 : 0 ≤ x3 ∧ x3 ≤ 255) (HX : Hid (x0 = zs.getD 0 0 ∧ x1 = zs.getD 1 0 ∧ x2 = zs.getD 2 0 ∧ x3 = zs.getD 3 0))
    (HC : Hid (w.cell? ⟨b, off, none⟩ = some (.int .u8 x0) ∧ (1 < len → w.cell? ⟨b, off + 1, none⟩ = some (.int .u8 x1)) ∧ (2 < len → w.cell? ⟨b, off + 2, none⟩ = some (.int .u8 x2)) ∧ (3 < len → w.cell? ⟨b, off + 3, none⟩ = some (.int .u8 x3)))) :
    Calls Tryd.prog 11 #[.slice (some ⟨b, off, none⟩) len cap] w fun e w' => e = .returned (.tuple #[.int .i32 (ur len x0 x1 x2 x3).1, .int .i64 (ur len x0 x1 x2 x3).2]) ∧ Below w.heap.size w w' := by
  go_enter Tryd.func11, Tryd.ntmps11
  go_wp2
  go_loopw [4] (fun i wr => ∃ k : Nat, 1 ≤ k ∧ k ≤ 5 ∧ k ≤ len + 1 ∧ i = .int .i64 (k : Int) ∧ Hid (nof k len x0 x1 x2 x3) ∧ Below w.heap.size w wr) (fun i _ => 5 - (intOf i).toNat)
  case atStart => exact ⟨1, Nat.le_refl _, by omega, by omega, rfl, ⟨fun h => absurd h (by omega), fun h => absurd h (by omega), fun h => absurd h (by omega), fun h => absurd h (by omega)⟩, Below.refl _ _⟩
  case round =>
    obtain ⟨k, hk1, hk5, hkl, rfl, HN, hB⟩ := hrel
    obtain rfl | rfl | rfl | rfl | rfl : k = 1 ∨ k = 2 ∨ k = 3 ∨ k = 4 ∨ k = 5 := by omega
    · rw [show ((1 : Nat) : Int) = 1 from rfl]
      by_cases hll : 1 ≤ len
      · have c0 := (hB.cell hlt).trans HC.out.1
        have hl : (1 : Int) ≤ (len : Int) := by omega
        have hcp : (1 : Int) ≤ (cap : Int) := by have := HB.out.2.2.2.1; omega
        go_wp2_with fail
        refine wp_loop_rounds 1 ?_
        rw [rounds_succ]
        go_wp2_with fail
        refine (rputr_any _ _ (by omega) (by omega)).mono ?_
        rintro e w1 ⟨v, rfl, hown, hb1⟩
        obtain ⟨n, hn⟩ : ∃ n, n = x0 := ⟨_, rfl⟩
        rw [← hn] at hown ⊢
        have HW : Hid (n = x0) := hn
        have n0 : 0 ≤ n ∧ n ≤ 255 := by omega
        clear hn
        have HT : Hid ((isCh n = true ∧ uput n = zs.take 1) ↔ fit1 len x0) := by
          show _ ↔ _
          obtain ⟨e0, e1, e2, e3⟩ := HX.out
          have t := test_1 (z := zs) (by rw [HB.out.1]; exact hll) HB.out.2.2.1
          rw [HB.out.1, ← e0] at t
          rw [HW.out]
          exact t
        have HB1 : Hid (Below w.heap.size w w1) := hB.trans (hb1.mono hB.size)
        obtain ⟨a1, k1, rfl⟩ := own_slice hown
        have cv1 := fun n => (bs_drew (Bs.of_owns hown (uput_bd _)) n).conv
        have cv2 := fun n => (bs_drew ((HB.out.below HB1.out (Nat.le_refl _)).head 1 (by omega)) n).conv
        clear hown hb1
        cases hch : isCh n with
        | false =>
          have NF : Hid (¬ fit1 len x0) := fun f => by have := (HT.out.2 f).1; rw [hch] at this; cases this
          go_wp2_with fail
          go_quiet ((go_at_call 18; refine Calls.quiet_of_same (rchar_is hch _)))
          go_wp2
          go_round
          case rel => exact ⟨2, by omega, by omega, by omega, by go_num, nof_2 HN.out NF.out, below_drewN HB1.out _⟩
          case measure => simp [intOf]
        | true =>
          by_cases he : uput n = zs.take 1
          · have se : ((strOfNums (uput n)).toList == (strOfNums (zs.take 1)).toList) = true := by rw [he]; simp
            have E : Hid (ur len x0 x1 x2 x3 = (n, 1)) := by show _ = _; rw [HW.out]; exact ur_1 HN.out (HT.out.1 ⟨hch, he⟩)
            clear he
            go_wp2_with fail
            go_quiet ((go_at_call 18; refine Calls.quiet_of_same (rchar_is hch _)))
            go_wp2
            go_ret2
            exact ⟨by rw [E.out]; rfl, below_drewN HB1.out _⟩
          · have se : ((strOfNums (uput n)).toList == (strOfNums (zs.take 1)).toList) = false := by
              rw [str_eq (uput_bd n) (fun c hc => HB.out.mem c (List.mem_of_mem_take hc))]
              simpa using he
            have NF : Hid (¬ fit1 len x0) := fun f => he (HT.out.2 f).2
            go_wp2_with fail
            go_quiet ((go_at_call 18; refine Calls.quiet_of_same (rchar_is hch _)))
            go_wp2
            go_round
            case rel => exact ⟨2, by omega, by omega, by omega, by go_num, nof_2 HN.out NF.out, below_drewN HB1.out _⟩
            case measure => simp [intOf]
      · have hl : ¬ (1 : Int) ≤ (len : Int) := by omega
        have E : Hid (ur len x0 x1 x2 x3 = (-1, 0)) := by show _ = _; exact ur_none HN.out (by omega)
        go_wp2
        go_ret2
        exact ⟨by rw [E.out]; rfl, hB⟩
    · rw [show ((2 : Nat) : Int) = 2 from rfl]
      by_cases hll : 2 ≤ len
      · have c0 := (hB.cell hlt).trans HC.out.1
        have c1 := (hB.cell hlt).trans (HC.out.2.1 (by omega))
        have hl : (2 : Int) ≤ (len : Int) := by omega
        have hcp : (2 : Int) ≤ (cap : Int) := by have := HB.out.2.2.2.1; omega
        go_wp2_with fail
        refine wp_loop_rounds 2 ?_
        rw [rounds_succ]
        go_wp2_with fail
        rw [rounds_succ]
        go_wp2_with fail
        refine (rputr_any _ _ (by omega) (by omega)).mono ?_
        rintro e w1 ⟨v, rfl, hown, hb1⟩
        obtain ⟨n, hn⟩ : ∃ n, n = (x0 - 192) * 64 + x1 - 128 := ⟨_, rfl⟩
        rw [← hn] at hown ⊢
        have HW : Hid (n = un2 x0 x1) := hn
        have n0 : -12416 ≤ n ∧ n ≤ 4159 := by omega
        clear hn
        have HT : Hid ((isCh n = true ∧ uput n = zs.take 2) ↔ fit2 len x0 x1) := by
          show _ ↔ _
          obtain ⟨e0, e1, e2, e3⟩ := HX.out
          have t := test_2 (z := zs) (by rw [HB.out.1]; exact hll) HB.out.2.2.1
          rw [HB.out.1, ← e0, ← e1] at t
          rw [HW.out]
          exact t
        have HB1 : Hid (Below w.heap.size w w1) := hB.trans (hb1.mono hB.size)
        obtain ⟨a1, k1, rfl⟩ := own_slice hown
        have cv1 := fun n => (bs_drew (Bs.of_owns hown (uput_bd _)) n).conv
        have cv2 := fun n => (bs_drew ((HB.out.below HB1.out (Nat.le_refl _)).head 2 (by omega)) n).conv
        clear hown hb1
        cases hch : isCh n with
        | false =>
          have NF : Hid (¬ fit2 len x0 x1) := fun f => by have := (HT.out.2 f).1; rw [hch] at this; cases this
          go_wp2_with fail
          go_quiet ((go_at_call 18; refine Calls.quiet_of_same (rchar_is hch _)))
          go_wp2
          go_round
          case rel => exact ⟨3, by omega, by omega, by omega, by go_num, nof_3 HN.out NF.out, below_drewN HB1.out _⟩
          case measure => simp [intOf]
        | true =>
          by_cases he : uput n = zs.take 2
          · have se : ((strOfNums (uput n)).toList == (strOfNums (zs.take 2)).toList) = true := by rw [he]; simp
            have E : Hid (ur len x0 x1 x2 x3 = (n, 2)) := by show _ = _; rw [HW.out]; exact ur_2 HN.out (HT.out.1 ⟨hch, he⟩)
            clear he
            go_wp2_with fail
            go_quiet ((go_at_call 18; refine Calls.quiet_of_same (rchar_is hch _)))
            go_wp2
            go_ret2
            exact ⟨by rw [E.out]; rfl, below_drewN HB1.out _⟩
          · have se : ((strOfNums (uput n)).toList == (strOfNums (zs.take 2)).toList) = false := by
              rw [str_eq (uput_bd n) (fun c hc => HB.out.mem c (List.mem_of_mem_take hc))]
              simpa using he
            have NF : Hid (¬ fit2 len x0 x1) := fun f => he (HT.out.2 f).2
            go_wp2_with fail
            go_quiet ((go_at_call 18; refine Calls.quiet_of_same (rchar_is hch _)))
            go_wp2
            go_round
            case rel => exact ⟨3, by omega, by omega, by omega, by go_num, nof_3 HN.out NF.out, below_drewN HB1.out _⟩
            case measure => simp [intOf]
      · have hl : ¬ (2 : Int) ≤ (len : Int) := by omega
        have E : Hid (ur len x0 x1 x2 x3 = (-1, 0)) := by show _ = _; exact ur_none HN.out (by omega)
        go_wp2
        go_ret2
        exact ⟨by rw [E.out]; rfl, hB⟩
    · rw [show ((3 : Nat) : Int) = 3 from rfl]
      by_cases hll : 3 ≤ len
      · have c0 := (hB.cell hlt).trans HC.out.1
        have c1 := (hB.cell hlt).trans (HC.out.2.1 (by omega))
        have c2 := (hB.cell hlt).trans (HC.out.2.2.1 (by omega))
        have hl : (3 : Int) ≤ (len : Int) := by omega
        have hcp : (3 : Int) ≤ (cap : Int) := by have := HB.out.2.2.2.1; omega
        go_wp2_with fail
        refine wp_loop_rounds 3 ?_
        rw [rounds_succ]
        go_wp2_with fail
        rw [rounds_succ]
        go_wp2_with fail
        rw [rounds_succ]
        go_wp2_with fail
        refine (rputr_any _ _ (by omega) (by omega)).mono ?_
        rintro e w1 ⟨v, rfl, hown, hb1⟩
        obtain ⟨n, hn⟩ : ∃ n, n = ((x0 - 224) * 64 + x1 - 128) * 64 + x2 - 128 := ⟨_, rfl⟩
        rw [← hn] at hown ⊢
        have HW : Hid (n = un3 x0 x1 x2) := hn
        have n0 : -930000 ≤ n ∧ n ≤ 200000 := by omega
        clear hn
        have HT : Hid ((isCh n = true ∧ uput n = zs.take 3) ↔ fit3 len x0 x1 x2) := by
          show _ ↔ _
          obtain ⟨e0, e1, e2, e3⟩ := HX.out
          have t := test_3 (z := zs) (by rw [HB.out.1]; exact hll) HB.out.2.2.1
          rw [HB.out.1, ← e0, ← e1, ← e2] at t
          rw [HW.out]
          exact t
        have HB1 : Hid (Below w.heap.size w w1) := hB.trans (hb1.mono hB.size)
        obtain ⟨a1, k1, rfl⟩ := own_slice hown
        have cv1 := fun n => (bs_drew (Bs.of_owns hown (uput_bd _)) n).conv
        have cv2 := fun n => (bs_drew ((HB.out.below HB1.out (Nat.le_refl _)).head 3 (by omega)) n).conv
        clear hown hb1
        cases hch : isCh n with
        | false =>
          have NF : Hid (¬ fit3 len x0 x1 x2) := fun f => by have := (HT.out.2 f).1; rw [hch] at this; cases this
          go_wp2_with fail
          go_quiet ((go_at_call 18; refine Calls.quiet_of_same (rchar_is hch _)))
          go_wp2
          go_round
          case rel => exact ⟨4, by omega, by omega, by omega, by go_num, nof_4 HN.out NF.out, below_drewN HB1.out _⟩
          case measure => simp [intOf]
        | true =>
          by_cases he : uput n = zs.take 3
          · have se : ((strOfNums (uput n)).toList == (strOfNums (zs.take 3)).toList) = true := by rw [he]; simp
            have E : Hid (ur len x0 x1 x2 x3 = (n, 3)) := by show _ = _; rw [HW.out]; exact ur_3 HN.out (HT.out.1 ⟨hch, he⟩)
            clear he
            go_wp2_with fail
            go_quiet ((go_at_call 18; refine Calls.quiet_of_same (rchar_is hch _)))
            go_wp2
            go_ret2
            exact ⟨by rw [E.out]; rfl, below_drewN HB1.out _⟩
          · have se : ((strOfNums (uput n)).toList == (strOfNums (zs.take 3)).toList) = false := by
              rw [str_eq (uput_bd n) (fun c hc => HB.out.mem c (List.mem_of_mem_take hc))]
              simpa using he
            have NF : Hid (¬ fit3 len x0 x1 x2) := fun f => he (HT.out.2 f).2
            go_wp2_with fail
            go_quiet ((go_at_call 18; refine Calls.quiet_of_same (rchar_is hch _)))
            go_wp2
            go_round
            case rel => exact ⟨4, by omega, by omega, by omega, by go_num, nof_4 HN.out NF.out, below_drewN HB1.out _⟩
            case measure => simp [intOf]
      · have hl : ¬ (3 : Int) ≤ (len : Int) := by omega
        have E : Hid (ur len x0 x1 x2 x3 = (-1, 0)) := by show _ = _; exact ur_none HN.out (by omega)
        go_wp2
        go_ret2
        exact ⟨by rw [E.out]; rfl, hB⟩
    · rw [show ((4 : Nat) : Int) = 4 from rfl]
      by_cases hll : 4 ≤ len
      · have c0 := (hB.cell hlt).trans HC.out.1
        have c1 := (hB.cell hlt).trans (HC.out.2.1 (by omega))
        have c2 := (hB.cell hlt).trans (HC.out.2.2.1 (by omega))
        have c3 := (hB.cell hlt).trans (HC.out.2.2.2 (by omega))
        have hl : (4 : Int) ≤ (len : Int) := by omega
        have hcp : (4 : Int) ≤ (cap : Int) := by have := HB.out.2.2.2.1; omega
        go_wp2_with fail
        refine wp_loop_rounds 4 ?_
        rw [rounds_succ]
        go_wp2_with fail
        rw [rounds_succ]
        go_wp2_with fail
        rw [rounds_succ]
        go_wp2_with fail
        rw [rounds_succ]
        go_wp2_with fail
        refine (rputr_any _ _ (by omega) (by omega)).mono ?_
        rintro e w1 ⟨v, rfl, hown, hb1⟩
        obtain ⟨n, hn⟩ : ∃ n, n = (((x0 - 240) * 64 + x1 - 128) * 64 + x2 - 128) * 64 + x3 - 128 := ⟨_, rfl⟩
        rw [← hn] at hown ⊢
        have HW : Hid (n = un4 x0 x1 x2 x3) := hn
        have n0 : -70000000 ≤ n ∧ n ≤ 5000000 := by omega
        clear hn
        have HT : Hid ((isCh n = true ∧ uput n = zs.take 4) ↔ fit4 len x0 x1 x2 x3) := by
          show _ ↔ _
          obtain ⟨e0, e1, e2, e3⟩ := HX.out
          have t := test_4 (z := zs) (by rw [HB.out.1]; exact hll) HB.out.2.2.1
          rw [HB.out.1, ← e0, ← e1, ← e2, ← e3] at t
          rw [HW.out]
          exact t
        have HB1 : Hid (Below w.heap.size w w1) := hB.trans (hb1.mono hB.size)
        obtain ⟨a1, k1, rfl⟩ := own_slice hown
        have cv1 := fun n => (bs_drew (Bs.of_owns hown (uput_bd _)) n).conv
        have cv2 := fun n => (bs_drew ((HB.out.below HB1.out (Nat.le_refl _)).head 4 (by omega)) n).conv
        clear hown hb1
        cases hch : isCh n with
        | false =>
          have NF : Hid (¬ fit4 len x0 x1 x2 x3) := fun f => by have := (HT.out.2 f).1; rw [hch] at this; cases this
          go_wp2_with fail
          go_quiet ((go_at_call 18; refine Calls.quiet_of_same (rchar_is hch _)))
          go_wp2
          go_round
          case rel => exact ⟨5, by omega, by omega, by omega, by go_num, nof_5 HN.out NF.out, below_drewN HB1.out _⟩
          case measure => simp [intOf]
        | true =>
          by_cases he : uput n = zs.take 4
          · have se : ((strOfNums (uput n)).toList == (strOfNums (zs.take 4)).toList) = true := by rw [he]; simp
            have E : Hid (ur len x0 x1 x2 x3 = (n, 4)) := by show _ = _; rw [HW.out]; exact ur_4 HN.out (HT.out.1 ⟨hch, he⟩)
            clear he
            go_wp2_with fail
            go_quiet ((go_at_call 18; refine Calls.quiet_of_same (rchar_is hch _)))
            go_wp2
            go_ret2
            exact ⟨by rw [E.out]; rfl, below_drewN HB1.out _⟩
          · have se : ((strOfNums (uput n)).toList == (strOfNums (zs.take 4)).toList) = false := by
              rw [str_eq (uput_bd n) (fun c hc => HB.out.mem c (List.mem_of_mem_take hc))]
              simpa using he
            have NF : Hid (¬ fit4 len x0 x1 x2 x3) := fun f => he (HT.out.2 f).2
            go_wp2_with fail
            go_quiet ((go_at_call 18; refine Calls.quiet_of_same (rchar_is hch _)))
            go_wp2
            go_round
            case rel => exact ⟨5, by omega, by omega, by omega, by go_num, nof_5 HN.out NF.out, below_drewN HB1.out _⟩
            case measure => simp [intOf]
      · have hl : ¬ (4 : Int) ≤ (len : Int) := by omega
        have E : Hid (ur len x0 x1 x2 x3 = (-1, 0)) := by show _ = _; exact ur_none HN.out (by omega)
        go_wp2
        go_ret2
        exact ⟨by rw [E.out]; rfl, hB⟩
    · have E : Hid (ur len x0 x1 x2 x3 = (-1, 0)) := by show _ = _; exact ur_none HN.out (by omega)
      go_wp2
      go_ret2
      exact ⟨by rw [E.out]; rfl, hB⟩

theorem rrune_bs {w : World} {a : Option Addr} {len cap : Nat} {zs : List Int} (h : Bs w a len cap zs) :
    Calls Tryd.prog 11 #[.slice a len cap] w fun e w' => e = .returned (.tuple #[.int .i32 (urune zs).1, .int .i64 (urune zs).2]) ∧ Below w.heap.size w w' := by
  by_cases hz : len = 0
  · subst hz
    have e : zs = [] := List.eq_nil_of_length_eq_zero h.1
    subst e
    exact (rrune_none a cap w).mono fun e w' ⟨he, hw⟩ => ⟨by rw [he, urune_nil], hw ▸ Below.refl _ _⟩
  · have h' := h
    obtain ⟨h1, h2, h3, h4, h5, h6⟩ := h'
    obtain ⟨b, off, rfl, hlt, hc⟩ := h6 (by omega)
    have := rrune_some b off len cap zs (zs.getD 0 0) (zs.getD 1 0) (zs.getD 2 0) (zs.getD 3 0) w h2 (by omega) h hlt (h3 0) (h3 1) (h3 2) (h3 3) ⟨rfl, rfl, rfl, rfl⟩ ⟨hc 0 (by omega), fun g => hc 1 g, fun g => hc 2 g, fun g => hc 3 g⟩
    rw [urune, h1]
    exact this

end Go.Proofs.YtkomckalcikkoaaDoor
