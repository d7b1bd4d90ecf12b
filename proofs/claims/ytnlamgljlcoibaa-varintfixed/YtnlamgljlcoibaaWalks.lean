/- Contracts of the program's own functions of layer 1 (Len64 of the library, Size, Put, Zig, Zag, and the law's 'awake'), each over the turned text: what each call returns, and that it turns no memory that was there. -/
import Derived.Test.YtnlamgljlcoibaaRows
import Derived.Test.YtnlamgljlcoibaaMath
import Derived.WalkKit
namespace Go.Proofs.Ytnlamgljlcoibaa
open Go.RowKit

theorem ret_int {k : IntKind} {a b : Int} (h : a = b) : Ending.returned (.int k a) = .returned (.int k b) := by rw [h]

set_option maxHeartbeats 400000 in
set_option maxRecDepth 100000 in
theorem len64_any (x : Int) (w : World) (h0 : 0 ≤ x) (h1 : x ≤ 18446744073709551615) :
    Calls Try.prog 23 #[.int .u64 x] w fun e w' => e = .returned (.int .i64 (Lib.bitLen x.toNat)) ∧ w = w' := by
  have hsz := Lib.len8tab_size
  go_enter Try.func23, Try.ntmps23
  go_wp2
  all_goals (go_ret; refine ⟨ret_int ?_, rfl⟩)
  · exact len_close 56 x.toNat _ (by omega) (by omega) (by omega) (by omega) (by omega)
  · exact len_close 48 x.toNat _ (by omega) (by omega) (by omega) (by omega) (by omega)
  · exact len_close 40 x.toNat _ (by omega) (by omega) (by omega) (by omega) (by omega)
  · exact len_close 32 x.toNat _ (by omega) (by omega) (by omega) (by omega) (by omega)
  · exact len_close 24 x.toNat _ (by omega) (by omega) (by omega) (by omega) (by omega)
  · exact len_close 16 x.toNat _ (by omega) (by omega) (by omega) (by omega) (by omega)
  · exact len_close 8 x.toNat _ (by omega) (by omega) (by omega) (by omega) (by omega)
  · have e := len_close 0 x.toNat x (by omega) (by omega) (by omega) (by omega) (by omega)
    simpa using e

set_option maxHeartbeats 400000 in
theorem size_any (n : Int) (w : World) (h0 : 0 ≤ n) (h1 : n ≤ 18446744073709551615) :
    Calls Try.prog 12 #[.int .u64 n] w fun e w' => e = .returned (.int .i64 ((vb 9 n.toNat).length)) ∧ w = w' := by
  have ho := bits_or_one n h0 h1
  have hs := size_eq n h0 h1
  have hl := Lib.bitLen_le (n / 2 * 2 + 1).toNat 64 (by omega) (by omega)
  have H : Hid (((Lib.bitLen (n / 2 * 2 + 1).toNat : Int) + 6) / 7 = ((vb 9 n.toNat).length : Int)) := hs
  clear hs
  go_enter Try.func12, Try.ntmps12
  go_wp2_with (go_at_call 23; refine (len64_any _ _ (by omega) (by omega)).mono ?_; rintro e w' ⟨rfl, rfl⟩)
  go_ret
  refine ⟨ret_int ?_, rfl⟩
  exact H.out

theorem Try.info5 : (Try.prog.info? 5).map (fun i => (i.zero, i.size, i.bytes)) = some (some (.int .u8 0), 1, 1) := by kernel_rfl

set_option maxHeartbeats 400000 in
theorem put_any (n : Int) (w : World) (h0 : 0 ≤ n) (h1 : n ≤ 18446744073709551615) :
    Calls Try.prog 10 #[.int .u64 n] w fun e w' => ∃ b, e = .returned (.slice (some ⟨b, 0, none⟩) (vb 9 n.toNat).length (vb 9 n.toNat).length) ∧
      w'.ownsRow w.heap.size 5 1 (.slice (some ⟨b, 0, none⟩) (vb 9 n.toNat).length (vb 9 n.toNat).length) (vb 9 n.toNat).length ((vb 9 n.toNat).map (Value.int .u8)) ∧ Below w.heap.size w w' := by
  obtain ⟨i0, hi, hz0, hz1, hz2⟩ := info_parts Try.info5
  have l1 := vb_pos 9 n.toNat
  have l2 := vb_len_le 9 n.toNat
  generalize hL : (vb 9 n.toNat).length = L at *
  have HL : Hid ((vb 9 n.toNat).length = L) := hL
  clear hL
  go_enter Try.func10, Try.ntmps10
  go_wp2_with (first
    | (go_at_call 12; refine (size_any _ _ h0 h1).mono ?_; rw [HL.out]; rintro e w' ⟨rfl, rfl⟩)
    | (at_make; refine wpList_make_full _ rfl _ _ 24 rfl w.heap.size 5 i0 (.int .u8 0) 1 Try.underlying24 hi hz0 hz1 _ _ _ _ L rfl rfl rfl rfl (by rw [hz2]; omega) (by unfold maxLen; omega) (Nat.le_refl _) ?_; intro w1 hown hgrow))
  have hown0 : w1.ownsRow w.heap.size 5 1 (.slice (some ⟨w.heap.size, 0, none⟩) L L) L (prow n.toNat L 0) := by rw [← prow_zero n.toNat L]; exact hown
  have hb1 : Below w.heap.size w w1 := (Below.refl _ _).grown hgrow (Nat.le_refl _) (by simp)
  clear hown hgrow
  go_loopw [11] (fun i wr => ∃ k : Nat, k ≤ L ∧ i = .int .i64 k ∧ wr.ownsRow w.heap.size 5 1 (.slice (some ⟨w.heap.size, 0, none⟩) L L) L (prow n.toNat L k) ∧ Below w.heap.size w wr)
    (fun i _ => L - (intOf i).toNat)
  case atStart => exact ⟨0, Nat.zero_le _, rfl, hown0, hb1⟩
  case round =>
    obtain ⟨k, hk, rfl, hown, hb⟩ := hrel
    clear hown0 hb1
    by_cases hlt : k < L
    · have hc := hown.cellAt k (by omega)
      rw [prow_get n.toNat L k k hlt] at hc
      have hf := hown.frozenAt k
      have hsh := shr_by n 7 k (by omega)
      go_wp2
      go_roundw
      case rel =>
        refine ⟨k + 1, by omega, by go_num, ?_, ?_⟩
        · have g := (hown.stored k (Value.int .u8 ((n.toNat / 128 ^ k % 128 + 128 : Nat) : Int))).1
          rw [prow_set n.toNat L k hlt, ← put_byte n k h0] at g
          exact g
        · exact hb.setCell (Nat.le_refl _) _
      case measure => simp [intOf]; omega
    · obtain rfl : k = L := by omega
      obtain ⟨c, hc, HC⟩ : ∃ c, wr.cell? ⟨w.heap.size, k - 1, none⟩ = some (.int .u8 c) ∧ Hid (c = ((n.toNat / 128 ^ (k - 1) % 128 + 128 : Nat) : Int)) := by
        have hc := hown.cellAt (k - 1) (by omega)
        rw [prow_get n.toNat k k (k - 1) (by omega), if_pos (by omega)] at hc
        exact ⟨_, hc, rfl⟩
      have hf := hown.frozenAt (k - 1)
      go_wp2
      go_ret
      refine ⟨_, rfl, ?_, hb.setCell (Nat.le_refl _) _⟩
      have g := (hown.stored (k - 1) (Value.int .u8 ((n.toNat / 128 ^ (k - 1) : Nat) : Int))).1
      rw [prow_end n.toNat k HL.out (by omega), ← put_last n.toNat k HL.out (by omega), ← HC.out] at g
      exact g

set_option maxHeartbeats 400000 in
theorem zig_any (n : Int) (w : World) (h0 : -9223372036854775808 ≤ n) (h1 : n ≤ 9223372036854775807) :
    Calls Try.prog 15 #[.int .i64 n] w fun e w' => e = .returned (.int .u64 (zg n)) ∧ w = w' := by
  have H := zig_eq n h0 h1
  go_enter Try.func15, Try.ntmps15
  go_wp2
  go_ret
  exact ⟨rfl, rfl⟩

set_option maxHeartbeats 400000 in
theorem zag_any (n : Int) (w : World) (h0 : 0 ≤ n) (h1 : n ≤ 18446744073709551615) :
    Calls Try.prog 17 #[.int .u64 n] w fun e w' => e = .returned (.int .i64 (zb n)) ∧ w = w' := by
  have H : Hid _ := zag_eq n h0 h1
  go_enter Try.func17, Try.ntmps17
  go_wp2
  go_ret
  exact ⟨ret_int H.out, rfl⟩

theorem vb300 : vb 9 300 = [172, 2] := by decide
theorem vb0 : vb 9 0 = [0] := by decide

set_option maxHeartbeats 400000 in
/-- The chapter's examples hold: 'awake' answers true. -/
theorem awake_any (w : World) : Calls Try.prog 9 #[] w fun e w' => e = .returned (.bool true) ∧ Below w.heap.size w w' := by
  go_enter Try.func9, Try.ntmps9
  go_wp2_with fail
  refine (put_any 300 _ (by omega) (by omega)).mono ?_
  rintro e w1 ⟨b, rfl, hown, hb⟩
  rw [show (300 : Int).toNat = 300 from rfl, vb300] at hown ⊢
  have c0 := hown.cellAt 0 (by decide)
  have c1 := hown.cellAt 1 (by decide)
  simp at c0 c1
  clear hown
  go_wp2_with (first
    | (go_at_call 15; refine (zig_any _ _ (by omega) (by omega)).mono ?_; rintro e w' ⟨rfl, rfl⟩; rw [show zg (-1) = 1 from by decide])
    | (go_at_call 12; refine (size_any _ _ (by omega) (by omega)).mono ?_; rintro e w' ⟨rfl, rfl⟩; rw [show (0 : Int).toNat = 0 from rfl, vb0]))
  go_ret
  exact ⟨rfl, hb⟩

end Go.Proofs.Ytnlamgljlcoibaa
