/- Contracts of Fixed and Unfixed, the program's and the document's own, over the turned text. -/
import Derived.Test.YtnlamgljlcoibaaRef
import Derived.Test.YtnlamgljlcoibaaFxMath
namespace Go.Proofs.Ytnlamgljlcoibaa
open Go.RowKit

/-- How many bytes Fixed answers. -/
def fsz (size : Int) : Nat := (min (max size 0) 8).toNat

theorem fsz_le (size : Int) : fsz size ≤ 8 := by unfold fsz; omega

set_option maxHeartbeats 400000 in
theorem fixed_low (n size : Int) (w : World) (_h0 : 0 ≤ n) (_h1 : n ≤ 18446744073709551615) (hs : size < 0) :
    Calls Try.prog 19 #[.int .u64 n, .int .i64 size] w fun e w' => ∃ b, e = .returned (.slice (some ⟨b, 0, none⟩) 0 0) ∧
      w'.ownsRow w.heap.size 5 1 (.slice (some ⟨b, 0, none⟩) 0 0) 0 ((fx n.toNat 0).map (Value.int .u8)) ∧ Below w.heap.size w w' := by
  obtain ⟨i0, hi, hz0, hz1, hz2⟩ := info_parts Try.info5
  go_enter Try.func19, Try.ntmps19
  go_wp2_with (at_make; refine wpList_make_full _ rfl _ _ 24 rfl w.heap.size 5 i0 (.int .u8 0) 1 Try.underlying24 hi hz0 hz1 _ _ _ _ 0 rfl rfl (by first | rfl | omega) (by first | rfl | omega) (by rw [hz2]; omega) (by unfold maxLen; omega) (Nat.le_refl _) ?_; intro w1 hown hgrow)
  have hown0 : w1.ownsRow w.heap.size 5 1 (.slice (some ⟨w.heap.size, 0, none⟩) 0 0) 0 (frow n.toNat 0 0) := by rw [← frow_zero n.toNat 0]; exact hown
  have hb1 : Below w.heap.size w w1 := (Below.refl _ _).grown hgrow (Nat.le_refl _) (by simp)
  clear hown hgrow
  go_loopw [13] (fun i wr => ∃ k : Nat, k ≤ 0 ∧ i = .int .i64 k ∧ wr.ownsRow w.heap.size 5 1 (.slice (some ⟨w.heap.size, 0, none⟩) 0 0) 0 (frow n.toNat 0 k) ∧ Below w.heap.size w wr)
    (fun i _ => 0 - (intOf i).toNat)
  case atStart => exact ⟨0, Nat.zero_le _, rfl, hown0, hb1⟩
  case round =>
    obtain ⟨k, hk, rfl, hown, hb⟩ := hrel
    clear hown0 hb1
    by_cases hlt : k < 0
    · exact absurd hlt (by omega)
    · obtain rfl : k = 0 := by omega
      go_wp2
      go_ret
      rw [frow_end] at hown
      exact ⟨_, rfl, hown, hb⟩

set_option maxHeartbeats 400000 in
theorem fixed_high (n size : Int) (w : World) (h0 : 0 ≤ n) (_h1 : n ≤ 18446744073709551615) (hs : 8 < size) :
    Calls Try.prog 19 #[.int .u64 n, .int .i64 size] w fun e w' => ∃ b, e = .returned (.slice (some ⟨b, 0, none⟩) 8 8) ∧
      w'.ownsRow w.heap.size 5 1 (.slice (some ⟨b, 0, none⟩) 8 8) 8 ((fx n.toNat 8).map (Value.int .u8)) ∧ Below w.heap.size w w' := by
  obtain ⟨i0, hi, hz0, hz1, hz2⟩ := info_parts Try.info5
  go_enter Try.func19, Try.ntmps19
  go_wp2_with (at_make; refine wpList_make_full _ rfl _ _ 24 rfl w.heap.size 5 i0 (.int .u8 0) 1 Try.underlying24 hi hz0 hz1 _ _ _ _ 8 rfl rfl (by first | rfl | omega) (by first | rfl | omega) (by rw [hz2]; omega) (by unfold maxLen; omega) (Nat.le_refl _) ?_; intro w1 hown hgrow)
  have hown0 : w1.ownsRow w.heap.size 5 1 (.slice (some ⟨w.heap.size, 0, none⟩) 8 8) 8 (frow n.toNat 8 0) := by rw [← frow_zero n.toNat 8]; exact hown
  have hb1 : Below w.heap.size w w1 := (Below.refl _ _).grown hgrow (Nat.le_refl _) (by simp)
  clear hown hgrow
  go_loopw [13] (fun i wr => ∃ k : Nat, k ≤ 8 ∧ i = .int .i64 k ∧ wr.ownsRow w.heap.size 5 1 (.slice (some ⟨w.heap.size, 0, none⟩) 8 8) 8 (frow n.toNat 8 k) ∧ Below w.heap.size w wr)
    (fun i _ => 8 - (intOf i).toNat)
  case atStart => exact ⟨0, Nat.zero_le _, rfl, hown0, hb1⟩
  case round =>
    obtain ⟨k, hk, rfl, hown, hb⟩ := hrel
    clear hown0 hb1
    by_cases hlt : k < 8
    · have hc := hown.cellAt k (by omega)
      rw [frow_get n.toNat 8 k k hlt] at hc
      have hf := hown.frozenAt k
      have hsh := shr_by n 8 k (by omega)
      go_wp2
      go_roundw
      case rel =>
        refine ⟨k + 1, by omega, by go_num, ?_, ?_⟩
        · have g := (hown.stored k (Value.int .u8 ((n.toNat / 256 ^ k % 256 : Nat) : Int))).1
          rw [frow_set n.toNat 8 k, ← fx_byte n k h0] at g
          exact g
        · exact hb.setCell (Nat.le_refl _) _
      case measure => simp [intOf]; omega
    · obtain rfl : k = 8 := by omega
      go_wp2
      go_ret
      rw [frow_end] at hown
      exact ⟨_, rfl, hown, hb⟩

set_option maxHeartbeats 400000 in
theorem fixed_mid (n : Int) (s : Nat) (w : World) (h0 : 0 ≤ n) (_h1 : n ≤ 18446744073709551615) (hs : s ≤ 8) :
    Calls Try.prog 19 #[.int .u64 n, .int .i64 (s : Int)] w fun e w' => ∃ b, e = .returned (.slice (some ⟨b, 0, none⟩) s s) ∧
      w'.ownsRow w.heap.size 5 1 (.slice (some ⟨b, 0, none⟩) s s) s ((fx n.toNat s).map (Value.int .u8)) ∧ Below w.heap.size w w' := by
  obtain ⟨i0, hi, hz0, hz1, hz2⟩ := info_parts Try.info5
  go_enter Try.func19, Try.ntmps19
  go_wp2_with (at_make; refine wpList_make_full _ rfl _ _ 24 rfl w.heap.size 5 i0 (.int .u8 0) 1 Try.underlying24 hi hz0 hz1 _ _ _ _ s rfl rfl (by first | rfl | omega) (by first | rfl | omega) (by rw [hz2]; omega) (by unfold maxLen; omega) (Nat.le_refl _) ?_; intro w1 hown hgrow)
  have hown0 : w1.ownsRow w.heap.size 5 1 (.slice (some ⟨w.heap.size, 0, none⟩) s s) s (frow n.toNat s 0) := by rw [← frow_zero n.toNat s]; exact hown
  have hb1 : Below w.heap.size w w1 := (Below.refl _ _).grown hgrow (Nat.le_refl _) (by simp)
  clear hown hgrow
  go_loopw [13] (fun i wr => ∃ k : Nat, k ≤ s ∧ i = .int .i64 k ∧ wr.ownsRow w.heap.size 5 1 (.slice (some ⟨w.heap.size, 0, none⟩) s s) s (frow n.toNat s k) ∧ Below w.heap.size w wr)
    (fun i _ => s - (intOf i).toNat)
  case atStart => exact ⟨0, Nat.zero_le _, rfl, hown0, hb1⟩
  case round =>
    obtain ⟨k, hk, rfl, hown, hb⟩ := hrel
    clear hown0 hb1
    by_cases hlt : k < s
    · have hc := hown.cellAt k (by omega)
      rw [frow_get n.toNat s k k hlt] at hc
      have hf := hown.frozenAt k
      have hsh := shr_by n 8 k (by omega)
      go_wp2
      go_roundw
      case rel =>
        refine ⟨k + 1, by omega, by go_num, ?_, ?_⟩
        · have g := (hown.stored k (Value.int .u8 ((n.toNat / 256 ^ k % 256 : Nat) : Int))).1
          rw [frow_set n.toNat s k, ← fx_byte n k h0] at g
          exact g
        · exact hb.setCell (Nat.le_refl _) _
      case measure => simp [intOf]; omega
    · obtain rfl : k = s := by omega
      go_wp2
      go_ret
      rw [frow_end] at hown
      exact ⟨_, rfl, hown, hb⟩

theorem fixed_any (n size : Int) (w : World) (h0 : 0 ≤ n) (h1 : n ≤ 18446744073709551615) :
    Calls Try.prog 19 #[.int .u64 n, .int .i64 size] w fun e w' => ∃ b, e = .returned (.slice (some ⟨b, 0, none⟩) (fsz size) (fsz size)) ∧
      w'.ownsRow w.heap.size 5 1 (.slice (some ⟨b, 0, none⟩) (fsz size) (fsz size)) (fsz size) ((fx n.toNat (fsz size)).map (Value.int .u8)) ∧ Below w.heap.size w w' := by
  by_cases hlo : size < 0
  · rw [show fsz size = 0 by unfold fsz; omega]
    exact fixed_low n size w h0 h1 hlo
  · by_cases hhi : 8 < size
    · rw [show fsz size = 8 by unfold fsz; omega]
      exact fixed_high n size w h0 h1 hhi
    · obtain ⟨s, rfl⟩ : ∃ s : Nat, size = (s : Int) := ⟨size.toNat, by omega⟩
      rw [show fsz (s : Int) = s by unfold fsz; omega]
      exact fixed_mid n s w h0 h1 (by omega)

set_option maxHeartbeats 400000 in
theorem rfixed_any (n size : Int) (w : World) (h0 : 0 ≤ n) (_h1 : n ≤ 18446744073709551615) (s0 : -9223372036854775808 ≤ size) (s1 : size ≤ 9223372036854775807) :
    Calls Try.prog 20 #[.int .u64 n, .int .i64 size] w fun e w' => ∃ v, e = .returned v ∧
      w'.ownsRow w.heap.size 5 1 v (fsz size) ((fx n.toNat (fsz size)).map (Value.int .u8)) ∧ Below w.heap.size w w' := by
  obtain ⟨i0, hi, hz0, hz1, hz2⟩ := info_parts Try.info5
  go_enter Try.func20, Try.ntmps20
  go_wp2
  go_loopw [5, 6] (fun v i wr => ∃ k : Nat, k ≤ fsz size ∧ i = .int .i64 k ∧ wr.ownsRow w.heap.size 5 1 v k ((fx n.toNat k).map (Value.int .u8)) ∧ Below w.heap.size w wr)
    (fun _ i _ => 8 - (intOf i).toNat)
  case atStart => exact ⟨0, Nat.zero_le _, rfl, World.ownsRow_nil _ _ _ _, Below.refl _ _⟩
  case round =>
    obtain ⟨k, hk, rfl, hown, hb⟩ := hrel
    have hbs := hb.size
    have h8 := fsz_le size
    by_cases hlt : (k : Int) < size
    · by_cases hk8 : k < 8
      · have hlt' : k < fsz size := by unfold fsz; omega
        have hsh : Op.shift .shr .u64 n .u64 (8 * (k : Int)) = pure (.int .u64 (n / 2 ^ (8 * k))) := by
          rw [show (8 : Int) * (k : Int) = ((8 * k : Nat) : Int) by omega, shift_shr .u64 .u64 n _ (by omega) (by simp only [IntKind.bits]; omega)]
          rfl
        have HB : Hid _ := fx_byte n k h0
        go_wp2_with (at_builtin; refine wpList_append_own _ rfl _ _ 24 rfl w.heap.size 5 i0 (.int .u8 0) 1 1 Try.underlying24 hi hz0 hz1 hz2 rfl (by decide) _ _ _ rfl (hown.alloc _) ⟨wr.heap.size, 0, none⟩ 1 1 [.int .u8 (IntKind.u8.wrap (n / 2 ^ (8 * k)))] rfl rfl (one_new _ _ _) (one_cell _ _) (by unfold maxLen; omega) (by omega) (by simp; omega) ?_; intro v' w1 hown' hgrow _)
        have hb' : Below w.heap.size w w1 := (hb.alloc hbs _).grown hgrow (by simp; omega) (fun k hk => (hown.lt k hk).1)
        clear hgrow hown
        go_wp2
        go_roundw
        case rel =>
          refine ⟨k + 1, by omega, by go_num, ?_, hb'⟩
          rw [fx_succ, ← HB.out]
          simpa using hown'
        case measure => simp [intOf]; omega
      · have he : Hid (fsz size = k) := by show _ = _; unfold fsz; omega
        go_wp2
        go_ret
        rw [he.out]
        exact ⟨_, rfl, hown, hb⟩
    · have he : Hid (fsz size = k) := by show _ = _; unfold fsz at hk ⊢; omega
      go_wp2
      go_ret
      rw [he.out]
      exact ⟨_, rfl, hown, hb⟩

theorem uf_take (zs : List Int) (k : Nat) (h : k < zs.length) : uf (zs.take (k + 1)) = uf (zs.take k) + zs.getD k 0 * 256 ^ k := by
  rw [List.take_succ_eq_append_getElem h, uf_snoc]
  simp [List.getD, List.getElem?_eq_getElem h, Nat.min_eq_left (Nat.le_of_lt h)]

theorem uf_take_bd (zs : List Int) (hz : ∀ i, 0 ≤ zs.getD i 0 ∧ zs.getD i 0 ≤ 255) (k : Nat) (hk : k ≤ zs.length) : 0 ≤ uf (zs.take k) ∧ uf (zs.take k) < 256 ^ k := by
  have := uf_bd (zs.take k) (fun c hc => by
    obtain ⟨i, hi, rfl⟩ := List.getElem_of_mem (List.mem_of_mem_take hc)
    have := hz i
    simpa [List.getD, List.getElem?_eq_getElem hi] using this)
  simpa [Nat.min_eq_left hk] using this

set_option maxHeartbeats 400000 in
theorem unfixed_low (b off len cap : Nat) (zs : List Int) (w : World) (hl : Hid (zs.length = len)) (hlen : (len : Int) ≤ 9223372036854775807)
    (HC : Hid (∀ i, i < len → w.cell? ⟨b, off + i, none⟩ = some (.int .u8 (zs.getD i 0)))) (HZ : Hid (∀ i, 0 ≤ zs.getD i 0 ∧ zs.getD i 0 ≤ 255)) (h8 : len ≤ 8) :
    Calls Try.prog 21 #[.slice (some ⟨b, off, none⟩) len cap] w fun e w' => e = .returned (.int .u64 (uf (zs.take len))) ∧ w = w' := by
  go_enter Try.func21, Try.ntmps21
  go_wp2
  go_loop [3, 8] (fun n i => ∃ (k : Nat) (x : Int), k ≤ len ∧ i = .int .i64 k ∧ n = .int .u64 x ∧ 0 ≤ x ∧ Hid (x < 256 ^ k) ∧ Hid (x = uf (zs.take k))) (fun _ i => 8 - (intOf i).toNat)
  case atStart => exact ⟨0, 0, Nat.zero_le _, rfl, rfl, by omega, (by show (0 : Int) < 256 ^ 0; decide), rfl⟩
  case round =>
    obtain ⟨k, x, hk, rfl, rfl, x0, Hx, HX⟩ := hrel
    by_cases hlt : k < len
    · obtain ⟨c, y, hcell, c0, c255, hor, y0, HY, HU⟩ : ∃ c y, w.cell? ⟨b, off + k, none⟩ = some (.int .u8 c) ∧ 0 ≤ c ∧ c ≤ 255 ∧ bits .or .u64 x (IntKind.u64.wrap (c * 2 ^ (8 * k))) = y ∧ 0 ≤ y ∧ Hid (y < 256 ^ (k + 1)) ∧ Hid (y = uf (zs.take (k + 1))) := by
        have hz := HZ.out k
        have hu := uf_take zs k (by rw [hl.out]; omega)
        have hb := uf_take_bd zs HZ.out (k + 1) (by rw [hl.out]; omega)
        refine ⟨zs.getD k 0, uf (zs.take (k + 1)), HC.out k (by omega), hz.1, hz.2, ?_, hb.1, hb.2, rfl⟩
        rw [hu, ← HX.out]
        exact uf_or k x _ (by omega) x0 Hx.out hz.1 hz.2
      go_wp2
      go_round
      case rel => exact ⟨k + 1, y, by omega, by go_num, rfl, y0, HY, HU⟩
      case measure => simp [intOf]; omega
    · obtain rfl : k = len := by omega
      go_wp2
      go_ret
      exact ⟨ret_int HX.out, rfl⟩

set_option maxHeartbeats 400000 in
theorem unfixed_high (b off len cap : Nat) (zs : List Int) (w : World) (hl : Hid (zs.length = len)) (hlen : (len : Int) ≤ 9223372036854775807)
    (HC : Hid (∀ i, i < len → w.cell? ⟨b, off + i, none⟩ = some (.int .u8 (zs.getD i 0)))) (HZ : Hid (∀ i, 0 ≤ zs.getD i 0 ∧ zs.getD i 0 ≤ 255)) (h8 : 8 < len) :
    Calls Try.prog 21 #[.slice (some ⟨b, off, none⟩) len cap] w fun e w' => e = .returned (.int .u64 (uf (zs.take 8))) ∧ w = w' := by
  go_enter Try.func21, Try.ntmps21
  go_wp2
  go_loop [3, 8] (fun n i => ∃ (k : Nat) (x : Int), k ≤ 8 ∧ i = .int .i64 k ∧ n = .int .u64 x ∧ 0 ≤ x ∧ Hid (x < 256 ^ k) ∧ Hid (x = uf (zs.take k))) (fun _ i => 8 - (intOf i).toNat)
  case atStart => exact ⟨0, 0, Nat.zero_le _, rfl, rfl, by omega, (by show (0 : Int) < 256 ^ 0; decide), rfl⟩
  case round =>
    obtain ⟨k, x, hk, rfl, rfl, x0, Hx, HX⟩ := hrel
    by_cases hlt : k < 8
    · obtain ⟨c, y, hcell, c0, c255, hor, y0, HY, HU⟩ : ∃ c y, w.cell? ⟨b, off + k, none⟩ = some (.int .u8 c) ∧ 0 ≤ c ∧ c ≤ 255 ∧ bits .or .u64 x (IntKind.u64.wrap (c * 2 ^ (8 * k))) = y ∧ 0 ≤ y ∧ Hid (y < 256 ^ (k + 1)) ∧ Hid (y = uf (zs.take (k + 1))) := by
        have hz := HZ.out k
        have hu := uf_take zs k (by rw [hl.out]; omega)
        have hb := uf_take_bd zs HZ.out (k + 1) (by rw [hl.out]; omega)
        refine ⟨zs.getD k 0, uf (zs.take (k + 1)), HC.out k (by omega), hz.1, hz.2, ?_, hb.1, hb.2, rfl⟩
        rw [hu, ← HX.out]
        exact uf_or k x _ (by omega) x0 Hx.out hz.1 hz.2
      go_wp2
      go_round
      case rel => exact ⟨k + 1, y, by omega, by go_num, rfl, y0, HY, HU⟩
      case measure => simp [intOf]; omega
    · obtain rfl : k = 8 := by omega
      go_wp2
      go_ret
      exact ⟨ret_int HX.out, rfl⟩

theorem unfixed_any (b off len cap : Nat) (zs : List Int) (w : World) (hl : Hid (zs.length = len)) (hlen : (len : Int) ≤ 9223372036854775807)
    (HC : Hid (∀ i, i < len → w.cell? ⟨b, off + i, none⟩ = some (.int .u8 (zs.getD i 0)))) (HZ : Hid (∀ i, 0 ≤ zs.getD i 0 ∧ zs.getD i 0 ≤ 255)) :
    Calls Try.prog 21 #[.slice (some ⟨b, off, none⟩) len cap] w fun e w' => e = .returned (.int .u64 (uf (zs.take 8))) ∧ w = w' := by
  by_cases h : len ≤ 8
  · have q := unfixed_low b off len cap zs w hl hlen HC HZ h
    rw [List.take_of_length_le (by rw [hl.out]; omega)] at q ⊢
    exact q
  · exact unfixed_high b off len cap zs w hl hlen HC HZ (by omega)

set_option maxHeartbeats 400000 in
theorem runfixed_any (b off len cap : Nat) (zs : List Int) (w : World) (hl : Hid (zs.length = len)) (_hlen : (len : Int) ≤ 9223372036854775807)
    (HC : Hid (∀ i, i < len → w.cell? ⟨b, off + i, none⟩ = some (.int .u8 (zs.getD i 0)))) (HZ : Hid (∀ i, 0 ≤ zs.getD i 0 ∧ zs.getD i 0 ≤ 255)) :
    Calls Try.prog 22 #[.slice (some ⟨b, off, none⟩) len cap] w fun e w' => e = .returned (.int .u64 (uf (zs.take 8))) ∧ w = w' := by
  go_enter Try.func22, Try.ntmps22
  go_wp2
  go_loop [3, 4] (fun n i => ∃ (k : Nat) (x : Int), k ≤ 8 ∧ k ≤ len ∧ i = .int .i64 k ∧ n = .int .u64 x ∧ 0 ≤ x ∧ Hid (x < 256 ^ k) ∧ Hid (x = uf (zs.take k))) (fun _ i => 8 - (intOf i).toNat)
  case atStart => exact ⟨0, 0, Nat.zero_le _, Nat.zero_le _, rfl, rfl, by omega, (by show (0 : Int) < 256 ^ 0; decide), rfl⟩
  case round =>
    obtain ⟨k, x, hk, hkl, rfl, rfl, x0, Hx, HX⟩ := hrel
    by_cases hlt : k < len
    · by_cases h8 : k < 8
      · obtain ⟨c, y, hcell, c0, c255, hor, y0, HY, HU⟩ : ∃ c y, w.cell? ⟨b, off + k, none⟩ = some (.int .u8 c) ∧ 0 ≤ c ∧ c ≤ 255 ∧ bits .or .u64 x (IntKind.u64.wrap (c * 2 ^ (8 * k))) = y ∧ 0 ≤ y ∧ Hid (y < 256 ^ (k + 1)) ∧ Hid (y = uf (zs.take (k + 1))) := by
          have hz := HZ.out k
          have hu := uf_take zs k (by rw [hl.out]; omega)
          have hb := uf_take_bd zs HZ.out (k + 1) (by rw [hl.out]; omega)
          refine ⟨zs.getD k 0, uf (zs.take (k + 1)), HC.out k (by omega), hz.1, hz.2, ?_, hb.1, hb.2, rfl⟩
          rw [hu, ← HX.out]
          exact uf_or k x _ (by omega) x0 Hx.out hz.1 hz.2
        go_wp2
        go_round
        case rel => exact ⟨k + 1, y, by omega, by omega, by go_num, rfl, y0, HY, HU⟩
        case measure => simp [intOf]; omega
      · have E : Hid (k = 8) := by show _ = _; omega
        go_wp2
        go_ret
        exact ⟨ret_int (by rw [HX.out, E.out]), rfl⟩
    · have E : Hid (zs.take k = zs.take 8) := by
        show _ = _
        rw [List.take_of_length_le (by rw [hl.out]; omega), List.take_of_length_le (by rw [hl.out]; omega)]
      go_wp2
      go_ret
      exact ⟨ret_int (by rw [HX.out, E.out]), rfl⟩

set_option maxHeartbeats 400000 in
theorem unfixed_none (a : Option Addr) (cap : Nat) (w : World) :
    Calls Try.prog 21 #[.slice a 0 cap] w fun e w' => e = .returned (.int .u64 0) ∧ w = w' := by
  go_enter Try.func21, Try.ntmps21
  go_wp2
  refine wp_loop_rounds 1 ?_
  rw [rounds_succ]
  go_wp2
  go_ret
  exact ⟨rfl, rfl⟩

set_option maxHeartbeats 400000 in
theorem runfixed_none (a : Option Addr) (cap : Nat) (w : World) :
    Calls Try.prog 22 #[.slice a 0 cap] w fun e w' => e = .returned (.int .u64 0) ∧ w = w' := by
  go_enter Try.func22, Try.ntmps22
  go_wp2
  refine wp_loop_rounds 1 ?_
  rw [rounds_succ]
  go_wp2
  go_ret
  exact ⟨rfl, rfl⟩

end Go.Proofs.Ytnlamgljlcoibaa
