/- The contract of the program's own utf.Put, over the turned text. -/
import Derived.Test.YtjkcmcefmciinaaDoorQTab
namespace Go.Proofs.YtjkcmcefmciinaaDoor
open Go.RowKit

/-- The row while it is laid from its end: the first k cells are still nought. -/
def prw (l : List Int) (k : Nat) : List Value := (List.replicate k 0 ++ l.drop k).map (Value.int .u8)

theorem prw_start (l : List Int) (s : Nat) (h : l.length = s) : (madeCells (Value.int .u8 0).cells (s * 1)).toList = prw l s := by
  show (madeCells #[Value.int .u8 0] (s * 1)).toList = _
  rw [toList_madeCells_one, Nat.mul_one]
  simp [prw, List.drop_eq_nil_of_le (Nat.le_of_eq h)]

theorem prw_get (l : List Int) (k j : Nat) (h : j < k) : (prw l k)[j]? = some (Value.int .u8 0) := by
  simp [prw, List.getElem?_append, h]

theorem prw_set (l : List Int) (j : Nat) (h : j < l.length) : (prw l (j + 1)).set j (Value.int .u8 (l.getD j 0)) = prw l j := by
  unfold prw
  rw [← List.map_set]
  congr 1
  apply List.ext_getElem?
  intro i
  by_cases hi : i = j
  · subst hi
    simp [List.getElem?_append, List.getD, h]
  · by_cases hlt : i < j
    · simp [List.getElem?_append, show i < j + 1 by omega, hlt, Ne.symm hi]
    · simp [List.getElem?_append, show ¬ i < j + 1 by omega, hlt]
      congr 1
      omega

theorem bits_and63_i32 (x : Int) (h0 : 0 ≤ x) (h1 : x ≤ 2147483647) : bits .and .i32 x 63 = x % 64 := by
  obtain ⟨a, rfl⟩ : ∃ a : Nat, x = (a : Int) := ⟨x.toNat, by omega⟩
  have e : (BitVec.ofInt 32 (a : Int)).toNat = a := by simp; omega
  have e2 : (a &&& 63) = a % 64 := Nat.and_two_pow_sub_one_eq_mod a 6
  have : bits .and .i32 (a : Int) 63 = IntKind.i32.wrap ((BitVec.ofInt 32 (a : Int) &&& BitVec.ofInt 32 63).toNat : Nat) := rfl
  rw [this, BitVec.toNat_and, e, show (BitVec.ofInt 32 63).toNat = 63 from rfl, e2]
  rw [IntKind.wrap_i32]
  omega

theorem or128_u8 : ∀ a : Fin 64, bits .or .u8 128 (a.val : Int) = ((128 + a.val : Nat) : Int) := by decide +kernel

theorem bits_or128' (x : Int) (h0 : 0 ≤ x) (h1 : x < 64) : bits .or .u8 128 x = 128 + x := by
  have := or128_u8 ⟨x.toNat, by omega⟩
  simp only at this
  rw [show ((x.toNat : Nat) : Int) = x by omega] at this
  rw [this]; omega

set_option maxHeartbeats 1000000 in
theorem pput_go (n : Int) (s : Nat) (hd : Int) (l : List Int) (w : World) (n0 : 0 ≤ n) (n1 : n ≤ 1114111) (hs1 : 1 ≤ s) (hs4 : s ≤ 4) (hu : usz n = (s : Int)) (hh : w.cell? ⟨1, s, none⟩ = some (.int .u8 hd))
    (HL : Hid (l.length = s)) (HM : Hid (∀ j, 1 ≤ j → j < s → l.getD j 0 = 128 + n / 64 ^ (s - 1 - j) % 64)) (H0 : Hid (l.getD 0 0 = hd + n / 64 ^ (s - 1))) (HB : Hid (0 ≤ hd ∧ l.getD 0 0 ≤ 255)) :
    Calls Tryd.prog 73 #[.int .i32 n] w fun e w' => ∃ v, e = .returned v ∧
      w'.ownsRow w.heap.size 5 1 v s (l.map (Value.int .u8)) ∧ Below w.heap.size w w' := by
  obtain ⟨i0, hi, hz0, hz1, hz2⟩ := info_parts Tryd.info5
  have hsz : ((s : Int) == 0) = false := by simp; omega
  have hlt : 1 < w.heap.size := cell_lt' hh
  have q := fun W => sizeOf_any n W
  rw [hu] at q
  have Q : Hid _ := q
  clear q hu
  go_enter Tryd.func73, Tryd.ntmps73
  go_wp2_with fail
  refine Calls.mono (Q.out _) ?_
  rintro e w1 ⟨rfl, rfl⟩
  go_wp2_with (at_make; refine wpList_make_full _ rfl _ _ 42 rfl w.heap.size 5 i0 (.int .u8 0) 1 Tryd.underlying42 hi hz0 hz1 _ _ _ _ s rfl rfl (by first | rfl | omega) (by first | rfl | omega) (by rw [hz2]; omega) (by unfold maxLen; omega) (Nat.le_refl _) ?_; intro w1 hown hgrow)
  rw [prw_start l s HL.out] at hown
  have hb1 : Below w.heap.size w w1 := (Below.refl _ _).grown hgrow (Nat.le_refl _) (by simp)
  clear hgrow
  go_loopw [0, 5] (fun r i wr => ∃ (j : Nat) (y : Int), j < s ∧ r = .int .i32 y ∧ i = .int .i64 (j : Int) ∧ 0 ≤ y ∧ y ≤ 1114111 ∧ Hid (y = n / 64 ^ (s - 1 - j)) ∧ wr.ownsRow w.heap.size 5 1 (.slice (some ⟨w.heap.size, 0, none⟩) s s) s (prw l (j + 1)) ∧ Below w.heap.size w wr)
    (fun _ i _ => (intOf i).toNat)
  case atStart => exact ⟨s - 1, n, by omega, rfl, by go_num, n0, n1, by show n = _; simp, by rw [show s - 1 + 1 = s by omega]; exact hown, hb1⟩
  case round =>
    obtain ⟨j, y, hj, rfl, rfl, y0, y1, HY, hown', hb⟩ := hrel
    clear hown hb1
    have hf := hown'.frozenAt j
    have hc := hown'.cellAt j (by omega)
    rw [prw_get l (j + 1) j (by omega)] at hc
    have hhr : wr.cell? ⟨1, s, none⟩ = some (.int .u8 hd) := (hb.cell hlt).trans hh
    by_cases hj0 : 0 < j
    · have ha := bits_and63_i32 y y0 (by omega)
      have ho := bits_or128' (y % 64) (by omega) (by omega)
      have hj0' : (0 : Int) < (j : Int) := by omega
      go_wp2
      go_roundw
      case rel =>
        obtain ⟨i, rfl⟩ : ∃ i, j = i + 1 := ⟨j - 1, by omega⟩
        refine ⟨i, y / 64, by omega, rfl, by go_num, by omega, by omega, ?_, ?_, ?_⟩
        · show y / 64 = _
          rw [HY.out, show s - 1 - i = (s - 1 - (i + 1)) + 1 by omega, Int.pow_succ, Int.ediv_ediv_of_nonneg (by exact Int.pow_nonneg (by omega))]
        · have g := (hown'.stored (i + 1) (Value.int .u8 (l.getD (i + 1) 0))).1
          rw [prw_set l (i + 1) (by rw [HL.out]; omega), HM.out (i + 1) (by omega) hj, ← HY.out] at g
          exact g
        · exact hb.setCell (Nat.le_refl _) _
      case measure => simp [intOf]; omega
    · obtain rfl : j = 0 := by omega
      go_wp2
      go_ret
      have g := (hown'.stored 0 (Value.int .u8 (l.getD 0 0))).1
      have e0 : (hd + y) % 256 = l.getD 0 0 := by
        have h1 := H0.out; have h2 := HY.out; have h3 := HB.out
        rw [show s - 1 - 0 = s - 1 by omega] at h2
        rw [← h2] at h1
        rw [h1] at h3 ⊢
        omega
      rw [prw_set l 0 (by rw [HL.out]; omega), ← e0] at g
      exact ⟨_, rfl, g, hb.setCell (Nat.le_refl _) _⟩

set_option maxHeartbeats 400000 in
theorem pput_no (n : Int) (w : World) (hu : usz n = 0) :
    Calls Tryd.prog 73 #[.int .i32 n] w fun e w' => e = .returned (.slice none 0 0) ∧ w = w' := by
  have q := fun W => sizeOf_any n W
  rw [hu] at q
  have Q : Hid _ := q
  clear q hu
  go_enter Tryd.func73, Tryd.ntmps73
  go_wp2_with fail
  refine Calls.mono (Q.out _) ?_
  rintro e w1 ⟨rfl, rfl⟩
  go_wp2
  go_ret
  exact ⟨rfl, rfl⟩

theorem pput_any (n : Int) (w : World) (hT : QTab w) :
    Calls Tryd.prog 73 #[.int .i32 n] w fun e w' => ∃ v, e = .returned v ∧
      w'.ownsRow w.heap.size 5 1 v (uput n).length ((uput n).map (Value.int .u8)) ∧ Below w.heap.size w w' := by
  by_cases hc : isCh n = true
  · have hl := uput_bd n
    rcases isCh_ways hc with ⟨h0, h1⟩ | ⟨h0, h1⟩ | ⟨h0, h1, hs⟩ | ⟨h0, h1⟩
    · have e := uput_1 h0 h1
      have hu : usz n = ((1 : Nat) : Int) := (usz_ways n).1.2 ⟨h0, h1⟩
      rw [e] at hl ⊢
      exact pput_go n 1 0 [n] w (by omega) (by omega) (by omega) (by omega) hu (hT 1 (by omega)) rfl (fun j a b => by omega) (show n = 0 + n / 64 ^ 0 by simp) ⟨by omega, by simpa using by omega⟩
    · have e := uput_2 h0 h1
      have hu : usz n = ((2 : Nat) : Int) := (usz_ways n).2.1.2 ⟨h0, h1⟩
      rw [e]
      refine pput_go n 2 192 _ w (by omega) (by omega) (by omega) (by omega) hu (hT 2 (by omega)) rfl (fun j a b => ?_) rfl ⟨by omega, show 192 + n / 64 ≤ 255 by omega⟩
      obtain rfl : j = 1 := by omega
      show 128 + n % 64 = 128 + n / 64 ^ 0 % 64
      simp
    · have e := uput_3 h0 h1 hs
      have hu : usz n = ((3 : Nat) : Int) := (usz_ways n).2.2.1.2 ⟨h0, h1, hs⟩
      rw [e]
      refine pput_go n 3 224 _ w (by omega) (by omega) (by omega) (by omega) hu (hT 3 (by omega)) rfl (fun j a b => ?_) rfl ⟨by omega, show 224 + n / 4096 ≤ 255 by omega⟩
      have hj : j = 1 ∨ j = 2 := by omega
      rcases hj with rfl | rfl
      · rfl
      · show 128 + n % 64 = 128 + n / 64 ^ 0 % 64
        simp
    · have e := uput_4 h0 h1
      have hu : usz n = ((4 : Nat) : Int) := (usz_ways n).2.2.2.2 ⟨h0, h1⟩
      rw [e]
      refine pput_go n 4 240 _ w (by omega) (by omega) (by omega) (by omega) hu (hT 4 (by omega)) rfl (fun j a b => ?_) rfl ⟨by omega, show 240 + n / 262144 ≤ 255 by omega⟩
      have hj : j = 1 ∨ j = 2 ∨ j = 3 := by omega
      rcases hj with rfl | rfl | rfl
      · rfl
      · rfl
      · show 128 + n % 64 = 128 + n / 64 ^ 0 % 64
        simp
  · have e : uput n = [] := uput_no (by simpa using hc)
    have hu : usz n = 0 := by rw [usz, e]; rfl
    rw [e]
    refine (pput_no n w hu).mono ?_
    rintro e w' ⟨rfl, rfl⟩
    exact ⟨_, rfl, World.ownsRow_nil _ _ _ _, Below.refl _ _⟩

end Go.Proofs.YtjkcmcefmciinaaDoor
