/- The contracts of the document's own answers on characters (the reference's character, PutRune, Rune, Count), over the turned text. -/
import Derived.Test.YtjkcmcefmciinaaDoorBas
import Derived.Test.YtjkcmcefmciinaaDoorUMath
namespace Go.Proofs.YtjkcmcefmciinaaDoor
open Go.RowKit

set_option maxHeartbeats 400000 in
theorem rchar_any (n : Int) (w : World) :
    Calls Tryd.prog 57 #[.int .i64 n] w fun e w' => e = .returned (.bool (isCh n)) ∧ w = w' := by
  by_cases h0 : 0 ≤ n
  · by_cases h1 : n ≤ 1114111
    · by_cases h2 : n < 55296
      · have E : Hid (isCh n = true) := by show _ = _; rw [isCh_iff]; omega
        go_enter Tryd.func57, Tryd.ntmps57
        go_wp2
        go_ret
        exact ⟨by rw [E.out]; rfl, rfl⟩
      · by_cases h3 : 57343 < n
        · have E : Hid (isCh n = true) := by show _ = _; rw [isCh_iff]; omega
          go_enter Tryd.func57, Tryd.ntmps57
          go_wp2
          go_ret
          exact ⟨by rw [E.out]; rfl, rfl⟩
        · have E : Hid (isCh n = false) := by show _ = _; rw [← Bool.not_eq_true, isCh_iff]; omega
          go_enter Tryd.func57, Tryd.ntmps57
          go_wp2
          go_ret
          exact ⟨by rw [E.out]; rfl, rfl⟩
    · have E : Hid (isCh n = false) := by show _ = _; rw [← Bool.not_eq_true, isCh_iff]; omega
      go_enter Tryd.func57, Tryd.ntmps57
      go_wp2
      go_ret
      exact ⟨by rw [E.out]; rfl, rfl⟩
  · have E : Hid (isCh n = false) := by show _ = _; rw [← Bool.not_eq_true, isCh_iff]; omega
    go_enter Tryd.func57, Tryd.ntmps57
    go_wp2
    go_ret
    exact ⟨by rw [E.out]; rfl, rfl⟩

/-- A slice written out is the call's own row. -/
theorem lit_row (w : World) (e : TypeId) (xs : Array Value) (n : Nat) (hn : xs.size = n) (hm : n ≤ 1000) : (w.alloc (.cells xs e)).ownsRow w.heap.size e 1 (.slice (some ⟨w.heap.size, 0, none⟩) n n) n xs.toList := by
  subst hn
  refine ⟨by simp, .inr ⟨w.heap.size, xs.size, xs, rfl, Nat.le_refl _, heap_alloc_new _ _, Nat.le_refl _, by unfold maxLen; omega, by simp, by rw [Nat.mul_one]; exact List.take_of_length_le (by simp)⟩⟩

set_option maxHeartbeats 400000 in
theorem rputr_1 (n : Int) (w : World) (h0 : 0 ≤ n) (h1 : n < 128) :
    Calls Tryd.prog 58 #[.int .i32 n] w fun e w' => ∃ v, e = .returned v ∧
      w'.ownsRow w.heap.size 5 1 v (uput n).length ((uput n).map (Value.int .u8)) ∧ Below w.heap.size w w' := by
  have W : Hid (uput n = [n]) := uput_1 h0 h1
  have E : Hid (isCh n = true) := by show _ = _; rw [isCh_iff]; omega
  go_enter Tryd.func58, Tryd.ntmps58
  go_wp2_with fail
  refine (rchar_any _ _).mono ?_
  rintro e w' ⟨rfl, rfl⟩
  rw [E.out]
  go_wp2
  go_ret
  refine ⟨_, rfl, ?_, (Below.refl _ _).alloc (Nat.le_refl _) _⟩
  rw [W.out]
  exact lit_row w 5 _ 1 rfl (by omega)

set_option maxHeartbeats 400000 in
theorem rputr_2 (n : Int) (w : World) (h0 : 128 ≤ n) (h1 : n < 2048) :
    Calls Tryd.prog 58 #[.int .i32 n] w fun e w' => ∃ v, e = .returned v ∧
      w'.ownsRow w.heap.size 5 1 v (uput n).length ((uput n).map (Value.int .u8)) ∧ Below w.heap.size w w' := by
  have W : Hid (uput n = [192 + n / 64, 128 + n % 64]) := uput_2 h0 h1
  have E : Hid (isCh n = true) := by show _ = _; rw [isCh_iff]; omega
  go_enter Tryd.func58, Tryd.ntmps58
  go_wp2_with fail
  refine (rchar_any _ _).mono ?_
  rintro e w' ⟨rfl, rfl⟩
  rw [E.out]
  go_wp2
  go_ret
  refine ⟨_, rfl, ?_, (Below.refl _ _).alloc (Nat.le_refl _) _⟩
  rw [W.out]
  exact lit_row w 5 _ 2 rfl (by omega)

set_option maxHeartbeats 400000 in
theorem rputr_3 (n : Int) (w : World) (h0 : 2048 ≤ n) (h1 : n < 65536) (hs : n < 55296 ∨ 57343 < n) :
    Calls Tryd.prog 58 #[.int .i32 n] w fun e w' => ∃ v, e = .returned v ∧
      w'.ownsRow w.heap.size 5 1 v (uput n).length ((uput n).map (Value.int .u8)) ∧ Below w.heap.size w w' := by
  have W : Hid (uput n = [224 + n / 4096, 128 + n / 64 % 64, 128 + n % 64]) := uput_3 h0 h1 hs
  have E : Hid (isCh n = true) := by show _ = _; rw [isCh_iff]; omega
  go_enter Tryd.func58, Tryd.ntmps58
  go_wp2_with fail
  refine (rchar_any _ _).mono ?_
  rintro e w' ⟨rfl, rfl⟩
  rw [E.out]
  go_wp2
  go_ret
  refine ⟨_, rfl, ?_, (Below.refl _ _).alloc (Nat.le_refl _) _⟩
  rw [W.out]
  exact lit_row w 5 _ 3 rfl (by omega)

set_option maxHeartbeats 400000 in
theorem rputr_4 (n : Int) (w : World) (h0 : 65536 ≤ n) (h1 : n ≤ 1114111) :
    Calls Tryd.prog 58 #[.int .i32 n] w fun e w' => ∃ v, e = .returned v ∧
      w'.ownsRow w.heap.size 5 1 v (uput n).length ((uput n).map (Value.int .u8)) ∧ Below w.heap.size w w' := by
  have W : Hid (uput n = [240 + n / 262144, 128 + n / 4096 % 64, 128 + n / 64 % 64, 128 + n % 64]) := uput_4 h0 h1
  have E : Hid (isCh n = true) := by show _ = _; rw [isCh_iff]; omega
  go_enter Tryd.func58, Tryd.ntmps58
  go_wp2_with fail
  refine (rchar_any _ _).mono ?_
  rintro e w' ⟨rfl, rfl⟩
  rw [E.out]
  go_wp2
  go_ret
  refine ⟨_, rfl, ?_, (Below.refl _ _).alloc (Nat.le_refl _) _⟩
  rw [W.out]
  exact lit_row w 5 _ 4 rfl (by omega)

set_option maxHeartbeats 400000 in
theorem rputr_no (n : Int) (w : World) (b0 : -2147483648 ≤ n) (b1 : n ≤ 2147483647) (hn : isCh n = false) :
    Calls Tryd.prog 58 #[.int .i32 n] w fun e w' => e = .returned (.slice none 0 0) ∧ w = w' := by
  go_enter Tryd.func58, Tryd.ntmps58
  go_wp2_with fail
  refine (rchar_any _ _).mono ?_
  rintro e w' ⟨rfl, rfl⟩
  rw [hn]
  go_wp2
  go_ret
  exact ⟨rfl, rfl⟩

theorem rputr_any (n : Int) (w : World) (b0 : -2147483648 ≤ n) (b1 : n ≤ 2147483647) :
    Calls Tryd.prog 58 #[.int .i32 n] w fun e w' => ∃ v, e = .returned v ∧
      w'.ownsRow w.heap.size 5 1 v (uput n).length ((uput n).map (Value.int .u8)) ∧ Below w.heap.size w w' := by
  cases h : isCh n with
  | false =>
    refine (rputr_no n w b0 b1 h).mono ?_
    rintro e w' ⟨rfl, rfl⟩
    rw [uput_no h]
    exact ⟨_, rfl, World.ownsRow_nil _ _ _ _, Below.refl _ _⟩
  | true =>
    rcases isCh_ways h with ⟨h0, h1⟩ | ⟨h0, h1⟩ | ⟨h0, h1, hs⟩ | ⟨h0, h1⟩
    · exact rputr_1 n w h0 h1
    · exact rputr_2 n w h0 h1
    · exact rputr_3 n w h0 h1 hs
    · exact rputr_4 n w h0 h1

end Go.Proofs.YtjkcmcefmciinaaDoor
