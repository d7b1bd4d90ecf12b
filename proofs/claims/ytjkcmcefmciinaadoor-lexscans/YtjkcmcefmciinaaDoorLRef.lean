/- The contracts of the reference's own small functions of layer 5: which signs are blanks, letters, digits, signs; where a line begins; comments of their own; places within comments. -/
import Derived.Test.YtjkcmcefmciinaaDoorLMath
import Derived.Test.YtjkcmcefmciinaaDoorQTak
namespace Go.Proofs.YtjkcmcefmciinaaDoor
open Go.RowKit
set_option linter.unusedVariables false
set_option linter.unusedSimpArgs false

theorem lblank_t {c : Int} (h : c = 32 ∨ (9 ≤ c ∧ c ≤ 13)) : lblank c = true := decide_eq_true h

theorem lblank_f {c : Int} (h : ¬ (c = 32 ∨ (9 ≤ c ∧ c ≤ 13))) : lblank c = false := decide_eq_false h

set_option maxHeartbeats 400000 in
theorem rblank_any (c : Int) (w : World) (h0 : 0 ≤ c) (h1 : c ≤ 255) :
    Calls Tryd.prog 21 #[.int .u8 c] w fun e w' => e = .returned (.bool (lblank c)) ∧ w = w' := by
  by_cases k : c = 32
  · have E : Hid (lblank c = true) := lblank_t (.inl k)
    subst k
    go_enter Tryd.func21, Tryd.ntmps21
    go_wp2
    go_ret
    exact ⟨by rw [E.out]; first | rfl | exact ret_bool (by simp; omega), rfl⟩
  have e32 : (c == 32) = false := by simpa using k
  by_cases k2 : 9 ≤ c ∧ c ≤ 13
  · have E : Hid (lblank c = true) := lblank_t (.inr k2)
    obtain ⟨p1, p2⟩ := k2
    go_enter Tryd.func21, Tryd.ntmps21
    go_wp2
    go_ret
    exact ⟨by rw [E.out]; first | rfl | exact ret_bool (by simp; omega), rfl⟩
  have E : Hid (lblank c = false) := lblank_f (by omega)
  have hw : c < 9 ∨ 13 < c := by omega
  clear k2
  rcases hw with hw | hw
  · go_enter Tryd.func21, Tryd.ntmps21
    go_wp2
    go_ret
    exact ⟨by rw [E.out]; first | rfl | exact ret_bool (by simp; omega), rfl⟩
  · go_enter Tryd.func21, Tryd.ntmps21
    go_wp2
    go_ret
    exact ⟨by rw [E.out]; first | rfl | exact ret_bool (by simp; omega), rfl⟩

set_option maxHeartbeats 1000000 in
theorem rletter_any (c : Int) (w : World) (h0 : 0 ≤ c) (h1 : c ≤ 255) :
    Calls Tryd.prog 23 #[.int .u8 c] w fun e w' => e = .returned (.bool (lletter c)) ∧ w = w' := by
  by_cases k95 : c = 95
  · have E : Hid (lletter c = true) := decide_eq_true (by omega)
    subst k95
    go_enter Tryd.func23, Tryd.ntmps23
    go_wp2
    go_ret
    exact ⟨by rw [E.out]; first | rfl | exact ret_bool (by simp; omega), rfl⟩
  have e95 : (c == 95) = false := by simpa using k95
  rcases (show (97 ≤ c ∧ c ≤ 122) ∨ (65 ≤ c ∧ c ≤ 90) ∨ (48 ≤ c ∧ c ≤ 57) ∨ c < 48 ∨ (57 < c ∧ c < 65) ∨ (90 < c ∧ c < 97) ∨ 122 < c by omega) with h | h | h | h | h | h | h
  · have E : Hid (lletter c = true) := decide_eq_true (by omega)
    obtain ⟨p1, p2⟩ := h
    go_enter Tryd.func23, Tryd.ntmps23
    go_wp2
    go_ret
    exact ⟨by rw [E.out]; first | rfl | exact ret_bool (by simp; omega), rfl⟩
  · have E : Hid (lletter c = true) := decide_eq_true (by omega)
    obtain ⟨p1, p2⟩ := h
    go_enter Tryd.func23, Tryd.ntmps23
    go_wp2
    go_ret
    exact ⟨by rw [E.out]; first | rfl | exact ret_bool (by simp; omega), rfl⟩
  · have E : Hid (lletter c = true) := decide_eq_true (by omega)
    obtain ⟨p1, p2⟩ := h
    go_enter Tryd.func23, Tryd.ntmps23
    go_wp2
    go_ret
    exact ⟨by rw [E.out]; first | rfl | exact ret_bool (by simp; omega), rfl⟩
  · have E : Hid (lletter c = false) := decide_eq_false (by omega)
    go_enter Tryd.func23, Tryd.ntmps23
    go_wp2
    go_ret
    exact ⟨by rw [E.out]; first | rfl | exact ret_bool (by simp; omega), rfl⟩
  · have E : Hid (lletter c = false) := decide_eq_false (by omega)
    obtain ⟨p1, p2⟩ := h
    go_enter Tryd.func23, Tryd.ntmps23
    go_wp2
    go_ret
    exact ⟨by rw [E.out]; first | rfl | exact ret_bool (by simp; omega), rfl⟩
  · have E : Hid (lletter c = false) := decide_eq_false (by omega)
    obtain ⟨p1, p2⟩ := h
    go_enter Tryd.func23, Tryd.ntmps23
    go_wp2
    go_ret
    exact ⟨by rw [E.out]; first | rfl | exact ret_bool (by simp; omega), rfl⟩
  · have E : Hid (lletter c = false) := decide_eq_false (by omega)
    go_enter Tryd.func23, Tryd.ntmps23
    go_wp2
    go_ret
    exact ⟨by rw [E.out]; first | rfl | exact ret_bool (by simp; omega), rfl⟩

set_option maxHeartbeats 400000 in
theorem rnumber_any (c : Int) (w : World) (h0 : 0 ≤ c) (h1 : c ≤ 255) :
    Calls Tryd.prog 24 #[.int .u8 c] w fun e w' => e = .returned (.bool (lnumb c)) ∧ w = w' := by
  rcases (show (48 ≤ c ∧ c ≤ 57) ∨ c < 48 ∨ 57 < c by omega) with h | h | h
  · have E : Hid (lnumb c = true) := decide_eq_true (by omega)
    obtain ⟨p1, p2⟩ := h
    go_enter Tryd.func24, Tryd.ntmps24
    go_wp2
    go_ret
    exact ⟨by rw [E.out]; first | rfl | exact ret_bool (by simp; omega), rfl⟩
  · have E : Hid (lnumb c = false) := decide_eq_false (by omega)
    go_enter Tryd.func24, Tryd.ntmps24
    go_wp2
    go_ret
    exact ⟨by rw [E.out]; first | rfl | exact ret_bool (by simp; omega), rfl⟩
  · have E : Hid (lnumb c = false) := decide_eq_false (by omega)
    go_enter Tryd.func24, Tryd.ntmps24
    go_wp2
    go_ret
    exact ⟨by rw [E.out]; first | rfl | exact ret_bool (by simp; omega), rfl⟩

set_option maxHeartbeats 1000000 in
theorem rsign_any (c : Int) (w : World) :
    Calls Tryd.prog 27 #[.int .u8 c] w fun e w' => e = .returned (.bool (lsign c)) ∧ w = w' := by
  by_cases k59 : c = 59
  · have E : Hid (lsign c = true) := decide_eq_true (by omega)
    subst k59
    go_enter Tryd.func27, Tryd.ntmps27
    go_wp2
    go_ret
    exact ⟨by rw [E.out]; first | rfl | exact ret_bool (by simp; omega), rfl⟩
  have e59 : (c == 59) = false := by simpa using k59
  by_cases k44 : c = 44
  · have E : Hid (lsign c = true) := decide_eq_true (by omega)
    subst k44
    go_enter Tryd.func27, Tryd.ntmps27
    go_wp2
    go_ret
    exact ⟨by rw [E.out]; first | rfl | exact ret_bool (by simp; omega), rfl⟩
  have e44 : (c == 44) = false := by simpa using k44
  by_cases k46 : c = 46
  · have E : Hid (lsign c = true) := decide_eq_true (by omega)
    subst k46
    go_enter Tryd.func27, Tryd.ntmps27
    go_wp2
    go_ret
    exact ⟨by rw [E.out]; first | rfl | exact ret_bool (by simp; omega), rfl⟩
  have e46 : (c == 46) = false := by simpa using k46
  by_cases k61 : c = 61
  · have E : Hid (lsign c = true) := decide_eq_true (by omega)
    subst k61
    go_enter Tryd.func27, Tryd.ntmps27
    go_wp2
    go_ret
    exact ⟨by rw [E.out]; first | rfl | exact ret_bool (by simp; omega), rfl⟩
  have e61 : (c == 61) = false := by simpa using k61
  by_cases k123 : c = 123
  · have E : Hid (lsign c = true) := decide_eq_true (by omega)
    subst k123
    go_enter Tryd.func27, Tryd.ntmps27
    go_wp2
    go_ret
    exact ⟨by rw [E.out]; first | rfl | exact ret_bool (by simp; omega), rfl⟩
  have e123 : (c == 123) = false := by simpa using k123
  by_cases k125 : c = 125
  · have E : Hid (lsign c = true) := decide_eq_true (by omega)
    subst k125
    go_enter Tryd.func27, Tryd.ntmps27
    go_wp2
    go_ret
    exact ⟨by rw [E.out]; first | rfl | exact ret_bool (by simp; omega), rfl⟩
  have e125 : (c == 125) = false := by simpa using k125
  by_cases k91 : c = 91
  · have E : Hid (lsign c = true) := decide_eq_true (by omega)
    subst k91
    go_enter Tryd.func27, Tryd.ntmps27
    go_wp2
    go_ret
    exact ⟨by rw [E.out]; first | rfl | exact ret_bool (by simp; omega), rfl⟩
  have e91 : (c == 91) = false := by simpa using k91
  by_cases k93 : c = 93
  · have E : Hid (lsign c = true) := decide_eq_true (by omega)
    subst k93
    go_enter Tryd.func27, Tryd.ntmps27
    go_wp2
    go_ret
    exact ⟨by rw [E.out]; first | rfl | exact ret_bool (by simp; omega), rfl⟩
  have e93 : (c == 93) = false := by simpa using k93
  by_cases k40 : c = 40
  · have E : Hid (lsign c = true) := decide_eq_true (by omega)
    subst k40
    go_enter Tryd.func27, Tryd.ntmps27
    go_wp2
    go_ret
    exact ⟨by rw [E.out]; first | rfl | exact ret_bool (by simp; omega), rfl⟩
  have e40 : (c == 40) = false := by simpa using k40
  by_cases k41 : c = 41
  · have E : Hid (lsign c = true) := decide_eq_true (by omega)
    subst k41
    go_enter Tryd.func27, Tryd.ntmps27
    go_wp2
    go_ret
    exact ⟨by rw [E.out]; first | rfl | exact ret_bool (by simp; omega), rfl⟩
  have e41 : (c == 41) = false := by simpa using k41
  by_cases k60 : c = 60
  · have E : Hid (lsign c = true) := decide_eq_true (by omega)
    subst k60
    go_enter Tryd.func27, Tryd.ntmps27
    go_wp2
    go_ret
    exact ⟨by rw [E.out]; first | rfl | exact ret_bool (by simp; omega), rfl⟩
  have e60 : (c == 60) = false := by simpa using k60
  by_cases k62 : c = 62
  · have E : Hid (lsign c = true) := decide_eq_true (by omega)
    subst k62
    go_enter Tryd.func27, Tryd.ntmps27
    go_wp2
    go_ret
    exact ⟨by rw [E.out]; first | rfl | exact ret_bool (by simp; omega), rfl⟩
  have e62 : (c == 62) = false := by simpa using k62
  by_cases k58 : c = 58
  · have E : Hid (lsign c = true) := decide_eq_true (by omega)
    subst k58
    go_enter Tryd.func27, Tryd.ntmps27
    go_wp2
    go_ret
    exact ⟨by rw [E.out]; first | rfl | exact ret_bool (by simp; omega), rfl⟩
  have e58 : (c == 58) = false := by simpa using k58
  by_cases k45 : c = 45
  · have E : Hid (lsign c = true) := decide_eq_true (by omega)
    subst k45
    go_enter Tryd.func27, Tryd.ntmps27
    go_wp2
    go_ret
    exact ⟨by rw [E.out]; first | rfl | exact ret_bool (by simp; omega), rfl⟩
  have e45 : (c == 45) = false := by simpa using k45
  have E : Hid (lsign c = false) := decide_eq_false (by omega)
  go_enter Tryd.func27, Tryd.ntmps27
  go_wp2
  go_ret
  exact ⟨by rw [E.out]; first | rfl | exact ret_bool (by simp; omega), rfl⟩

set_option maxHeartbeats 400000 in
theorem rlineAt_any (s : List Int) (at0 : Nat) (w : World) (hz : Hid (∀ i, 0 ≤ s.getD i 0 ∧ s.getD i 0 ≤ 255)) (hlen : (s.length : Int) ≤ 100000000) (hat : at0 ≤ s.length) :
    Calls Tryd.prog 28 #[.string (strOfNums s), .int .i64 (at0 : Int)] w fun e w' => e = .returned (.int .i64 ((lnAt s at0 : Nat) : Int)) ∧ w = w' := by
  have hsz := strOfNums_size s
  have HA : Hid (∀ k, (h : k < s.length) → (((strOfNums s)[k]'(by rw [hsz]; exact h)).toNat : Int) = s.getD k 0) := fun k h => str_at s hz.out k _
  obtain ⟨R, hR⟩ : ∃ R, R = lnAt s at0 := ⟨_, rfl⟩
  rw [← hR]
  have HR : Hid (R = lnAt s at0) := hR
  clear hR
  generalize strOfNums s = S at hsz HA
  go_enter Tryd.func28, Tryd.ntmps28
  go_wp2
  go_loopw [1] (fun v wr => ∃ k : Nat, v = .int .i64 (k : Int) ∧ k ≤ s.length ∧ Hid (R = lnAt s k) ∧ wr = w) (fun v _ => (intOf v).toNat)
  case atStart => exact ⟨at0, rfl, hat, HR, rfl⟩
  case round =>
    obtain ⟨k, rfl, hk, HQ, rfl⟩ := hrel
    clear HR hat
    by_cases h0 : k = 0
    · subst h0
      have E : Hid (R = 0) := HQ.out
      clear HQ
      rw [show (((0 : Nat)) : Int) = 0 from rfl]
      go_wp2
      go_ret
      exact ⟨by rw [E.out]; first | rfl | exact ret_bool (by simp; omega), rfl⟩
    · obtain ⟨j, rfl⟩ : ∃ j, k = j + 1 := ⟨k - 1, by omega⟩
      have hj := HA.out j (by omega)
      have HQ' := HQ.out
      rw [lnAt] at HQ'
      generalize s.getD j 0 = c at hj HQ'
      have HQ2 : Hid _ := HQ'
      clear HQ HQ'
      rw [show (((j + 1 : Nat)) : Int) = (j : Int) + 1 by omega]
      have hjp : (0 : Int) < (j : Int) + 1 := by omega
      by_cases hc : c = 10
      · subst hc
        have E : Hid (R = j + 1) := by have := HQ2.out; rw [if_pos rfl] at this; exact this
        clear HQ2
        go_wp2
        go_ret
        exact ⟨by rw [E.out, show (((j + 1 : Nat)) : Int) = (j : Int) + 1 by omega]; rfl, rfl⟩
      · have hc' : (c != 10) = true := by simpa using hc
        have E : Hid (R = lnAt s j) := by have := HQ2.out; rw [if_neg hc] at this; exact this
        clear HQ2
        go_wp2
        go_roundw
        case rel => first | exact ⟨j, by go_num, by omega, E, by first | rfl | trivial⟩ | ((repeat apply Exists.intro); exact ⟨⟨j, by go_num, by omega, E, by first | rfl | trivial⟩, rfl⟩)
        case measure => simp [intOf]

end Go.Proofs.YtjkcmcefmciinaaDoor
