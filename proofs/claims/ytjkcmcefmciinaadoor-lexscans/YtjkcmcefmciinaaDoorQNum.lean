/- The contracts of the document's own answers on numbers (the reference's Number, Digits), over the turned text. -/
import Derived.Test.YtjkcmcefmciinaaDoorQTak
import Derived.Deep.QuietTactic
import Derived.BigQuiet
import Derived.WalkSmall
namespace Go.Proofs.YtjkcmcefmciinaaDoor
open Go.RowKit
set_option linter.unusedVariables false

set_option maxHeartbeats 1000000 in
theorem rnum_10a (zs : List Int) (w : World) (hz : Hid (∀ i, 0 ≤ zs.getD i 0 ∧ zs.getD i 0 ≤ 255)) (hlen : (zs.length : Int) ≤ 100000000) (h0 : 0 < zs.length) (h1 : zs.length = 1) :
    Calls Tryd.prog 25 #[.string (strOfNums zs)] w fun e w' => e = .returned (.tuple #[.int .u64 (qnm 10 (zs) 0).1, .bool (qnm 10 (zs) 0).2]) ∧ Below w.heap.size w w' := by
  have hsz := strOfNums_size zs
  have HA : Hid (∀ k, (h : k < zs.length) → (((strOfNums zs)[k]'(by rw [hsz]; exact h)).toNat : Int) = zs.getD k 0) := fun k h => str_at zs hz.out k _
  have hdn : ((strOfNums zs).toList == []) = false := by
    cases zs with
    | nil => simp at h0
    | cons c r => exact str_ne c r
  have HZD := hz
  obtain ⟨R, hR⟩ : ∃ R, R = qnm 10 zs 0 := ⟨_, rfl⟩
  rw [← hR]
  have HR : Hid (R = qnm 10 (zs.drop 0) 0) := hR
  clear hR
  go_enter Tryd.func25, Tryd.ntmps25
  go_wp2
  go_loopw [6, 7] (fun v i wr => ∃ (n : Int) (k : Nat), v = .int .u64 n ∧ i = .int .i64 (k : Int) ∧ 0 ≤ n ∧ n ≤ 18446744073709551615 ∧ k ≤ zs.length ∧ Hid (R = qnm 10 (zs.drop k) n) ∧ wr = w) (fun _ i _ => zs.length - (intOf i).toNat)
  case atStart => exact ⟨0, 0, rfl, rfl, by omega, by omega, by omega, HR, rfl⟩
  case round =>
    obtain ⟨n, k, rfl, rfl, n0, n1, hkl, HQ, rfl⟩ := hrel
    by_cases hk : k < zs.length
    · have hat := HA.out k hk
      obtain ⟨c0, c255⟩ := HZD.out k
      have HQ' := HQ.out
      rw [drop_at hk, qnm] at HQ'
      generalize zs.getD k 0 = c at hat c0 c255 HQ'
      have q := fun W => rdigit_any c W c0 c255
      obtain ⟨d0, d99⟩ := dgt_bd c
      generalize dgt c = d at q d0 d99 HQ'
      have Q : Hid _ := q
      have HQ2 : Hid _ := HQ'
      clear HQ' HQ q HR
      by_cases hb : 10 ≤ d
      · have E : Hid (R = (0, false)) := by have := HQ2.out; rw [if_pos (Or.inl hb)] at this; exact this
        clear HQ2
        go_wp2_with fail
        refine Calls.mono (Q.out _) ?_
        rintro e w1 ⟨rfl, rfl⟩
        go_wp2
        go_ret2
        exact ⟨by rw [E.out]; rfl, Below.refl _ _⟩
      · by_cases ho : (18446744073709551615 - d) / 10 < n
        · have E : Hid (R = (0, false)) := by have := HQ2.out; rw [if_pos (Or.inr ho)] at this; exact this
          clear HQ2
          go_wp2_with fail
          refine Calls.mono (Q.out _) ?_
          rintro e w1 ⟨rfl, rfl⟩
          go_wp2
          go_ret2
          exact ⟨by rw [E.out]; rfl, Below.refl _ _⟩
        · have E : Hid (R = qnm 10 (zs.drop (k + 1)) (n * 10 + d)) := by have := HQ2.out; rw [if_neg (by omega)] at this; exact this
          clear HQ2
          go_wp2_with fail
          refine Calls.mono (Q.out _) ?_
          rintro e w1 ⟨rfl, rfl⟩
          go_wp2
          go_roundw
          case rel => exact ⟨n * 10 + d, k + 1, rfl, by go_num, by omega, by omega, by omega, E, by first | rfl | trivial⟩
          case measure => simp [intOf]; omega
    · obtain rfl : k = zs.length := by omega
      have E : Hid (R = (n, true)) := by show _ = _; rw [HQ.out, List.drop_eq_nil_of_le (Nat.le_refl _)]; rfl
      clear HQ HR
      go_wp2
      go_ret2
      exact ⟨by rw [E.out]; rfl, Below.refl _ _⟩

set_option maxHeartbeats 1000000 in
theorem rnum_10b (zs : List Int) (w : World) (hz : Hid (∀ i, 0 ≤ zs.getD i 0 ∧ zs.getD i 0 ≤ 255)) (hlen : (zs.length : Int) ≤ 100000000) (h0 : 0 < zs.length) (h1 : zs.length = 2) (hn : (zs.getD 0 0 == 48) = false) :
    Calls Tryd.prog 25 #[.string (strOfNums zs)] w fun e w' => e = .returned (.tuple #[.int .u64 (qnm 10 (zs) 0).1, .bool (qnm 10 (zs) 0).2]) ∧ Below w.heap.size w w' := by
  have hsz := strOfNums_size zs
  obtain ⟨cz, hcz⟩ : ∃ c, c = zs.getD 0 0 := ⟨_, rfl⟩
  have hat0 := str_at zs hz.out 0 (by rw [hsz]; omega)
  rw [← hcz] at hat0 hn
  obtain ⟨cz0, cz1⟩ := hz.out 0
  rw [← hcz] at cz0 cz1
  clear hcz
  have HA : Hid (∀ k, (h : k < zs.length) → (((strOfNums zs)[k]'(by rw [hsz]; exact h)).toNat : Int) = zs.getD k 0) := fun k h => str_at zs hz.out k _
  have hdn : ((strOfNums zs).toList == []) = false := by
    cases zs with
    | nil => simp at h0
    | cons c r => exact str_ne c r
  have HZD := hz
  obtain ⟨R, hR⟩ : ∃ R, R = qnm 10 zs 0 := ⟨_, rfl⟩
  rw [← hR]
  have HR : Hid (R = qnm 10 (zs.drop 0) 0) := hR
  clear hR
  go_enter Tryd.func25, Tryd.ntmps25
  go_wp2
  go_loopw [6, 7] (fun v i wr => ∃ (n : Int) (k : Nat), v = .int .u64 n ∧ i = .int .i64 (k : Int) ∧ 0 ≤ n ∧ n ≤ 18446744073709551615 ∧ k ≤ zs.length ∧ Hid (R = qnm 10 (zs.drop k) n) ∧ wr = w) (fun _ i _ => zs.length - (intOf i).toNat)
  case atStart => exact ⟨0, 0, rfl, rfl, by omega, by omega, by omega, HR, rfl⟩
  case round =>
    obtain ⟨n, k, rfl, rfl, n0, n1, hkl, HQ, rfl⟩ := hrel
    by_cases hk : k < zs.length
    · have hat := HA.out k hk
      obtain ⟨c0, c255⟩ := HZD.out k
      have HQ' := HQ.out
      rw [drop_at hk, qnm] at HQ'
      generalize zs.getD k 0 = c at hat c0 c255 HQ'
      have q := fun W => rdigit_any c W c0 c255
      obtain ⟨d0, d99⟩ := dgt_bd c
      generalize dgt c = d at q d0 d99 HQ'
      have Q : Hid _ := q
      have HQ2 : Hid _ := HQ'
      clear HQ' HQ q HR
      by_cases hb : 10 ≤ d
      · have E : Hid (R = (0, false)) := by have := HQ2.out; rw [if_pos (Or.inl hb)] at this; exact this
        clear HQ2
        go_wp2_with fail
        refine Calls.mono (Q.out _) ?_
        rintro e w1 ⟨rfl, rfl⟩
        go_wp2
        go_ret2
        exact ⟨by rw [E.out]; rfl, Below.refl _ _⟩
      · by_cases ho : (18446744073709551615 - d) / 10 < n
        · have E : Hid (R = (0, false)) := by have := HQ2.out; rw [if_pos (Or.inr ho)] at this; exact this
          clear HQ2
          go_wp2_with fail
          refine Calls.mono (Q.out _) ?_
          rintro e w1 ⟨rfl, rfl⟩
          go_wp2
          go_ret2
          exact ⟨by rw [E.out]; rfl, Below.refl _ _⟩
        · have E : Hid (R = qnm 10 (zs.drop (k + 1)) (n * 10 + d)) := by have := HQ2.out; rw [if_neg (by omega)] at this; exact this
          clear HQ2
          go_wp2_with fail
          refine Calls.mono (Q.out _) ?_
          rintro e w1 ⟨rfl, rfl⟩
          go_wp2
          go_roundw
          case rel => exact ⟨n * 10 + d, k + 1, rfl, by go_num, by omega, by omega, by omega, E, by first | rfl | trivial⟩
          case measure => simp [intOf]; omega
    · obtain rfl : k = zs.length := by omega
      have E : Hid (R = (n, true)) := by show _ = _; rw [HQ.out, List.drop_eq_nil_of_le (Nat.le_refl _)]; rfl
      clear HQ HR
      go_wp2
      go_ret2
      exact ⟨by rw [E.out]; rfl, Below.refl _ _⟩

set_option maxHeartbeats 1000000 in
theorem rnum_10c (zs : List Int) (w : World) (hz : Hid (∀ i, 0 ≤ zs.getD i 0 ∧ zs.getD i 0 ≤ 255)) (hlen : (zs.length : Int) ≤ 100000000) (h0 : 0 < zs.length) (h1 : 2 < zs.length) (hn : (zs.getD 0 0 == 48) = false) :
    Calls Tryd.prog 25 #[.string (strOfNums zs)] w fun e w' => e = .returned (.tuple #[.int .u64 (qnm 10 (zs) 0).1, .bool (qnm 10 (zs) 0).2]) ∧ Below w.heap.size w w' := by
  have hsz := strOfNums_size zs
  obtain ⟨cz, hcz⟩ : ∃ c, c = zs.getD 0 0 := ⟨_, rfl⟩
  have hat0 := str_at zs hz.out 0 (by rw [hsz]; omega)
  rw [← hcz] at hat0 hn
  obtain ⟨cz0, cz1⟩ := hz.out 0
  rw [← hcz] at cz0 cz1
  clear hcz
  have HA : Hid (∀ k, (h : k < zs.length) → (((strOfNums zs)[k]'(by rw [hsz]; exact h)).toNat : Int) = zs.getD k 0) := fun k h => str_at zs hz.out k _
  have hdn : ((strOfNums zs).toList == []) = false := by
    cases zs with
    | nil => simp at h0
    | cons c r => exact str_ne c r
  have HZD := hz
  obtain ⟨R, hR⟩ : ∃ R, R = qnm 10 zs 0 := ⟨_, rfl⟩
  rw [← hR]
  have HR : Hid (R = qnm 10 (zs.drop 0) 0) := hR
  clear hR
  go_enter Tryd.func25, Tryd.ntmps25
  go_wp2
  go_loopw [6, 7] (fun v i wr => ∃ (n : Int) (k : Nat), v = .int .u64 n ∧ i = .int .i64 (k : Int) ∧ 0 ≤ n ∧ n ≤ 18446744073709551615 ∧ k ≤ zs.length ∧ Hid (R = qnm 10 (zs.drop k) n) ∧ wr = w) (fun _ i _ => zs.length - (intOf i).toNat)
  case atStart => exact ⟨0, 0, rfl, rfl, by omega, by omega, by omega, HR, rfl⟩
  case round =>
    obtain ⟨n, k, rfl, rfl, n0, n1, hkl, HQ, rfl⟩ := hrel
    by_cases hk : k < zs.length
    · have hat := HA.out k hk
      obtain ⟨c0, c255⟩ := HZD.out k
      have HQ' := HQ.out
      rw [drop_at hk, qnm] at HQ'
      generalize zs.getD k 0 = c at hat c0 c255 HQ'
      have q := fun W => rdigit_any c W c0 c255
      obtain ⟨d0, d99⟩ := dgt_bd c
      generalize dgt c = d at q d0 d99 HQ'
      have Q : Hid _ := q
      have HQ2 : Hid _ := HQ'
      clear HQ' HQ q HR
      by_cases hb : 10 ≤ d
      · have E : Hid (R = (0, false)) := by have := HQ2.out; rw [if_pos (Or.inl hb)] at this; exact this
        clear HQ2
        go_wp2_with fail
        refine Calls.mono (Q.out _) ?_
        rintro e w1 ⟨rfl, rfl⟩
        go_wp2
        go_ret2
        exact ⟨by rw [E.out]; rfl, Below.refl _ _⟩
      · by_cases ho : (18446744073709551615 - d) / 10 < n
        · have E : Hid (R = (0, false)) := by have := HQ2.out; rw [if_pos (Or.inr ho)] at this; exact this
          clear HQ2
          go_wp2_with fail
          refine Calls.mono (Q.out _) ?_
          rintro e w1 ⟨rfl, rfl⟩
          go_wp2
          go_ret2
          exact ⟨by rw [E.out]; rfl, Below.refl _ _⟩
        · have E : Hid (R = qnm 10 (zs.drop (k + 1)) (n * 10 + d)) := by have := HQ2.out; rw [if_neg (by omega)] at this; exact this
          clear HQ2
          go_wp2_with fail
          refine Calls.mono (Q.out _) ?_
          rintro e w1 ⟨rfl, rfl⟩
          go_wp2
          go_roundw
          case rel => exact ⟨n * 10 + d, k + 1, rfl, by go_num, by omega, by omega, by omega, E, by first | rfl | trivial⟩
          case measure => simp [intOf]; omega
    · obtain rfl : k = zs.length := by omega
      have E : Hid (R = (n, true)) := by show _ = _; rw [HQ.out, List.drop_eq_nil_of_le (Nat.le_refl _)]; rfl
      clear HQ HR
      go_wp2
      go_ret2
      exact ⟨by rw [E.out]; rfl, Below.refl _ _⟩

set_option maxHeartbeats 1000000 in
theorem rnum_8a (zs : List Int) (w : World) (hz : Hid (∀ i, 0 ≤ zs.getD i 0 ∧ zs.getD i 0 ≤ 255)) (hlen : (zs.length : Int) ≤ 100000000) (h1 : zs.length = 2) (hv0 : zs.getD 0 0 = 48) :
    Calls Tryd.prog 25 #[.string (strOfNums zs)] w fun e w' => e = .returned (.tuple #[.int .u64 (qnm 8 (zs.drop 1) 0).1, .bool (qnm 8 (zs.drop 1) 0).2]) ∧ Below w.heap.size w w' := by
  have hsz := strOfNums_size zs
  have hat0 := str_at zs hz.out 0 (by rw [hsz]; omega)
  rw [hv0] at hat0
  have hex : (strOfNums zs).extract 1 zs.length = strOfNums (zs.drop 1) := by rw [str_cut, List.take_of_length_le (by simp)]
  have HZD : Hid (∀ i, 0 ≤ (zs.drop 1).getD i 0 ∧ (zs.drop 1).getD i 0 ≤ 255) := fun i => by rw [getD_drop']; exact hz.out _
  have hdl : (zs.drop 1).length = zs.length - 1 := List.length_drop
  generalize zs.drop 1 = D at hex HZD hdl
  rw [h1] at hex
  have hsd := strOfNums_size D
  have HA : Hid (∀ k, (h : k < D.length) → (((strOfNums D)[k]'(by rw [hsd]; exact h)).toNat : Int) = D.getD k 0) := fun k h => str_at D HZD.out k _
  have hdn : ((strOfNums D).toList == []) = false := by
    cases D with
    | nil => simp at hdl; omega
    | cons c r => exact str_ne c r
  obtain ⟨R, hR⟩ : ∃ R, R = qnm 8 D 0 := ⟨_, rfl⟩
  rw [← hR]
  have HR : Hid (R = qnm 8 (D.drop 0) 0) := hR
  clear hR
  go_enter Tryd.func25, Tryd.ntmps25
  go_wp2
  go_quiet (fail)
  go_wp2
  go_loopw [6, 7] (fun v i wr => ∃ (n : Int) (k : Nat), v = .int .u64 n ∧ i = .int .i64 (k : Int) ∧ 0 ≤ n ∧ n ≤ 18446744073709551615 ∧ k ≤ D.length ∧ Hid (R = qnm 8 (D.drop k) n) ∧ wr = w.drewN nq) (fun _ i _ => D.length - (intOf i).toNat)
  case atStart => exact ⟨0, 0, rfl, rfl, by omega, by omega, by omega, HR, rfl⟩
  case round =>
    obtain ⟨n, k, rfl, rfl, n0, n1, hkl, HQ, rfl⟩ := hrel
    by_cases hk : k < D.length
    · have hat := HA.out k hk
      obtain ⟨c0, c255⟩ := HZD.out k
      have HQ' := HQ.out
      rw [drop_at hk, qnm] at HQ'
      generalize D.getD k 0 = c at hat c0 c255 HQ'
      have q := fun W => rdigit_any c W c0 c255
      obtain ⟨d0, d99⟩ := dgt_bd c
      generalize dgt c = d at q d0 d99 HQ'
      have Q : Hid _ := q
      have HQ2 : Hid _ := HQ'
      clear HQ' HQ q HR
      by_cases hb : 8 ≤ d
      · have E : Hid (R = (0, false)) := by have := HQ2.out; rw [if_pos (Or.inl hb)] at this; exact this
        clear HQ2
        go_wp2_with fail
        refine Calls.mono (Q.out _) ?_
        rintro e w1 ⟨rfl, rfl⟩
        go_wp2
        go_ret2
        exact ⟨by rw [E.out]; rfl, below_drewN (Below.refl _ _) _⟩
      · by_cases ho : (18446744073709551615 - d) / 8 < n
        · have E : Hid (R = (0, false)) := by have := HQ2.out; rw [if_pos (Or.inr ho)] at this; exact this
          clear HQ2
          go_wp2_with fail
          refine Calls.mono (Q.out _) ?_
          rintro e w1 ⟨rfl, rfl⟩
          go_wp2
          go_ret2
          exact ⟨by rw [E.out]; rfl, below_drewN (Below.refl _ _) _⟩
        · have E : Hid (R = qnm 8 (D.drop (k + 1)) (n * 8 + d)) := by have := HQ2.out; rw [if_neg (by omega)] at this; exact this
          clear HQ2
          go_wp2_with fail
          refine Calls.mono (Q.out _) ?_
          rintro e w1 ⟨rfl, rfl⟩
          go_wp2
          go_roundw
          case rel => exact ⟨n * 8 + d, k + 1, rfl, by go_num, by omega, by omega, by omega, E, by first | rfl | trivial⟩
          case measure => simp [intOf]; omega
    · obtain rfl : k = D.length := by omega
      have E : Hid (R = (n, true)) := by show _ = _; rw [HQ.out, List.drop_eq_nil_of_le (Nat.le_refl _)]; rfl
      clear HQ HR
      go_wp2
      go_ret2
      exact ⟨by rw [E.out]; rfl, below_drewN (Below.refl _ _) _⟩

set_option maxHeartbeats 1000000 in
theorem rnum_8b (zs : List Int) (w : World) (hz : Hid (∀ i, 0 ≤ zs.getD i 0 ∧ zs.getD i 0 ≤ 255)) (hlen : (zs.length : Int) ≤ 100000000) (h1 : 2 < zs.length) (hv0 : zs.getD 0 0 = 48) (hn : (zs.getD 1 0 == 120) = false) (hm : (zs.getD 1 0 == 88) = false) :
    Calls Tryd.prog 25 #[.string (strOfNums zs)] w fun e w' => e = .returned (.tuple #[.int .u64 (qnm 8 (zs.drop 1) 0).1, .bool (qnm 8 (zs.drop 1) 0).2]) ∧ Below w.heap.size w w' := by
  have hsz := strOfNums_size zs
  have hat0 := str_at zs hz.out 0 (by rw [hsz]; omega)
  rw [hv0] at hat0
  obtain ⟨cz, hcz⟩ : ∃ c, c = zs.getD 1 0 := ⟨_, rfl⟩
  have hat1 := str_at zs hz.out 1 (by rw [hsz]; omega)
  rw [← hcz] at hat1 hn hm
  obtain ⟨cz0, cz1⟩ := hz.out 1
  rw [← hcz] at cz0 cz1
  clear hcz
  have hex : (strOfNums zs).extract 1 zs.length = strOfNums (zs.drop 1) := by rw [str_cut, List.take_of_length_le (by simp)]
  have HZD : Hid (∀ i, 0 ≤ (zs.drop 1).getD i 0 ∧ (zs.drop 1).getD i 0 ≤ 255) := fun i => by rw [getD_drop']; exact hz.out _
  have hdl : (zs.drop 1).length = zs.length - 1 := List.length_drop
  generalize zs.drop 1 = D at hex HZD hdl
  have hsd := strOfNums_size D
  have HA : Hid (∀ k, (h : k < D.length) → (((strOfNums D)[k]'(by rw [hsd]; exact h)).toNat : Int) = D.getD k 0) := fun k h => str_at D HZD.out k _
  have hdn : ((strOfNums D).toList == []) = false := by
    cases D with
    | nil => simp at hdl; omega
    | cons c r => exact str_ne c r
  obtain ⟨R, hR⟩ : ∃ R, R = qnm 8 D 0 := ⟨_, rfl⟩
  rw [← hR]
  have HR : Hid (R = qnm 8 (D.drop 0) 0) := hR
  clear hR
  go_enter Tryd.func25, Tryd.ntmps25
  go_wp2
  go_quiet (fail)
  go_wp2
  go_loopw [6, 7] (fun v i wr => ∃ (n : Int) (k : Nat), v = .int .u64 n ∧ i = .int .i64 (k : Int) ∧ 0 ≤ n ∧ n ≤ 18446744073709551615 ∧ k ≤ D.length ∧ Hid (R = qnm 8 (D.drop k) n) ∧ wr = w.drewN nq) (fun _ i _ => D.length - (intOf i).toNat)
  case atStart => exact ⟨0, 0, rfl, rfl, by omega, by omega, by omega, HR, rfl⟩
  case round =>
    obtain ⟨n, k, rfl, rfl, n0, n1, hkl, HQ, rfl⟩ := hrel
    by_cases hk : k < D.length
    · have hat := HA.out k hk
      obtain ⟨c0, c255⟩ := HZD.out k
      have HQ' := HQ.out
      rw [drop_at hk, qnm] at HQ'
      generalize D.getD k 0 = c at hat c0 c255 HQ'
      have q := fun W => rdigit_any c W c0 c255
      obtain ⟨d0, d99⟩ := dgt_bd c
      generalize dgt c = d at q d0 d99 HQ'
      have Q : Hid _ := q
      have HQ2 : Hid _ := HQ'
      clear HQ' HQ q HR
      by_cases hb : 8 ≤ d
      · have E : Hid (R = (0, false)) := by have := HQ2.out; rw [if_pos (Or.inl hb)] at this; exact this
        clear HQ2
        go_wp2_with fail
        refine Calls.mono (Q.out _) ?_
        rintro e w1 ⟨rfl, rfl⟩
        go_wp2
        go_ret2
        exact ⟨by rw [E.out]; rfl, below_drewN (Below.refl _ _) _⟩
      · by_cases ho : (18446744073709551615 - d) / 8 < n
        · have E : Hid (R = (0, false)) := by have := HQ2.out; rw [if_pos (Or.inr ho)] at this; exact this
          clear HQ2
          go_wp2_with fail
          refine Calls.mono (Q.out _) ?_
          rintro e w1 ⟨rfl, rfl⟩
          go_wp2
          go_ret2
          exact ⟨by rw [E.out]; rfl, below_drewN (Below.refl _ _) _⟩
        · have E : Hid (R = qnm 8 (D.drop (k + 1)) (n * 8 + d)) := by have := HQ2.out; rw [if_neg (by omega)] at this; exact this
          clear HQ2
          go_wp2_with fail
          refine Calls.mono (Q.out _) ?_
          rintro e w1 ⟨rfl, rfl⟩
          go_wp2
          go_roundw
          case rel => exact ⟨n * 8 + d, k + 1, rfl, by go_num, by omega, by omega, by omega, E, by first | rfl | trivial⟩
          case measure => simp [intOf]; omega
    · obtain rfl : k = D.length := by omega
      have E : Hid (R = (n, true)) := by show _ = _; rw [HQ.out, List.drop_eq_nil_of_le (Nat.le_refl _)]; rfl
      clear HQ HR
      go_wp2
      go_ret2
      exact ⟨by rw [E.out]; rfl, below_drewN (Below.refl _ _) _⟩

set_option maxHeartbeats 1000000 in
theorem rnum_16a (zs : List Int) (w : World) (hz : Hid (∀ i, 0 ≤ zs.getD i 0 ∧ zs.getD i 0 ≤ 255)) (hlen : (zs.length : Int) ≤ 100000000) (h1 : 2 < zs.length) (hv0 : zs.getD 0 0 = 48) (hv1 : zs.getD 1 0 = 120) :
    Calls Tryd.prog 25 #[.string (strOfNums zs)] w fun e w' => e = .returned (.tuple #[.int .u64 (qnm 16 (zs.drop 2) 0).1, .bool (qnm 16 (zs.drop 2) 0).2]) ∧ Below w.heap.size w w' := by
  have hsz := strOfNums_size zs
  have hat0 := str_at zs hz.out 0 (by rw [hsz]; omega)
  rw [hv0] at hat0
  have hat1 := str_at zs hz.out 1 (by rw [hsz]; omega)
  rw [hv1] at hat1
  have hex : (strOfNums zs).extract 2 zs.length = strOfNums (zs.drop 2) := by rw [str_cut, List.take_of_length_le (by simp)]
  have HZD : Hid (∀ i, 0 ≤ (zs.drop 2).getD i 0 ∧ (zs.drop 2).getD i 0 ≤ 255) := fun i => by rw [getD_drop']; exact hz.out _
  have hdl : (zs.drop 2).length = zs.length - 2 := List.length_drop
  generalize zs.drop 2 = D at hex HZD hdl
  have hsd := strOfNums_size D
  have HA : Hid (∀ k, (h : k < D.length) → (((strOfNums D)[k]'(by rw [hsd]; exact h)).toNat : Int) = D.getD k 0) := fun k h => str_at D HZD.out k _
  have hdn : ((strOfNums D).toList == []) = false := by
    cases D with
    | nil => simp at hdl; omega
    | cons c r => exact str_ne c r
  obtain ⟨R, hR⟩ : ∃ R, R = qnm 16 D 0 := ⟨_, rfl⟩
  rw [← hR]
  have HR : Hid (R = qnm 16 (D.drop 0) 0) := hR
  clear hR
  go_enter Tryd.func25, Tryd.ntmps25
  go_wp2
  go_quiet (fail)
  go_wp2
  go_loopw [6, 7] (fun v i wr => ∃ (n : Int) (k : Nat), v = .int .u64 n ∧ i = .int .i64 (k : Int) ∧ 0 ≤ n ∧ n ≤ 18446744073709551615 ∧ k ≤ D.length ∧ Hid (R = qnm 16 (D.drop k) n) ∧ wr = w.drewN nq) (fun _ i _ => D.length - (intOf i).toNat)
  case atStart => exact ⟨0, 0, rfl, rfl, by omega, by omega, by omega, HR, rfl⟩
  case round =>
    obtain ⟨n, k, rfl, rfl, n0, n1, hkl, HQ, rfl⟩ := hrel
    by_cases hk : k < D.length
    · have hat := HA.out k hk
      obtain ⟨c0, c255⟩ := HZD.out k
      have HQ' := HQ.out
      rw [drop_at hk, qnm] at HQ'
      generalize D.getD k 0 = c at hat c0 c255 HQ'
      have q := fun W => rdigit_any c W c0 c255
      obtain ⟨d0, d99⟩ := dgt_bd c
      generalize dgt c = d at q d0 d99 HQ'
      have Q : Hid _ := q
      have HQ2 : Hid _ := HQ'
      clear HQ' HQ q HR
      by_cases hb : 16 ≤ d
      · have E : Hid (R = (0, false)) := by have := HQ2.out; rw [if_pos (Or.inl hb)] at this; exact this
        clear HQ2
        go_wp2_with fail
        refine Calls.mono (Q.out _) ?_
        rintro e w1 ⟨rfl, rfl⟩
        go_wp2
        go_ret2
        exact ⟨by rw [E.out]; rfl, below_drewN (Below.refl _ _) _⟩
      · by_cases ho : (18446744073709551615 - d) / 16 < n
        · have E : Hid (R = (0, false)) := by have := HQ2.out; rw [if_pos (Or.inr ho)] at this; exact this
          clear HQ2
          go_wp2_with fail
          refine Calls.mono (Q.out _) ?_
          rintro e w1 ⟨rfl, rfl⟩
          go_wp2
          go_ret2
          exact ⟨by rw [E.out]; rfl, below_drewN (Below.refl _ _) _⟩
        · have E : Hid (R = qnm 16 (D.drop (k + 1)) (n * 16 + d)) := by have := HQ2.out; rw [if_neg (by omega)] at this; exact this
          clear HQ2
          go_wp2_with fail
          refine Calls.mono (Q.out _) ?_
          rintro e w1 ⟨rfl, rfl⟩
          go_wp2
          go_roundw
          case rel => exact ⟨n * 16 + d, k + 1, rfl, by go_num, by omega, by omega, by omega, E, by first | rfl | trivial⟩
          case measure => simp [intOf]; omega
    · obtain rfl : k = D.length := by omega
      have E : Hid (R = (n, true)) := by show _ = _; rw [HQ.out, List.drop_eq_nil_of_le (Nat.le_refl _)]; rfl
      clear HQ HR
      go_wp2
      go_ret2
      exact ⟨by rw [E.out]; rfl, below_drewN (Below.refl _ _) _⟩

set_option maxHeartbeats 1000000 in
theorem rnum_16b (zs : List Int) (w : World) (hz : Hid (∀ i, 0 ≤ zs.getD i 0 ∧ zs.getD i 0 ≤ 255)) (hlen : (zs.length : Int) ≤ 100000000) (h1 : 2 < zs.length) (hv0 : zs.getD 0 0 = 48) (hv1 : zs.getD 1 0 = 88) :
    Calls Tryd.prog 25 #[.string (strOfNums zs)] w fun e w' => e = .returned (.tuple #[.int .u64 (qnm 16 (zs.drop 2) 0).1, .bool (qnm 16 (zs.drop 2) 0).2]) ∧ Below w.heap.size w w' := by
  have hsz := strOfNums_size zs
  have hat0 := str_at zs hz.out 0 (by rw [hsz]; omega)
  rw [hv0] at hat0
  have hat1 := str_at zs hz.out 1 (by rw [hsz]; omega)
  rw [hv1] at hat1
  have hex : (strOfNums zs).extract 2 zs.length = strOfNums (zs.drop 2) := by rw [str_cut, List.take_of_length_le (by simp)]
  have HZD : Hid (∀ i, 0 ≤ (zs.drop 2).getD i 0 ∧ (zs.drop 2).getD i 0 ≤ 255) := fun i => by rw [getD_drop']; exact hz.out _
  have hdl : (zs.drop 2).length = zs.length - 2 := List.length_drop
  generalize zs.drop 2 = D at hex HZD hdl
  have hsd := strOfNums_size D
  have HA : Hid (∀ k, (h : k < D.length) → (((strOfNums D)[k]'(by rw [hsd]; exact h)).toNat : Int) = D.getD k 0) := fun k h => str_at D HZD.out k _
  have hdn : ((strOfNums D).toList == []) = false := by
    cases D with
    | nil => simp at hdl; omega
    | cons c r => exact str_ne c r
  obtain ⟨R, hR⟩ : ∃ R, R = qnm 16 D 0 := ⟨_, rfl⟩
  rw [← hR]
  have HR : Hid (R = qnm 16 (D.drop 0) 0) := hR
  clear hR
  go_enter Tryd.func25, Tryd.ntmps25
  go_wp2
  go_quiet (fail)
  go_wp2
  go_loopw [6, 7] (fun v i wr => ∃ (n : Int) (k : Nat), v = .int .u64 n ∧ i = .int .i64 (k : Int) ∧ 0 ≤ n ∧ n ≤ 18446744073709551615 ∧ k ≤ D.length ∧ Hid (R = qnm 16 (D.drop k) n) ∧ wr = w.drewN nq) (fun _ i _ => D.length - (intOf i).toNat)
  case atStart => exact ⟨0, 0, rfl, rfl, by omega, by omega, by omega, HR, rfl⟩
  case round =>
    obtain ⟨n, k, rfl, rfl, n0, n1, hkl, HQ, rfl⟩ := hrel
    by_cases hk : k < D.length
    · have hat := HA.out k hk
      obtain ⟨c0, c255⟩ := HZD.out k
      have HQ' := HQ.out
      rw [drop_at hk, qnm] at HQ'
      generalize D.getD k 0 = c at hat c0 c255 HQ'
      have q := fun W => rdigit_any c W c0 c255
      obtain ⟨d0, d99⟩ := dgt_bd c
      generalize dgt c = d at q d0 d99 HQ'
      have Q : Hid _ := q
      have HQ2 : Hid _ := HQ'
      clear HQ' HQ q HR
      by_cases hb : 16 ≤ d
      · have E : Hid (R = (0, false)) := by have := HQ2.out; rw [if_pos (Or.inl hb)] at this; exact this
        clear HQ2
        go_wp2_with fail
        refine Calls.mono (Q.out _) ?_
        rintro e w1 ⟨rfl, rfl⟩
        go_wp2
        go_ret2
        exact ⟨by rw [E.out]; rfl, below_drewN (Below.refl _ _) _⟩
      · by_cases ho : (18446744073709551615 - d) / 16 < n
        · have E : Hid (R = (0, false)) := by have := HQ2.out; rw [if_pos (Or.inr ho)] at this; exact this
          clear HQ2
          go_wp2_with fail
          refine Calls.mono (Q.out _) ?_
          rintro e w1 ⟨rfl, rfl⟩
          go_wp2
          go_ret2
          exact ⟨by rw [E.out]; rfl, below_drewN (Below.refl _ _) _⟩
        · have E : Hid (R = qnm 16 (D.drop (k + 1)) (n * 16 + d)) := by have := HQ2.out; rw [if_neg (by omega)] at this; exact this
          clear HQ2
          go_wp2_with fail
          refine Calls.mono (Q.out _) ?_
          rintro e w1 ⟨rfl, rfl⟩
          go_wp2
          go_roundw
          case rel => exact ⟨n * 16 + d, k + 1, rfl, by go_num, by omega, by omega, by omega, E, by first | rfl | trivial⟩
          case measure => simp [intOf]; omega
    · obtain rfl : k = D.length := by omega
      have E : Hid (R = (n, true)) := by show _ = _; rw [HQ.out, List.drop_eq_nil_of_le (Nat.le_refl _)]; rfl
      clear HQ HR
      go_wp2
      go_ret2
      exact ⟨by rw [E.out]; rfl, below_drewN (Below.refl _ _) _⟩

set_option maxHeartbeats 400000 in
theorem rnum_nil (w : World) : Calls Tryd.prog 25 #[.string (strOfNums [])] w fun e w' => e = .returned (.tuple #[.int .u64 0, .bool false]) ∧ w = w' := by
  have hne : ((strOfNums []).toList == []) = true := by rw [str_list]; rfl
  have hsz : (strOfNums []).size = 0 := strOfNums_size []
  generalize strOfNums [] = S at hne hsz
  go_enter Tryd.func25, Tryd.ntmps25
  go_wp2
  refine wp_loop_rounds 1 ?_
  rw [rounds_succ]
  go_wp2
  go_ret2
  exact ⟨rfl, rfl⟩

theorem rnum_any (zs : List Int) (w : World) (hz : Hid (∀ i, 0 ≤ zs.getD i 0 ∧ zs.getD i 0 ≤ 255)) (hlen : (zs.length : Int) ≤ 100000000) :
    Calls Tryd.prog 25 #[.string (strOfNums zs)] w fun e w' => e = .returned (.tuple #[.int .u64 (qnum zs).1, .bool (qnum zs).2]) ∧ Below w.heap.size w w' := by
  by_cases h0 : zs = []
  · subst h0
    exact (rnum_nil w).mono fun e w' ⟨h1, h2⟩ => ⟨h1, h2 ▸ Below.refl _ _⟩
  have hp : 0 < zs.length := List.length_pos_iff.2 h0
  unfold qnum
  by_cases h1 : zs.length = 1
  · rw [if_neg (by omega), if_neg (by omega), if_neg h0]
    exact rnum_10a zs w hz hlen hp h1
  by_cases hv : zs.getD 0 0 = 48
  · by_cases h2 : zs.length = 2
    · rw [if_neg (by omega), if_pos ⟨by omega, hv⟩]
      exact rnum_8a zs w hz hlen h2 hv
    · by_cases hx : zs.getD 1 0 = 120
      · rw [if_pos ⟨by omega, hv, Or.inl hx⟩]
        exact rnum_16a zs w hz hlen (by omega) hv hx
      by_cases hX : zs.getD 1 0 = 88
      · rw [if_pos ⟨by omega, hv, Or.inr hX⟩]
        exact rnum_16b zs w hz hlen (by omega) hv hX
      rw [if_neg (by omega), if_pos ⟨by omega, hv⟩]
      exact rnum_8b zs w hz hlen (by omega) hv (by simpa using hx) (by simpa using hX)
  · rw [if_neg (by omega), if_neg (by omega), if_neg h0]
    by_cases h2 : zs.length = 2
    · exact rnum_10b zs w hz hlen hp h2 (by simpa using hv)
    · exact rnum_10c zs w hz hlen hp (by omega) (by simpa using hv)

theorem enc_1 (c : Int) (h0 : 0 ≤ c) (h1 : c < 128) : Utf8.encode c = strOfNums [c] := by
  have hv : Utf8.valid c = true := by unfold Utf8.valid; simp; omega
  unfold Utf8.encode
  rw [hv]
  simp only [if_true]
  rw [if_pos (by omega)]
  rfl

theorem str_app (a b : List Int) : strOfNums a ++ strOfNums b = strOfNums (a ++ b) := by
  unfold strOfNums
  rw [ByteArray.mk_append_mk, List.map_append]

theorem run_add (w : World) (a b : List Int) (h : a.length + b.length ≤ 9223372036854775807) : (Op.stringOp .add (strOfNums a) (strOfNums b)).run Tryd.prog w = .ok (.string (strOfNums (a ++ b))) w := by
  rw [run_string_add_sum w _ _ (by rw [strOfNums_size, strOfNums_size]; exact h), str_app]

end Go.Proofs.YtjkcmcefmciinaaDoor
