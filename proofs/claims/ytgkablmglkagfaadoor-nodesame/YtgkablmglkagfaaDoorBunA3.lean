/- Put together by a program out of these texts of mine: QNum, NRef, NRef2, NStr, TMem, TMath. -/
import Derived.Deep.QuietTactic
import Derived.BigQuiet
import Derived.WalkSmall
import Derived.SliceStrings
import Derived.Deep.Slices
import Derived.Test.YtgkablmglkagfaaDoorBunA2

/- The contracts of the document's own answers on numbers (the reference's Number, Digits), over the turned text. -/
namespace Go.Proofs.YtgkablmglkagfaaDoor
open Go.RowKit
set_option linter.unusedVariables false

set_option maxHeartbeats 1000000 in
theorem rnum_10a (zs : List Int) (w : World) (hz : Hid (∀ i, 0 ≤ zs.getD i 0 ∧ zs.getD i 0 ≤ 255)) (hlen : (zs.length : Int) ≤ 100000000) (h0 : 0 < zs.length) (h1 : zs.length = 1) :
    Calls Tryd.prog 34 #[.string (strOfNums zs)] w fun e w' => e = .returned (.tuple #[.int .u64 (qnm 10 (zs) 0).1, .bool (qnm 10 (zs) 0).2]) ∧ Below w.heap.size w w' := by
  have hsz := strOfNums_size zs
  have HA : Hid (∀ k, (h : k < zs.length) → (((strOfNums zs)[k]'(by rw [hsz]; exact h)).toNat : Int) = zs.getD k 0) := fun k h => str_at zs hz.out k _
  have hdn : ((strOfNums zs).toList == []) = false := by
    cases zs with
    | nil => simp at h0
    | cons c r => exact str_ne c r
  have HZD := hz
  obtain ⟨R, hR⟩ : ∃ R, R = qnm 10 zs 0 := ⟨_, rfl⟩
  rw [← hR]
  have HR : Hid (R = qnm 10 (zs.drop 0) 0) := hR
  clear hR
  go_enter Tryd.func34, Tryd.ntmps34
  go_wp2
  go_loopw [6, 7] (fun v i wr => ∃ (n : Int) (k : Nat), v = .int .u64 n ∧ i = .int .i64 (k : Int) ∧ 0 ≤ n ∧ n ≤ 18446744073709551615 ∧ k ≤ zs.length ∧ Hid (R = qnm 10 (zs.drop k) n) ∧ wr = w) (fun _ i _ => zs.length - (intOf i).toNat)
  case atStart => exact ⟨0, 0, rfl, rfl, by omega, by omega, by omega, HR, rfl⟩
  case round =>
    obtain ⟨n, k, rfl, rfl, n0, n1, hkl, HQ, rfl⟩ := hrel
    by_cases hk : k < zs.length
    · have hat := HA.out k hk
      obtain ⟨c0, c255⟩ := HZD.out k
      have HQ' := HQ.out
      rw [drop_at hk, qnm] at HQ'
      generalize zs.getD k 0 = c at hat c0 c255 HQ'
      have q := fun W => rdigit_any c W c0 c255
      obtain ⟨d0, d99⟩ := dgt_bd c
      generalize dgt c = d at q d0 d99 HQ'
      have Q : Hid _ := q
      have HQ2 : Hid _ := HQ'
      clear HQ' HQ q HR
      by_cases hb : 10 ≤ d
      · have E : Hid (R = (0, false)) := by have := HQ2.out; rw [if_pos (Or.inl hb)] at this; exact this
        clear HQ2
        go_wp2_with fail
        refine Calls.mono (Q.out _) ?_
        rintro e w1 ⟨rfl, rfl⟩
        go_wp2
        go_ret2
        exact ⟨by rw [E.out]; rfl, Below.refl _ _⟩
      · by_cases ho : (18446744073709551615 - d) / 10 < n
        · have E : Hid (R = (0, false)) := by have := HQ2.out; rw [if_pos (Or.inr ho)] at this; exact this
          clear HQ2
          go_wp2_with fail
          refine Calls.mono (Q.out _) ?_
          rintro e w1 ⟨rfl, rfl⟩
          go_wp2
          go_ret2
          exact ⟨by rw [E.out]; rfl, Below.refl _ _⟩
        · have E : Hid (R = qnm 10 (zs.drop (k + 1)) (n * 10 + d)) := by have := HQ2.out; rw [if_neg (by omega)] at this; exact this
          clear HQ2
          go_wp2_with fail
          refine Calls.mono (Q.out _) ?_
          rintro e w1 ⟨rfl, rfl⟩
          go_wp2
          go_roundw
          case rel => exact ⟨n * 10 + d, k + 1, rfl, by go_num, by omega, by omega, by omega, E, by first | rfl | trivial⟩
          case measure => simp [intOf]; omega
    · obtain rfl : k = zs.length := by omega
      have E : Hid (R = (n, true)) := by show _ = _; rw [HQ.out, List.drop_eq_nil_of_le (Nat.le_refl _)]; rfl
      clear HQ HR
      go_wp2
      go_ret2
      exact ⟨by rw [E.out]; rfl, Below.refl _ _⟩

set_option maxHeartbeats 1000000 in
theorem rnum_10b (zs : List Int) (w : World) (hz : Hid (∀ i, 0 ≤ zs.getD i 0 ∧ zs.getD i 0 ≤ 255)) (hlen : (zs.length : Int) ≤ 100000000) (h0 : 0 < zs.length) (h1 : zs.length = 2) (hn : (zs.getD 0 0 == 48) = false) :
    Calls Tryd.prog 34 #[.string (strOfNums zs)] w fun e w' => e = .returned (.tuple #[.int .u64 (qnm 10 (zs) 0).1, .bool (qnm 10 (zs) 0).2]) ∧ Below w.heap.size w w' := by
  have hsz := strOfNums_size zs
  obtain ⟨cz, hcz⟩ : ∃ c, c = zs.getD 0 0 := ⟨_, rfl⟩
  have hat0 := str_at zs hz.out 0 (by rw [hsz]; omega)
  rw [← hcz] at hat0 hn
  obtain ⟨cz0, cz1⟩ := hz.out 0
  rw [← hcz] at cz0 cz1
  clear hcz
  have HA : Hid (∀ k, (h : k < zs.length) → (((strOfNums zs)[k]'(by rw [hsz]; exact h)).toNat : Int) = zs.getD k 0) := fun k h => str_at zs hz.out k _
  have hdn : ((strOfNums zs).toList == []) = false := by
    cases zs with
    | nil => simp at h0
    | cons c r => exact str_ne c r
  have HZD := hz
  obtain ⟨R, hR⟩ : ∃ R, R = qnm 10 zs 0 := ⟨_, rfl⟩
  rw [← hR]
  have HR : Hid (R = qnm 10 (zs.drop 0) 0) := hR
  clear hR
  go_enter Tryd.func34, Tryd.ntmps34
  go_wp2
  go_loopw [6, 7] (fun v i wr => ∃ (n : Int) (k : Nat), v = .int .u64 n ∧ i = .int .i64 (k : Int) ∧ 0 ≤ n ∧ n ≤ 18446744073709551615 ∧ k ≤ zs.length ∧ Hid (R = qnm 10 (zs.drop k) n) ∧ wr = w) (fun _ i _ => zs.length - (intOf i).toNat)
  case atStart => exact ⟨0, 0, rfl, rfl, by omega, by omega, by omega, HR, rfl⟩
  case round =>
    obtain ⟨n, k, rfl, rfl, n0, n1, hkl, HQ, rfl⟩ := hrel
    by_cases hk : k < zs.length
    · have hat := HA.out k hk
      obtain ⟨c0, c255⟩ := HZD.out k
      have HQ' := HQ.out
      rw [drop_at hk, qnm] at HQ'
      generalize zs.getD k 0 = c at hat c0 c255 HQ'
      have q := fun W => rdigit_any c W c0 c255
      obtain ⟨d0, d99⟩ := dgt_bd c
      generalize dgt c = d at q d0 d99 HQ'
      have Q : Hid _ := q
      have HQ2 : Hid _ := HQ'
      clear HQ' HQ q HR
      by_cases hb : 10 ≤ d
      · have E : Hid (R = (0, false)) := by have := HQ2.out; rw [if_pos (Or.inl hb)] at this; exact this
        clear HQ2
        go_wp2_with fail
        refine Calls.mono (Q.out _) ?_
        rintro e w1 ⟨rfl, rfl⟩
        go_wp2
        go_ret2
        exact ⟨by rw [E.out]; rfl, Below.refl _ _⟩
      · by_cases ho : (18446744073709551615 - d) / 10 < n
        · have E : Hid (R = (0, false)) := by have := HQ2.out; rw [if_pos (Or.inr ho)] at this; exact this
          clear HQ2
          go_wp2_with fail
          refine Calls.mono (Q.out _) ?_
          rintro e w1 ⟨rfl, rfl⟩
          go_wp2
          go_ret2
          exact ⟨by rw [E.out]; rfl, Below.refl _ _⟩
        · have E : Hid (R = qnm 10 (zs.drop (k + 1)) (n * 10 + d)) := by have := HQ2.out; rw [if_neg (by omega)] at this; exact this
          clear HQ2
          go_wp2_with fail
          refine Calls.mono (Q.out _) ?_
          rintro e w1 ⟨rfl, rfl⟩
          go_wp2
          go_roundw
          case rel => exact ⟨n * 10 + d, k + 1, rfl, by go_num, by omega, by omega, by omega, E, by first | rfl | trivial⟩
          case measure => simp [intOf]; omega
    · obtain rfl : k = zs.length := by omega
      have E : Hid (R = (n, true)) := by show _ = _; rw [HQ.out, List.drop_eq_nil_of_le (Nat.le_refl _)]; rfl
      clear HQ HR
      go_wp2
      go_ret2
      exact ⟨by rw [E.out]; rfl, Below.refl _ _⟩

set_option maxHeartbeats 1000000 in
theorem rnum_10c (zs : List Int) (w : World) (hz : Hid (∀ i, 0 ≤ zs.getD i 0 ∧ zs.getD i 0 ≤ 255)) (hlen : (zs.length : Int) ≤ 100000000) (h0 : 0 < zs.length) (h1 : 2 < zs.length) (hn : (zs.getD 0 0 == 48) = false) :
    Calls Tryd.prog 34 #[.string (strOfNums zs)] w fun e w' => e = .returned (.tuple #[.int .u64 (qnm 10 (zs) 0).1, .bool (qnm 10 (zs) 0).2]) ∧ Below w.heap.size w w' := by
  have hsz := strOfNums_size zs
  obtain ⟨cz, hcz⟩ : ∃ c, c = zs.getD 0 0 := ⟨_, rfl⟩
  have hat0 := str_at zs hz.out 0 (by rw [hsz]; omega)
  rw [← hcz] at hat0 hn
  obtain ⟨cz0, cz1⟩ := hz.out 0
  rw [← hcz] at cz0 cz1
  clear hcz
  have HA : Hid (∀ k, (h : k < zs.length) → (((strOfNums zs)[k]'(by rw [hsz]; exact h)).toNat : Int) = zs.getD k 0) := fun k h => str_at zs hz.out k _
  have hdn : ((strOfNums zs).toList == []) = false := by
    cases zs with
    | nil => simp at h0
    | cons c r => exact str_ne c r
  have HZD := hz
  obtain ⟨R, hR⟩ : ∃ R, R = qnm 10 zs 0 := ⟨_, rfl⟩
  rw [← hR]
  have HR : Hid (R = qnm 10 (zs.drop 0) 0) := hR
  clear hR
  go_enter Tryd.func34, Tryd.ntmps34
  go_wp2
  go_loopw [6, 7] (fun v i wr => ∃ (n : Int) (k : Nat), v = .int .u64 n ∧ i = .int .i64 (k : Int) ∧ 0 ≤ n ∧ n ≤ 18446744073709551615 ∧ k ≤ zs.length ∧ Hid (R = qnm 10 (zs.drop k) n) ∧ wr = w) (fun _ i _ => zs.length - (intOf i).toNat)
  case atStart => exact ⟨0, 0, rfl, rfl, by omega, by omega, by omega, HR, rfl⟩
  case round =>
    obtain ⟨n, k, rfl, rfl, n0, n1, hkl, HQ, rfl⟩ := hrel
    by_cases hk : k < zs.length
    · have hat := HA.out k hk
      obtain ⟨c0, c255⟩ := HZD.out k
      have HQ' := HQ.out
      rw [drop_at hk, qnm] at HQ'
      generalize zs.getD k 0 = c at hat c0 c255 HQ'
      have q := fun W => rdigit_any c W c0 c255
      obtain ⟨d0, d99⟩ := dgt_bd c
      generalize dgt c = d at q d0 d99 HQ'
      have Q : Hid _ := q
      have HQ2 : Hid _ := HQ'
      clear HQ' HQ q HR
      by_cases hb : 10 ≤ d
      · have E : Hid (R = (0, false)) := by have := HQ2.out; rw [if_pos (Or.inl hb)] at this; exact this
        clear HQ2
        go_wp2_with fail
        refine Calls.mono (Q.out _) ?_
        rintro e w1 ⟨rfl, rfl⟩
        go_wp2
        go_ret2
        exact ⟨by rw [E.out]; rfl, Below.refl _ _⟩
      · by_cases ho : (18446744073709551615 - d) / 10 < n
        · have E : Hid (R = (0, false)) := by have := HQ2.out; rw [if_pos (Or.inr ho)] at this; exact this
          clear HQ2
          go_wp2_with fail
          refine Calls.mono (Q.out _) ?_
          rintro e w1 ⟨rfl, rfl⟩
          go_wp2
          go_ret2
          exact ⟨by rw [E.out]; rfl, Below.refl _ _⟩
        · have E : Hid (R = qnm 10 (zs.drop (k + 1)) (n * 10 + d)) := by have := HQ2.out; rw [if_neg (by omega)] at this; exact this
          clear HQ2
          go_wp2_with fail
          refine Calls.mono (Q.out _) ?_
          rintro e w1 ⟨rfl, rfl⟩
          go_wp2
          go_roundw
          case rel => exact ⟨n * 10 + d, k + 1, rfl, by go_num, by omega, by omega, by omega, E, by first | rfl | trivial⟩
          case measure => simp [intOf]; omega
    · obtain rfl : k = zs.length := by omega
      have E : Hid (R = (n, true)) := by show _ = _; rw [HQ.out, List.drop_eq_nil_of_le (Nat.le_refl _)]; rfl
      clear HQ HR
      go_wp2
      go_ret2
      exact ⟨by rw [E.out]; rfl, Below.refl _ _⟩

set_option maxHeartbeats 1000000 in
theorem rnum_8a (zs : List Int) (w : World) (hz : Hid (∀ i, 0 ≤ zs.getD i 0 ∧ zs.getD i 0 ≤ 255)) (hlen : (zs.length : Int) ≤ 100000000) (h1 : zs.length = 2) (hv0 : zs.getD 0 0 = 48) :
    Calls Tryd.prog 34 #[.string (strOfNums zs)] w fun e w' => e = .returned (.tuple #[.int .u64 (qnm 8 (zs.drop 1) 0).1, .bool (qnm 8 (zs.drop 1) 0).2]) ∧ Below w.heap.size w w' := by
  have hsz := strOfNums_size zs
  have hat0 := str_at zs hz.out 0 (by rw [hsz]; omega)
  rw [hv0] at hat0
  have hex : (strOfNums zs).extract 1 zs.length = strOfNums (zs.drop 1) := by rw [str_cut, List.take_of_length_le (by simp)]
  have HZD : Hid (∀ i, 0 ≤ (zs.drop 1).getD i 0 ∧ (zs.drop 1).getD i 0 ≤ 255) := fun i => by rw [getD_drop']; exact hz.out _
  have hdl : (zs.drop 1).length = zs.length - 1 := List.length_drop
  generalize zs.drop 1 = D at hex HZD hdl
  rw [h1] at hex
  have hsd := strOfNums_size D
  have HA : Hid (∀ k, (h : k < D.length) → (((strOfNums D)[k]'(by rw [hsd]; exact h)).toNat : Int) = D.getD k 0) := fun k h => str_at D HZD.out k _
  have hdn : ((strOfNums D).toList == []) = false := by
    cases D with
    | nil => simp at hdl; omega
    | cons c r => exact str_ne c r
  obtain ⟨R, hR⟩ : ∃ R, R = qnm 8 D 0 := ⟨_, rfl⟩
  rw [← hR]
  have HR : Hid (R = qnm 8 (D.drop 0) 0) := hR
  clear hR
  go_enter Tryd.func34, Tryd.ntmps34
  go_wp2
  go_quiet (fail)
  go_wp2
  go_loopw [6, 7] (fun v i wr => ∃ (n : Int) (k : Nat), v = .int .u64 n ∧ i = .int .i64 (k : Int) ∧ 0 ≤ n ∧ n ≤ 18446744073709551615 ∧ k ≤ D.length ∧ Hid (R = qnm 8 (D.drop k) n) ∧ wr = w.drewN nq) (fun _ i _ => D.length - (intOf i).toNat)
  case atStart => exact ⟨0, 0, rfl, rfl, by omega, by omega, by omega, HR, rfl⟩
  case round =>
    obtain ⟨n, k, rfl, rfl, n0, n1, hkl, HQ, rfl⟩ := hrel
    by_cases hk : k < D.length
    · have hat := HA.out k hk
      obtain ⟨c0, c255⟩ := HZD.out k
      have HQ' := HQ.out
      rw [drop_at hk, qnm] at HQ'
      generalize D.getD k 0 = c at hat c0 c255 HQ'
      have q := fun W => rdigit_any c W c0 c255
      obtain ⟨d0, d99⟩ := dgt_bd c
      generalize dgt c = d at q d0 d99 HQ'
      have Q : Hid _ := q
      have HQ2 : Hid _ := HQ'
      clear HQ' HQ q HR
      by_cases hb : 8 ≤ d
      · have E : Hid (R = (0, false)) := by have := HQ2.out; rw [if_pos (Or.inl hb)] at this; exact this
        clear HQ2
        go_wp2_with fail
        refine Calls.mono (Q.out _) ?_
        rintro e w1 ⟨rfl, rfl⟩
        go_wp2
        go_ret2
        exact ⟨by rw [E.out]; rfl, below_drewN (Below.refl _ _) _⟩
      · by_cases ho : (18446744073709551615 - d) / 8 < n
        · have E : Hid (R = (0, false)) := by have := HQ2.out; rw [if_pos (Or.inr ho)] at this; exact this
          clear HQ2
          go_wp2_with fail
          refine Calls.mono (Q.out _) ?_
          rintro e w1 ⟨rfl, rfl⟩
          go_wp2
          go_ret2
          exact ⟨by rw [E.out]; rfl, below_drewN (Below.refl _ _) _⟩
        · have E : Hid (R = qnm 8 (D.drop (k + 1)) (n * 8 + d)) := by have := HQ2.out; rw [if_neg (by omega)] at this; exact this
          clear HQ2
          go_wp2_with fail
          refine Calls.mono (Q.out _) ?_
          rintro e w1 ⟨rfl, rfl⟩
          go_wp2
          go_roundw
          case rel => exact ⟨n * 8 + d, k + 1, rfl, by go_num, by omega, by omega, by omega, E, by first | rfl | trivial⟩
          case measure => simp [intOf]; omega
    · obtain rfl : k = D.length := by omega
      have E : Hid (R = (n, true)) := by show _ = _; rw [HQ.out, List.drop_eq_nil_of_le (Nat.le_refl _)]; rfl
      clear HQ HR
      go_wp2
      go_ret2
      exact ⟨by rw [E.out]; rfl, below_drewN (Below.refl _ _) _⟩

set_option maxHeartbeats 1000000 in
theorem rnum_8b (zs : List Int) (w : World) (hz : Hid (∀ i, 0 ≤ zs.getD i 0 ∧ zs.getD i 0 ≤ 255)) (hlen : (zs.length : Int) ≤ 100000000) (h1 : 2 < zs.length) (hv0 : zs.getD 0 0 = 48) (hn : (zs.getD 1 0 == 120) = false) (hm : (zs.getD 1 0 == 88) = false) :
    Calls Tryd.prog 34 #[.string (strOfNums zs)] w fun e w' => e = .returned (.tuple #[.int .u64 (qnm 8 (zs.drop 1) 0).1, .bool (qnm 8 (zs.drop 1) 0).2]) ∧ Below w.heap.size w w' := by
  have hsz := strOfNums_size zs
  have hat0 := str_at zs hz.out 0 (by rw [hsz]; omega)
  rw [hv0] at hat0
  obtain ⟨cz, hcz⟩ : ∃ c, c = zs.getD 1 0 := ⟨_, rfl⟩
  have hat1 := str_at zs hz.out 1 (by rw [hsz]; omega)
  rw [← hcz] at hat1 hn hm
  obtain ⟨cz0, cz1⟩ := hz.out 1
  rw [← hcz] at cz0 cz1
  clear hcz
  have hex : (strOfNums zs).extract 1 zs.length = strOfNums (zs.drop 1) := by rw [str_cut, List.take_of_length_le (by simp)]
  have HZD : Hid (∀ i, 0 ≤ (zs.drop 1).getD i 0 ∧ (zs.drop 1).getD i 0 ≤ 255) := fun i => by rw [getD_drop']; exact hz.out _
  have hdl : (zs.drop 1).length = zs.length - 1 := List.length_drop
  generalize zs.drop 1 = D at hex HZD hdl
  have hsd := strOfNums_size D
  have HA : Hid (∀ k, (h : k < D.length) → (((strOfNums D)[k]'(by rw [hsd]; exact h)).toNat : Int) = D.getD k 0) := fun k h => str_at D HZD.out k _
  have hdn : ((strOfNums D).toList == []) = false := by
    cases D with
    | nil => simp at hdl; omega
    | cons c r => exact str_ne c r
  obtain ⟨R, hR⟩ : ∃ R, R = qnm 8 D 0 := ⟨_, rfl⟩
  rw [← hR]
  have HR : Hid (R = qnm 8 (D.drop 0) 0) := hR
  clear hR
  go_enter Tryd.func34, Tryd.ntmps34
  go_wp2
  go_quiet (fail)
  go_wp2
  go_loopw [6, 7] (fun v i wr => ∃ (n : Int) (k : Nat), v = .int .u64 n ∧ i = .int .i64 (k : Int) ∧ 0 ≤ n ∧ n ≤ 18446744073709551615 ∧ k ≤ D.length ∧ Hid (R = qnm 8 (D.drop k) n) ∧ wr = w.drewN nq) (fun _ i _ => D.length - (intOf i).toNat)
  case atStart => exact ⟨0, 0, rfl, rfl, by omega, by omega, by omega, HR, rfl⟩
  case round =>
    obtain ⟨n, k, rfl, rfl, n0, n1, hkl, HQ, rfl⟩ := hrel
    by_cases hk : k < D.length
    · have hat := HA.out k hk
      obtain ⟨c0, c255⟩ := HZD.out k
      have HQ' := HQ.out
      rw [drop_at hk, qnm] at HQ'
      generalize D.getD k 0 = c at hat c0 c255 HQ'
      have q := fun W => rdigit_any c W c0 c255
      obtain ⟨d0, d99⟩ := dgt_bd c
      generalize dgt c = d at q d0 d99 HQ'
      have Q : Hid _ := q
      have HQ2 : Hid _ := HQ'
      clear HQ' HQ q HR
      by_cases hb : 8 ≤ d
      · have E : Hid (R = (0, false)) := by have := HQ2.out; rw [if_pos (Or.inl hb)] at this; exact this
        clear HQ2
        go_wp2_with fail
        refine Calls.mono (Q.out _) ?_
        rintro e w1 ⟨rfl, rfl⟩
        go_wp2
        go_ret2
        exact ⟨by rw [E.out]; rfl, below_drewN (Below.refl _ _) _⟩
      · by_cases ho : (18446744073709551615 - d) / 8 < n
        · have E : Hid (R = (0, false)) := by have := HQ2.out; rw [if_pos (Or.inr ho)] at this; exact this
          clear HQ2
          go_wp2_with fail
          refine Calls.mono (Q.out _) ?_
          rintro e w1 ⟨rfl, rfl⟩
          go_wp2
          go_ret2
          exact ⟨by rw [E.out]; rfl, below_drewN (Below.refl _ _) _⟩
        · have E : Hid (R = qnm 8 (D.drop (k + 1)) (n * 8 + d)) := by have := HQ2.out; rw [if_neg (by omega)] at this; exact this
          clear HQ2
          go_wp2_with fail
          refine Calls.mono (Q.out _) ?_
          rintro e w1 ⟨rfl, rfl⟩
          go_wp2
          go_roundw
          case rel => exact ⟨n * 8 + d, k + 1, rfl, by go_num, by omega, by omega, by omega, E, by first | rfl | trivial⟩
          case measure => simp [intOf]; omega
    · obtain rfl : k = D.length := by omega
      have E : Hid (R = (n, true)) := by show _ = _; rw [HQ.out, List.drop_eq_nil_of_le (Nat.le_refl _)]; rfl
      clear HQ HR
      go_wp2
      go_ret2
      exact ⟨by rw [E.out]; rfl, below_drewN (Below.refl _ _) _⟩

set_option maxHeartbeats 1000000 in
theorem rnum_16a (zs : List Int) (w : World) (hz : Hid (∀ i, 0 ≤ zs.getD i 0 ∧ zs.getD i 0 ≤ 255)) (hlen : (zs.length : Int) ≤ 100000000) (h1 : 2 < zs.length) (hv0 : zs.getD 0 0 = 48) (hv1 : zs.getD 1 0 = 120) :
    Calls Tryd.prog 34 #[.string (strOfNums zs)] w fun e w' => e = .returned (.tuple #[.int .u64 (qnm 16 (zs.drop 2) 0).1, .bool (qnm 16 (zs.drop 2) 0).2]) ∧ Below w.heap.size w w' := by
  have hsz := strOfNums_size zs
  have hat0 := str_at zs hz.out 0 (by rw [hsz]; omega)
  rw [hv0] at hat0
  have hat1 := str_at zs hz.out 1 (by rw [hsz]; omega)
  rw [hv1] at hat1
  have hex : (strOfNums zs).extract 2 zs.length = strOfNums (zs.drop 2) := by rw [str_cut, List.take_of_length_le (by simp)]
  have HZD : Hid (∀ i, 0 ≤ (zs.drop 2).getD i 0 ∧ (zs.drop 2).getD i 0 ≤ 255) := fun i => by rw [getD_drop']; exact hz.out _
  have hdl : (zs.drop 2).length = zs.length - 2 := List.length_drop
  generalize zs.drop 2 = D at hex HZD hdl
  have hsd := strOfNums_size D
  have HA : Hid (∀ k, (h : k < D.length) → (((strOfNums D)[k]'(by rw [hsd]; exact h)).toNat : Int) = D.getD k 0) := fun k h => str_at D HZD.out k _
  have hdn : ((strOfNums D).toList == []) = false := by
    cases D with
    | nil => simp at hdl; omega
    | cons c r => exact str_ne c r
  obtain ⟨R, hR⟩ : ∃ R, R = qnm 16 D 0 := ⟨_, rfl⟩
  rw [← hR]
  have HR : Hid (R = qnm 16 (D.drop 0) 0) := hR
  clear hR
  go_enter Tryd.func34, Tryd.ntmps34
  go_wp2
  go_quiet (fail)
  go_wp2
  go_loopw [6, 7] (fun v i wr => ∃ (n : Int) (k : Nat), v = .int .u64 n ∧ i = .int .i64 (k : Int) ∧ 0 ≤ n ∧ n ≤ 18446744073709551615 ∧ k ≤ D.length ∧ Hid (R = qnm 16 (D.drop k) n) ∧ wr = w.drewN nq) (fun _ i _ => D.length - (intOf i).toNat)
  case atStart => exact ⟨0, 0, rfl, rfl, by omega, by omega, by omega, HR, rfl⟩
  case round =>
    obtain ⟨n, k, rfl, rfl, n0, n1, hkl, HQ, rfl⟩ := hrel
    by_cases hk : k < D.length
    · have hat := HA.out k hk
      obtain ⟨c0, c255⟩ := HZD.out k
      have HQ' := HQ.out
      rw [drop_at hk, qnm] at HQ'
      generalize D.getD k 0 = c at hat c0 c255 HQ'
      have q := fun W => rdigit_any c W c0 c255
      obtain ⟨d0, d99⟩ := dgt_bd c
      generalize dgt c = d at q d0 d99 HQ'
      have Q : Hid _ := q
      have HQ2 : Hid _ := HQ'
      clear HQ' HQ q HR
      by_cases hb : 16 ≤ d
      · have E : Hid (R = (0, false)) := by have := HQ2.out; rw [if_pos (Or.inl hb)] at this; exact this
        clear HQ2
        go_wp2_with fail
        refine Calls.mono (Q.out _) ?_
        rintro e w1 ⟨rfl, rfl⟩
        go_wp2
        go_ret2
        exact ⟨by rw [E.out]; rfl, below_drewN (Below.refl _ _) _⟩
      · by_cases ho : (18446744073709551615 - d) / 16 < n
        · have E : Hid (R = (0, false)) := by have := HQ2.out; rw [if_pos (Or.inr ho)] at this; exact this
          clear HQ2
          go_wp2_with fail
          refine Calls.mono (Q.out _) ?_
          rintro e w1 ⟨rfl, rfl⟩
          go_wp2
          go_ret2
          exact ⟨by rw [E.out]; rfl, below_drewN (Below.refl _ _) _⟩
        · have E : Hid (R = qnm 16 (D.drop (k + 1)) (n * 16 + d)) := by have := HQ2.out; rw [if_neg (by omega)] at this; exact this
          clear HQ2
          go_wp2_with fail
          refine Calls.mono (Q.out _) ?_
          rintro e w1 ⟨rfl, rfl⟩
          go_wp2
          go_roundw
          case rel => exact ⟨n * 16 + d, k + 1, rfl, by go_num, by omega, by omega, by omega, E, by first | rfl | trivial⟩
          case measure => simp [intOf]; omega
    · obtain rfl : k = D.length := by omega
      have E : Hid (R = (n, true)) := by show _ = _; rw [HQ.out, List.drop_eq_nil_of_le (Nat.le_refl _)]; rfl
      clear HQ HR
      go_wp2
      go_ret2
      exact ⟨by rw [E.out]; rfl, below_drewN (Below.refl _ _) _⟩

set_option maxHeartbeats 1000000 in
theorem rnum_16b (zs : List Int) (w : World) (hz : Hid (∀ i, 0 ≤ zs.getD i 0 ∧ zs.getD i 0 ≤ 255)) (hlen : (zs.length : Int) ≤ 100000000) (h1 : 2 < zs.length) (hv0 : zs.getD 0 0 = 48) (hv1 : zs.getD 1 0 = 88) :
    Calls Tryd.prog 34 #[.string (strOfNums zs)] w fun e w' => e = .returned (.tuple #[.int .u64 (qnm 16 (zs.drop 2) 0).1, .bool (qnm 16 (zs.drop 2) 0).2]) ∧ Below w.heap.size w w' := by
  have hsz := strOfNums_size zs
  have hat0 := str_at zs hz.out 0 (by rw [hsz]; omega)
  rw [hv0] at hat0
  have hat1 := str_at zs hz.out 1 (by rw [hsz]; omega)
  rw [hv1] at hat1
  have hex : (strOfNums zs).extract 2 zs.length = strOfNums (zs.drop 2) := by rw [str_cut, List.take_of_length_le (by simp)]
  have HZD : Hid (∀ i, 0 ≤ (zs.drop 2).getD i 0 ∧ (zs.drop 2).getD i 0 ≤ 255) := fun i => by rw [getD_drop']; exact hz.out _
  have hdl : (zs.drop 2).length = zs.length - 2 := List.length_drop
  generalize zs.drop 2 = D at hex HZD hdl
  have hsd := strOfNums_size D
  have HA : Hid (∀ k, (h : k < D.length) → (((strOfNums D)[k]'(by rw [hsd]; exact h)).toNat : Int) = D.getD k 0) := fun k h => str_at D HZD.out k _
  have hdn : ((strOfNums D).toList == []) = false := by
    cases D with
    | nil => simp at hdl; omega
    | cons c r => exact str_ne c r
  obtain ⟨R, hR⟩ : ∃ R, R = qnm 16 D 0 := ⟨_, rfl⟩
  rw [← hR]
  have HR : Hid (R = qnm 16 (D.drop 0) 0) := hR
  clear hR
  go_enter Tryd.func34, Tryd.ntmps34
  go_wp2
  go_quiet (fail)
  go_wp2
  go_loopw [6, 7] (fun v i wr => ∃ (n : Int) (k : Nat), v = .int .u64 n ∧ i = .int .i64 (k : Int) ∧ 0 ≤ n ∧ n ≤ 18446744073709551615 ∧ k ≤ D.length ∧ Hid (R = qnm 16 (D.drop k) n) ∧ wr = w.drewN nq) (fun _ i _ => D.length - (intOf i).toNat)
  case atStart => exact ⟨0, 0, rfl, rfl, by omega, by omega, by omega, HR, rfl⟩
  case round =>
    obtain ⟨n, k, rfl, rfl, n0, n1, hkl, HQ, rfl⟩ := hrel
    by_cases hk : k < D.length
    · have hat := HA.out k hk
      obtain ⟨c0, c255⟩ := HZD.out k
      have HQ' := HQ.out
      rw [drop_at hk, qnm] at HQ'
      generalize D.getD k 0 = c at hat c0 c255 HQ'
      have q := fun W => rdigit_any c W c0 c255
      obtain ⟨d0, d99⟩ := dgt_bd c
      generalize dgt c = d at q d0 d99 HQ'
      have Q : Hid _ := q
      have HQ2 : Hid _ := HQ'
      clear HQ' HQ q HR
      by_cases hb : 16 ≤ d
      · have E : Hid (R = (0, false)) := by have := HQ2.out; rw [if_pos (Or.inl hb)] at this; exact this
        clear HQ2
        go_wp2_with fail
        refine Calls.mono (Q.out _) ?_
        rintro e w1 ⟨rfl, rfl⟩
        go_wp2
        go_ret2
        exact ⟨by rw [E.out]; rfl, below_drewN (Below.refl _ _) _⟩
      · by_cases ho : (18446744073709551615 - d) / 16 < n
        · have E : Hid (R = (0, false)) := by have := HQ2.out; rw [if_pos (Or.inr ho)] at this; exact this
          clear HQ2
          go_wp2_with fail
          refine Calls.mono (Q.out _) ?_
          rintro e w1 ⟨rfl, rfl⟩
          go_wp2
          go_ret2
          exact ⟨by rw [E.out]; rfl, below_drewN (Below.refl _ _) _⟩
        · have E : Hid (R = qnm 16 (D.drop (k + 1)) (n * 16 + d)) := by have := HQ2.out; rw [if_neg (by omega)] at this; exact this
          clear HQ2
          go_wp2_with fail
          refine Calls.mono (Q.out _) ?_
          rintro e w1 ⟨rfl, rfl⟩
          go_wp2
          go_roundw
          case rel => exact ⟨n * 16 + d, k + 1, rfl, by go_num, by omega, by omega, by omega, E, by first | rfl | trivial⟩
          case measure => simp [intOf]; omega
    · obtain rfl : k = D.length := by omega
      have E : Hid (R = (n, true)) := by show _ = _; rw [HQ.out, List.drop_eq_nil_of_le (Nat.le_refl _)]; rfl
      clear HQ HR
      go_wp2
      go_ret2
      exact ⟨by rw [E.out]; rfl, below_drewN (Below.refl _ _) _⟩

set_option maxHeartbeats 400000 in
theorem rnum_nil (w : World) : Calls Tryd.prog 34 #[.string (strOfNums [])] w fun e w' => e = .returned (.tuple #[.int .u64 0, .bool false]) ∧ w = w' := by
  have hne : ((strOfNums []).toList == []) = true := by rw [str_list]; rfl
  have hsz : (strOfNums []).size = 0 := strOfNums_size []
  generalize strOfNums [] = S at hne hsz
  go_enter Tryd.func34, Tryd.ntmps34
  go_wp2
  refine wp_loop_rounds 1 ?_
  rw [rounds_succ]
  go_wp2
  go_ret2
  exact ⟨rfl, rfl⟩

theorem rnum_any (zs : List Int) (w : World) (hz : Hid (∀ i, 0 ≤ zs.getD i 0 ∧ zs.getD i 0 ≤ 255)) (hlen : (zs.length : Int) ≤ 100000000) :
    Calls Tryd.prog 34 #[.string (strOfNums zs)] w fun e w' => e = .returned (.tuple #[.int .u64 (qnum zs).1, .bool (qnum zs).2]) ∧ Below w.heap.size w w' := by
  by_cases h0 : zs = []
  · subst h0
    exact (rnum_nil w).mono fun e w' ⟨h1, h2⟩ => ⟨h1, h2 ▸ Below.refl _ _⟩
  have hp : 0 < zs.length := List.length_pos_iff.2 h0
  unfold qnum
  by_cases h1 : zs.length = 1
  · rw [if_neg (by omega), if_neg (by omega), if_neg h0]
    exact rnum_10a zs w hz hlen hp h1
  by_cases hv : zs.getD 0 0 = 48
  · by_cases h2 : zs.length = 2
    · rw [if_neg (by omega), if_pos ⟨by omega, hv⟩]
      exact rnum_8a zs w hz hlen h2 hv
    · by_cases hx : zs.getD 1 0 = 120
      · rw [if_pos ⟨by omega, hv, Or.inl hx⟩]
        exact rnum_16a zs w hz hlen (by omega) hv hx
      by_cases hX : zs.getD 1 0 = 88
      · rw [if_pos ⟨by omega, hv, Or.inr hX⟩]
        exact rnum_16b zs w hz hlen (by omega) hv hX
      rw [if_neg (by omega), if_pos ⟨by omega, hv⟩]
      exact rnum_8b zs w hz hlen (by omega) hv (by simpa using hx) (by simpa using hX)
  · rw [if_neg (by omega), if_neg (by omega), if_neg h0]
    by_cases h2 : zs.length = 2
    · exact rnum_10b zs w hz hlen hp h2 (by simpa using hv)
    · exact rnum_10c zs w hz hlen hp (by omega) (by simpa using hv)

theorem enc_1 (c : Int) (h0 : 0 ≤ c) (h1 : c < 128) : Utf8.encode c = strOfNums [c] := by
  have hv : Utf8.valid c = true := by unfold Utf8.valid; simp; omega
  unfold Utf8.encode
  rw [hv]
  simp only [if_true]
  rw [if_pos (by omega)]
  rfl

theorem str_app (a b : List Int) : strOfNums a ++ strOfNums b = strOfNums (a ++ b) := by
  unfold strOfNums
  rw [ByteArray.mk_append_mk, List.map_append]

theorem run_add (w : World) (a b : List Int) (h : a.length + b.length ≤ 9223372036854775807) : (Op.stringOp .add (strOfNums a) (strOfNums b)).run Tryd.prog w = .ok (.string (strOfNums (a ++ b))) w := by
  rw [run_string_add_sum w _ _ (by rw [strOfNums_size, strOfNums_size]; exact h), str_app]

end Go.Proofs.YtgkablmglkagfaaDoor

/- The contracts of the reference's own Ident, Join, Parent, camel, Json, Entry. -/
namespace Go.Proofs.YtgkablmglkagfaaDoor
open Go.RowKit
set_option linter.unusedVariables false
set_option linter.unusedSimpArgs false

theorem nident_big (s : List Int) (h : 200 < s.length ∨ s.length = 0) : nident s = false := by
  unfold nident
  rw [decide_eq_false (by omega)]
  simp

theorem nident_bad (s : List Int) (k : Nat) (hk : k < s.length) (h : lletter (s.getD k 0) = false) : nident s = false := by
  unfold nident
  have : s.all lletter = false := by
    rw [List.all_eq_false]
    refine ⟨s[k], List.getElem_mem hk, ?_⟩
    rw [show s.getD k 0 = s[k] by simp [List.getD, hk]] at h
    rw [h]; decide
  rw [this]; rfl

theorem nident_good (s : List Int) (h : ∀ k, k < s.length → lletter (s.getD k 0) = true) (h1 : 1 ≤ s.length) (h2 : s.length ≤ 200) : nident s = !lnumb (s.getD 0 0) := by
  unfold nident
  have : s.all lletter = true := by
    rw [List.all_eq_true]
    intro c hc
    obtain ⟨k, hk, rfl⟩ := List.getElem_of_mem hc
    have := h k hk
    rwa [show s.getD k 0 = s[k] by simp [List.getD, hk]] at this
  rw [this, decide_eq_true ⟨h1, h2⟩]; rfl

end Go.Proofs.YtgkablmglkagfaaDoor

/- The contract of the reference's own Parent. -/
namespace Go.Proofs.YtgkablmglkagfaaDoor
open Go.RowKit
set_option linter.unusedVariables false
set_option linter.unusedSimpArgs false

/-- 's[:k]' of a text. -/
theorem run_head (s : List Int) (k : Nat) (hk : k ≤ s.length) (hl : (s.length : Int) ≤ 9223372036854775807) : ∀ W, (Instr.slice 9 (.string (strOfNums s)) none (some (.int .i64 (k : Int))) none).run Tryd.prog W = .ok (.string (strOfNums (s.take k))) W := fun W => by
  have hsz := strOfNums_size s
  rw [run_slice_string_h (P := Tryd.prog) W 9 (strOfNums s) Tryd.underlying9 .i64 (k : Int) (by omega) (by omega)]
  rw [Int.toNat_natCast, str_cut]
  simp

/-- 's[k:]' of a text. -/
theorem run_tail (s : List Int) (k : Nat) (hk : k ≤ s.length) (ii : Int) (hi : ii = (k : Int)) : ∀ W, (Instr.slice 9 (.string (strOfNums s)) (some (.int .i64 ii)) none none).run Tryd.prog W = .ok (.string (strOfNums (s.drop k))) W := fun W => by
  rw [run_cut_to (strOfNums s) k ii hi (by rw [strOfNums_size]; exact hk) W, str_cut, strOfNums_size, List.take_of_length_le (by simp)]

end Go.Proofs.YtgkablmglkagfaaDoor

/- Lists of texts in memory: what a slice of texts holds; one text more; whether a text is among them (the reference's In), which lists are alike (the reference's Same), a name that is not taken (the reference's Synthetic). -/
namespace Go.Proofs.YtgkablmglkagfaaDoor
open Go.RowKit
set_option linter.unusedVariables false
set_option linter.unusedSimpArgs false

def scell (z : List Int) : Value := .string (strOfNums z)

def byts (z : List Int) : Prop := ∀ c ∈ z, 0 ≤ c ∧ c ≤ 255

/-- The slice at a, of len texts, holds zs in the world w. -/
def Ss (w : World) (a : Option Addr) (len cap : Nat) (zs : List (List Int)) : Prop :=
  zs.length = len ∧ (len : Int) ≤ 9223372036854775807 ∧ len ≤ cap ∧ (a = none → cap = 0) ∧ (∀ z ∈ zs, byts z) ∧
    (0 < len → ∃ b off, a = some ⟨b, off, none⟩ ∧ b < w.heap.size ∧ ∀ i z, zs[i]? = some z → w.cell? ⟨b, off + i, none⟩ = some (scell z))

theorem Ss.below {w w' : World} {a : Option Addr} {len cap : Nat} {zs : List (List Int)} (h : Ss w a len cap zs) {B : Nat} (hb : Below B w w') (hB : w.heap.size ≤ B) : Ss w' a len cap zs := by
  obtain ⟨h1, h2, h3, h4, h5, h6⟩ := h
  refine ⟨h1, h2, h3, h4, h5, fun hp => ?_⟩
  obtain ⟨b, off, rfl, hlt, hc⟩ := h6 hp
  exact ⟨b, off, rfl, Nat.lt_of_lt_of_le hlt hb.size, fun i z hi => (hb.cell (show b < B by omega)).trans (hc i z hi)⟩

/-- The call's own list of texts. -/
def So (w : World) (base : Nat) (v : Value) (zs : List (List Int)) : Prop := w.ownsRow base 9 1 v zs.length (zs.map scell) ∧ ∀ z ∈ zs, byts z

theorem So.nil (w : World) (base : Nat) : So w base (.slice none 0 0) [] := ⟨World.ownsRow_nil _ _ _ _, by simp⟩

theorem So.below {w w' : World} {base : Nat} {v : Value} {zs : List (List Int)} (h : So w base v zs) (hb : Below w.heap.size w w') : So w' base v zs := ⟨own_below h.1 hb, h.2⟩

theorem So.base {w : World} {base base' : Nat} {v : Value} {zs : List (List Int)} (h : So w base v zs) (hb : base' ≤ base) : So w base' v zs := ⟨own_base h.1 hb, h.2⟩

theorem So.slice {w : World} {base : Nat} {v : Value} {zs : List (List Int)} (h : So w base v zs) : ∃ a c, v = .slice a zs.length c := own_slice h.1

theorem Ss.of_own {w : World} {base : Nat} {a : Option Addr} {len cap : Nat} {zs : List (List Int)} (h : So w base (.slice a len cap) zs) : Ss w a len cap zs := by
  obtain ⟨ho, hr⟩ := h
  rcases ho.2 with ⟨he, hn⟩ | ⟨g, c, cur, he, hg, hh, h1, h2, h3, h4⟩
  · simp at he
    obtain ⟨rfl, rfl, rfl⟩ := he
    exact ⟨hn, by omega, Nat.le_refl _, fun _ => rfl, hr, fun h => absurd h (by omega)⟩
  · simp at he
    obtain ⟨rfl, rfl, rfl⟩ := he
    refine ⟨rfl, by unfold maxLen at h2; omega, h1, fun h => by simp at h, hr, fun _ => ⟨g, 0, rfl, (ho.lt g rfl).2, fun i z hi => ?_⟩⟩
    have hil : i < zs.length := (List.getElem?_eq_some_iff.1 hi).1
    have := ho.cellAt i (by omega)
    rw [Nat.zero_add, this]
    simp [hi]

theorem Tryd.infoStr : (Tryd.prog.info? 9).map (fun i => (i.zero, i.size, i.bytes)) = some (some (.string { data := #[] }), 1, 16) := by kernel_rfl

theorem So.grown {w w0 w' : World} {base : Nat} {v : Value} {zs : List (List Int)} (h : So w base v zs) (hB : Below base w0 w) (hb : base ≤ w.heap.size) (hg : w.grownBy w' v.ownBlock) : Below base w0 w' :=
  hB.grown hg hb (fun k hk => (h.1.lt k hk).1)

theorem str_cell (W : World) (s : ByteArray) : (W.alloc (.cells #[.string s] 9)).cell? ⟨W.heap.size, 0, none⟩ = some (.string s) := by
  rw [World.cell?_alloc_new]; rfl

end Go.Proofs.YtgkablmglkagfaaDoor

/- Nodes in memory: a tree, that it lies in a world, and how one that came in is opened. -/
namespace Go.Proofs.YtgkablmglkagfaaDoor
open Go.RowKit
set_option linter.unusedVariables false
set_option linter.unusedSimpArgs false

/-- A node, and where its kids lie. -/
inductive Tn where
  | mk (kind : Int) (text : List Int) (n m a pos : Int) (doc : List Int) (ad : Option Addr) (cap : Nat) (kids : List Tn) : Tn

def Tn.kind : Tn → Int | .mk k _ _ _ _ _ _ _ _ _ => k
def Tn.text : Tn → List Int | .mk _ t _ _ _ _ _ _ _ _ => t
def Tn.kids : Tn → List Tn | .mk _ _ _ _ _ _ _ _ _ k => k
def Tn.cells : Tn → List Value
  | .mk kind text n m a pos doc ad cap kids => [.int .i64 kind, .string (strOfNums text), .int .i64 n, .int .i64 m, .int .i64 a, .int .i64 pos, .string (strOfNums doc), .slice ad kids.length cap]
def Tn.val (t : Tn) : Value := .agg t.cells.toArray

def i64b (x : Int) : Prop := -9223372036854775808 ≤ x ∧ x ≤ 9223372036854775807

/-- A tree that lies in the world w. -/
inductive TnOk (w : World) : Tn → Prop
  | mk {kind : Int} {text : List Int} {n m a pos : Int} {doc : List Int} {ad : Option Addr} {cap : Nat} {kids : List Tn} (hkind : i64b kind) (htext : byts text) (htl : (text.length : Int) ≤ 9223372036854775807) (hn : i64b n) (hm : i64b m) (ha : i64b a) (hpos : i64b pos)
      (hdoc : byts doc) (hdl : (doc.length : Int) ≤ 9223372036854775807) (hkl : (kids.length : Int) ≤ 9223372036854775807) (hcap : kids.length ≤ cap) (hnone : ad = none → cap = 0)
      (hmem : 0 < kids.length → ∃ b off, ad = some ⟨b, off, none⟩ ∧ b < w.heap.size ∧ ∀ (i : Nat) (t : Tn), kids[i]? = some t → ∀ (j : Nat) (u : Value), t.cells[j]? = some u → w.cell? ⟨b, off + i * 8 + j, none⟩ = some u)
      (hkids : ∀ (i : Nat) (t : Tn), kids[i]? = some t → TnOk w t) : TnOk w (.mk kind text n m a pos doc ad cap kids)

theorem TnOk.under {w w' : World} {t : Tn} (h : TnOk w t) (hb : Below w.heap.size w w') : TnOk w' t := by
  induction h with
  | mk hkind htext htl hn hm ha hpos hdoc hdl hkl hcap hnone hmem hkids ih =>
    refine .mk hkind htext htl hn hm ha hpos hdoc hdl hkl hcap hnone (fun hp => ?_) ih
    obtain ⟨b, off, h1, h2, h3⟩ := hmem hp
    exact ⟨b, off, h1, Nat.lt_of_lt_of_le h2 hb.size, fun i t hi j u hj => (hb.cell h2).trans (h3 i t hi j u hj)⟩

open Go.ChangeShapes Go.WideShapes Go.ChangeAt

theorem add_add' (b off i j : Nat) : ((⟨b, off, none⟩ : Addr).add i).add j = ⟨b, off + i + j, none⟩ := by
  have h1 : (⟨b, off, none⟩ : Addr).add i = ⟨b, off + i, none⟩ := by unfold Addr.add; split <;> simp_all
  rw [h1]
  unfold Addr.add
  split <;> simp_all

theorem eight {α : Type} {l : List α} (h : l.length = 8) : ∃ c0 c1 c2 c3 c4 c5 c6 c7, l = [c0, c1, c2, c3, c4, c5, c6, c7] := by
  match l, h with
  | [c0, c1, c2, c3, c4, c5, c6, c7], _ => exact ⟨c0, c1, c2, c3, c4, c5, c6, c7, rfl⟩

theorem node_open {H : Type} {enc : TypeId × Value → H} {W : World} : ∀ (fuel : Nat) (cs : List Value) (x : DataW H × List MemPlace),
    DataW.trod enc Tryd.prog W 0 (fun _ => true) true fuel 24 cs = some x → ∃ t, TnOk W t ∧ cs = t.cells := by
  intro fuel
  induction fuel using Nat.strongRecOn with
  | _ fuel ih =>
    intro cs x hf
    obtain ⟨xs, n, hfu, _, hl, hlen, hfl⟩ := DataW.trod_struct Tryd.underlying24 hf
    have k8 : Tryd.prog.cellsOf 24 = 8 := by kernel_rfl
    rw [k8] at hl
    obtain ⟨c0, c1, c2, c3, c4, c5, c6, c7, rfl⟩ := eight hl
    have k1 : Tryd.prog.cellsOf 3 = 1 := by kernel_rfl
    have k2 : Tryd.prog.cellsOf 2 = 1 := by kernel_rfl
    have k3 : Tryd.prog.cellsOf 9 = 1 := by kernel_rfl
    have k4 : Tryd.prog.cellsOf 22 = 1 := by kernel_rfl
    obtain ⟨y0, y1, y2, y3, y4, y5, y6, y7, rfl⟩ := eight (l := xs) hlen
    have t0 : DataW.trod enc Tryd.prog W 0 (fun _ => true) true n 3 [c0] = some y0 := by have h := hfl 0 _ rfl; simpa [k1] using h
    have t1 : DataW.trod enc Tryd.prog W 0 (fun _ => true) true n 9 [c1] = some y1 := by have h := hfl 1 _ rfl; simpa [k3] using h
    have t2 : DataW.trod enc Tryd.prog W 0 (fun _ => true) true n 2 [c2] = some y2 := by have h := hfl 2 _ rfl; simpa [k2] using h
    have t3 : DataW.trod enc Tryd.prog W 0 (fun _ => true) true n 2 [c3] = some y3 := by have h := hfl 3 _ rfl; simpa [k2] using h
    have t4 : DataW.trod enc Tryd.prog W 0 (fun _ => true) true n 3 [c4] = some y4 := by have h := hfl 4 _ rfl; simpa [k1] using h
    have t5 : DataW.trod enc Tryd.prog W 0 (fun _ => true) true n 3 [c5] = some y5 := by have h := hfl 5 _ rfl; simpa [k1] using h
    have t6 : DataW.trod enc Tryd.prog W 0 (fun _ => true) true n 9 [c6] = some y6 := by have h := hfl 6 _ rfl; simpa [k3] using h
    have t7 : DataW.trod enc Tryd.prog W 0 (fun _ => true) true n 22 [c7] = some y7 := by have h := hfl 7 _ rfl; simpa [k4] using h
    obtain ⟨kind, e0, _, w0⟩ := DataW.trod_int Tryd.underlying3 t0
    obtain ⟨s1, e1, _, w1⟩ := DataW.trod_string Tryd.underlying9 t1
    obtain ⟨nn, e2, _, w2⟩ := DataW.trod_int Tryd.underlying2 t2
    obtain ⟨mm, e3, _, w3⟩ := DataW.trod_int Tryd.underlying2 t3
    obtain ⟨aa, e4, _, w4⟩ := DataW.trod_int Tryd.underlying3 t4
    obtain ⟨pp, e5, _, w5⟩ := DataW.trod_int Tryd.underlying3 t5
    obtain ⟨s6, e6, _, w6⟩ := DataW.trod_string Tryd.underlying9 t6
    simp at e0 e1 e2 e3 e4 e5 e6
    subst e0 e1 e2 e3 e4 e5 e6
    obtain ⟨z1, hz1, hb1⟩ := str_nums s1
    obtain ⟨z6, hz6, hb6⟩ := str_nums s6
    subst hz1 hz6
    have l1 : (z1.length : Int) ≤ 9223372036854775807 := by rw [strOfNums_size] at w1; unfold maxLen at w1; omega
    have l6 : (z6.length : Int) ≤ 9223372036854775807 := by rw [strOfNums_size] at w6; unfold maxLen at w6; omega
    rcases DataW.trod_slice Tryd.underlying22 t7 with ⟨hcs, _⟩ | ⟨y, l, c, elems, rest, n', hn', hcs, _, _, hl', hm, hel, hx, _, _⟩
    · simp at hcs
      subst hcs
      exact ⟨.mk kind z1 nn mm aa pp z6 none 0 [], .mk (bounds_i64 w0) (mem_bd hb1) l1 (bounds_i64 w2) (bounds_i64 w3) (bounds_i64 w4) (bounds_i64 w5) (mem_bd hb6) l6 (by simp) (by simp) (fun _ => rfl) (fun h => absurd h (by simp)) (fun i t h => by simp at h), rfl⟩
    · simp at hcs
      subst hcs
      have hpick : ∀ i, ∃ t : Tn, i < l → TnOk W t ∧ W.cells? 0 (y.add (i * 8)) 8 = some t.cells := by
        intro i
        by_cases hi : i < l
        · have h1 := hx i hi
          rw [k8, List.getElem?_eq_getElem (by omega), Option.bind_eq_some_iff] at h1
          obtain ⟨cs', h2, h3⟩ := h1
          obtain ⟨t, ht, hc⟩ := ih n' (by omega) cs' _ h3
          exact ⟨t, fun _ => ⟨ht, by rw [h2, hc]⟩⟩
        · exact ⟨.mk 0 [] 0 0 0 0 [] none 0 [], fun h => absurd h hi⟩
      obtain ⟨f, hfn⟩ := Classical.axiomOfChoice hpick
      have hl8 : ∀ t : Tn, t.cells.length = 8 := fun t => by cases t; rfl
      have hkid : ∀ (i : Nat) (t : Tn), ((List.range l).map f)[i]? = some t → i < l ∧ t = f i := by
        intro i t hi
        have hil : i < l := by
          have := (List.getElem?_eq_some_iff.1 hi).1
          simpa using this
        simp [hil] at hi
        exact ⟨hil, hi.symm⟩
      refine ⟨.mk kind z1 nn mm aa pp z6 (some y) c ((List.range l).map f), .mk (bounds_i64 w0) (mem_bd hb1) l1 (bounds_i64 w2) (bounds_i64 w3) (bounds_i64 w4) (bounds_i64 w5) (mem_bd hb6) l6 (by simp; unfold maxLen at hm; omega) (by simpa using hl') (fun h => by simp at h) (fun hp => ?_) (fun i t hi => ?_), by simp [Tn.cells]⟩
      · obtain ⟨b, off, spot⟩ := y
        have h0 := (hfn 0 (by simpa using hp)).2
        obtain ⟨_, hlen0, hc0⟩ := World.cells?_some h0
        have hsp : W.cell? (((⟨b, off, spot⟩ : Addr).add (0 * 8)).add 0) = some ((f 0).cells[0]'(by rw [hl8]; omega)) := (hc0 0 (by omega)).trans (List.getElem?_eq_getElem _)
        have hspot : spot = none := by simpa [Addr.add] using World.cell?_spot hsp
        subst hspot
        refine ⟨b, off, rfl, ?_, ?_⟩
        · rcases Nat.lt_or_ge b W.heap.size with h | h
          · exact h
          · simp [World.cell?, Addr.add, Array.getElem?_eq_none h] at hsp
        · intro i t hi j u hj
          obtain ⟨hil, rfl⟩ := hkid i t hi
          obtain ⟨_, hlen1, hc1⟩ := World.cells?_some (hfn i hil).2
          have hjl : j < (f i).cells.length := (List.getElem?_eq_some_iff.1 hj).1
          have := hc1 j (by rw [hl8] at hjl; exact hjl)
          rw [add_add'] at this
          rw [this]
          exact hj
      · obtain ⟨hil, rfl⟩ := hkid i t hi
        exact (hfn i hil).1

theorem node_arg {H : Type} {enc : TypeId × Value → H} {W : World} {r : Reach} {b0 : Nat} {v : Value} {d : DataW H} {p : List MemPlace} (hv : Value.okWide Tryd.prog W r b0 24 v)
    (h : DataW.Trod enc Tryd.prog W 0 (fun _ => true) true 24 v d p) : ∃ t : Tn, v = t.val ∧ TnOk W t := by
  obtain ⟨cs, rfl, hsz⟩ := okWide_struct Tryd.underlying24 hv
  obtain ⟨fuel, hf⟩ := h
  obtain ⟨t, ht, hc⟩ := node_open fuel cs.toList (d, p) (by simpa [Value.cells] using hf)
  refine ⟨t, ?_, ht⟩
  unfold Tn.val
  rw [← hc]

end Go.Proofs.YtgkablmglkagfaaDoor

/- Trees of nodes as plain functions: how many, how deep, which are alike. -/
namespace Go.Proofs.YtgkablmglkagfaaDoor
set_option linter.unusedVariables false
set_option linter.unusedSimpArgs false

mutual
/-- The law's own 'size'. -/
def tsz : Tn → Int → Int → Int
  | .mk _ text _ _ _ _ doc _ _ kids, all, deep => if 80 < deep ∨ 2000 < (text.length : Int) ∨ 2000 < (doc.length : Int) then 1000 else tszs kids (all + 1) (deep + 1)
def tszs : List Tn → Int → Int → Int
  | [], all, _ => all
  | k :: r, all, deep => if 400 < all then all else tszs r (tsz k all deep) deep
end

mutual
/-- How many, added to so many. -/
def tcnt : Tn → Int → Int
  | .mk _ _ _ _ _ _ _ _ _ kids, all => if 20000 < all + 1 then 30000 else tcnts kids (all + 1)
def tcnts : List Tn → Int → Int
  | [], all => all
  | k :: r, all => if 20000 < tcnt k all then 30000 else tcnts r (tcnt k all)
end

mutual
/-- How deep, from a depth on. -/
def tdp : Tn → Int → Int
  | .mk _ _ _ _ _ _ _ _ _ kids, x => if 64 < x then x else tdps kids x x
def tdps : List Tn → Int → Int → Int
  | [], _, d => d
  | k :: r, x, d => if 64 < max d (tdp k (x + 1)) then max d (tdp k (x + 1)) else tdps r x (max d (tdp k (x + 1)))
end

mutual
/-- Alike but for their places. -/
def tsame : Tn → Tn → Bool
  | .mk k1 t1 n1 m1 a1 _ d1 _ _ kids1, .mk k2 t2 n2 m2 a2 _ d2 _ _ kids2 => decide (k1 = k2 ∧ t1 = t2 ∧ n1 = n2 ∧ m1 = m2 ∧ a1 = a2 ∧ d1 = d2 ∧ kids1.length = kids2.length) && tsames kids1 kids2
def tsames : List Tn → List Tn → Bool
  | [], _ => true
  | _ :: _, [] => true
  | x :: r, y :: q => tsame x y && tsames r q
end

def tcount (t : Tn) : Int := min (tcnt t 0) 30000

def tdeep (t : Tn) : Int := if 64 < tdp t 1 then 100 else tdp t 1

def tfew (t : Tn) : Bool := decide (tsz t 0 0 ≤ 400)

def tSame (a b : Tn) : Bool := decide (tdeep a ≤ 64) && (decide (tdeep b ≤ 64) && tsame a b)

mutual
theorem tcnt_bd : ∀ (t : Tn) (x : Int), 0 ≤ x → x ≤ 20000 → x + 1 ≤ tcnt t x ∧ tcnt t x ≤ 30000
  | .mk _ _ _ _ _ _ _ _ _ kids, x, h0, h1 => by
    rw [tcnt]
    by_cases h : 20000 < x + 1
    · rw [if_pos h]; omega
    · rw [if_neg h]
      have := tcnts_bd kids (x + 1) (by omega) (by omega)
      omega
theorem tcnts_bd : ∀ (l : List Tn) (x : Int), 0 ≤ x → x ≤ 20000 → x ≤ tcnts l x ∧ tcnts l x ≤ 30000
  | [], x, h0, h1 => by rw [tcnts]; omega
  | k :: r, x, h0, h1 => by
    have h2 := tcnt_bd k x h0 h1
    rw [tcnts]
    by_cases h : 20000 < tcnt k x
    · rw [if_pos h]; omega
    · rw [if_neg h]
      have := tcnts_bd r (tcnt k x) (by omega) (by omega)
      omega
end

mutual
theorem tdp_bd : ∀ (t : Tn) (x : Int), x ≤ 65 → x ≤ tdp t x ∧ tdp t x ≤ 65
  | .mk _ _ _ _ _ _ _ _ _ kids, x, h1 => by
    rw [tdp]
    by_cases h : 64 < x
    · rw [if_pos h]; omega
    · rw [if_neg h]
      exact tdps_bd kids x x (by omega) (by omega) (by omega)
theorem tdps_bd : ∀ (l : List Tn) (x d : Int), x ≤ 64 → x ≤ d → d ≤ 65 → x ≤ tdps l x d ∧ tdps l x d ≤ 65
  | [], x, d, h0, h1, h2 => by rw [tdps]; omega
  | k :: r, x, d, h0, h1, h2 => by
    have h3 := tdp_bd k (x + 1) (by omega)
    rw [tdps]
    by_cases h : 64 < max d (tdp k (x + 1))
    · rw [if_pos h]; omega
    · rw [if_neg h]
      exact tdps_bd r x _ h0 (by omega) (by omega)
end

mutual
theorem tsz_bd : ∀ (t : Tn) (x d : Int), 0 ≤ x → x ≤ 400 → 0 ≤ d → d ≤ 81 → 0 ≤ tsz t x d ∧ tsz t x d ≤ 1000
  | .mk _ text _ _ _ _ doc _ _ kids, x, d, h0, h1, h2, h3 => by
    rw [tsz]
    by_cases h : 80 < d ∨ 2000 < (text.length : Int) ∨ 2000 < (doc.length : Int)
    · rw [if_pos h]; omega
    · rw [if_neg h]
      exact tszs_bd kids (x + 1) (d + 1) (by omega) (by omega) (by omega) (by omega)
theorem tszs_bd : ∀ (l : List Tn) (x d : Int), 0 ≤ x → x ≤ 1000 → 0 ≤ d → d ≤ 81 → 0 ≤ tszs l x d ∧ tszs l x d ≤ 1000
  | [], x, d, h0, h1, _, _ => by rw [tszs]; omega
  | k :: r, x, d, h0, h1, h2, h3 => by
    rw [tszs]
    by_cases h : 400 < x
    · rw [if_pos h]; omega
    · rw [if_neg h]
      have := tsz_bd k x d h0 (by omega) h2 h3
      exact tszs_bd r _ d (by omega) (by omega) h2 h3
end

end Go.Proofs.YtgkablmglkagfaaDoor
